/- bucket, plainly: settings, levels, acts; how much is taken at most. -/
namespace Go.Proofs.Ythhhpmjbohfpjaa

structure Bu.Se where
  c : Int
  t : Int
  r : Int
  p : Int

/-- A number from a to c. -/
def Bu.inn (n a c : Int) : Bool := decide (a ≤ n) && decide (n ≤ c)
def Bu.sets (s : Bu.Se) : Bool := Bu.inn s.c 0 1000 && Bu.inn s.t 0 1000 && Bu.inn s.r 0 1000 && Bu.inn s.p s.r 1000
def Bu.chk (s : Bu.Se) (v : Int) : Int := if Bu.sets s = true then (if Bu.inn v 0 (1000 * s.p) = true then 0 else 9) else 4
def Bu.startE (s : Bu.Se) : Int := if Bu.sets s = true then 0 else 4
def Bu.startR (s : Bu.Se) : Int := if Bu.sets s = true then 1000 * s.r else 0
/-- The level and some more, at most the top. -/
def Bu.up (s : Bu.Se) (x : Int) : Int := if x ≤ 1000 * s.p then x else 1000 * s.p
def Bu.addE (s : Bu.Se) (v n : Int) : Int := if Bu.chk s v = 0 then (if Bu.inn n 0 1048576 = true then 0 else 3) else Bu.chk s v
def Bu.addR (s : Bu.Se) (v n e : Int) : Int := if Bu.addE s v n = 0 then Bu.up s (v + n * e) else 0
def Bu.takeR (s : Bu.Se) (v : Int) : Int := if Bu.chk s v = 0 then (if 1000 ≤ v then v - 1000 else v) else 0
def Bu.takeB (s : Bu.Se) (v : Int) : Bool := if Bu.chk s v = 0 then decide (1000 ≤ v) else false
/-- One act: the level, and how many were taken. -/
def Bu.step (s : Bu.Se) (x : Int × Int) (a : Int) : Int × Int :=
  if a = 1 then (Bu.up s (x.1 + s.c), x.2) else if a = 2 then (Bu.up s (x.1 + s.t), x.2) else if 1000 ≤ x.1 then (x.1 - 1000, x.2 + 1) else x
def Bu.st (s : Bu.Se) (l : List Int) : Int × Int := l.foldl (Bu.step s) (1000 * s.r, 0)
def Bu.kinds (l : List Int) : Bool := l.all (fun a => Bu.inn a 1 3)
def Bu.runE (s : Bu.Se) (l : List Int) : Int := if Bu.sets s = true then (if 4096 < l.length then 3 else if Bu.kinds l = true then 0 else 23) else 4
def Bu.runV (s : Bu.Se) (l : List Int) : Int := if Bu.runE s l = 0 then (Bu.st s l).1 else 0
def Bu.runN (s : Bu.Se) (l : List Int) : Int := if Bu.runE s l = 0 then (Bu.st s l).2 else 0

theorem Bu.inn_iff {n a c : Int} : Bu.inn n a c = true ↔ a ≤ n ∧ n ≤ c := by simp [Bu.inn]
theorem Bu.sets_iff {s : Bu.Se} : Bu.sets s = true ↔ 0 ≤ s.c ∧ s.c ≤ 1000 ∧ 0 ≤ s.t ∧ s.t ≤ 1000 ∧ 0 ≤ s.r ∧ s.r ≤ 1000 ∧ s.r ≤ s.p ∧ s.p ≤ 1000 := by
  simp [Bu.sets, Bu.inn]; omega
theorem Bu.chk_zero {s : Bu.Se} {v : Int} (h : Bu.chk s v = 0) : Bu.sets s = true ∧ 0 ≤ v ∧ v ≤ 1000 * s.p := by
  unfold Bu.chk at h
  split at h
  · rename_i h1
    split at h
    · rename_i h2
      exact ⟨h1, (Bu.inn_iff.1 h2).1, (Bu.inn_iff.1 h2).2⟩
    · cases h
  · cases h
theorem Bu.chk_good {s : Bu.Se} {v : Int} (h1 : Bu.sets s = true) (h2 : 0 ≤ v) (h3 : v ≤ 1000 * s.p) : Bu.chk s v = 0 := by
  unfold Bu.chk
  rw [if_pos h1, if_pos (Bu.inn_iff.2 ⟨h2, h3⟩)]
theorem Bu.up_range {s : Bu.Se} {x : Int} (hs : Bu.sets s = true) (h : 0 ≤ x) : 0 ≤ Bu.up s x ∧ Bu.up s x ≤ 1000 * s.p ∧ Bu.up s x ≤ x := by
  obtain ⟨_, _, _, _, _, _, _, _⟩ := Bu.sets_iff.1 hs
  unfold Bu.up
  split <;> omega
theorem Bu.up_more {s : Bu.Se} {x y : Int} (h : y ≤ 1000 * s.p) (h2 : y ≤ x) : y ≤ Bu.up s x := by
  unfold Bu.up
  split <;> omega
/-- Twice is once of the sum. -/
theorem Bu.up_up {s : Bu.Se} {x y : Int} (h : 0 ≤ y) : Bu.up s (Bu.up s x + y) = Bu.up s (x + y) := by
  unfold Bu.up
  split <;> split <;> (try split) <;> omega
theorem Bu.addE_zero {s : Bu.Se} {v n : Int} (h : Bu.addE s v n = 0) : Bu.chk s v = 0 ∧ 0 ≤ n ∧ n ≤ 1048576 := by
  unfold Bu.addE at h
  split at h
  · rename_i h1
    split at h
    · rename_i h2
      exact ⟨h1, (Bu.inn_iff.1 h2).1, (Bu.inn_iff.1 h2).2⟩
    · cases h
  · rename_i h1
    exact absurd h h1
theorem Bu.addE_good {s : Bu.Se} {v n : Int} (h : Bu.chk s v = 0) (h1 : 0 ≤ n) (h2 : n ≤ 1048576) : Bu.addE s v n = 0 := by
  unfold Bu.addE
  rw [if_pos h, if_pos (Bu.inn_iff.2 ⟨h1, h2⟩)]
/-- What comes in: the level grows, and may be a level. -/
theorem Bu.addR_range {s : Bu.Se} {v n e : Int} (h : Bu.addE s v n = 0) (he : 0 ≤ e) : v ≤ Bu.addR s v n e ∧ Bu.chk s (Bu.addR s v n e) = 0 := by
  obtain ⟨h1, h2, _⟩ := Bu.addE_zero h
  obtain ⟨hs, v0, v1⟩ := Bu.chk_zero h1
  have hm : 0 ≤ n * e := Int.mul_nonneg h2 he
  have er : Bu.addR s v n e = Bu.up s (v + n * e) := if_pos h
  obtain ⟨u0, u1, u2⟩ := Bu.up_range (x := v + n * e) hs (by omega)
  rw [er]
  exact ⟨Bu.up_more v1 (by omega), Bu.chk_good hs u0 u1⟩
/-- Some calls at once, or one part behind the other. -/
theorem Bu.addR_many {s : Bu.Se} {v n m e : Int} (h : Bu.addE s v n = 0) (he : 0 ≤ e) (hm : 0 ≤ m) (hm2 : m ≤ 1048576) (hnm : n + m ≤ 1048576) :
    Bu.addE s (Bu.addR s v n e) m = 0 ∧ Bu.addE s v (n + m) = 0 ∧ Bu.addR s (Bu.addR s v n e) m e = Bu.addR s v (n + m) e := by
  obtain ⟨h1, h2, _⟩ := Bu.addE_zero h
  obtain ⟨_, hc⟩ := Bu.addR_range (e := e) h he
  have ha := Bu.addE_good hc hm hm2
  have hb := Bu.addE_good h1 (show 0 ≤ n + m by omega) hnm
  refine ⟨ha, hb, ?_⟩
  have e1 : Bu.addR s (Bu.addR s v n e) m e = Bu.up s (Bu.addR s v n e + m * e) := if_pos ha
  have e2 : Bu.addR s v n e = Bu.up s (v + n * e) := if_pos h
  have e3 : Bu.addR s v (n + m) e = Bu.up s (v + (n + m) * e) := if_pos hb
  rw [e1, e2, e3, Bu.up_up (Int.mul_nonneg hm he), Int.add_mul, Int.add_assoc]

theorem Bu.st_take (s : Bu.Se) (l : List Int) (k : Nat) (h : k < l.length) : Bu.st s (l.take (k + 1)) = Bu.step s (Bu.st s (l.take k)) (l.getD k 0) := by
  unfold Bu.st
  rw [List.take_add_one, List.foldl_append]
  simp [List.getD, h]
theorem Bu.step_may {s : Bu.Se} {x : Int × Int} {a : Int} (hs : Bu.sets s = true) (h0 : 0 ≤ x.1) (h1 : x.1 ≤ 1000 * s.p) : 0 ≤ (Bu.step s x a).1 ∧ (Bu.step s x a).1 ≤ 1000 * s.p := by
  obtain ⟨_, _, _, _, _, _, _, _⟩ := Bu.sets_iff.1 hs
  obtain ⟨v, n⟩ := x
  dsimp only at h0 h1
  unfold Bu.step
  dsimp only
  split
  · exact ⟨(Bu.up_range hs (by omega)).1, (Bu.up_range hs (by omega)).2.1⟩
  · split
    · exact ⟨(Bu.up_range hs (by omega)).1, (Bu.up_range hs (by omega)).2.1⟩
    · split <;> (constructor <;> dsimp only <;> omega)
/-- How many of an act there are ahead of the k-th. -/
def Bu.cnt (a : Int) (l : List Int) : Int := ((l.filter (fun x => x == a)).length : Int)
theorem Bu.cnt_take (a : Int) (l : List Int) (k : Nat) (h : k < l.length) : Bu.cnt a (l.take (k + 1)) = Bu.cnt a (l.take k) + (if l.getD k 0 = a then 1 else 0) := by
  unfold Bu.cnt
  rw [List.take_add_one, List.filter_append, List.length_append]
  simp only [List.getD, List.getElem?_eq_getElem h, Option.toList_some, Option.getD_some]
  by_cases e : l[k] = a
  · simp [e]
  · simp [e]
theorem Bu.cnt_range (a : Int) (l : List Int) (k : Nat) : 0 ≤ Bu.cnt a (l.take k) ∧ Bu.cnt a (l.take k) ≤ k := by
  unfold Bu.cnt
  have h1 := List.length_filter_le (fun x => x == a) (l.take k)
  have h2 := List.length_take_le k l
  constructor <;> omega
/-- What is taken, and what is left, is no more than what came in. -/
theorem Bu.bound {s : Bu.Se} (hs : Bu.sets s = true) (l : List Int) (k : Nat) (hk : k ≤ l.length) :
    (0 ≤ (Bu.st s (l.take k)).1 ∧ (Bu.st s (l.take k)).1 ≤ 1000 * s.p) ∧ (0 ≤ (Bu.st s (l.take k)).2 ∧ (Bu.st s (l.take k)).2 ≤ k) ∧
    1000 * (Bu.st s (l.take k)).2 + (Bu.st s (l.take k)).1 ≤ 1000 * s.r + s.c * Bu.cnt 1 (l.take k) + s.t * Bu.cnt 2 (l.take k) := by
  obtain ⟨_, _, _, _, _, _, _, _⟩ := Bu.sets_iff.1 hs
  induction k with
  | zero =>
    rw [List.take_zero]
    refine ⟨⟨?_, ?_⟩, ⟨?_, ?_⟩, ?_⟩
    · show 0 ≤ 1000 * s.r; omega
    · show 1000 * s.r ≤ 1000 * s.p; omega
    · exact Int.le_refl 0
    · exact Int.le_refl 0
    · show 1000 * 0 + 1000 * s.r ≤ 1000 * s.r + s.c * 0 + s.t * 0
      simp
  | succ k ih =>
    obtain ⟨⟨v0, v1⟩, ⟨n0, n1⟩, b⟩ := ih (by omega)
    rw [Bu.st_take s l k (by omega), Bu.cnt_take 1 l k (by omega), Bu.cnt_take 2 l k (by omega)]
    have hm := Bu.step_may (a := l.getD k 0) hs v0 v1
    refine ⟨hm, ?_⟩
    clear hm
    generalize Bu.st s (l.take k) = x at *
    generalize l.getD k 0 = a at *
    generalize Bu.cnt 1 (l.take k) = c1 at *
    generalize Bu.cnt 2 (l.take k) = c2 at *
    obtain ⟨v, n⟩ := x
    dsimp only at v0 v1 n0 n1 b
    unfold Bu.step
    dsimp only
    by_cases h1 : a = 1
    · rw [if_pos h1, if_pos h1, if_neg (by omega), Int.mul_add, Int.mul_one, Int.add_zero]
      obtain ⟨_, _, u⟩ := Bu.up_range (x := v + s.c) hs (by omega)
      exact ⟨⟨n0, by dsimp only; omega⟩, by dsimp only; omega⟩
    · by_cases h2 : a = 2
      · rw [if_neg h1, if_neg h1, if_pos h2, if_pos h2, Int.add_zero, Int.mul_add, Int.mul_one]
        obtain ⟨_, _, u⟩ := Bu.up_range (x := v + s.t) hs (by omega)
        exact ⟨⟨n0, by dsimp only; omega⟩, by dsimp only; omega⟩
      · rw [if_neg h1, if_neg h1, if_neg h2, if_neg h2, Int.add_zero, Int.add_zero]
        split
        · exact ⟨⟨by dsimp only; omega, by dsimp only; omega⟩, by dsimp only; omega⟩
        · exact ⟨⟨n0, by dsimp only; omega⟩, b⟩
/-- Without reserve, and where nothing comes in, nothing is taken. -/
theorem Bu.none {s : Bu.Se} (hs : Bu.sets s = true) (hc : s.c = 0) (ht : s.t = 0) (hr : s.r = 0) (l : List Int) (k : Nat) (hk : k ≤ l.length) : Bu.st s (l.take k) = (0, 0) := by
  obtain ⟨⟨v0, v1⟩, ⟨n0, n1⟩, b⟩ := Bu.bound hs l k hk
  rw [hc, ht, hr] at b
  generalize Bu.st s (l.take k) = x at *
  obtain ⟨v, n⟩ := x
  dsimp only at *
  simp only [Int.zero_mul, Int.mul_zero, Int.add_zero] at b
  have hv : v = 0 := by omega
  have hn : n = 0 := by omega
  rw [hv, hn]
end Go.Proofs.Ythhhpmjbohfpjaa
