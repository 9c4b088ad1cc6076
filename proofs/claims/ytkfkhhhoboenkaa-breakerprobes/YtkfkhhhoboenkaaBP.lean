/- breaker, plainly: states, settings, steps. -/
namespace Go.Proofs.Ytkfkhhhoboenkaa

structure Br.St where
  m : Int
  f : Int
  u : Int
  p : Int
  w : Int
structure Br.Se where
  f : Int
  o : Int
  p : Int
structure Br.Ac where
  k : Int
  t : Int
  p : Bool
  g : Bool

/-- A number from a to c. -/
def Br.inn (n a c : Int) : Bool := decide (a ≤ n) && decide (n ≤ c)
def Br.sets (s : Br.Se) : Bool := Br.inn s.f 1 1000 && Br.inn s.o 1 1048576 && Br.inn s.p 1 64
def Br.may (b : Br.St) : Bool := Br.inn b.m 0 2 && Br.inn b.f 0 1000 && Br.inn b.u 0 1073741824 && Br.inn b.p 0 1000 && Br.inn b.w 0 1000
def Br.chk (b : Br.St) (s : Br.Se) (t : Int) : Int := if (Br.sets s && Br.inn t 0 536870912) = true then (if Br.may b = true then 0 else 9) else 4
def Br.zero : Br.St := ⟨0, 0, 0, 0, 0⟩
def Br.tick (b : Br.St) (t : Int) : Br.St := if b.m = 1 ∧ b.u ≤ t then { b with m := 2, w := 0 } else b
def Br.allows (b : Br.St) (s : Br.Se) : Bool := decide (b.m = 0) || decide (b.m = 2) && decide (b.p < s.p)
def Br.beg (b : Br.St) : Br.St := if b.m = 2 then { b with p := b.p + 1 } else b
def Br.dn (b : Br.St) (pr : Bool) : Br.St := if pr = true ∧ 0 < b.p then { b with p := b.p - 1 } else b
def Br.trip (b : Br.St) (s : Br.Se) (t : Int) : Br.St := { b with m := 1, u := t + s.o }
def Br.count (b : Br.St) (s : Br.Se) (t : Int) (g : Bool) : Br.St :=
  if g = true then { b with f := 0 } else if s.f ≤ b.f + 1 then Br.trip { b with f := 0 } s t else { b with f := b.f + 1 }
def Br.weigh (b : Br.St) (s : Br.Se) (t : Int) (g : Bool) : Br.St :=
  if g = true then (if s.p ≤ b.w + 1 then { b with m := 0, f := 0, w := 0 } else { b with w := b.w + 1 }) else Br.trip { b with w := 0 } s t
def Br.fin (b : Br.St) (s : Br.Se) (t : Int) (pr g : Bool) : Br.St :=
  if b.m = 0 then Br.count (Br.dn b pr) s t g else if b.m = 2 ∧ pr = true then Br.weigh (Br.dn b pr) s t g else Br.dn b pr

theorem Br.dn_m (b : Br.St) (pr : Bool) : (Br.dn b pr).m = b.m := by unfold Br.dn; split <;> rfl
theorem Br.fin_zero {b b' : Br.St} {s : Br.Se} {t : Int} {pr g : Bool} (hD : Br.dn b pr = b') (hm : b.m = 0) : Br.fin b s t pr g = Br.count b' s t g := by
  unfold Br.fin; rw [if_pos hm, hD]
theorem Br.fin_two {b b' : Br.St} {s : Br.Se} {t : Int} {g : Bool} (hD : Br.dn b true = b') (hm : b.m = 2) : Br.fin b s t true g = Br.weigh b' s t g := by
  unfold Br.fin; rw [if_neg (by omega), if_pos ⟨hm, rfl⟩, hD]
theorem Br.fin_other {b b' : Br.St} {s : Br.Se} {t : Int} {pr g : Bool} (hD : Br.dn b pr = b') (hm : ¬ b.m = 0) (h2 : ¬ (b.m = 2 ∧ pr = true)) : Br.fin b s t pr g = b' := by
  unfold Br.fin; rw [if_neg hm, if_neg h2, hD]
theorem Br.inn_iff {n a c : Int} : Br.inn n a c = true ↔ a ≤ n ∧ n ≤ c := by simp [Br.inn]
theorem Br.inn_not {n a c : Int} (h : Br.inn n a c = false) : n < a ∨ c < n := by
  simp [Br.inn] at h
  omega
theorem Br.sets_iff {s : Br.Se} : Br.sets s = true ↔ 1 ≤ s.f ∧ s.f ≤ 1000 ∧ 1 ≤ s.o ∧ s.o ≤ 1048576 ∧ 1 ≤ s.p ∧ s.p ≤ 64 := by
  simp [Br.sets, Br.inn]; omega
theorem Br.may_iff {b : Br.St} : Br.may b = true ↔ 0 ≤ b.m ∧ b.m ≤ 2 ∧ 0 ≤ b.f ∧ b.f ≤ 1000 ∧ 0 ≤ b.u ∧ b.u ≤ 1073741824 ∧ 0 ≤ b.p ∧ b.p ≤ 1000 ∧ 0 ≤ b.w ∧ b.w ≤ 1000 := by
  simp [Br.may, Br.inn]; omega
theorem Br.chk_zero {b : Br.St} {s : Br.Se} {t : Int} (h : Br.chk b s t = 0) : Br.sets s = true ∧ 0 ≤ t ∧ t ≤ 536870912 ∧ Br.may b = true := by
  unfold Br.chk at h
  split at h
  · rename_i h1
    rw [Bool.and_eq_true, Br.inn_iff] at h1
    split at h
    · rename_i h2
      exact ⟨h1.1, h1.2.1, h1.2.2, h2⟩
    · cases h
  · cases h
theorem Br.chk_good {b : Br.St} {s : Br.Se} {t : Int} (h1 : Br.sets s = true) (h2 : 0 ≤ t) (h3 : t ≤ 536870912) (h4 : Br.may b = true) : Br.chk b s t = 0 := by
  unfold Br.chk
  rw [if_pos (by rw [h1, Br.inn_iff.2 ⟨h2, h3⟩]; rfl), if_pos h4]

end Go.Proofs.Ytkfkhhhoboenkaa
