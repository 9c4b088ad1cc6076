/- message: a message as numbers and octets; usedBy, numbersOf, Contains, ContainsFunc. -/
import Derived.Test.YtoadcaennlfadaaMM1
namespace Go.Proofs.Ytoadcaennlfadaa
open Go.RowKit
set_option maxRecDepth 20000

/-- The numbers of a message. -/
structure Mg where
  k : Int
  c : Int
  b : Int
  i : Int
  s : Int
  q : Int
  m : Int
  n : Int
  l : Int
  o : Int
  p : Int
def Mg.nums (x : Mg) : List Int := [x.c, x.b, x.i, x.s, x.q, x.m, x.n, x.l, x.o, x.p]
def Mg.val (x : Mg) (v : Value) : Value := .agg #[.int .i64 x.k, .int .i64 x.c, .int .i64 x.b, .int .i64 x.i, .int .i64 x.s, .int .i64 x.q, .int .i64 x.m, .int .i64 x.n, .int .i64 x.l, .int .i64 x.o, .int .i64 x.p, v]
def numV (l : List Int) : Value := .agg ⟨l.map (Value.int .i64)⟩

/-- What a kind uses, by places. -/
def usedP (k : Int) : List Int :=
  if k = 1 then [1, 0, 6] else if k = 8 then [1, 0, 6] else if k = 2 then [1, 0, 2, 3, 6] else if k = 3 then [1, 0, 2, 3, 4, 5, 7, 10] else if k = 4 then [1, 0, 2, 3, 4, 8, 9, 10] else
  if k = 5 then [1, 0, 2, 3, 4, 5] else if k = 6 then [1, 0, 2, 3, 4] else if k = 7 then [1, 0, 2, 3, 4] else []

def badN (n : Int) : Bool := decide (n < 0) || decide (2147483647 < n)

theorem seg_of_row (k : IntKind) (w : World) (l : List Int) (T : TypeId) (h : l.length ≤ 100) : Seg k (w.alloc (.cells ⟨l.map (Value.int k)⟩ T)) (.slice (some ⟨w.heap.size, 0, none⟩) l.length l.length) l := by
  refine ⟨some ⟨w.heap.size, 0, none⟩, l.length, rfl, Nat.le_refl _, by unfold maxLen; omega, (fun h => by cases h), ?_⟩
  intro x hx i hi
  cases hx
  have hB := Bx.new w (l.map (Value.int k)) T
  have := hB.cell i (u := .int k (l.getD i 0)) (by simp [List.getD, hi])
  rw [add_plain]
  simpa using this

set_option maxHeartbeats 4000000 in
theorem usedBy_any (k : Int) (w : World) : Calls Try.prog 49 #[.int .i64 k] w fun e w' => ∃ u, e = .returned u ∧ Seg .i64 w' u (usedP k) ∧ Below w.heap.size w w' := by
  have hal : ∀ o, Below w.heap.size w (w.alloc o) := fun o => (Below.refl _ w).alloc (Nat.le_refl _) o
  by_cases h1 : k = 1
  · subst h1
    have hu : usedP 1 = [1, 0, 6] := rfl
    rw [hu]
    have hsg := seg_of_row .i64 w [1, 0, 6] 3 (by decide)
    clear hu
    go_enter Try.func49, Try.ntmps49
    go_wp2
    all_goals (go_ret; exact ⟨_, rfl, hsg, hal _⟩)
  by_cases h8 : k = 8
  · subst h8
    have hu : usedP 8 = [1, 0, 6] := rfl
    rw [hu]
    have hsg := seg_of_row .i64 w [1, 0, 6] 3 (by decide)
    clear hu
    go_enter Try.func49, Try.ntmps49
    go_wp2
    all_goals (go_ret; exact ⟨_, rfl, hsg, hal _⟩)
  by_cases h2 : k = 2
  · subst h2
    have hu : usedP 2 = [1, 0, 2, 3, 6] := rfl
    rw [hu]
    have hsg := seg_of_row .i64 w [1, 0, 2, 3, 6] 3 (by decide)
    clear hu
    go_enter Try.func49, Try.ntmps49
    go_wp2
    all_goals (go_ret; exact ⟨_, rfl, hsg, hal _⟩)
  by_cases h3 : k = 3
  · subst h3
    have hu : usedP 3 = [1, 0, 2, 3, 4, 5, 7, 10] := rfl
    rw [hu]
    have hsg := seg_of_row .i64 w [1, 0, 2, 3, 4, 5, 7, 10] 3 (by decide)
    clear hu
    go_enter Try.func49, Try.ntmps49
    go_wp2
    all_goals (go_ret; exact ⟨_, rfl, hsg, hal _⟩)
  by_cases h4 : k = 4
  · subst h4
    have hu : usedP 4 = [1, 0, 2, 3, 4, 8, 9, 10] := rfl
    rw [hu]
    have hsg := seg_of_row .i64 w [1, 0, 2, 3, 4, 8, 9, 10] 3 (by decide)
    clear hu
    go_enter Try.func49, Try.ntmps49
    go_wp2
    all_goals (go_ret; exact ⟨_, rfl, hsg, hal _⟩)
  by_cases h5 : k = 5
  · subst h5
    have hu : usedP 5 = [1, 0, 2, 3, 4, 5] := rfl
    rw [hu]
    have hsg := seg_of_row .i64 w [1, 0, 2, 3, 4, 5] 3 (by decide)
    clear hu
    go_enter Try.func49, Try.ntmps49
    go_wp2
    all_goals (go_ret; exact ⟨_, rfl, hsg, hal _⟩)
  by_cases h6 : k = 6
  · subst h6
    have hu : usedP 6 = [1, 0, 2, 3, 4] := rfl
    rw [hu]
    have hsg := seg_of_row .i64 w [1, 0, 2, 3, 4] 3 (by decide)
    clear hu
    go_enter Try.func49, Try.ntmps49
    go_wp2
    all_goals (go_ret; exact ⟨_, rfl, hsg, hal _⟩)
  by_cases h7 : k = 7
  · subst h7
    have hu : usedP 7 = [1, 0, 2, 3, 4] := rfl
    rw [hu]
    have hsg := seg_of_row .i64 w [1, 0, 2, 3, 4] 3 (by decide)
    clear hu
    go_enter Try.func49, Try.ntmps49
    go_wp2
    all_goals (go_ret; exact ⟨_, rfl, hsg, hal _⟩)
  have hu : usedP k = [] := by simp [usedP, h1, h2, h3, h4, h5, h6, h7, h8]
  rw [hu]
  go_enter Try.func49, Try.ntmps49
  go_wp2
  all_goals (go_ret; exact ⟨_, rfl, Seg.nil _ _, Below.refl _ _⟩)

theorem ret_nums {W : World} {tmps : Array Value} {b : Nat} {x0 x1 x2 x3 x4 x5 x6 x7 x8 x9 : Value} (ht : tmps.getD 2 undef = .pointer (some ⟨b, 0, none⟩)) (hB : Bx W b [x0, x1, x2, x3, x4, x5, x6, x7, x8, x9] 83) :
    (results Try.f47 tmps).run Try.prog W = .ok (.agg #[x0, x1, x2, x3, x4, x5, x6, x7, x8, x9]) W := by
  rw [Array.getD_eq_getD_getElem?] at ht
  have h0 := hB.cell 0 rfl
  have h1 := hB.cell 1 rfl
  have h2 := hB.cell 2 rfl
  have h3 := hB.cell 3 rfl
  have h4 := hB.cell 4 rfl
  have h5 := hB.cell 5 rfl
  have h6 := hB.cell 6 rfl
  have h7 := hB.cell 7 rfl
  have h8 := hB.cell 8 rfl
  have h9 := hB.cell 9 rfl
  simp [results, Try.results47]
  go_simp

set_option maxHeartbeats 1000000 in
theorem numbersOf_any (x : Mg) (v : Value) (w : World) : Calls Try.prog 47 #[x.val v] w fun e w' => e = .returned (numV x.nums) ∧ Below w.heap.size w w' := by
  unfold Mg.val
  go_enter Try.func47, Try.ntmps47
  go_wp2
  have hB := Bx.new (w.alloc (.cells #[.int .i64 x.k, .int .i64 x.c, .int .i64 x.b, .int .i64 x.i, .int .i64 x.s, .int .i64 x.q, .int .i64 x.m, .int .i64 x.n, .int .i64 x.l, .int .i64 x.o, .int .i64 x.p, v] 24)) [.int .i64 x.c, .int .i64 x.b, .int .i64 x.i, .int .i64 x.s, .int .i64 x.q, .int .i64 x.m, .int .i64 x.n, .int .i64 x.l, .int .i64 x.o, .int .i64 x.p] 83
  refine bodyPost_ret (ret_nums (b := w.heap.size + 1) rfl (by simpa using hB)) rfl ?_
  exact ⟨rfl, (((Below.refl _ w).alloc (Nat.le_refl _) _).alloc (by simp) _)⟩

set_option maxHeartbeats 1000000 in
theorem bad_any (n : Int) (w : World) : Calls Try.prog 63 #[.int .i64 n] w fun e w' => e = .returned (.bool (badN n)) ∧ w' = w := by
  by_cases h : n < 0
  · have hb : badN n = true := by simp [badN, h]
    rw [hb]
    go_enter Try.func63, Try.ntmps63
    go_wp2
    go_ret
    exact ⟨rfl, rfl⟩
  · have hb : badN n = decide (2147483647 < n) := by simp [badN, h]
    rw [hb]
    go_enter Try.func63, Try.ntmps63
    go_wp2
    go_ret
    exact ⟨rfl, rfl⟩

theorem any_take_succ (f : Int → Bool) (l : List Int) (k : Nat) (h : k < l.length) : (l.take (k + 1)).any f = ((l.take k).any f || f (l.getD k 0)) := by
  rw [List.take_succ_eq_append_getElem h]
  simp only [List.any_append, List.any_cons, List.any_nil, Bool.or_false, getD_at h]

theorem any_of_at (f : Int → Bool) (l : List Int) (k : Nat) (h : k < l.length) (hf : f (l.getD k 0) = true) : l.any f = true := by
  rw [List.any_eq_true]
  exact ⟨l.getD k 0, getD_mem h, hf⟩

set_option maxHeartbeats 2000000 in
theorem mindexFunc_any (v : Value) (l : List Int) (w : World) (hv : Seg .i64 w v l) : Calls Try.prog 72 #[v, .func (.func 63) #[] #[]] w fun e w' => ∃ r : Int, e = .returned (.int .i64 r) ∧ (decide (0 ≤ r) = l.any badN) ∧ w' = w := by
  obtain ⟨a, cap, rfl, h1, h2, h3, h4⟩ := id hv
  obtain ⟨N, hN⟩ : ∃ N, N = l.length := ⟨_, rfl⟩
  rw [← hN] at h1 hv ⊢
  unfold maxLen at h2
  have HN : Hid (N = l.length) := hN
  rw [← hN] at h4
  clear hN
  go_enter Try.func72, Try.ntmps72
  go_wp2_with fail
  go_loopw [8] (fun i wr => ∃ k : Nat, k ≤ N ∧ i = .int .i64 k ∧ Hid ((l.take k).any badN = false) ∧ w = wr) (fun i _ => N - (intOf i).toNat)
  case atStart => exact ⟨0, Nat.zero_le _, rfl, by simp [Hid], rfl⟩
  case round =>
    obtain ⟨k, hk, rfl, hc, rfl⟩ := hrel
    by_cases hlt : k < N
    · obtain ⟨g, off, rfl, hg, hcell⟩ := seg_at (l := l) (by have := HN.out; omega) h3 (by rw [← HN.out]; exact h4)
      have Q := hcell k (by have := HN.out; omega)
      have hb := bad_any (l.getD k 0) w
      have HT := hid (any_take_succ badN l k (by have := HN.out; omega))
      have HA := hid (any_of_at badN l k (by have := HN.out; omega))
      clear hcell h3 h4
      generalize l.getD k 0 = x at *
      by_cases hq : badN x = true
      · rw [hq] at hb
        go_wp2_with (go_at_call 63; refine hb.mono ?_; rintro e w2 ⟨rfl, rfl⟩)
        go_ret
        exact ⟨_, rfl, by rw [HA.out hq]; exact decide_eq_true (by omega), rfl⟩
      · rw [Bool.not_eq_true] at hq
        rw [hq] at hb
        go_wp2_with (go_at_call 63; refine hb.mono ?_; rintro e w2 ⟨rfl, rfl⟩)
        have hc2 : Hid ((l.take (k + 1)).any badN = false) := by
          show (l.take (k + 1)).any badN = false
          rw [HT.out, hc.out, hq]
          rfl
        go_roundw
        case rel => exact ⟨k + 1, by omega, by go_num, hc2, (by first | rfl | trivial)⟩
        case measure => simp [intOf]; omega
    · have hke : l.take k = l := List.take_of_length_le (by have := HN.out; omega)
      rw [hke] at hc
      clear hke h3 h4
      go_wp2
      go_ret
      exact ⟨_, rfl, by rw [hc.out]; rfl, rfl⟩

theorem mcontainsFunc_any (v : Value) (l : List Int) (w : World) (hv : Seg .i64 w v l) : Calls Try.prog 62 #[v, .func (.func 63) #[] #[]] w fun e w' => e = .returned (.bool (l.any badN)) ∧ w' = w := by
  have h33 := mindexFunc_any v l w hv
  obtain ⟨a, cap, rfl, _⟩ := id hv
  go_enter Try.func62, Try.ntmps62
  go_wp2_with (go_at_call 72; refine h33.mono ?_; rintro e w2 ⟨r, rfl, hr, rfl⟩)
  go_ret
  exact ⟨by rw [← hr]; rfl, rfl⟩

set_option maxHeartbeats 2000000 in
theorem mindex_any (v : Value) (x : Int) (l : List Int) (w : World) (hv : Seg .i64 w v l) : Calls Try.prog 73 #[v, .int .i64 x] w fun e w' => ∃ r : Int, e = .returned (.int .i64 r) ∧ (decide (0 ≤ r) = l.any (x == ·)) ∧ w' = w := by
  obtain ⟨a, cap, rfl, h1, h2, h3, h4⟩ := id hv
  obtain ⟨N, hN⟩ : ∃ N, N = l.length := ⟨_, rfl⟩
  rw [← hN] at h1 hv ⊢
  unfold maxLen at h2
  have HN : Hid (N = l.length) := hN
  rw [← hN] at h4
  clear hN
  go_enter Try.func73, Try.ntmps73
  go_wp2_with fail
  go_loopw [8] (fun i wr => ∃ k : Nat, k ≤ N ∧ i = .int .i64 k ∧ Hid ((l.take k).any (x == ·) = false) ∧ w = wr) (fun i _ => N - (intOf i).toNat)
  case atStart => exact ⟨0, Nat.zero_le _, rfl, by simp [Hid], rfl⟩
  case round =>
    obtain ⟨k, hk, rfl, hc, rfl⟩ := hrel
    by_cases hlt : k < N
    · obtain ⟨g, off, rfl, hg, hcell⟩ := seg_at (l := l) (by have := HN.out; omega) h3 (by rw [← HN.out]; exact h4)
      have Q := hcell k (by have := HN.out; omega)
      have HT := hid (any_take_succ (x == ·) l k (by have := HN.out; omega))
      have HA := hid (any_of_at (x == ·) l k (by have := HN.out; omega))
      clear hcell h3 h4
      generalize l.getD k 0 = y at *
      by_cases hq : x = y
      · subst hq
        go_wp2
        go_ret
        exact ⟨_, rfl, by rw [HA.out (by simp)]; exact decide_eq_true (by omega), rfl⟩
      · have hbe : (x == y) = false := by simp [hq]
        go_wp2
        have hc2 : Hid ((l.take (k + 1)).any (x == ·) = false) := by
          show (l.take (k + 1)).any (x == ·) = false
          rw [HT.out, hc.out, hbe]
          rfl
        go_roundw
        case rel => exact ⟨k + 1, by omega, by go_num, hc2, (by first | rfl | trivial)⟩
        case measure => simp [intOf]; omega
    · have hke : l.take k = l := List.take_of_length_le (by have := HN.out; omega)
      rw [hke] at hc
      clear hke h3 h4
      go_wp2
      go_ret
      exact ⟨_, rfl, by rw [hc.out]; rfl, rfl⟩

theorem mcontains_any (v : Value) (x : Int) (l : List Int) (w : World) (hv : Seg .i64 w v l) : Calls Try.prog 64 #[v, .int .i64 x] w fun e w' => e = .returned (.bool (l.any (x == ·))) ∧ w' = w := by
  have h33 := mindex_any v x l w hv
  obtain ⟨a, cap, rfl, _⟩ := id hv
  go_enter Try.func64, Try.ntmps64
  go_wp2_with (go_at_call 73; refine h33.mono ?_; rintro e w2 ⟨r, rfl, hr, rfl⟩)
  go_ret
  exact ⟨by rw [← hr]; rfl, rfl⟩
end Go.Proofs.Ytoadcaennlfadaa
