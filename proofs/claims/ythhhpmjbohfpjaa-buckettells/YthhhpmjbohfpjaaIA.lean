/- bucket: within; numbers in a slice that lie between two. -/
import Derived.Test.YthhhpmjbohfpjaaIP
import Derived.Test.YthhhpmjbohfpjaaDC
import Derived.Test.YthhhpmjbohfpjaaHD
import Derived.Test.YthhhpmjbohfpjaaBX
import Derived.BigQuiet
import Derived.Deep.QuietTactic
namespace Go.Proofs.Ythhhpmjbohfpjaa
open Go.RowKit
set_option linter.unusedVariables false
set_option maxRecDepth 20000

/-- Settings, as values. -/
abbrev vS (s : Bu.Se) : Value := .agg #[.int .i64 s.c, .int .i64 s.t, .int .i64 s.r, .int .i64 s.p]
abbrev sL (s : Bu.Se) : List Value := [.int .i64 s.c, .int .i64 s.t, .int .i64 s.r, .int .i64 s.p]

theorem below_on {B : Nat} {a b c : World} (h : Below B a b) (hB : B ≤ b.heap.size) (k : Below b.heap.size b c) : Below B a c :=
  ⟨k.os.trans h.os, k.tape.trans h.tape, k.output.trans h.output, Nat.le_trans h.size k.size, fun g hg => (k.block g (by omega)).trans (h.block g hg)⟩
theorem below_drewN {B : Nat} {w w' : World} (h : Below B w w') (m : Nat) : Below B w (w'.drewN m) := ⟨h.os, h.tape, h.output, h.size, h.block⟩
theorem wrap_ok {x : Int} (h1 : -9000000000000000000 ≤ x) (h2 : x ≤ 9000000000000000000) : IntKind.i64.wrap x = x := by
  rw [IntKind.wrap_i64]; omega
theorem mul_range {a b x y : Int} (h0 : 0 ≤ a) (h1 : a ≤ x) (h2 : 0 ≤ b) (h3 : b ≤ y) : 0 ≤ a * b ∧ a * b ≤ x * y :=
  ⟨Int.mul_nonneg h0 h2, Int.mul_le_mul h1 h3 h2 (by omega)⟩

set_option maxHeartbeats 1000000 in
theorem indexI2 (ft : Nat) (pa pc : Addr) (hen : ∀ (args : Array Value) (w' : World), (callFunc ft args).run Try.prog w' = .ok (.enter ft args) w') (P : Int → Bool) (v : Value) (l : List Int) (w : World) (hv : Seg .i64 w v l)
    (ht : ∀ z, Calls Try.prog ft #[.int .i64 z, .pointer (some pa), .pointer (some pc)] w fun e w' => e = .returned (.bool (P z)) ∧ w = w') :
    Calls Try.prog 37 #[v, .func (.func ft) #[] #[.pointer (some pa), .pointer (some pc)]] w fun e w' => ∃ r : Int, e = .returned (.int .i64 r) ∧ (decide (0 ≤ r) = l.any P) ∧ w = w' := by
  obtain ⟨a, cap, rfl, h1, h2, h3, h4⟩ := id hv
  obtain ⟨N, hN⟩ : ∃ N, N = l.length := ⟨_, rfl⟩
  rw [← hN] at h1 hv ⊢
  unfold maxLen at h2
  have HN : Hid (N = l.length) := hN
  rw [← hN] at h4
  clear hN
  go_enter Try.func37, Try.ntmps37
  go_wp2_with fail
  go_loopw [8] (fun i wr => ∃ k : Nat, k ≤ N ∧ i = .int .i64 k ∧ Hid ((l.take k).any P = false) ∧ w = wr) (fun i _ => N - (intOf i).toNat)
  case atStart => exact ⟨0, Nat.zero_le _, rfl, by simp [Hid], rfl⟩
  case round =>
    obtain ⟨k, hk, rfl, hc, rfl⟩ := hrel
    by_cases hlt : k < N
    · obtain ⟨g, off, rfl, hg, hcell⟩ := seg_at (l := l) (by have := HN.out; omega) h3 (by rw [← HN.out]; exact h4)
      have Q := hcell k (by have := HN.out; omega)
      have hb := ht (l.getD k 0)
      have HT := hidD (dany_take P l k (by have := HN.out; omega))
      have HA := hidD (dany_at P l k (by have := HN.out; omega))
      clear hcell h3 h4 ht
      generalize l.getD k 0 = x at *
      by_cases hq : P x = true
      · rw [hq] at hb
        go_wp2_with fail
        refine hb.mono ?_
        rintro e w2 ⟨rfl, rfl⟩
        go_wp2
        go_ret
        exact ⟨_, rfl, by rw [HA.out hq]; exact decide_eq_true (by omega), rfl⟩
      · rw [Bool.not_eq_true] at hq
        rw [hq] at hb
        go_wp2_with fail
        refine hb.mono ?_
        rintro e w2 ⟨rfl, rfl⟩
        have hc2 : Hid ((l.take (k + 1)).any P = false) := by
          show (l.take (k + 1)).any P = false
          rw [HT.out, hc.out, hq]
          rfl
        clear hb hq
        go_wp2
        exact ⟨⟨k + 1, by omega, by go_num, hc2, (by first | rfl | trivial)⟩, by simp [intOf]; omega⟩
    · have hke : l.take k = l := List.take_of_length_le (by have := HN.out; omega)
      rw [hke] at hc
      clear hke h3 h4 ht
      go_wp2
      go_ret
      exact ⟨_, rfl, by rw [hc.out]; rfl, rfl⟩

theorem containsI2 (ft : Nat) (pa pc : Addr) (hen : ∀ (args : Array Value) (w' : World), (callFunc ft args).run Try.prog w' = .ok (.enter ft args) w') (P : Int → Bool) (v : Value) (l : List Int) (w : World) (hv : Seg .i64 w v l)
    (ht : ∀ z, Calls Try.prog ft #[.int .i64 z, .pointer (some pa), .pointer (some pc)] w fun e w' => e = .returned (.bool (P z)) ∧ w = w') :
    Calls Try.prog 35 #[v, .func (.func ft) #[] #[.pointer (some pa), .pointer (some pc)]] w fun e w' => e = .returned (.bool (l.any P)) ∧ w = w' := by
  have h33 := indexI2 ft pa pc hen P v l w hv ht
  obtain ⟨a, cap, rfl, _⟩ := id hv
  clear ht hen hv
  go_enter Try.func35, Try.ntmps35
  go_wp2_with (go_at_call 37; refine h33.mono ?_; rintro e w2 ⟨r, rfl, hr, rfl⟩)
  go_ret
  exact ⟨by rw [← hr]; rfl, rfl⟩


set_option maxHeartbeats 1000000 in
theorem outside_any (p q : Addr) (a c n : Int) (w : World) (hp : w.cell? p = some (.int .i64 a)) (hq : w.cell? q = some (.int .i64 c)) :
    Calls Try.prog 36 #[.int .i64 n, .pointer (some p), .pointer (some q)] w fun e w' => e = .returned (.bool (!Bu.inn n a c)) ∧ w = w' := by
  unfold Bu.inn
  by_cases h : n < a
  · have h1 : decide (a ≤ n) = false := decide_eq_false (by omega)
    rw [h1]
    clear h1
    go_enter Try.func36, Try.ntmps36
    go_wp2
    go_ret
    exact ⟨rfl, rfl⟩
  · have h1 : decide (a ≤ n) = true := decide_eq_true (by omega)
    rw [h1]
    clear h1
    by_cases h2 : c < n
    · have h3 : decide (n ≤ c) = false := decide_eq_false (by omega)
      rw [h3]
      clear h3
      go_enter Try.func36, Try.ntmps36
      go_wp2
      go_ret
      exact ⟨rfl, rfl⟩
    · have h3 : decide (n ≤ c) = true := decide_eq_true (by omega)
      rw [h3]
      clear h3
      go_enter Try.func36, Try.ntmps36
      go_wp2
      go_ret
      exact ⟨rfl, rfl⟩

/-- All of them. -/
def Bu.alls (l : List Int) (a c : Int) : Bool := l.all (fun n => Bu.inn n a c)
theorem Bu.alls_not (l : List Int) (a c : Int) : l.any (fun n => !Bu.inn n a c) = !Bu.alls l a c := by
  unfold Bu.alls
  induction l with
  | nil => rfl
  | cons x l ih => rw [List.any_cons, List.all_cons, ih]; cases Bu.inn x a c <;> rfl

set_option maxHeartbeats 1000000 in
theorem within_any (a c : Int) (v : Value) (l : List Int) (w : World) (hv : Seg .i64 w v l) :
    Calls Try.prog 31 #[.int .i64 a, .int .i64 c, v] w fun e w' => e = .returned (.bool (Bu.alls l a c)) ∧ Below w.heap.size w w' := by
  obtain ⟨W0, hW0, B0, B1, HB, HS⟩ := two_boxes w [.int .i64 a] [.int .i64 c] 3 3
  have q := containsI2 36 ⟨w.heap.size, 0, none⟩ ⟨w.heap.size + 1, 0, none⟩ (fun _ _ => rfl) (fun n => !Bu.inn n a c) v l W0 (hv.below HB) (fun n => outside_any _ _ a c n W0 (B0.cell 0 rfl) (B1.cell 0 rfl))
  rw [Bu.alls_not] at q
  obtain ⟨y, cap, rfl, _⟩ := id hv
  clear hv B0 B1 HS
  generalize Bu.alls l a c = z at *
  go_enter Try.func31, Try.ntmps31
  go_wp2_with fail
  rw [← hW0]
  clear hW0
  with_reducible refine q.mono ?_
  rintro e w2 ⟨rfl, rfl⟩
  go_wp2_with fail
  go_ret
  exact ⟨by cases z <;> rfl, HB⟩
end Go.Proofs.Ythhhpmjbohfpjaa
