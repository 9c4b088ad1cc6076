/- histo: the reference's Quantile. -/
import Derived.Test.YthdaldgmolhljaaHsK
namespace Go.Proofs.Ythdaldgmolhljaa
open Go.RowKit
set_option linter.unusedVariables false
set_option maxRecDepth 20000

set_option maxHeartbeats 4000000 in
theorem rquantile_any (row : Value) (h : Hi.H) (m : Int) (w : World) (hs : Seg .i64 w row h.c) :
    Calls Try.prog 17 #[vH row h.t, .int .i64 m] w fun e w' => e = .returned (.tuple #[.int .i64 (Hi.quR h m), .int .i64 (Hi.quE h m)]) ∧ Below w.heap.size w w' := by
  obtain ⟨d, t⟩ := h
  dsimp only at hs ⊢
  obtain ⟨a, cap, rfl, a1, a2, _, _⟩ := id hs
  unfold maxLen at a2
  have CK := rcheck_any (.slice a d.length cap) ⟨d, t⟩ (w.alloc (.cells (hL (.slice a d.length cap) t).toArray 24)) (hs.below ((Below.refl _ _).alloc (Nat.le_refl _) _))
  have HSEG := hidD (fun (W : World) (b : Below w.heap.size w W) => hs.below b)
  have X0 := hidD (Bo.new w (hL (.slice a d.length cap) t) 24)
  have HB := hidD ((Below.refl w.heap.size w).alloc (Nat.le_refl _) (.cells (hL (.slice a d.length cap) t).toArray 24))
  have HS : Hid (w.heap.size + 1 ≤ (w.alloc (.cells (hL (.slice a d.length cap) t).toArray 24)).heap.size) := hidD (by rw [World.size_alloc]; omega)
  obtain ⟨W0, hW0⟩ : ∃ W0, W0 = w.alloc (.cells (hL (.slice a d.length cap) t).toArray 24) := ⟨_, rfl⟩
  rw [← hW0] at X0 HB HS CK
  obtain ⟨g1, g2, g3, g4⟩ := Hi.qu_cases ⟨d, t⟩ m
  try dsimp only at g3 g4 CK
  have C9 : Hid (Hi.chk ⟨d, t⟩ = 0 ∨ Hi.chk ⟨d, t⟩ = 9) := hidD (Hi.chk_two _)
  replace g1 := hidD g1
  replace g2 := hidD g2
  replace g3 := hidD g3
  replace g4 := hidD g4
  have HK2 := hidD (@Hi.chk_zero ⟨d, t⟩)
  have HQ := hidD (@Hi.quE_zero ⟨d, t⟩ m)
  generalize Hi.quE ⟨d, t⟩ m = E at *
  generalize Hi.quR ⟨d, t⟩ m = R at *
  obtain ⟨k, hk⟩ : ∃ k, k = Hi.chk ⟨d, t⟩ := ⟨_, rfl⟩
  rw [← hk] at CK g1 g2 g3 g4 C9
  replace hk := hidD hk
  obtain ⟨N, hN⟩ : ∃ N, N = w.heap.size := ⟨_, rfl⟩
  rw [← hN] at X0 HB HS HSEG ⊢
  obtain ⟨L, hL'⟩ : ∃ L, L = d.length := ⟨_, rfl⟩
  rw [← hL'] at a1 CK X0 hW0 HSEG ⊢
  replace hL' := hidD hL'
  simp only [hL] at hW0
  clear hs
  go_enter Try.func17, Try.ntmps17
  go_wp2_with fail
  rw [← hN, ← hW0]
  clear hW0
  with_reducible refine CK.mono ?_
  rintro e w1 ⟨rfl, h1⟩
  replace HB := hidD (below_on HB.out (by have := HS.out; omega) h1)
  have HS1 : Hid (N + 1 ≤ w1.heap.size) := hidD (by have := HS.out; have := h1.size; omega)
  replace X0 := hidD (X0.out.below h1)
  clear CK h1 HS hN
  by_cases hk0 : k = 0
  case neg =>
    obtain ⟨hE, hR⟩ := g1.out hk0
    have h9 : k = 9 := by rcases C9.out with h | h; exact absurd h hk0; exact h
    subst h9
    subst hE hR
    clear g1 g2 g3 g4 hk0
    go_wp2_with fail
    go_ret2
    exact ⟨rfl, HB.out⟩
  subst hk0
  by_cases hm : m < 1 ∨ 1000 < m
  case pos =>
    obtain ⟨rfl, rfl⟩ := g2.out rfl hm
    clear g1 g2 g3 g4
    rcases hm with hm | hm
    · go_wp2_with fail
      go_ret2
      exact ⟨rfl, HB.out⟩
    · have hm2 : ¬ m < 1 := by omega
      go_wp2_with fail
      go_ret2
      exact ⟨rfl, HB.out⟩
  have p0 := X0.out.cell 0 rfl
  have p1 := X0.out.cell 1 rfl
  have hm1 : ¬ m < 1 := by omega
  have hm2 : ¬ 1000 < m := by omega
  by_cases ht : t = 0
  case pos =>
    obtain ⟨rfl, rfl⟩ := g3.out rfl hm ht
    subst ht
    clear g1 g2 g3 g4 hm
    go_wp2_with fail
    go_ret2
    exact ⟨rfl, HB.out⟩
  obtain ⟨rfl, rfl⟩ := g4.out rfl hm ht
  obtain ⟨_, q1, q2, q3, q4, q5, q6, q7⟩ := HQ.out rfl
  try dsimp only at q3 q4 q5 q6 q7
  obtain ⟨_, _, u1, u2⟩ := Hi.want_range q1 q2 q3 q4
  have H2 : Hid (∀ j, 0 ≤ d.getD j 0 ∧ d.getD j 0 ≤ 1073741824) := hidD (HK2.out hk.out.symm).2.1
  have HWD : Hid (Hi.want m t = (m * t + 999) / 1000) := hidD rfl
  have HAT := hidD q6
  have HI7 := hidD q7
  have CT := hidD (fun W => rtop_any (Hi.idx d (Hi.want m t) : Nat) W)
  have HTP : Hid (Hi.tpR (Hi.idx d (Hi.want m t) : Nat) = Hi.top (Hi.idx d (Hi.want m t)) ∧ Hi.tpE (Hi.idx d (Hi.want m t) : Nat) = 0) := hidD (by
    unfold Hi.tpR Hi.tpE
    rw [if_neg (by omega), if_neg (by omega), Int.toNat_natCast]
    exact ⟨rfl, rfl⟩)
  obtain ⟨y, hy⟩ : ∃ y, y = Hi.top (Hi.idx d (Hi.want m t)) := ⟨_, rfl⟩
  rw [← hy] at HTP
  replace hy := hidD hy
  generalize Hi.idx d (Hi.want m t) = i at HAT HI7 CT HTP
  have HL81 : Hid (L = 81) := hidD (by rw [hL'.out]; exact q5)
  obtain ⟨r, hr⟩ : ∃ r, r = Hi.want m t := ⟨_, rfl⟩
  rw [← hr] at HAT HWD
  obtain ⟨mt, hmt⟩ : ∃ mt, mt = m * t := ⟨_, rfl⟩
  have hw : IntKind.i64.wrap (m * t) = mt := by rw [hmt]; exact wrap_ok (by omega) (by omega)
  rw [← hmt] at u1 u2 HWD
  have hdv : Int.tdiv (mt + 999) 1000 = (mt + 999) / 1000 := Int.tdiv_eq_ediv_of_nonneg (by omega)
  have hdw : IntKind.i64.wrap ((mt + 999) / 1000) = r := by rw [← HWD.out]; exact wrap_ok (by have := HWD.out; omega) (by have := HWD.out; omega)
  clear hmt hr g1 g2 g3 g4 HQ HK2 q5 q6 q7 hm
  have hI80 : i ≤ 80 := by have := HI7.out; omega
  go_wp2_with fail
  go_loopw [7, 8] (fun n j wr => ∃ k : Nat, k ≤ i ∧ n = .int .i64 (Hi.pre d k) ∧ j = .int .i64 (k : Int) ∧ w1 = wr) (fun _ j _ => 100 - (intOf j).toNat)
  case atStart => exact ⟨0, Nat.zero_le _, rfl, rfl, rfl⟩
  case round =>
    obtain ⟨k, hk, rfl, rfl, rfl⟩ := hrel
    obtain ⟨b, off, rfl, hb, Q⟩ := Seg.atE (HSEG.out w1 HB.out) k (by have := hL'.out; have := HL81.out; omega)
    obtain ⟨s0, s1⟩ := Hi.pre_range H2.out k
    obtain ⟨x0, x1⟩ := H2.out k
    have HX : Hid (Hi.pre d (k + 1) = Hi.pre d k + d.getD k 0) := hidD rfl
    have hw2 : IntKind.i64.wrap (Hi.pre d k + d.getD k 0) = Hi.pre d k + d.getD k 0 := wrap_ok (by omega) (by omega)
    have hi : (k : Int) < (L : Int) := by have := HL81.out; omega
    by_cases hki : k = i
    · subst hki
      have hr : r ≤ Hi.pre d k + d.getD k 0 := HAT.out.2
      have cT := CT.out w1
      rw [HTP.out.1, HTP.out.2] at cT
      clear HX s0 s1 x0 x1 CT HTP HAT HI7 hdv hdw hw
      generalize Hi.pre d k = pk at *
      generalize d.getD k 0 = x at *
      go_wp2_with fail
      with_reducible refine cT.mono ?_
      rintro e w2 ⟨rfl, h2⟩
      go_wp2_with fail
      go_ret2
      exact ⟨by rw [← hy.out]; rfl, below_on HB.out (by have := HS1.out; omega) h2⟩
    · have hr : ¬ r ≤ Hi.pre d k + d.getD k 0 := by
        have h := Hi.pre_up (c := d) (fun j => (H2.out j).1) (show k + 1 ≤ i by omega)
        have h2 := HAT.out.1
        have h3 := HX.out
        omega
      clear s0 s1 x0 x1 hdv hdw hw
      generalize hpk : Hi.pre d k = pk at *
      replace hpk := hidD hpk
      generalize d.getD k 0 = x at *
      go_wp2_with fail
      exact ⟨⟨k + 1, by omega, by rw [HX.out], by go_num, trivial⟩, by simp [intOf]; omega⟩
end Go.Proofs.Ythdaldgmolhljaa
