/- For all numbers of two lists, together not more than 1048576: added to one histogram, or to two that are put together in any order, they make the same (the law HistoMerges answers true), and no other memory is touched. -/
import Derived.Test.YthdaldgmolhljaaRows
import Derived.BigQuiet
import Derived.Deep.QuietTactic
import Derived.WalkKit
import Derived.ProofKit
import Derived.OpenShut
import Derived.ShutString
import Derived.Test.YthdaldgmolhljaaHsK
import Derived.Test.YthdaldgmolhljaaOpenH
namespace Go.Proofs.Ythdaldgmolhljaa.histoMerges
open Go.ChangeShapes Go.WideShapes Go.ChangeAt Go.RowKit
open Go.ChangeMaps (open_string shut_string)
set_option linter.unusedVariables false
set_option maxRecDepth 20000

set_option maxHeartbeats 8000000 in
theorem walk (v1 : Value) (a : List Int) {w : World} (hs1 : Seg .i64 w v1 a) (ho1 : ∀ z ∈ a, -9223372036854775808 ≤ z ∧ z ≤ 9223372036854775807) (v2 : Value) (b : List Int) (hs2 : Seg .i64 w v2 b) (ho2 : ∀ z ∈ b, -9223372036854775808 ≤ z ∧ z ≤ 9223372036854775807) (hlen : a.length + b.length ≤ 1048576) :
    Calls Try.prog 6 #[v1, v2] w fun e w' => e = .returned (.bool true) ∧ Below w.heap.size w w' := by
  have ca := alive_any w
  have c1 := add_any (.slice none 0 0) v1 Hi.H.z a w (Seg.nil _ _) hs1 (by omega)
  have SA := hidD (fun (W : World) (h : Below w.heap.size w W) => hs1.below h)
  have SB := hidD (fun (W : World) (h : Below w.heap.size w W) => hs2.below h)
  have FEW1 := hidD (Hi.add_few (a := a) (by omega))
  have FEW2 := hidD (Hi.add_few (a := b) (by omega))
  have SUM := hidD (fun h1 h2 => Hi.two_sum (a := a) (b := b) h1 h2 (by omega))
  have SWAP := hidD (fun h1 h2 => Hi.two_swap (a := a) (b := b) h1 h2 (by omega))
  have SUM2 := hidD (fun h1 h2 => (Hi.two_sum (a := b) (b := a) h1 h2 (by omega)).1)
  obtain ⟨x, hx⟩ : ∃ x, x = Hi.addR Hi.H.z a := ⟨_, rfl⟩
  obtain ⟨y, hy⟩ : ∃ y, y = Hi.addR Hi.H.z b := ⟨_, rfl⟩
  rw [← hx] at c1 SUM SWAP SUM2
  rw [← hy] at SUM SWAP SUM2
  obtain ⟨z, hz⟩ : ∃ z, z = Hi.addR x b := ⟨_, rfl⟩
  rw [← hz] at SUM SWAP
  obtain ⟨E, hE⟩ : ∃ E, E = Hi.addE Hi.H.z a := ⟨_, rfl⟩
  obtain ⟨F, hF⟩ : ∃ F, F = Hi.addE Hi.H.z b := ⟨_, rfl⟩
  obtain ⟨G, hG⟩ : ∃ G, G = Hi.addE x b := ⟨_, rfl⟩
  rw [← hE] at c1 SUM SWAP FEW1 SUM2
  rw [← hF] at SUM SWAP FEW2 SUM2
  rw [← hG] at SUM
  have C2 := hidD (fun (W : World) (h : Below w.heap.size w W) => add_any (.slice none 0 0) v2 Hi.H.z b W (Seg.nil _ _) (hs2.below h) (by omega))
  rw [← hy, ← hF] at C2
  have C3 := hidD (fun (r : Value) (W : World) (h : Below w.heap.size w W) (hr : Seg .i64 W r x.c) => add_any r v2 x b W hr (hs2.below h) (by omega))
  rw [← hz, ← hG] at C3
  have hlx : Hid (x.c.length ≤ 1048576) := hidD (by
    by_cases h : Hi.addE Hi.H.z a = 0
    · rw [hx, (Hi.adds_chk h).2, Hi.adds_len, Hi.zeros_len]; omega
    · rw [hx, show Hi.addR Hi.H.z a = Hi.H.z from if_neg h]; decide)
  clear hE hF hG hx hy hz ho1 ho2
  obtain ⟨n1, p1, rfl, b1, d1, _, _⟩ := id hs1
  obtain ⟨n2, p2, rfl, b2, d2, _, _⟩ := id hs2
  unfold maxLen at d1 d2
  obtain ⟨L1, hL1⟩ : ∃ L1, L1 = a.length := ⟨_, rfl⟩
  obtain ⟨L2, hL2⟩ : ∃ L2, L2 = b.length := ⟨_, rfl⟩
  rw [← hL1] at b1 c1 SUM hlen ⊢
  rw [← hL2] at b2 C2 C3 SUM hlen ⊢
  obtain ⟨N, hN⟩ : ∃ N, N = w.heap.size := ⟨_, rfl⟩
  rw [← hN] at c1 C2 C3 ⊢
  have HN := hidD hN
  clear hs1 hs2 hL1 hL2 hN SA SB
  obtain ⟨xc, xt⟩ := x
  obtain ⟨yc, yt⟩ := y
  obtain ⟨zc, zt⟩ := z
  dsimp only at c1 C2 C3 SUM hlx
  go_enter Try.func6, Try.ntmps6
  go_wp2_with fail
  with_reducible refine ca.mono ?_
  rintro e w0 ⟨rfl, rfl⟩
  clear ca
  go_wp2_with fail
  refine c1.mono ?_
  rintro e w1 ⟨r1, rfl, h1, o1⟩
  clear c1
  obtain ⟨ra1, rc1, rfl, _⟩ := id o1.seg
  have HB := hidD h1
  have HNW : Hid (N ≤ w1.heap.size) := hidD (by rw [HN.out]; exact h1.size)
  have O1 := hidD (o1.below ((Below.refl w1.heap.size w1).alloc (Nat.le_refl _) (.cells #[.slice ra1 xc.length rc1, .int .i64 xt] 24))).seg
  have hb := (Below.refl w1.heap.size w1).alloc (Nat.le_refl _) (.cells #[.slice ra1 xc.length rc1, .int .i64 xt] 24)
  have X1 := hidD (Bo.new w1 (hL (.slice ra1 xc.length rc1) xt) 24)
  obtain ⟨b1, hb1⟩ : ∃ b1, b1 = w1.heap.size := ⟨_, rfl⟩
  obtain ⟨W1, hW1⟩ : ∃ W1, W1 = w1.alloc (.cells #[.slice ra1 xc.length rc1, .int .i64 xt] 24) := ⟨_, rfl⟩
  replace X1 : Hid (Bo W1 b1 [.slice ra1 xc.length rc1, .int .i64 xt] 24) := hidD (by rw [hW1, hb1]; exact X1.out)
  rw [← hW1] at O1 hb
  replace HB := hidD (below_on HB.out HNW.out hb)
  replace HNW := hidD (Nat.le_trans HNW.out hb.size)
  have Z1 : Hid (W1.heap.size = b1 + 1) := hidD (by rw [hW1, hb1, World.size_alloc])
  clear h1 o1 hb
  have c2 := C2.out W1 HB.out
  go_wp2_with (fail)
  rw [← hb1, ← hW1]
  clear hb1 hW1
  refine c2.mono ?_
  rintro e w2 ⟨r2, rfl, h2, o2⟩
  clear c2
  clear C2
  obtain ⟨ra2, rc2, rfl, _⟩ := id o2.seg
  replace HB := hidD (below_on HB.out HNW.out h2)
  replace HNW := hidD (Nat.le_trans HNW.out h2.size)
  replace O1 := hidD (O1.out.below h2)
  replace X1 := hidD (X1.out.below h2)
  have O2 := hidD (o2.below ((Below.refl w2.heap.size w2).alloc (Nat.le_refl _) (.cells #[.slice ra2 yc.length rc2, .int .i64 yt] 24))).seg
  have hb := (Below.refl w2.heap.size w2).alloc (Nat.le_refl _) (.cells #[.slice ra2 yc.length rc2, .int .i64 yt] 24)
  have X2 := hidD (Bo.new w2 (hL (.slice ra2 yc.length rc2) yt) 24)
  obtain ⟨b2, hb2⟩ : ∃ b2, b2 = w2.heap.size := ⟨_, rfl⟩
  obtain ⟨W2, hW2⟩ : ∃ W2, W2 = w2.alloc (.cells #[.slice ra2 yc.length rc2, .int .i64 yt] 24) := ⟨_, rfl⟩
  replace X2 : Hid (Bo W2 b2 [.slice ra2 yc.length rc2, .int .i64 yt] 24) := hidD (by rw [hW2, hb2]; exact X2.out)
  rw [← hW2] at O2 hb
  replace HB := hidD (below_on HB.out HNW.out hb)
  replace HNW := hidD (Nat.le_trans HNW.out hb.size)
  replace O1 := hidD (O1.out.below hb)
  replace X1 := hidD (X1.out.below hb)
  have Z2 : Hid (W2.heap.size = b2 + 1) := hidD (by rw [hW2, hb2, World.size_alloc])
  clear h2 o2 hb
  have c3 := C3.out _ W2 HB.out O1.out
  have q10 := X1.out.cell 0 rfl
  have q11 := X1.out.cell 1 rfl
  rw [hW2] at q10 q11
  go_wp2_with (fail)
  rw [← hb2, ← hW2]
  clear hb2 hW2
  clear q10 q11
  refine c3.mono ?_
  rintro e w3 ⟨r3, rfl, h3, o3⟩
  clear c3
  clear C3
  obtain ⟨ra3, rc3, rfl, _⟩ := id o3.seg
  replace HB := hidD (below_on HB.out HNW.out h3)
  replace HNW := hidD (Nat.le_trans HNW.out h3.size)
  replace O1 := hidD (O1.out.below h3)
  replace X1 := hidD (X1.out.below h3)
  replace O2 := hidD (O2.out.below h3)
  replace X2 := hidD (X2.out.below h3)
  have O3 := hidD (o3.below ((Below.refl w3.heap.size w3).alloc (Nat.le_refl _) (.cells #[.slice ra3 zc.length rc3, .int .i64 zt] 24))).seg
  have hb := (Below.refl w3.heap.size w3).alloc (Nat.le_refl _) (.cells #[.slice ra3 zc.length rc3, .int .i64 zt] 24)
  have X3 := hidD (Bo.new w3 (hL (.slice ra3 zc.length rc3) zt) 24)
  obtain ⟨b3, hb3⟩ : ∃ b3, b3 = w3.heap.size := ⟨_, rfl⟩
  obtain ⟨W3, hW3⟩ : ∃ W3, W3 = w3.alloc (.cells #[.slice ra3 zc.length rc3, .int .i64 zt] 24) := ⟨_, rfl⟩
  replace X3 : Hid (Bo W3 b3 [.slice ra3 zc.length rc3, .int .i64 zt] 24) := hidD (by rw [hW3, hb3]; exact X3.out)
  rw [← hW3] at O3 hb
  replace HB := hidD (below_on HB.out HNW.out hb)
  replace HNW := hidD (Nat.le_trans HNW.out hb.size)
  replace O1 := hidD (O1.out.below hb)
  replace X1 := hidD (X1.out.below hb)
  replace O2 := hidD (O2.out.below hb)
  replace X2 := hidD (X2.out.below hb)
  have Z3 : Hid (W3.heap.size = b3 + 1) := hidD (by rw [hW3, hb3, World.size_alloc])
  clear h3 o3 hb
  by_cases hE : E = 0
  case neg =>
    have hE4 : E = 4 := by rcases FEW1.out with h | h; exact absurd h hE; exact h
    subst hE4
    have HBB := HB
    clear SUM SWAP FEW1 FEW2 HB HNW X1 X2 X3 O1 O2 O3
    go_wp2_with (first | (go_at_call 20; refine (num_any _ _).mono ?_; rintro e ww ⟨rfl, rfl⟩))
    go_ret
    exact ⟨by first | rfl | simp, by rw [← hW3]; exact HBB.out⟩
  by_cases hF : F = 0
  case neg =>
    have hF4 : F = 4 := by rcases FEW2.out with h | h; exact absurd h hF; exact h
    subst hE hF4
    have HBB := HB
    clear SUM SWAP FEW1 FEW2 HB HNW X1 X2 X3 O1 O2 O3
    go_wp2_with (first | (go_at_call 20; refine (num_any _ _).mono ?_; rintro e ww ⟨rfl, rfl⟩))
    go_ret
    exact ⟨by first | rfl | simp, by rw [← hW3]; exact HBB.out⟩
  subst hE hF
  obtain ⟨s1, s2, s3, s4⟩ := SUM.out rfl rfl
  have s5 := SWAP.out rfl rfl
  have s6 := SUM2.out rfl rfl
  clear SUM SWAP SUM2 FEW1 FEW2
  subst s2
  try dsimp only at s3 s4 s5
  replace s1 := hidD s1
  replace s3 := hidD s3
  replace s4 := hidD s4
  replace s5 := hidD s5
  replace s6 := hidD s6
  have q10 := X1.out.cell 0 rfl
  have q11 := X1.out.cell 1 rfl
  rw [hW3] at q10 q11
  have q20 := X2.out.cell 0 rfl
  have q21 := X2.out.cell 1 rfl
  rw [hW3] at q20 q21
  go_wp2_with (first | (go_at_call 20; refine (num_any _ _).mono ?_; rintro e ww ⟨rfl, rfl⟩))
  rw [← hb3, ← hW3]
  clear hb3 hW3
  clear q10 q11
  clear q20 q21
  have hbu := (Below.refl W3.heap.size W3).alloc (Nat.le_refl _) (.cells #[.slice ra1 xc.length rc1, .int .i64 xt, .slice ra2 yc.length rc2, .int .i64 yt] 24)
  have BU : Bo (W3.alloc (.cells #[.slice ra1 xc.length rc1, .int .i64 xt, .slice ra2 yc.length rc2, .int .i64 yt] 24)) (b3 + 1) [.slice ra1 xc.length rc1, .int .i64 xt, .slice ra2 yc.length rc2, .int .i64 yt] 24 := by rw [← Z3.out]; exact Bo.new W3 [.slice ra1 xc.length rc1, .int .i64 xt, .slice ra2 yc.length rc2, .int .i64 yt] 24
  have cM := merge_any (b3 + 1) 2 2 [⟨xc, xt⟩, ⟨yc, yt⟩] (W3.alloc (.cells #[.slice ra1 xc.length rc1, .int .i64 xt, .slice ra2 yc.length rc2, .int .i64 yt] 24)) (hrow_two (x := ⟨xc, xt⟩) (y := ⟨yc, yt⟩) BU (O1.out.below hbu) (O2.out.below hbu)) rfl (Nat.le_refl _) (by decide)
  rw [s3.out, s1.out] at cM
  dsimp only at cM
  obtain ⟨V3, hV3⟩ : ∃ V3, V3 = W3.alloc (.cells #[.slice ra1 xc.length rc1, .int .i64 xt, .slice ra2 yc.length rc2, .int .i64 yt] 24) := ⟨_, rfl⟩
  rw [← hV3] at hbu cM
  replace HB := hidD (below_on HB.out HNW.out hbu)
  replace HNW := hidD (Nat.le_trans HNW.out hbu.size)
  replace O1 := hidD (O1.out.below hbu)
  replace X1 := hidD (X1.out.below hbu)
  replace O2 := hidD (O2.out.below hbu)
  replace X2 := hidD (X2.out.below hbu)
  replace O3 := hidD (O3.out.below hbu)
  replace X3 := hidD (X3.out.below hbu)
  clear hbu BU
  rw [← hV3]
  clear hV3
  refine cM.mono ?_
  rintro e w4 ⟨r4, rfl, h4, o4⟩
  clear cM
  obtain ⟨ra4, rc4, rfl, _⟩ := id o4.seg
  replace HB := hidD (below_on HB.out HNW.out h4)
  replace HNW := hidD (Nat.le_trans HNW.out h4.size)
  replace O1 := hidD (O1.out.below h4)
  replace X1 := hidD (X1.out.below h4)
  replace O2 := hidD (O2.out.below h4)
  replace X2 := hidD (X2.out.below h4)
  replace O3 := hidD (O3.out.below h4)
  replace X3 := hidD (X3.out.below h4)
  have O4 := hidD (o4.below ((Below.refl w4.heap.size w4).alloc (Nat.le_refl _) (.cells #[.slice ra4 zc.length rc4, .int .i64 zt] 24))).seg
  have hb := (Below.refl w4.heap.size w4).alloc (Nat.le_refl _) (.cells #[.slice ra4 zc.length rc4, .int .i64 zt] 24)
  have X4 := hidD (Bo.new w4 (hL (.slice ra4 zc.length rc4) zt) 24)
  obtain ⟨b4, hb4⟩ : ∃ b4, b4 = w4.heap.size := ⟨_, rfl⟩
  obtain ⟨W4, hW4⟩ : ∃ W4, W4 = w4.alloc (.cells #[.slice ra4 zc.length rc4, .int .i64 zt] 24) := ⟨_, rfl⟩
  replace X4 : Hid (Bo W4 b4 [.slice ra4 zc.length rc4, .int .i64 zt] 24) := hidD (by rw [hW4, hb4]; exact X4.out)
  rw [← hW4] at O4 hb
  replace HB := hidD (below_on HB.out HNW.out hb)
  replace HNW := hidD (Nat.le_trans HNW.out hb.size)
  replace O1 := hidD (O1.out.below hb)
  replace X1 := hidD (X1.out.below hb)
  replace O2 := hidD (O2.out.below hb)
  replace X2 := hidD (X2.out.below hb)
  replace O3 := hidD (O3.out.below hb)
  replace X3 := hidD (X3.out.below hb)
  have Z4 : Hid (W4.heap.size = b4 + 1) := hidD (by rw [hW4, hb4, World.size_alloc])
  clear h4 o4 hb
  have q10 := X1.out.cell 0 rfl
  have q11 := X1.out.cell 1 rfl
  rw [hW4] at q10 q11
  have q20 := X2.out.cell 0 rfl
  have q21 := X2.out.cell 1 rfl
  rw [hW4] at q20 q21
  go_wp2_with (first | (go_at_call 20; refine (num_any _ _).mono ?_; rintro e ww ⟨rfl, rfl⟩))
  rw [← hb4, ← hW4]
  clear hb4 hW4
  clear q10 q11
  clear q20 q21
  have hbu := (Below.refl W4.heap.size W4).alloc (Nat.le_refl _) (.cells #[.slice ra2 yc.length rc2, .int .i64 yt, .slice ra1 xc.length rc1, .int .i64 xt] 24)
  have BU : Bo (W4.alloc (.cells #[.slice ra2 yc.length rc2, .int .i64 yt, .slice ra1 xc.length rc1, .int .i64 xt] 24)) (b4 + 1) [.slice ra2 yc.length rc2, .int .i64 yt, .slice ra1 xc.length rc1, .int .i64 xt] 24 := by rw [← Z4.out]; exact Bo.new W4 [.slice ra2 yc.length rc2, .int .i64 yt, .slice ra1 xc.length rc1, .int .i64 xt] 24
  have cM := merge_any (b4 + 1) 2 2 [⟨yc, yt⟩, ⟨xc, xt⟩] (W4.alloc (.cells #[.slice ra2 yc.length rc2, .int .i64 yt, .slice ra1 xc.length rc1, .int .i64 xt] 24)) (hrow_two (x := ⟨yc, yt⟩) (y := ⟨xc, xt⟩) BU (O2.out.below hbu) (O1.out.below hbu)) rfl (Nat.le_refl _) (by decide)
  rw [s5.out, s6.out] at cM
  dsimp only at cM
  obtain ⟨V4, hV4⟩ : ∃ V4, V4 = W4.alloc (.cells #[.slice ra2 yc.length rc2, .int .i64 yt, .slice ra1 xc.length rc1, .int .i64 xt] 24) := ⟨_, rfl⟩
  rw [← hV4] at hbu cM
  replace HB := hidD (below_on HB.out HNW.out hbu)
  replace HNW := hidD (Nat.le_trans HNW.out hbu.size)
  replace O1 := hidD (O1.out.below hbu)
  replace X1 := hidD (X1.out.below hbu)
  replace O2 := hidD (O2.out.below hbu)
  replace X2 := hidD (X2.out.below hbu)
  replace O3 := hidD (O3.out.below hbu)
  replace X3 := hidD (X3.out.below hbu)
  replace O4 := hidD (O4.out.below hbu)
  replace X4 := hidD (X4.out.below hbu)
  clear hbu BU
  rw [← hV4]
  clear hV4
  refine cM.mono ?_
  rintro e w5 ⟨r5, rfl, h5, o5⟩
  clear cM
  obtain ⟨ra5, rc5, rfl, _⟩ := id o5.seg
  replace HB := hidD (below_on HB.out HNW.out h5)
  replace HNW := hidD (Nat.le_trans HNW.out h5.size)
  replace O1 := hidD (O1.out.below h5)
  replace X1 := hidD (X1.out.below h5)
  replace O2 := hidD (O2.out.below h5)
  replace X2 := hidD (X2.out.below h5)
  replace O3 := hidD (O3.out.below h5)
  replace X3 := hidD (X3.out.below h5)
  replace O4 := hidD (O4.out.below h5)
  replace X4 := hidD (X4.out.below h5)
  have O5 := hidD (o5.below ((Below.refl w5.heap.size w5).alloc (Nat.le_refl _) (.cells #[.slice ra5 zc.length rc5, .int .i64 zt] 24))).seg
  have hb := (Below.refl w5.heap.size w5).alloc (Nat.le_refl _) (.cells #[.slice ra5 zc.length rc5, .int .i64 zt] 24)
  have X5 := hidD (Bo.new w5 (hL (.slice ra5 zc.length rc5) zt) 24)
  obtain ⟨b5, hb5⟩ : ∃ b5, b5 = w5.heap.size := ⟨_, rfl⟩
  obtain ⟨W5, hW5⟩ : ∃ W5, W5 = w5.alloc (.cells #[.slice ra5 zc.length rc5, .int .i64 zt] 24) := ⟨_, rfl⟩
  replace X5 : Hid (Bo W5 b5 [.slice ra5 zc.length rc5, .int .i64 zt] 24) := hidD (by rw [hW5, hb5]; exact X5.out)
  rw [← hW5] at O5 hb
  replace HB := hidD (below_on HB.out HNW.out hb)
  replace HNW := hidD (Nat.le_trans HNW.out hb.size)
  replace O1 := hidD (O1.out.below hb)
  replace X1 := hidD (X1.out.below hb)
  replace O2 := hidD (O2.out.below hb)
  replace X2 := hidD (X2.out.below hb)
  replace O3 := hidD (O3.out.below hb)
  replace X3 := hidD (X3.out.below hb)
  replace O4 := hidD (O4.out.below hb)
  replace X4 := hidD (X4.out.below hb)
  have Z5 : Hid (W5.heap.size = b5 + 1) := hidD (by rw [hW5, hb5, World.size_alloc])
  clear h5 o5 hb
  have q40 := X4.out.cell 0 rfl
  have q41 := X4.out.cell 1 rfl
  rw [hW5] at q40 q41
  have q30 := X3.out.cell 0 rfl
  have q31 := X3.out.cell 1 rfl
  rw [hW5] at q30 q31
  have cS := rsame_any (.slice ra4 zc.length rc4) (.slice ra3 zc.length rc3) ⟨zc, zt⟩ ⟨zc, zt⟩ W5 O4.out O3.out
  rw [Hi.same_self] at cS
  dsimp only at cS
  go_wp2_with (first | (go_at_call 20; refine (num_any _ _).mono ?_; rintro e ww ⟨rfl, rfl⟩))
  rw [← hb5, ← hW5]
  clear hb5 hW5
  clear q30 q31
  clear q40 q41
  with_reducible refine cS.mono ?_
  rintro e w6 ⟨rfl, h6⟩
  clear cS
  replace HB := hidD (below_on HB.out HNW.out h6)
  replace HNW := hidD (Nat.le_trans HNW.out h6.size)
  replace O1 := hidD (O1.out.below h6)
  replace X1 := hidD (X1.out.below h6)
  replace O2 := hidD (O2.out.below h6)
  replace X2 := hidD (X2.out.below h6)
  replace O3 := hidD (O3.out.below h6)
  replace X3 := hidD (X3.out.below h6)
  replace O4 := hidD (O4.out.below h6)
  replace X4 := hidD (X4.out.below h6)
  replace O5 := hidD (O5.out.below h6)
  replace X5 := hidD (X5.out.below h6)
  clear h6
  have q50 := X5.out.cell 0 rfl
  have q51 := X5.out.cell 1 rfl
  have q30 := X3.out.cell 0 rfl
  have q31 := X3.out.cell 1 rfl
  have cS := rsame_any (.slice ra5 zc.length rc5) (.slice ra3 zc.length rc3) ⟨zc, zt⟩ ⟨zc, zt⟩ w6 O5.out O3.out
  rw [Hi.same_self] at cS
  dsimp only at cS
  clear s1 s3 s5 s6
  go_wp2_with (first | (go_at_call 20; refine (num_any _ _).mono ?_; rintro e ww ⟨rfl, rfl⟩))
  clear q50 q51 q30 q31
  with_reducible refine cS.mono ?_
  rintro e w7 ⟨rfl, h7⟩
  clear cS
  replace HB := hidD (below_on HB.out HNW.out h7)
  replace HNW := hidD (Nat.le_trans HNW.out h7.size)
  replace O1 := hidD (O1.out.below h7)
  replace X1 := hidD (X1.out.below h7)
  replace O2 := hidD (O2.out.below h7)
  replace X2 := hidD (X2.out.below h7)
  replace O3 := hidD (O3.out.below h7)
  replace X3 := hidD (X3.out.below h7)
  replace O4 := hidD (O4.out.below h7)
  replace X4 := hidD (X4.out.below h7)
  replace O5 := hidD (O5.out.below h7)
  replace X5 := hidD (X5.out.below h7)
  clear h7
  have q41 := X4.out.cell 1 rfl
  have hz := s4.out
  clear s4
  go_wp2_with (first | (go_at_call 20; refine (num_any _ _).mono ?_; rintro e ww ⟨rfl, rfl⟩))
  go_ret
  exact ⟨by first | rfl | simp | (simp; omega), HB.out⟩

set_option maxRecDepth 100000 in
theorem contract (H : Type) (enc : TypeId × Value → H) (W : World) (base : Nat) (args : Array Value) (ds gs : List (DataW H)) (before : List MemPlace)
    (hval : ∀ (j : Nat) t v, Try.f6.params[j]? = some t → args[j]? = some v → Value.okWide Try.prog W .any base t v)
    (hW : DataW.Whole enc Try.prog Try.f6.params.toList Rows.histoMergesSpec.vars false W args.toList ds gs before) (hk : Rows.uptoSmall H (ds ++ gs) = true) :
    Calls Try.prog 6 args W fun e W' => ∃ v, e = .returned v ∧ Rows.histoMergesSpec.post enc Try.prog Try.f6 false true false false W args v W' := by
  have hW' := hW
  obtain ⟨p, q, hA0, hV, rfl, hfz, hnd⟩ := hW
  have hA : DataW.TrodAll enc Try.prog W 0 (fun _ => true) true Try.f6.params.toList args.toList ds p := hA0
  rw [Try.params6] at hA hval
  obtain ⟨v0, vs0, d0, ds0, p0, q0, hargs, rfl, rfl, h0, r0⟩ := trodAll_cons hA
  obtain ⟨v1, vs1, d1, ds1, p1, q1, rfl, rfl, rfl, h1, r1⟩ := trodAll_cons r0
  obtain ⟨rfl, rfl, rfl⟩ := trodAll_nil r1
  obtain rfl : args = #[v0, v1] := by cases args; simp_all
  obtain ⟨rfl, rfl⟩ := trodVars_none hV
  have k0 := h0
  have lt0 : ∀ x ∈ p0, x.block < W.heap.size := by obtain ⟨m, hm⟩ := k0; exact DataW.trod_lt m _ _ _ hm
  obtain ⟨l0, hs0, ho0, e0⟩ := open_numbers (hval 0 22 v0 rfl rfl) h0
  have k1 := h1
  have lt1 : ∀ x ∈ p1, x.block < W.heap.size := by obtain ⟨m, hm⟩ := k1; exact DataW.trod_lt m _ _ _ hm
  obtain ⟨l1, hs1, ho1, e1⟩ := open_numbers (hval 1 22 v1 rfl rfl) h1
  have hlen : l0.length + l1.length ≤ 1048576 := by
    have h := bulk_bound hk
    simp only [List.append_nil, Rows.uptoBulkAll] at h
    have b0 := octets_bulk e0
    have b1 := octets_bulk e1
    omega
  clear hA0
  refine (walk v0 l0 hs0 ho0 v1 l1 hs1 ho1 hlen).mono fun e W' ⟨he, bel⟩ => ?_
  subst he
  exact ⟨_, rfl, _, _, _, [], _, [], hW', trodAll_mk1 (shut_bool Try.underlying4 _), (trodAll_cons_mk (Below.trod laidOut (by kernel_rfl) (of_decide_eq_true (by kernel_rfl)) k0 bel lt0) (trodAll_cons_mk (Below.trod laidOut (by kernel_rfl) (of_decide_eq_true (by kernel_rfl)) k1 bel lt1) trodAll_mk0)), rfl, bel.frame _, fun h => by cases h⟩

set_option maxRecDepth 100000 in
theorem lifted (os : Os) (started : os.Started) (H : Type) (enc : TypeId × Value → H) (F : Stop.Interp) :
    ReturnsInHanded {} Try.checked os 6 .any ((Rows.OpenSpec.upto Rows.histoMergesSpec).pre6 enc Try.prog Try.f6 Rows.histoMergesUptoRow.domain false) (((Rows.OpenSpec.upto Rows.histoMergesSpec).at F).post enc Try.prog Try.f6 false true false false) := by
  refine returnsInHanded_of_cond (C := Try.checked) (s := Rows.OpenSpec.upto Rows.histoMergesSpec) (k := Rows.uptoSmall) rfl own started (by kernel_rfl) Try.func6
    (OpenSpec.witness (enc := enc) (C := Try.checked) (s := Rows.OpenSpec.upto Rows.histoMergesSpec) (k := Rows.uptoSmall) rfl false ⟨#[], #[.slice none 0 0, .slice none 0 0], []⟩ 8 (by kernel_rfl) (by kernel_rfl) (by kernel_rfl)
      (x := ([.nil, .nil], [], [])) (by kernel_rfl) rfl (by kernel_rfl)) ?_
  intro W base args ds gs before hval hW _ hk _
  exact contract H enc W base args ds gs before hval hW hk

theorem over : Rows.HistoMergesUptoSaid :=
  OpenClaim.holds_of_cond 6 Try.f6 rfl rfl rfl rfl rfl rfl rfl ⟨rfl, rfl, rfl, rfl, rfl⟩ rfl rfl rfl rfl rfl (by kernel_rfl) Try.func6 (by kernel_rfl)
    (of_decide_eq_true (by kernel_rfl)) (by unfold Func.isWrapper; first | (rw [if_pos (by decide +kernel)]; kernel_rfl) | (rw [if_neg (by decide +kernel)]; exact ⟨rfl, rfl⟩))
    (fun os started H enc _ F => lifted os started H enc F)
end Go.Proofs.Ythdaldgmolhljaa.histoMerges

namespace Go.Proofs.Ythdaldgmolhljaa
/-- THE STATEMENT. -/
theorem histoMergesUpto_holds : Rows.HistoMergesUptoSaid := histoMerges.over
#print axioms histoMergesUpto_holds
end Go.Proofs.Ythdaldgmolhljaa
