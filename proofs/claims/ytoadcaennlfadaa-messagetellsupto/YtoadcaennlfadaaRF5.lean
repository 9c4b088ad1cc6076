/- waybillref09: Check. -/
import Derived.Test.YtoadcaennlfadaaRF4
namespace Go.Proofs.Ytoadcaennlfadaa
open Go.RowKit
set_option maxRecDepth 20000

theorem usT_or (d : List Int) (L : List Nat) : ∀ t, usT d L t = d ∨ usT d L t = t := by
  induction L with
  | nil => intro t; right; rfl
  | cons c r ih =>
    intro t
    rw [usT]
    by_cases h : c = 100
    · rw [if_pos h]
      rcases ih d with h | h <;> (left; exact h)
    · rw [if_neg h]
      exact ih t
theorem usT_octs {d : List Int} (hd : ∀ z ∈ d, 0 ≤ z ∧ z ≤ 255) (L : List Nat) : ∀ z ∈ usT d L [], 0 ≤ z ∧ z ≤ 255 := by
  rcases usT_or d L [] with h | h
  · rw [h]; exact hd
  · rw [h]; simp

set_option maxHeartbeats 8000000 in
theorem rCheck_any (x : Mg) (v : Value) (d : List Int) (w : World) (hs : Seg .u8 w v d) (hd : ∀ z ∈ d, 0 ≤ z ∧ z ≤ 255) :
    Calls Try.prog 23 #[x.val v] w fun e w' => e = .returned (.int .i64 (ckM x d)) ∧ Below w.heap.size w w' := by
  have hfm := form_any x.k
  obtain ⟨va, vcap, rfl, h1, h2, _⟩ := id hs
  unfold maxLen at h2
  obtain ⟨W, hW⟩ : ∃ W, W = w.alloc (.cells #[.int .i64 x.k, .int .i64 x.c, .int .i64 x.b, .int .i64 x.i, .int .i64 x.s, .int .i64 x.q, .int .i64 x.m, .int .i64 x.n, .int .i64 x.l, .int .i64 x.o, .int .i64 x.p, .slice va d.length vcap] 24) := ⟨_, rfl⟩
  have MB : MBx W w.heap.size x (.slice va d.length vcap) := by rw [hW]; exact Bx.new w (x.cells (.slice va d.length vcap)) 24
  have HB : Hid (Below w.heap.size w W) := by rw [hW]; exact (Below.refl _ w).alloc (Nat.le_refl _) _
  have HSW := hid (hs.below HB.out)
  unfold Mg.val
  by_cases hE : usedP x.k = []
  · have HCK := hid (ck_23 (d := d) hE)
    have hfe := form_none.1 hE
    rw [hfe] at hfm
    rw [show strL [] = ⟨#[]⟩ from rfl] at hfm
    generalize ckM x d = CK at *
    clear hs hE hfe MB
    go_enter Try.func23, Try.ntmps23
    go_wp2_with (go_at_call 30; refine (hfm _).mono ?_; rintro e w2 ⟨rfl, hw2⟩; subst hw2)
    go_ret
    exact ⟨by rw [HCK.out]; rfl, by rw [← hW]; exact HB.out⟩
  · have hk := used_kind hE
    obtain ⟨_, _, _, f4⟩ := cat_all hk
    have HE := hid hE
    have HUS := hid (us_iff x d hk)
    have HUD := hid (fun W hs hl => used_any x (.slice va d.length vcap) d W hs hl hk)
    have HC4 := hid (fun h2 => ck_4 (x := x) (d := d) hE h2)
    have HC5 := hid (fun h2 h3 => ck_5 (x := x) (d := d) hE h2 h3)
    have HCX := hid (show x.nums.any badN = false → ¬ 1024 < d.length → ckM x d = if (okF x 0 && okF x 1 && okF x 2 && okF x 3 && okF x 4 && okF x 5 && okF x 6 && okF x 7 && okF x 8 && okF x 9 && (d.isEmpty || (usedP x.k).any (10 == ·))) then 0 else 9 from fun h2 h3 => by unfold ckM; rw [if_neg hE, if_neg (by rw [h2]; simp), if_neg h3])
    generalize ckM x d = CK at *
    have HDO := hid hd
    clear hs hE hd
    go_enter Try.func23, Try.ntmps23
    go_wp2_with (go_at_call 30; refine (hfm _).mono ?_; rintro e w2 ⟨rfl, hw2⟩; subst hw2)
    rw [← hW]
    clear hW hfm
    go_loopw [4] (fun i wr => ∃ k : Nat, k ≤ 10 ∧ i = .int .i64 k ∧ Hid (∀ j : Nat, j < k → badN (x.nums.getD j 0) = false) ∧ W = wr) (fun i _ => 10 - (intOf i).toNat)
    case atStart => exact ⟨0, Nat.zero_le _, rfl, (fun j hj => by omega), rfl⟩
    case round =>
      obtain ⟨k, hk10, rfl, hc, rfl⟩ := hrel
      by_cases hlt : k < 10
      · have hix := fun w => lets_ix k hlt w
        obtain ⟨hpl, hlet⟩ := lets_plc k hlt
        have hfd := fun W => field_any w.heap.size (lets.getD k 0) W hlet
        rw [hpl] at hfd
        simp only [Int.toNat_natCast] at hfd
        have cm := mb_num MB k hlt
        have lm := MB.lt
        clear hpl hlet
        generalize lets.getD k 0 = c at *
        cases hb : badN (x.nums.getD k 0) with
        | true =>
          have HCK := HC4.out (any_of_at badN x.nums k (by rw [show x.nums.length = 10 from rfl]; exact hlt) hb)
          have HCK' := hid HCK
          generalize x.nums.getD k 0 = y at *
          clear hc HCK
          by_cases hy : y < 0
          · go_wp2_with (go_at_call 32; refine (hfd _).mono ?_; rintro e w6 ⟨rfl, hw6⟩; subst hw6)
            go_ret
            exact ⟨by rw [HCK'.out]; rfl, HB.out⟩
          · have hy2 : 2147483647 < y := by simp [badN, hy] at hb; exact hb
            go_wp2_with (go_at_call 32; refine (hfd _).mono ?_; rintro e w6 ⟨rfl, hw6⟩; subst hw6)
            go_ret
            exact ⟨by rw [HCK'.out]; rfl, HB.out⟩
        | false =>
          have hc2 : Hid (∀ j : Nat, j < k + 1 → badN (x.nums.getD j 0) = false) := by
            intro j hj
            by_cases hjk : j = k
            · rw [hjk]; exact hb
            · exact hc.out j (by omega)
          generalize x.nums.getD k 0 = y at *
          simp only [badN, Bool.or_eq_false_iff, decide_eq_false_iff_not] at hb
          obtain ⟨hy0, hy1⟩ := hb
          clear hc
          go_wp2_with (go_at_call 32; refine (hfd _).mono ?_; rintro e w6 ⟨rfl, hw6⟩; subst hw6)
          go_roundw
          case rel => exact ⟨k + 1, by omega, by go_num, hc2, (by first | rfl | trivial)⟩
          case measure => simp [intOf]; omega
      · have hnb := nums_any x (fun j hj => hc.out j (by omega))
        have c11 := MB.facts.2.2.2.2.2.2.2.2.2.2.2
        by_cases hL : 1024 < d.length
        · have HCK := hid (HC5.out hnb hL)
          clear hc hnb
          go_wp2_with fail
          go_ret
          exact ⟨by rw [HCK.out]; rfl, HB.out⟩
        · have HCK := hid (HCX.out hnb hL)
          have hdl : decide ((d.length : Int) > 1024) = false := by simp; omega
          have huD : ∀ n, Calls Try.prog 46 #[x.val (.slice va d.length vcap)] (W.drewN n) fun e w' => ∃ uv, e = .returned ((usX x).val uv) ∧ w'.ownsRow W.heap.size 5 1 uv (usT d (formL x.k) []).length (u8s (usT d (formL x.k) [])) ∧ Below W.heap.size W w' := fun n => by
            have hbn := below_drewN (Below.refl W.heap.size W) n
            refine (HUD.out (W.drewN n) (HSW.out.below hbn) (by omega)).mono ?_
            rintro e w' ⟨uv, rfl, o, b⟩
            exact ⟨uv, rfl, o, hbn.trans b⟩
          have hoU := usT_octs HDO.out (formL x.k)
          have HSM := hid (fun uv W' (b : Below W.heap.size W W') (o : W'.ownsRow W.heap.size 5 1 uv (usT d (formL x.k) []).length (u8s (usT d (formL x.k) []))) => rSame_any x (usX x) (.slice va d.length vcap) uv d (usT d (formL x.k) []) W' (HSW.out.below b) (Seg.own o) HDO.out hoU)
          rw [HUS.out] at HSM
          obtain ⟨r0, r1, r2, r3, r4, r5, r6, r7, r8, r9, r10, r11⟩ := MB.facts
          have HMB := hid MB
          have lm := MB.lt
          simp only [Mg.val] at huD HSM
          generalize (okF x 0 && okF x 1 && okF x 2 && okF x 3 && okF x 4 && okF x 5 && okF x 6 && okF x 7 && okF x 8 && okF x 9 && (d.isEmpty || (usedP x.k).any (10 == ·))) = OK at *
          generalize usX x = z at *
          generalize usT d (formL x.k) [] = UT at *
          clear hc hnb HUD HUS HCX HC4 HC5 hoU
          go_wp2_with fail
          cases OK with
          | true =>
            go_region_with (first | (go_at_call 46; refine (huD _).mono ?_; rintro e w6 ⟨uv, rfl, o6, b6⟩; obtain ⟨ua, uc, huv⟩ := own_shape8 o6; subst huv; have M6 := HMB.out.below b6; obtain ⟨t0, t1, t2, t3, t4, t5, t6, t7, t8, t9, t10, t11⟩ := M6.facts; have lm6 := M6.lt) | (go_at_call 45; refine (HSM.out _ _ (below_drewN b6 _) (ownsRow_below o6 (below_drewN (Below.refl _ _) _))).mono ?_; rintro e w7 ⟨rfl, b7⟩) | (go_at_call 45; refine (HSM.out _ _ b6 o6).mono ?_; rintro e w7 ⟨rfl, b7⟩))
            all_goals
              have HB7 := hid (show Below w.heap.size w w7 from HB.out.trans ((show Below W.heap.size W w7 from by first | exact (below_drewN b6 _).trans (b7.mono (Nat.le_trans b6.size (Nat.le_refl _))) | exact b6.trans (b7.mono b6.size)).mono HB.out.size))
              go_wp2
              go_ret
              exact ⟨by rw [HCK.out]; rfl, HB7.out⟩
          | false =>
            go_region_with (first | (go_at_call 46; refine (huD _).mono ?_; rintro e w6 ⟨uv, rfl, o6, b6⟩; obtain ⟨ua, uc, huv⟩ := own_shape8 o6; subst huv; have M6 := HMB.out.below b6; obtain ⟨t0, t1, t2, t3, t4, t5, t6, t7, t8, t9, t10, t11⟩ := M6.facts; have lm6 := M6.lt) | (go_at_call 45; refine (HSM.out _ _ (below_drewN b6 _) (ownsRow_below o6 (below_drewN (Below.refl _ _) _))).mono ?_; rintro e w7 ⟨rfl, b7⟩) | (go_at_call 45; refine (HSM.out _ _ b6 o6).mono ?_; rintro e w7 ⟨rfl, b7⟩))
            all_goals
              have HB7 := hid (show Below w.heap.size w w7 from HB.out.trans ((show Below W.heap.size W w7 from by first | exact (below_drewN b6 _).trans (b7.mono (Nat.le_trans b6.size (Nat.le_refl _))) | exact b6.trans (b7.mono b6.size)).mono HB.out.size))
              go_wp2
              go_ret
              exact ⟨by rw [HCK.out]; rfl, HB7.out⟩
end Go.Proofs.Ytoadcaennlfadaa
