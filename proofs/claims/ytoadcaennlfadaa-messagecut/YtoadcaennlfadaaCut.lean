/- For every message m, every int at and every octet more: its octets, cut off, end too early; with one more something is left; its frame, cut off, is none (the law MessageCut answers true), and no other memory is touched. -/
import Derived.Test.YtoadcaennlfadaaMN5
import Derived.Test.YtoadcaennlfadaaMF2
namespace Go.Proofs.Ytoadcaennlfadaa.messageCut
open Go.ChangeShapes Go.WideShapes Go.ChangeAt Go.RowKit
open Go.ChangeMaps (open_string shut_string)
set_option maxRecDepth 20000

theorem modK (z : Int) (N : Nat) (h : 0 < N) : (-(N : Int) < z.tmod N ∧ z.tmod N < N) ∧ ∃ K : Nat, (z.tmod N + N).tmod N = K ∧ K < N := by
  have h1 := Int.tmod_lt_of_pos z (show (0 : Int) < N by omega)
  have h2 := Int.lt_tmod_of_pos z (show (0 : Int) < N by omega)
  have hq : 0 ≤ z.tmod N + N := by omega
  obtain ⟨K, hK⟩ := Int.eq_ofNat_of_zero_le (Int.tmod_nonneg (N : Int) hq)
  refine ⟨by omega, K, hK, ?_⟩
  have := Int.tmod_lt_of_pos (z.tmod N + N) (show (0 : Int) < N by omega)
  omega

theorem seg_take {w : World} {v : Value} {l : List Int} (h : Seg .u8 w v l) (hl : 0 < l.length) (k : Nat) (hk : k ≤ l.length) :
    ∃ g off cap, v = .slice (some ⟨g, off, none⟩) l.length cap ∧ l.length ≤ cap ∧ cap ≤ maxLen ∧ Seg .u8 w (.slice (some ⟨g, off, none⟩) k cap) (l.take k) := by
  obtain ⟨a, cap, rfl, h1, h2, h3, h4⟩ := h
  obtain ⟨g, off, rfl, hb, hc⟩ := seg_at hl h3 h4
  refine ⟨g, off, cap, rfl, h1, h2, ?_⟩
  have := seg_part (w := w) (b := g) (off := off) (cap := cap) (l := l) 0 k (by omega) h1 h2 hc
  simpa using this

theorem seg_byte (w : World) (z : Int) : Seg .u8 (w.alloc (.cells #[.int .u8 z] 5)) (.slice (some ⟨w.heap.size, 0, none⟩) 1 1) [z] := seg_of_row .u8 w [z] 5 (by simp)

set_option maxHeartbeats 8000000 in
theorem walk (x : Mg) (v : Value) (d : List Int) {w : World} (hs : Seg .u8 w v d) (ho : ∀ z ∈ d, 0 ≤ z ∧ z ≤ 255) (z : Int) (hz : (Lit.int .i64 z).wf = true) (more : Int) (hm : (Lit.int .u8 more).wf = true) :
    Calls Try.prog 6 #[x.val v, .int .i64 z, .int .u8 more] w fun e w' => e = .returned (.bool true) ∧ Below w.heap.size w w' := by
  obtain ⟨hz0, hz1⟩ := bounds_i64 hz
  obtain ⟨hm0, hm1⟩ := bounds_u8 hm
  clear hz hm
  have halv := malive_any (w.alloc (.cells ⟨x.cells v⟩ 24))
  have hB0 : MBx (w.alloc (.cells ⟨x.cells v⟩ 24)) w.heap.size x v := Bx.new _ _ _
  have hal : Below w.heap.size w (w.alloc (.cells ⟨x.cells v⟩ 24)) := (Below.refl _ w).alloc (Nat.le_refl _) _
  obtain ⟨va, vcap, rfl, _⟩ := id hs
  by_cases hE : ckM x d = 0
  · have hen := fun W hs => mEncode_ok x (.slice va d.length vcap) d W hs hE
    have hfr := fun b W hM hs => mFrames_one b x (.slice va d.length vcap) d W hM hs ho hE
    have hfits := enc_fits hE ho
    obtain ⟨hN1, hN2⟩ := enc_bounds hE
    have hoc := enc_octs hE ho
    have hfo := octs_frame' hfits
    have hfl := Pl.frame_len (encM x d)
    have hel := Pl.enc_len_le 9 (encM x d).length
    obtain ⟨hb1, K, hK, hKN⟩ := modK z (encM x d).length (by omega)
    obtain ⟨hb2, K2, hK2, hKN2⟩ := modK z (Pl.frameOf (encM x d)).length (by omega)
    have hcut := dcm_cut hE K hKN
    have hmore := dcm_more hE more
    have hsc := scan_cut hfits K2 hKN2
    have HD1 := hid (fun bv W hs => mDecode_any bv ((encM x d).take K) W hs (fun y hy => hoc y (List.mem_of_mem_take hy)) (by rw [List.length_take]; omega))
    have HD2 := hid (fun bv W hs => mDecode_any bv (encM x d ++ [more]) W hs (fun y hy => by
      rcases List.mem_append.1 hy with hy | hy
      · exact hoc y hy
      · simp at hy; omega) (by simp; omega))
    have HRD := hid (fun bv W hs => mRead_none bv ((Pl.frameOf (encM x d)).take K2) W hs (fun y hy => hfo y (List.mem_of_mem_take hy)) (by rw [List.length_take]; omega) hsc)
    have hk2l : ((Pl.frameOf (encM x d)).take K2).length = K2 := by rw [List.length_take]; omega
    rw [hcut] at HD1
    rw [hmore] at HD2
    rw [hk2l] at HRD
    simp only at HD1 HD2
    clear hcut hmore hsc hfits hE hk2l
    generalize hFR : Pl.frameOf (encM x d) = FR at *
    clear hFR
    generalize encM x d = EN at *
    obtain ⟨N, hN⟩ : ∃ N, N = EN.length := ⟨_, rfl⟩
    obtain ⟨F, hF⟩ : ∃ F, F = FR.length := ⟨_, rfl⟩
    rw [← hN] at hN1 hN2 hb1 hK hKN hen hfl hel
    rw [← hF] at hb2 hK2 hKN2 hfl
    have HN := hid hN
    have HF := hid hF
    have hF1 : F ≤ 5000 := by omega
    have hne : ((N : Int) == 0) = false := by simp; omega
    have hne2 : ((F : Int) == 0) = false := by simp; omega
    have HFR := hid hfr
    have HSG := hid hs
    have HB0 := hid hB0
    have HAL := hid hal
    simp only [Mg.val, Mg.cells] at *
    clear hs hB0 hal hN hF hfl hel hfr hoc hfo ho
    go_enter Try.func6, Try.ntmps6
    go_wp2_with fail
    refine halv.mono ?_
    rintro e w1 ⟨rfl, b1⟩
    have B1 := HB0.out.below b1
    have hbb1 := HAL.out.trans (b1.mono HAL.out.size)
    have he1 := hen w1 (HSG.out.below hbb1)
    obtain ⟨r0, r1, r2, r3, r4, r5, r6, r7, r8, r9, r10, r11⟩ := B1.facts
    have HB1 := hid hbb1
    clear halv HB0 HAL b1 hbb1 hen
    go_wp2_with fail
    refine he1.mono ?_
    rintro e w2 ⟨bv, rfl, o2, b2⟩
    have B2 := B1.below b2
    have HB2 := hid (HB1.out.trans (b2.mono HB1.out.size))
    have hsE : Seg .u8 w2 bv EN := Seg.own (by rw [← HN.out]; exact o2)
    obtain ⟨g, off, cap, hv, h1, h2, hst⟩ := seg_take hsE (by rw [← HN.out]; omega) K (by rw [← HN.out]; omega)
    rw [← HN.out] at hv h1
    subst hv
    unfold maxLen at h2
    have HSE := hid hsE
    have hd1 := HD1.out _ w2 hst
    clear r0 r1 r2 r3 r4 r5 r6 r7 r8 r9 r10 r11 he1 b2 HB1 B1 o2 hsE hst HD1
    go_wp2_with (go_at_call 19; refine (num_any _ _).mono ?_; rintro e w3 ⟨rfl, rfl⟩)
    refine hd1.mono ?_
    rintro e w3 ⟨tv, rfl, o3, b3⟩
    obtain ⟨ta, tc, rfl⟩ := own_shape8 o3
    simp only [List.length_nil, zmg]
    have hal3 : ∀ o, Below w3.heap.size w3 (w3.alloc o) := fun o => (Below.refl _ w3).alloc (Nat.le_refl _) o
    have HC := hid (fun o => copyBytes_any _ EN (w3.alloc o) ((HSE.out.below b3).below (hal3 o)) (by rw [← HN.out]; omega))
    have HB3 := hid (fun o => ((HB2.out.trans (b3.mono HB2.out.size)).trans ((hal3 o).mono (HB2.out.trans (b3.mono HB2.out.size)).size)))
    have B3 := fun o => (B2.below b3).below (hal3 o)
    clear hd1 o3 b3 B2 HB2 hal3 HSE
    go_wp2_with fail
    refine (HC.out _).mono ?_
    rintro e w4 ⟨cv, rfl, o4, b4⟩
    have B4 := (B3 _).below b4
    have HB4 := hid ((HB3.out _).trans (b4.mono (HB3.out _).size))
    have hal4 : Below w4.heap.size w4 (w4.alloc (.cells #[.int .u8 more] 5)) := (Below.refl _ w4).alloc (Nat.le_refl _) _
    have hszc : w.heap.size < (w3.alloc (.cells #[.int .i64 0, .int .i64 0, .int .i64 0, .int .i64 0, .int .i64 0, .int .i64 0, .int .i64 0, .int .i64 0, .int .i64 0, .int .i64 0, .int .i64 0, .slice ta 0 tc] 24)).heap.size := (B3 _).lt
    have hszd := b4.size
    have hsb := seg_byte w4 more
    have B5 := B4.below hal4
    have HB5 := hid (HB4.out.trans (hal4.mono HB4.out.size))
    have o5 := ownsRow_below o4 hal4
    clear HC HB3 B3 b4 o4 B4 HB4
    generalize (w3.alloc (.cells #[.int .i64 0, .int .i64 0, .int .i64 0, .int .i64 0, .int .i64 0, .int .i64 0, .int .i64 0, .int .i64 0, .int .i64 0, .int .i64 0, .int .i64 0, .slice ta 0 tc] 24)).heap.size = BC at *
    obtain ⟨ca, cc, hcv⟩ := own_shape8 o5
    rw [← HN.out] at hcv
    subst hcv
    go_wp2_with (at_builtin; refine wpList_append_seg _ rfl (.tmp 51) (.tmp 53) rfl BC _ _ EN [more] rfl (by first | exact o5 | (rw [← HN.out] at *; exact o5)) rfl hsb (by rw [← HN.out]; simp; omega) (Nat.le_trans hszd hal4.size) ?_; intro v5 w5 o6 b6)
    have B6 : MBx w5 w.heap.size x (.slice va d.length vcap) := (b6.block _ hszc).trans B5
    have hb6 := HB5.out.trans (b6.mono (Nat.le_of_lt hszc))
    have HB6 := hid hb6
    have hd2 := HD2.out v5 w5 (Seg.own o6)
    clear B5 HB5 b6 o5 o6 hsb hal4 HD2
    refine hd2.mono ?_
    rintro e w6 ⟨tv, rfl, o7, b7⟩
    obtain ⟨ua, uc, rfl⟩ := own_shape8 o7
    simp only [List.length_nil, zmg]
    have B7 := B6.below b7
    have hb7 := HB6.out.trans (b7.mono HB6.out.size)
    have hal7 : Below w6.heap.size w6 ((w6.alloc (.cells #[.int .i64 0, .int .i64 0, .int .i64 0, .int .i64 0, .int .i64 0, .int .i64 0, .int .i64 0, .int .i64 0, .int .i64 0, .int .i64 0, .int .i64 0, .slice ua 0 uc] 24)).alloc (.cells ⟨x.cells (.slice va d.length vcap)⟩ 24)) := ((Below.refl _ w6).alloc (Nat.le_refl _) _).alloc (by simp) _
    have MB7 : MBx ((w6.alloc (.cells #[.int .i64 0, .int .i64 0, .int .i64 0, .int .i64 0, .int .i64 0, .int .i64 0, .int .i64 0, .int .i64 0, .int .i64 0, .int .i64 0, .int .i64 0, .slice ua 0 uc] 24)).alloc (.cells ⟨x.cells (.slice va d.length vcap)⟩ 24)) (w6.heap.size + 1) x (.slice va d.length vcap) := by
      have := Bx.new (w6.alloc (.cells #[.int .i64 0, .int .i64 0, .int .i64 0, .int .i64 0, .int .i64 0, .int .i64 0, .int .i64 0, .int .i64 0, .int .i64 0, .int .i64 0, .int .i64 0, .slice ua 0 uc] 24)) (x.cells (.slice va d.length vcap)) 24
      simpa [MBx] using this
    have HB7 := hid (hb7.trans (hal7.mono hb7.size))
    have hfr := HFR.out (w6.heap.size + 1) _ MB7 ((HSG.out.below hb7).below hal7)
    obtain ⟨r0, r1, r2, r3, r4, r5, r6, r7, r8, r9, r10, r11⟩ := B7.facts
    have hlt7 := B7.lt
    simp only [Mg.cells] at hfr HB7
    clear hd2 o7 b7 hb7 hal7 MB7 HFR HSG B7 B6 hb6 HB6
    go_wp2_with fail
    refine hfr.mono ?_
    rintro e w8 ⟨fv, rfl, hPo, hSo, b8⟩
    have HB8 := hid (HB7.out.trans (b8.mono HB7.out.size))
    obtain ⟨g2, off2, cap2, hv2, k1, k2, hst2⟩ := seg_take (Part.seg hPo) (by rw [← HF.out]; omega) K2 (by rw [← HF.out]; omega)
    rw [← HF.out] at hv2 k1
    subst hv2
    unfold maxLen at k2
    have hrd := HRD.out _ w8 hst2
    clear hfr HB7 hPo hSo b8 hst2 HRD r0 r1 r2 r3 r4 r5 r6 r7 r8 r9 r10 r11
    by_cases hk0 : K2 = 0
    · subst hk0
      simp only [if_true] at hrd
      go_wp2_with (first | (go_at_call 19; refine (num_any _ _).mono ?_; rintro e w9 ⟨rfl, rfl⟩) | (go_at_call 16; refine hrd.mono ?_; rintro e w10 ⟨rfl, b10⟩))
      go_ret
      exact ⟨rfl, HB8.out.trans (b10.mono HB8.out.size)⟩
    · rw [if_neg hk0] at hrd
      have hk0b : ((K2 : Int) == 0) = false := by simp; omega
      have hk1 : 0 < K2 := by omega
      clear hk0
      go_wp2_with (first | (go_at_call 19; refine (num_any _ _).mono ?_; rintro e w9 ⟨rfl, rfl⟩) | (go_at_call 16; refine hrd.mono ?_; rintro e w10 ⟨rfl, b10⟩))
      go_ret
      exact ⟨rfl, HB8.out.trans (b10.mono HB8.out.size)⟩
  · have hen := fun W hs => mEncode_bad x (.slice va d.length vcap) d W hs hE
    have hbe : (ckM x d == 0) = false := by simp [hE]
    have hbn : (ckM x d != 0) = true := by simp [hE]
    generalize ckM x d = E at *
    have HSG := hid hs
    have HB0 := hid hB0
    have HAL := hid hal
    simp only [Mg.val, Mg.cells] at *
    clear hs hB0 hal hE
    go_enter Try.func6, Try.ntmps6
    go_wp2_with fail
    refine halv.mono ?_
    rintro e w1 ⟨rfl, b1⟩
    have B1 := HB0.out.below b1
    have hb1 := HAL.out.trans (b1.mono HAL.out.size)
    have he1 := hen w1 (HSG.out.below hb1)
    obtain ⟨r0, r1, r2, r3, r4, r5, r6, r7, r8, r9, r10, r11⟩ := B1.facts
    have HB1 := hid hb1
    clear halv HB0 HAL b1 hb1 hen
    go_wp2_with fail
    refine he1.mono ?_
    rintro e w2 ⟨rfl, b2⟩
    have HB2 := hid (HB1.out.trans (b2.mono HB1.out.size))
    clear r0 r1 r2 r3 r4 r5 r6 r7 r8 r9 r10 r11 he1 b2 HB1 B1
    go_wp2_with (go_at_call 19; refine (num_any _ _).mono ?_; rintro e w3 ⟨rfl, rfl⟩)
    go_ret
    exact ⟨rfl, HB2.out⟩

set_option maxRecDepth 100000 in
theorem lifted (os : Os) (started : os.Started) (H : Type) (enc : TypeId × Value → H) :
    ReturnsInHanded {} Try.checked os 6 .any (Rows.messageCutSpec.pre6 enc Try.prog Try.f6 Rows.messageCutRow.domain false) (Rows.messageCutSpec.post enc Try.prog Try.f6 false true false false) := by
  refine returnsInHanded_of_change (C := Try.checked) own started (by kernel_rfl) Try.func6
    (ChangeSpec.witness6 (enc := enc) (C := Try.checked) false ⟨#[], #[.agg #[.int .i64 0, .int .i64 0, .int .i64 0, .int .i64 0, .int .i64 0, .int .i64 0, .int .i64 0, .int .i64 0, .int .i64 0, .int .i64 0, .int .i64 0, .slice none 0 0], .int .i64 0, .int .u8 0], []⟩ 8 (by kernel_rfl) (by kernel_rfl) (by kernel_rfl) (by kernel_rfl)) ?_
  intro W base args ds gs before hval0 hW hcnd _
  have hval : ∀ (j : Nat) t v, Try.f6.params[j]? = some t → args[j]? = some v → Value.okWide Try.prog W .any base t v := hval0
  have hW' := hW
  obtain ⟨p, q, hA0, hV, rfl, hfz, hnd⟩ := hW
  have hA : DataW.TrodAll enc Try.prog W 0 (fun _ => true) true Try.f6.params.toList args.toList ds p := hA0
  rw [Try.params6] at hA hval
  obtain ⟨v0, vs0, d0, ds0, p0, q0, hargs, rfl, rfl, h0, r0⟩ := trodAll_cons hA
  obtain ⟨v1, vs1, d1, ds1, p1, q1, rfl, rfl, rfl, h1, r1⟩ := trodAll_cons r0
  obtain ⟨v2, vs2, d2, ds2, p2, q2, rfl, rfl, rfl, h2, r2⟩ := trodAll_cons r1
  obtain ⟨rfl, rfl, rfl⟩ := trodAll_nil r2
  obtain rfl : args = #[v0, v1, v2] := by cases args; simp_all
  obtain ⟨rfl, rfl⟩ := trodVars_none hV
  have k0 := h0
  have lt0 : ∀ x ∈ p0, x.block < W.heap.size := by obtain ⟨m, hm⟩ := k0; exact DataW.trod_lt m _ _ _ hm
  obtain ⟨x0, y0, l0, hv0, hs0, ho0, e0⟩ := open_msg (hval 0 24 v0 rfl rfl) h0
  subst hv0
  obtain ⟨a1, rfl, rfl, rfl, w1⟩ := open_int Try.underlying3 (hval 1 3 v1 rfl rfl) h1
  obtain ⟨a2, rfl, rfl, rfl, w2⟩ := open_int Try.underlying5 (hval 2 5 v2 rfl rfl) h2
  clear hA0 hval0
  refine (walk x0 y0 l0 hs0 ho0 a1 w1 a2 w2).mono fun e W' ⟨he, bel⟩ => ?_
  subst he
  exact ⟨_, rfl, _, _, _, [], _, [], hW', trodAll_mk1 (shut_bool Try.underlying4 _), (trodAll_cons_mk (Below.trod laidOut (by kernel_rfl) (of_decide_eq_true (by kernel_rfl)) k0 bel lt0) (trodAll_cons_mk (shut_int Try.underlying3 w1) (trodAll_cons_mk (shut_int Try.underlying5 w2) trodAll_mk0))), rfl, bel.frame _, fun h => by cases h⟩

theorem over : Rows.messageCutRow.holds Try.pinned (OpenSpec.ofChange Rows.messageCutSpec) :=
  OpenClaim.holds_of_wide 6 Try.f6 rfl rfl rfl rfl rfl rfl rfl ⟨rfl, rfl, rfl, rfl, rfl⟩ rfl rfl rfl rfl rfl (by kernel_rfl) Try.func6 (by kernel_rfl)
    (of_decide_eq_true (by kernel_rfl)) (by unfold Func.isWrapper; first | (rw [if_pos (by decide +kernel)]; kernel_rfl) | (rw [if_neg (by decide +kernel)]; exact ⟨rfl, rfl⟩))
    (fun os started H enc _ => lifted os started H enc)
end Go.Proofs.Ytoadcaennlfadaa.messageCut

namespace Go.Proofs.Ytoadcaennlfadaa
/-- THE STATEMENT. -/
theorem messageCut_holds : Rows.MessageCutSaid := messageCut.over
#print axioms messageCut_holds
end Go.Proofs.Ytoadcaennlfadaa
