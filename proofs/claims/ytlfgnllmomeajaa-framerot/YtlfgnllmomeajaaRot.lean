/- For all octets p, every int at and every octet turn: a frame of p of which one octet, behind those of its length, is another one is not taken: ErrCorrupt, and nothing beside it (the law FrameRot answers true), and no argument changes. No condition. -/
import Derived.Test.YtlfgnllmomeajaaOpen
import Derived.Test.YtlfgnllmomeajaaFE
namespace Go.Proofs.Ytlfgnllmomeajaa.frameRot
open Go.ChangeShapes Go.WideShapes Go.ChangeAt Go.RowKit
open Go.ChangeMaps (open_string shut_string)

theorem part_set {w : World} {g off n cap : Nat} {l : List Int} (h : Part w 5 (.slice (some ⟨g, off, none⟩) n cap) (u8s l)) (k : Nat) (hk : k < l.length) (z : Int) :
    w.cell? ⟨g, off + k, none⟩ = some (.int .u8 (l.getD k 0)) ∧ w.frozen? ⟨g, off + k, none⟩ = false ∧ Seg .u8 (w.setCell ⟨g, off + k, none⟩ (.int .u8 z)) (.slice (some ⟨g, off, none⟩) n cap) (l.set k z) := by
  have hc := h.cells
  rcases id h with ⟨h', _⟩ | ⟨g', off', cap', cur, h', hg, hnc, hcm, hcs, htake⟩
  · simp at h'
  · simp only [Value.slice.injEq, Option.some.injEq, Addr.mk.injEq, and_true] at h'
    obtain ⟨⟨rfl, rfl⟩, rfl, rfl⟩ := h'
    refine ⟨hc k _ (by simp [List.getD, hk]), frozen_of_row w g _ cur 5 hg, Part.seg (e := 5) (.inr ⟨g, off, cap, cur.setIfInBounds (off + k) (.int .u8 z), by simp, heap_setCell_same w g _ cur 5 _ hg, by simpa using hnc, hcm, by simpa using hcs, ?_⟩)⟩
    rw [Array.toList_setIfInBounds, List.drop_set, if_neg (by omega), Nat.add_sub_cancel_left, List.length_map, List.length_set, List.take_set, List.map_set]
    rw [List.length_map] at htake
    rw [htake]

set_option maxHeartbeats 1000000 in
set_option maxRecDepth 4000 in
theorem walk (v0 : Value) (p : List Int) {w : World} (hs0 : Seg .u8 w v0 p) (ho : ∀ z ∈ p, 0 ≤ z ∧ z ≤ 255) (at_ : Int) (x1 : (Lit.int .i64 at_).wf = true) (turn : Int) (x2 : (Lit.int .u8 turn).wf = true) :
    Calls Try.prog 7 #[v0, .int .i64 at_, .int .u8 turn] w fun e w' => e = .returned (.bool true) ∧ Below w.heap.size w w' := by
  obtain ⟨hp0, hp1⟩ := bounds_i64 x1
  obtain ⟨ht0, ht1⟩ := bounds_u8 x2
  clear x1 x2
  obtain ⟨a0, c0, hv0, hc1, hc2, _, _⟩ := id hs0
  generalize hpl : p.length = pn at hv0 hc1
  subst hv0
  go_enter Try.func7, Try.ntmps7
  go_wp2_with fail
  refine (alive_any w).mono ?_
  rintro e w1 ⟨rfl, hb1⟩
  have hs1 := hs0.below hb1
  by_cases hbad : Pl.errP p = 0
  · have hfit : Pl.fits p := by
      unfold Pl.errP at hbad
      refine ⟨?_, ?_, ho⟩ <;> (split at hbad <;> first | (simp at hbad) | (split at hbad <;> simp_all))
      all_goals omega
    go_wp2_with fail
    refine (fput_one _ rfl (Seg.nil _ _) hs1 hfit (by simp)).mono ?_
    rintro e w2 ⟨v2, rfl, hP2, hsi2, hb2⟩
    rw [List.nil_append] at hP2
    have hb02 := hb1.trans (hb2.mono hb1.size)
    have hfl := Pl.frame_len p
    have hel := Pl.enc_len_le 9 p.length
    have hf1 := hfit.1
    have hf2 := hfit.2.1
    obtain ⟨g, off, cap, hv2, hc1, hc2⟩ := hP2.at (by rw [List.length_map, hfl]; omega)
    rw [List.length_map] at hv2
    subst hv2
    by_cases htz : turn = 0
    · subst htz
      go_wp2_with (go_at_call 17; refine (num_any _ _).mono ?_; rintro e w3 ⟨rfl, rfl⟩)
      go_ret
      exact ⟨rfl, hb02⟩
    · have htb : (turn == 0) = false := by simp; exact htz
      unfold maxLen at hc2
      rw [List.length_map, hfl] at hc1
      have HFL : Hid ((Pl.frameOf p).length = (Pl.enc 9 p.length).length + p.length + 4) := hfl
      generalize hF : (Pl.frameOf p).length = F at *
      generalize hH : (Pl.enc 9 p.length).length = H at *
      rw [hpl] at hfl hf1 hf2 hc1
      subst hfl
      obtain ⟨N, hN⟩ : ∃ N : Nat, N = pn + 4 := ⟨_, rfl⟩
      have e1 : (H : Int) + pn + 4 - pn - 4 = H := by omega
      have e2 : (H : Int) + pn + 4 - H = N := by omega
      have hb1' := hb1
      have hb1 : -(N : Int) < at_.tmod N ∧ at_.tmod N < N := by
        have h1 := Int.tmod_lt_of_pos at_ (show (0 : Int) < N by omega)
        have h2 := Int.lt_tmod_of_pos at_ (show (0 : Int) < N by omega)
        omega
      have hq : 0 ≤ at_.tmod N + N := by omega
      obtain ⟨K, hK⟩ := Int.eq_ofNat_of_zero_le (Int.tmod_nonneg (N : Int) hq)
      have hKN : (K : Int) < N := by
        rw [← hK]
        exact Int.tmod_lt_of_pos _ (by omega)
      have hne : ((N : Int) == 0) = false := by simp; omega
      obtain ⟨hcell, hfroz, hseg⟩ := part_set hP2 (H + K) (by omega) (((Pl.frameOf p).getD (H + K) 0).toNat ^^^ turn.toNat : Nat)
      have hx := octs_frame' hfit ((Pl.frameOf p).getD (H + K) 0) (getD_mem (by omega))
      have hrot := Pl.getF_rot p (H + K) turn.toNat hfit (by omega) (by omega) (by omega) (by omega)
      obtain ⟨T, rfl⟩ := Int.eq_ofNat_of_zero_le ht0
      obtain ⟨x, hxe⟩ := Int.eq_ofNat_of_zero_le hx.1
      rw [hxe] at hx hcell hseg hrot
      simp only [Int.toNat_natCast] at hseg hrot
      have hxor : bits .xor .u8 (x : Int) (T : Int) = ((x ^^^ T : Nat) : Int) := u8_xor_nat _ _ (by omega) (by omega)
      have hzo : ((x ^^^ T : Nat) : Int) ≤ 255 := by
        have := Nat.xor_lt_two_pow (show x < 2 ^ 8 by omega) (show T < 2 ^ 8 by omega)
        omega
      have hoz : Pl.Octs ((Pl.frameOf p).set (H + K) ((x ^^^ T : Nat) : Int)) := by
        intro z hz
        rcases List.mem_or_eq_of_mem_set hz with hz | rfl
        · exact octs_frame' hfit z hz
        · omega
      generalize x ^^^ T = Z at *
      have hbs : Below w.heap.size w (w2.setCell ⟨g, off + (H + K), none⟩ (.int .u8 Z)) := hb02.setCell (by have := hsi2 g rfl; have := hb1'.size; simp; omega) _
      have hget := fget_is _ _ _ _ _ _ hseg hoz hrot
      have hN1 : N ≤ pn + 4 := by omega
      have hN2 : pn + 4 ≤ N := by omega
      have hKN' : K < N := by omega
      clear hrot hseg hP2 hs1 hs0 hN hKN
      go_wp2_with (first | (go_at_call 17; refine (num_any _ _).mono ?_; rintro e w3 ⟨rfl, rfl⟩) | (go_at_call 12; refine hget.mono ?_; rintro e w4 ⟨v4, rfl, hown4, hb4⟩; obtain ⟨a4, c4, rfl, _, _, _, _⟩ := Seg.own (l := []) hown4; clear hown4))
      go_ret
      exact ⟨rfl, hbs.trans (hb4.mono hbs.size)⟩
  · go_wp2_with fail
    refine (fput_none _ rfl hs1 hbad).mono ?_
    rintro e w2 ⟨rfl, hb2⟩
    have hb02 := hb1.trans (hb2.mono hb1.size)
    generalize Pl.errP p = ep at *
    have hbb : (ep == 0) = false := by simp; exact hbad
    go_wp2_with (go_at_call 17; refine (num_any _ _).mono ?_; rintro e w3 ⟨rfl, rfl⟩)
    go_ret
    exact ⟨rfl, hb02⟩

set_option maxRecDepth 100000 in
theorem lifted (os : Os) (started : os.Started) (H : Type) (enc : TypeId × Value → H) :
    ReturnsInHanded {} Try.checked os 7 .any (Rows.frameRotSpec.pre6 enc Try.prog Try.f7 Rows.frameRotRow.domain false) (Rows.frameRotSpec.post enc Try.prog Try.f7 false true false false) := by
  refine returnsInHanded_of_change (C := Try.checked) own started (by kernel_rfl) Try.func7
    (ChangeSpec.witness6 (enc := enc) (C := Try.checked) false ⟨#[], #[.slice none 0 0, .int .i64 0, .int .u8 0], []⟩ 8 (by kernel_rfl) (by kernel_rfl) (by kernel_rfl) (by kernel_rfl)) ?_
  intro W base args ds gs before hval0 hW hcnd _
  have hval : ∀ (j : Nat) t v, Try.f7.params[j]? = some t → args[j]? = some v → Value.okWide Try.prog W .any base t v := hval0
  have hW' := hW
  obtain ⟨p, q, hA0, hV, rfl, hfz, hnd⟩ := hW
  have hA : DataW.TrodAll enc Try.prog W 0 (fun _ => true) true Try.f7.params.toList args.toList ds p := hA0
  rw [Try.params7] at hA hval
  obtain ⟨v0, vs0, d0, ds0, p0, q0, hargs, rfl, rfl, h0, r0⟩ := trodAll_cons hA
  obtain ⟨v1, vs1, d1, ds1, p1, q1, rfl, rfl, rfl, h1, r1⟩ := trodAll_cons r0
  obtain ⟨v2, vs2, d2, ds2, p2, q2, rfl, rfl, rfl, h2, r2⟩ := trodAll_cons r1
  obtain ⟨rfl, rfl, rfl⟩ := trodAll_nil r2
  obtain rfl : args = #[v0, v1, v2] := by cases args; simp_all
  obtain ⟨rfl, rfl⟩ := trodVars_none hV
  have k0 := h0
  have lt0 : ∀ x ∈ p0, x.block < W.heap.size := by obtain ⟨m, hm⟩ := k0; exact DataW.trod_lt m _ _ _ hm
  obtain ⟨l0, hs0, ho0, e0⟩ := open_octets (hval 0 22 v0 rfl rfl) h0
  obtain ⟨a1, rfl, rfl, rfl, w1⟩ := open_int Try.underlying3 (hval 1 3 v1 rfl rfl) h1
  obtain ⟨a2, rfl, rfl, rfl, w2⟩ := open_int Try.underlying5 (hval 2 5 v2 rfl rfl) h2
  clear hA0 hval0
  refine (walk v0 l0 hs0 ho0 a1 w1 a2 w2).mono fun e W' ⟨he, bel⟩ => ?_
  subst he
  exact ⟨_, rfl, _, _, _, [], _, [], hW', trodAll_mk1 (shut_bool Try.underlying4 _), (trodAll_cons_mk (Below.trod laidOut (by kernel_rfl) (of_decide_eq_true (by kernel_rfl)) k0 bel lt0) (trodAll_cons_mk (shut_int Try.underlying3 w1) (trodAll_cons_mk (shut_int Try.underlying5 w2) trodAll_mk0))), rfl, bel.frame _, fun h => by cases h⟩

theorem over : Rows.frameRotRow.holds Try.pinned (OpenSpec.ofChange Rows.frameRotSpec) :=
  OpenClaim.holds_of_wide 7 Try.f7 rfl rfl rfl rfl rfl rfl rfl ⟨rfl, rfl, rfl, rfl, rfl⟩ rfl rfl rfl rfl rfl (by kernel_rfl) Try.func7 (by kernel_rfl)
    (of_decide_eq_true (by kernel_rfl)) (by unfold Func.isWrapper; first | (rw [if_pos (by decide +kernel)]; kernel_rfl) | (rw [if_neg (by decide +kernel)]; exact ⟨rfl, rfl⟩))
    (fun os started H enc _ => lifted os started H enc)
end Go.Proofs.Ytlfgnllmomeajaa.frameRot

namespace Go.Proofs.Ytlfgnllmomeajaa
/-- THE STATEMENT. -/
theorem frameRot_holds : Rows.FrameRotSaid := frameRot.over
#print axioms frameRot_holds
end Go.Proofs.Ytlfgnllmomeajaa
