/- For all octets b: what Decode takes as a message is just its own octets; of the others nothing is told (the law MessageJust answers true), and no other memory is touched. -/
import Derived.Test.YtoadcaennlfadaaOpen
import Derived.Test.YtoadcaennlfadaaMN4
import Derived.Test.YtoadcaennlfadaaJP
import Derived.Test.YtoadcaennlfadaaMN6
namespace Go.Proofs.Ytoadcaennlfadaa.messageJust
open Go.ChangeShapes Go.WideShapes Go.ChangeAt Go.RowKit
open Go.ChangeMaps (open_string shut_string)
set_option maxRecDepth 20000

set_option maxHeartbeats 8000000 in
theorem walk (v : Value) (l : List Int) {w : World} (hs : Seg .u8 w v l) (ho : ∀ z ∈ l, 0 ≤ z ∧ z ≤ 255) (hz : l.length ≤ 140737488351232) :
    Calls Try.prog 5 #[v] w fun e w' => e = .returned (.bool true) ∧ Below w.heap.size w w' := by
  have hal := malive_any w
  have hde := fun W hs => mDecode_any v l W hs ho (by omega)
  obtain ⟨a, cap, rfl, _⟩ := id hs
  obtain ⟨x, t, er, hd⟩ : ∃ x t er, dcm l = (x, t, er) := ⟨_, _, _, rfl⟩
  rw [hd] at hde
  simp only at hde
  by_cases h0 : er = 0
  · subst h0
    obtain ⟨hck, hen, hot⟩ := dcm_just ho hd
    have hec := fun tv W hs => mEncode_ok x tv t W hs hck
    rw [hen] at hec
    have HS := hid hs
    have HO := hid ho
    clear hd hck hen hs ho hz
    simp only [Mg.val] at hde hec
    go_enter Try.func5, Try.ntmps5
    go_wp2_with fail
    refine hal.mono ?_
    rintro e w1 ⟨rfl, b1⟩
    have h1 := hde w1 (HS.out.below b1)
    clear hal hde
    go_wp2_with fail
    refine h1.mono ?_
    rintro e w2 ⟨tv, rfl, o2, b2⟩
    obtain ⟨ta, tc, rfl⟩ := own_shape8 o2
    have B3 := Bx.new w2 (x.cells (.slice ta t.length tc)) 24
    have hal3 : Below w2.heap.size w2 (w2.alloc (.cells ⟨x.cells (.slice ta t.length tc)⟩ 24)) := (Below.refl _ w2).alloc (Nat.le_refl _) _
    have h3 := hec (.slice ta t.length tc) _ ((Seg.own o2).below hal3)
    have HB3 := hid ((b1.trans (b2.mono b1.size)).trans (hal3.mono (b1.trans (b2.mono b1.size)).size))
    simp only [Mg.cells] at h3 HB3
    clear h1 hec b1 b2 hal3 B3 o2
    go_wp2_with (go_at_call 19; refine (num_any _ _).mono ?_; rintro e w3 ⟨rfl, rfl⟩)
    refine h3.mono ?_
    rintro e w4 ⟨ev, rfl, o4, b4⟩
    have s4 := HB3.out.trans (b4.mono HB3.out.size)
    have HB4 := hid s4
    have hsb := fun W hb => sameBytes_any (.slice a l.length cap) ev l l W ((HS.out.below s4).below hb) ((Seg.own o4).below hb) HO.out HO.out
    obtain ⟨ea, ec, rfl⟩ := own_shape8 o4
    have hll : (l == l) = true := by simp
    rw [hll] at hsb
    clear h3 b4 s4 o4 HB3 HS HO hll
    go_wp2_with (first | (go_at_call 19; refine (num_any _ _).mono ?_; rintro e w5 ⟨rfl, rfl⟩) | (go_at_call 18; refine (hsb _ (Below.refl _ _)).mono ?_; rintro e w6 ⟨rfl, rfl⟩))
    go_ret
    exact ⟨rfl, HB4.out⟩
  · have hbad := dcm_bad (l := l) (by rw [hd]; exact h0)
    rw [hd] at hbad
    simp only [Prod.mk.injEq] at hbad
    obtain ⟨rfl, rfl, _⟩ := hbad
    have hbe : (er == 0) = false := by simp [h0]
    have hbn : (er != 0) = true := by simp [h0]
    have hsa := fun tv W (hs : Seg .u8 W tv []) => sameMsg_any zmg zmg tv (.slice none 0 0) [] [] W hs (Seg.nil _ _) (by simp) (by simp)
    rw [sameM_self] at hsa
    have HS := hid hs
    clear hd hs ho hz
    simp only [Mg.val, zmg, List.length_nil] at hde hsa
    go_enter Try.func5, Try.ntmps5
    go_wp2_with fail
    refine hal.mono ?_
    rintro e w1 ⟨rfl, b1⟩
    have h1 := hde w1 (HS.out.below b1)
    clear hal hde
    go_wp2_with fail
    refine h1.mono ?_
    rintro e w2 ⟨tv, rfl, o2, b2⟩
    obtain ⟨ta, tc, rfl⟩ := own_shape8 o2
    have hal3 : Below w2.heap.size w2 (w2.alloc (.cells ⟨zmg.cells (.slice ta 0 tc)⟩ 24)) := (Below.refl _ w2).alloc (Nat.le_refl _) _
    have h3 := hsa (.slice ta 0 tc) _ ((Seg.own (l := []) o2).below hal3)
    have HB3 := hid ((b1.trans (b2.mono b1.size)).trans (hal3.mono (b1.trans (b2.mono b1.size)).size))
    simp only [Mg.cells, zmg] at h3 HB3
    clear h1 hsa b1 b2 hal3 o2
    go_wp2_with (go_at_call 19; refine (num_any _ _).mono ?_; rintro e w3 ⟨rfl, rfl⟩)
    refine h3.mono ?_
    rintro e w4 ⟨rfl, b4⟩
    have HB4 := hid (HB3.out.trans (b4.mono HB3.out.size))
    clear h3 b4 HB3
    go_wp2
    go_ret
    exact ⟨rfl, HB4.out⟩

set_option maxRecDepth 100000 in
theorem lifted (os : Os) (started : os.Started) (H : Type) (enc : TypeId × Value → H) :
    ReturnsInHanded {} Try.checked os 5 .any (Rows.messageJustSpec.pre6 enc Try.prog Try.f5 Rows.messageJustRow.domain false) (Rows.messageJustSpec.post enc Try.prog Try.f5 false true false false) := by
  refine returnsInHanded_of_change_sized (C := Try.checked) own started (by kernel_rfl) Try.func5
    (ChangeSpec.witness6 (enc := enc) (C := Try.checked) false ⟨#[], #[.slice none 0 0], []⟩ 8 (by kernel_rfl) (by kernel_rfl) (by kernel_rfl) (by kernel_rfl)) ?_
  intro W base args ds gs before hval0 hW hcnd hsz0 _
  have hval : ∀ (j : Nat) t v, Try.f5.params[j]? = some t → args[j]? = some v → Value.okWide Try.prog W .any base t v := hval0
  have hsz : (DataW.weightsEach Try.prog (Try.f5.params.toList ++ Rows.messageJustSpec.plain.varTypes Try.prog) (ds ++ gs)).all (· ≤ reachBytes) = true := hsz0
  have hW' := hW
  obtain ⟨p, q, hA0, hV, rfl, hfz, hnd⟩ := hW
  have hA : DataW.TrodAll enc Try.prog W 0 (fun _ => true) true Try.f5.params.toList args.toList ds p := hA0
  rw [Try.params5] at hA hval hsz
  obtain ⟨v0, vs0, d0, ds0, p0, q0, hargs, rfl, rfl, h0, r0⟩ := trodAll_cons hA
  obtain ⟨rfl, rfl, rfl⟩ := trodAll_nil r0
  obtain rfl : args = #[v0] := by cases args; simp_all
  obtain ⟨rfl, rfl⟩ := trodVars_none hV
  have k0 := h0
  have lt0 : ∀ x ∈ p0, x.block < W.heap.size := by obtain ⟨m, hm⟩ := k0; exact DataW.trod_lt m _ _ _ hm
  obtain ⟨l0, hs0, ho0, e0⟩ := open_octets (hval 0 22 v0 rfl rfl) h0
  have z0 : l0.length ≤ 140737488351232 := by
    rcases e0 with ⟨_, rfl⟩ | ⟨elems, spare, rfl, hl⟩
    · simp
    · have := sized_slice hsz (j := 0) (t := 22) (e := 5) rfl rfl Try.underlying22
      rw [Try.bytes5] at this
      simp only [reachBytes] at this
      omega
  clear hA0 hval0
  refine (walk v0 l0 hs0 ho0 z0).mono fun e W' ⟨he, bel⟩ => ?_
  subst he
  exact ⟨_, rfl, _, _, _, [], _, [], hW', trodAll_mk1 (shut_bool Try.underlying4 _), (trodAll_cons_mk (Below.trod laidOut (by kernel_rfl) (of_decide_eq_true (by kernel_rfl)) k0 bel lt0) trodAll_mk0), rfl, bel.frame _, fun h => by cases h⟩

theorem over : Rows.messageJustRow.holds Try.pinned (OpenSpec.ofChange Rows.messageJustSpec) :=
  OpenClaim.holds_of_wide 5 Try.f5 rfl rfl rfl rfl rfl rfl rfl ⟨rfl, rfl, rfl, rfl, rfl⟩ rfl rfl rfl rfl rfl (by kernel_rfl) Try.func5 (by kernel_rfl)
    (of_decide_eq_true (by kernel_rfl)) (by unfold Func.isWrapper; first | (rw [if_pos (by decide +kernel)]; kernel_rfl) | (rw [if_neg (by decide +kernel)]; exact ⟨rfl, rfl⟩))
    (fun os started H enc _ => lifted os started H enc)
end Go.Proofs.Ytoadcaennlfadaa.messageJust

namespace Go.Proofs.Ytoadcaennlfadaa
/-- THE STATEMENT. -/
theorem messageJust_holds : Rows.MessageJustSaid := messageJust.over
#print axioms messageJust_holds
end Go.Proofs.Ytoadcaennlfadaa
