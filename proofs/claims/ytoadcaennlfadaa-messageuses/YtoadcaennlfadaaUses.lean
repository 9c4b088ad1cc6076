/- For every message m: with something that its kind does not use it is refused; with all of that zero it may be (the law MessageUses answers true), and no other memory is touched. -/
import Derived.Test.YtoadcaennlfadaaMN5
import Derived.Test.YtoadcaennlfadaaUA0
import Derived.Test.YtoadcaennlfadaaUA1
import Derived.Test.YtoadcaennlfadaaUA2
import Derived.Test.YtoadcaennlfadaaUA3
import Derived.Test.YtoadcaennlfadaaUA4
import Derived.Test.YtoadcaennlfadaaUA5
import Derived.Test.YtoadcaennlfadaaUA6
namespace Go.Proofs.Ytoadcaennlfadaa.messageUses
open Go.ChangeShapes Go.WideShapes Go.ChangeAt Go.RowKit
open Go.ChangeMaps (open_string shut_string)
set_option maxRecDepth 20000

theorem walk (m : Mg) (v : Value) (d : List Int) {w : World} (hs : Seg .u8 w v d) (ho : ∀ z ∈ d, 0 ≤ z ∧ z ≤ 255) :
    Calls Try.prog 7 #[m.val v] w fun e w' => e = .returned (.bool true) ∧ Below w.heap.size w w' := by
  rcases ck_five m d with hE | hE | hE | hE | hE
  · exact usesE_23 m v d w hs hE
  · exact usesE_4 m v d w hs hE
  · exact usesE_5 m v d w hs hE
  · have hsm := uses_same hE
    obtain ⟨h1, _⟩ := ck_zero hE
    rcases kinds h1 with hk | hk | hk | hk | hk | hk | hk | hk
    · exact usesT_1 m v d w hs ho 0 hE rfl rfl rfl hk hsm
    · exact usesT_2 m v d w hs ho 0 hE rfl rfl rfl hk hsm
    · exact usesT_3 m v d w hs ho 0 hE rfl rfl rfl hk hsm
    · exact usesT_4 m v d w hs ho 0 hE rfl rfl rfl hk hsm
    · exact usesT_5 m v d w hs ho 0 hE rfl rfl rfl hk hsm
    · exact usesT_6 m v d w hs ho 0 hE rfl rfl rfl hk hsm
    · exact usesT_7 m v d w hs ho 0 hE rfl rfl rfl hk hsm
    · exact usesT_8 m v d w hs ho 0 hE rfl rfl rfl hk hsm
  · obtain ⟨h1, _⟩ := ck_nine hE
    cases hsm : sameM (usesX m) m (usesD m d) d with
    | true =>
      rcases kinds h1 with hk | hk | hk | hk | hk | hk | hk | hk
      · exact usesT_1 m v d w hs ho 9 hE rfl rfl rfl hk hsm
      · exact usesT_2 m v d w hs ho 9 hE rfl rfl rfl hk hsm
      · exact usesT_3 m v d w hs ho 9 hE rfl rfl rfl hk hsm
      · exact usesT_4 m v d w hs ho 9 hE rfl rfl rfl hk hsm
      · exact usesT_5 m v d w hs ho 9 hE rfl rfl rfl hk hsm
      · exact usesT_6 m v d w hs ho 9 hE rfl rfl rfl hk hsm
      · exact usesT_7 m v d w hs ho 9 hE rfl rfl rfl hk hsm
      · exact usesT_8 m v d w hs ho 9 hE rfl rfl rfl hk hsm
    | false =>
      have hx : ∀ k, m.k = k → (k = 3 ∨ k = 4) → False := fun k hk h34 => by
        have h1 : usesX m = m := by unfold usesX; rw [if_neg (by omega), if_neg (by omega)]
        have h2 : usesD m d = d := by unfold usesD; rw [if_pos (by omega)]
        rw [h1, h2, sameM_self] at hsm
        cases hsm
      rcases kinds h1 with hk | hk | hk | hk | hk | hk | hk | hk
      · exact usesF_1 m v d w hs ho hE hk hsm
      · exact usesF_2 m v d w hs ho hE hk hsm
      · exact absurd (.inl rfl) (hx 3 hk)
      · exact absurd (.inr rfl) (hx 4 hk)
      · exact usesF_5 m v d w hs ho hE hk hsm
      · exact usesF_6 m v d w hs ho hE hk hsm
      · exact usesF_7 m v d w hs ho hE hk hsm
      · exact usesF_8 m v d w hs ho hE hk hsm

set_option maxRecDepth 100000 in
theorem lifted (os : Os) (started : os.Started) (H : Type) (enc : TypeId × Value → H) :
    ReturnsInHanded {} Try.checked os 7 .any (Rows.messageUsesSpec.pre6 enc Try.prog Try.f7 Rows.messageUsesRow.domain false) (Rows.messageUsesSpec.post enc Try.prog Try.f7 false true false false) := by
  refine returnsInHanded_of_change (C := Try.checked) own started (by kernel_rfl) Try.func7
    (ChangeSpec.witness6 (enc := enc) (C := Try.checked) false ⟨#[], #[.agg #[.int .i64 0, .int .i64 0, .int .i64 0, .int .i64 0, .int .i64 0, .int .i64 0, .int .i64 0, .int .i64 0, .int .i64 0, .int .i64 0, .int .i64 0, .slice none 0 0]], []⟩ 8 (by kernel_rfl) (by kernel_rfl) (by kernel_rfl) (by kernel_rfl)) ?_
  intro W base args ds gs before hval0 hW hcnd _
  have hval : ∀ (j : Nat) t v, Try.f7.params[j]? = some t → args[j]? = some v → Value.okWide Try.prog W .any base t v := hval0
  have hW' := hW
  obtain ⟨p, q, hA0, hV, rfl, hfz, hnd⟩ := hW
  have hA : DataW.TrodAll enc Try.prog W 0 (fun _ => true) true Try.f7.params.toList args.toList ds p := hA0
  rw [Try.params7] at hA hval
  obtain ⟨v0, vs0, d0, ds0, p0, q0, hargs, rfl, rfl, h0, r0⟩ := trodAll_cons hA
  obtain ⟨rfl, rfl, rfl⟩ := trodAll_nil r0
  obtain rfl : args = #[v0] := by cases args; simp_all
  obtain ⟨rfl, rfl⟩ := trodVars_none hV
  have k0 := h0
  have lt0 : ∀ x ∈ p0, x.block < W.heap.size := by obtain ⟨m, hm⟩ := k0; exact DataW.trod_lt m _ _ _ hm
  obtain ⟨x0, y0, l0, hv0, hs0, ho0, e0⟩ := open_msg (hval 0 24 v0 rfl rfl) h0
  subst hv0
  clear hA0 hval0
  refine (walk x0 y0 l0 hs0 ho0).mono fun e W' ⟨he, bel⟩ => ?_
  subst he
  exact ⟨_, rfl, _, _, _, [], _, [], hW', trodAll_mk1 (shut_bool Try.underlying4 _), (trodAll_cons_mk (Below.trod laidOut (by kernel_rfl) (of_decide_eq_true (by kernel_rfl)) k0 bel lt0) trodAll_mk0), rfl, bel.frame _, fun h => by cases h⟩

theorem over : Rows.messageUsesRow.holds Try.pinned (OpenSpec.ofChange Rows.messageUsesSpec) :=
  OpenClaim.holds_of_wide 7 Try.f7 rfl rfl rfl rfl rfl rfl rfl ⟨rfl, rfl, rfl, rfl, rfl⟩ rfl rfl rfl rfl rfl (by kernel_rfl) Try.func7 (by kernel_rfl)
    (of_decide_eq_true (by kernel_rfl)) (by unfold Func.isWrapper; first | (rw [if_pos (by decide +kernel)]; kernel_rfl) | (rw [if_neg (by decide +kernel)]; exact ⟨rfl, rfl⟩))
    (fun os started H enc _ => lifted os started H enc)
end Go.Proofs.Ytoadcaennlfadaa.messageUses

namespace Go.Proofs.Ytoadcaennlfadaa
/-- THE STATEMENT. -/
theorem messageUses_holds : Rows.MessageUsesSaid := messageUses.over
#print axioms messageUses_holds
end Go.Proofs.Ytoadcaennlfadaa
