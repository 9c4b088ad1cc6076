/- SubsetChanges: what came and what went, put together, make the one list of the other: for every two lists and every number. -/
import Derived.Test.YtdgdhhbapgfjgaaRows
import Derived.BigQuiet
import Derived.Deep.QuietTactic
import Derived.WalkKit
import Derived.ProofKit
import Derived.OpenShut
import Derived.ShutString
import Derived.Test.YtdgdhhbapgfjgaaSH2
import Derived.Test.YtdgdhhbapgfjgaaOpen
import Derived.Test.YtdgdhhbapgfjgaaOpenI
namespace Go.Proofs.Ytdgdhhbapgfjgaa.subsetChanges
open Go.ChangeShapes Go.WideShapes Go.ChangeAt Go.RowKit
open Go.ChangeMaps (open_string shut_string)
open Go.Sort Go.Shelf
set_option linter.unusedVariables false
set_option maxRecDepth 20000

set_option maxHeartbeats 4000000 in
theorem walk_v (v u : Value) (old ids : List Int) (x : Int) (w : World) (MO GO : List Int) (hs : Seg .i64 w v old) (ho : Seg .i64 w u ids) (I O : Bool) (hI : I = decide (x ∈ ids)) (hO : O = decide (x ∈ old)) (hM : decide (x ∈ MO) = (I && !O)) (hG : decide (x ∈ GO) = (O && !I))
    (C1 : ∀ w : World, Seg .i64 w v old → Seg .i64 w u ids → Calls Try.prog 16 #[v, u] w fun e w' => ∃ v1 v2, e = .returned (.tuple #[v1, v2]) ∧ Seg .i64 w' v1 MO ∧ Seg .i64 w' v2 GO ∧ Below w.heap.size w w') :
    Calls Try.prog 7 #[v, u, .int .i64 x] w fun e w' => e = .returned (.bool true) ∧ Below w.heap.size w w' := by
  have ca := alive_any w
  have HS := hidD hs
  have HO := hidD ho
  obtain ⟨a, cap, rfl, q1, q2, _, _⟩ := hs
  obtain ⟨a2, cap2, rfl, q3, q4, _, _⟩ := ho
  go_enter Try.func7, Try.ntmps7
  go_wp2_with fail
  with_reducible refine ca.mono ?_
  rintro e w1 ⟨rfl, b1⟩
  have cc := C1 w1 (HS.out.below b1) (HO.out.below b1)
  clear ca C1
  go_wp2_with fail
  with_reducible refine cc.mono ?_
  rintro e w2 ⟨v3, v4, rfl, s3, s4, b2⟩
  have B2 := Below.step b1 b2
  have ho2 := has_any _ old x w2 (HS.out.below B2)
  have hi2 := has_any _ ids x w2 (HO.out.below B2)
  have hm2 := has_any _ MO x w2 s3
  have hg2 := has_any _ GO x w2 s4
  rw [← hO] at ho2
  rw [← hI] at hi2
  rw [hM] at hm2
  rw [hG] at hg2
  obtain ⟨a3, cap3, rfl, _, _, _, _⟩ := s3
  obtain ⟨a4, cap4, rfl, _, _, _, _⟩ := s4
  clear cc b1 b2 hI hO hM hG HS HO
  generalize old.length = n1 at *
  generalize ids.length = n2 at *
  generalize MO.length = n3 at *
  generalize GO.length = n4 at *
  rcases I with _ | _ <;> rcases O with _ | _
  all_goals
    simp only [Bool.and_true, Bool.and_false, Bool.not_true, Bool.not_false] at hm2 hg2
    go_wp2_with (go_at_call 21; first | (with_reducible refine ho2.mono ?_; rintro e w4 ⟨rfl, rfl⟩) | (with_reducible refine hi2.mono ?_; rintro e w4 ⟨rfl, rfl⟩) | (with_reducible refine hm2.mono ?_; rintro e w4 ⟨rfl, rfl⟩) | (with_reducible refine hg2.mono ?_; rintro e w4 ⟨rfl, rfl⟩))
    go_ret
    exact ⟨by first | rfl | simp, B2⟩

theorem walk {w : World} (v0 : Value) (l0 : List Int) (hs0 : Seg .i64 w v0 l0) (ho0 : ∀ z ∈ l0, -9223372036854775808 ≤ z ∧ z ≤ 9223372036854775807) (z0 : l0.length ≤ 17592186043904) (v1 : Value) (l1 : List Int) (hs1 : Seg .i64 w v1 l1) (ho1 : ∀ z ∈ l1, -9223372036854775808 ≤ z ∧ z ≤ 9223372036854775807) (z1 : l1.length ≤ 17592186043904) (x : Int) (w3 : (Lit.int .i64 x).wf = true) :
    Calls Try.prog 7 #[v0, v1, .int .i64 x] w fun e w' => e = .returned (.bool true) ∧ Below w.heap.size w w' := by
  refine walk_v v0 v1 l0 l1 x w _ _ hs0 hs1 _ _ rfl rfl ?_ ?_ (fun w h1 h2 => change_any v0 v1 l0 l1 w h1 h2 (by omega) (by omega))
  · rw [Bool.eq_iff_iff]
    simp [Sp.wo_mem, Sp.onc_mem]
  · rw [Bool.eq_iff_iff]
    simp [Sp.wo_mem, Sp.onc_mem]

set_option maxRecDepth 100000 in
theorem lifted (os : Os) (started : os.Started) (H : Type) (enc : TypeId × Value → H) :
    ReturnsInHanded {} Try.checked os 7 .any (Rows.subsetChangesSpec.pre6 enc Try.prog Try.f7 Rows.subsetChangesRow.domain false) (Rows.subsetChangesSpec.post enc Try.prog Try.f7 false true false false) := by
  refine returnsInHanded_of_change_sized (C := Try.checked) own started (by kernel_rfl) Try.func7
    (ChangeSpec.witness6 (enc := enc) (C := Try.checked) false ⟨#[], #[.slice none 0 0, .slice none 0 0, .int .i64 0], []⟩ 8 (by kernel_rfl) (by kernel_rfl) (by kernel_rfl) (by kernel_rfl)) ?_
  intro W base args ds gs before hval0 hW hcnd hsz0 _
  have hval : ∀ (j : Nat) t v, Try.f7.params[j]? = some t → args[j]? = some v → Value.okWide Try.prog W .any base t v := hval0
  have hsz : (DataW.weightsEach Try.prog (Try.f7.params.toList ++ Rows.subsetChangesSpec.plain.varTypes Try.prog) (ds ++ gs)).all (· ≤ reachBytes) = true := hsz0
  have hW' := hW
  obtain ⟨p, q, hA0, hV, rfl, hfz, hnd⟩ := hW
  have hA : DataW.TrodAll enc Try.prog W 0 (fun _ => true) true Try.f7.params.toList args.toList ds p := hA0
  rw [Try.params7] at hA hval hsz
  obtain ⟨v0, vs0, d0, ds0, p0, q0, hargs, rfl, rfl, h0, r0⟩ := trodAll_cons hA
  obtain ⟨v1, vs1, d1, ds1, p1, q1, rfl, rfl, rfl, h1, r1⟩ := trodAll_cons r0
  obtain ⟨v2, vs2, d2, ds2, p2, q2, rfl, rfl, rfl, h2, r2⟩ := trodAll_cons r1
  obtain ⟨rfl, rfl, rfl⟩ := trodAll_nil r2
  obtain rfl : args = #[v0, v1, v2] := by cases args; simp_all
  obtain ⟨rfl, rfl⟩ := trodVars_none hV
  have k0 := h0
  have lt0 : ∀ x ∈ p0, x.block < W.heap.size := by obtain ⟨m, hm⟩ := k0; exact DataW.trod_lt m _ _ _ hm
  obtain ⟨l0, hs0, ho0, e0⟩ := open_numbers (hval 0 22 v0 rfl rfl) h0
  have z0 : l0.length ≤ 17592186043904 := by
    rcases e0 with ⟨_, rfl⟩ | ⟨elems, spare, rfl, hl⟩
    · simp
    · have := sized_slice hsz (j := 0) (t := 22) (e := 3) rfl rfl Try.underlying22
      rw [Try.bytesI] at this
      simp only [reachBytes] at this
      omega
  have k1 := h1
  have lt1 : ∀ x ∈ p1, x.block < W.heap.size := by obtain ⟨m, hm⟩ := k1; exact DataW.trod_lt m _ _ _ hm
  obtain ⟨l1, hs1, ho1, e1⟩ := open_numbers (hval 1 22 v1 rfl rfl) h1
  have z1 : l1.length ≤ 17592186043904 := by
    rcases e1 with ⟨_, rfl⟩ | ⟨elems, spare, rfl, hl⟩
    · simp
    · have := sized_slice hsz (j := 1) (t := 22) (e := 3) rfl rfl Try.underlying22
      rw [Try.bytesI] at this
      simp only [reachBytes] at this
      omega
  obtain ⟨a2, rfl, rfl, rfl, w2⟩ := open_int Try.underlying3 (hval 2 3 v2 rfl rfl) h2
  clear hA0 hval0
  refine (walk v0 l0 hs0 ho0 z0 v1 l1 hs1 ho1 z1 a2 w2).mono fun e W' ⟨he, bel⟩ => ?_
  subst he
  exact ⟨_, rfl, _, _, _, [], _, [], hW', trodAll_mk1 (shut_bool Try.underlying4 _), (trodAll_cons_mk (Below.trod laidOut (by kernel_rfl) (of_decide_eq_true (by kernel_rfl)) k0 bel lt0) (trodAll_cons_mk (Below.trod laidOut (by kernel_rfl) (of_decide_eq_true (by kernel_rfl)) k1 bel lt1) (trodAll_cons_mk (shut_int Try.underlying3 w2) trodAll_mk0))), rfl, bel.frame _, fun h => by cases h⟩

theorem over : Rows.subsetChangesRow.holds Try.pinned (OpenSpec.ofChange Rows.subsetChangesSpec) :=
  OpenClaim.holds_of_wide 7 Try.f7 rfl rfl rfl rfl rfl rfl rfl ⟨rfl, rfl, rfl, rfl, rfl⟩ rfl rfl rfl rfl rfl (by kernel_rfl) Try.func7 (by kernel_rfl)
    (of_decide_eq_true (by kernel_rfl)) (by unfold Func.isWrapper; first | (rw [if_pos (by decide +kernel)]; kernel_rfl) | (rw [if_neg (by decide +kernel)]; exact ⟨rfl, rfl⟩))
    (fun os started H enc _ => lifted os started H enc)
end Go.Proofs.Ytdgdhhbapgfjgaa.subsetChanges

namespace Go.Proofs.Ytdgdhhbapgfjgaa
/-- THE STATEMENT. -/
theorem subsetChanges_holds : Rows.SubsetChangesSaid := subsetChanges.over
#print axioms subsetChanges_holds
end Go.Proofs.Ytdgdhhbapgfjgaa
