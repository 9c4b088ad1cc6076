/- For all octets a and b that are together not more than the bound: the sum of a, gone on with b, is the sum of both, be they joined or handed over one behind the other, and gone back over b it is the sum of a (the law CrcGoes answers true), and no argument changes. The condition: what came in holds at most 1048576 values. -/
import Derived.Test.YtfbgbgblbkiniaaOpen
import Derived.Test.YtfbgbgblbkiniaaCallsE
namespace Go.Proofs.Ytfbgbgblbkiniaa.crcGoes
open Go.ChangeShapes Go.WideShapes Go.ChangeAt Go.RowKit
open Go.ChangeMaps (open_string shut_string)

theorem back_sum {a b : List Int} (ha : Pl.Octs a) (hb : Pl.Octs b) : 4294967295 ^^^ Pl.nur (4294967295 ^^^ Pl.sumOf (a ++ b)) b = Pl.sumOf a := by
  unfold Pl.sumOf
  rw [Pl.xx, Pl.run_app, Pl.nur_run (Pl.run_lt (by decide) ha) hb]

set_option maxHeartbeats 1000000 in
theorem walk (v0 : Value) (a : List Int) {w : World} (hs0 : Seg .u8 w v0 a) (ho0 : ∀ z ∈ a, 0 ≤ z ∧ z ≤ 255) (v1 : Value) (b : List Int) (hs1 : Seg .u8 w v1 b) (ho1 : ∀ z ∈ b, 0 ≤ z ∧ z ≤ 255) (hlen : a.length + b.length ≤ 1048576) :
    Calls Try.prog 4 #[v0, v1] w fun e w' => e = .returned (.bool true) ∧ Below w.heap.size w w' := by
  have hoab : Pl.Octs (a ++ b) := fun z hz => (List.mem_append.1 hz).elim (ho0 z) (ho1 z)
  have hla := Pl.sumOf_lt ho0
  have hlab := Pl.sumOf_lt hoab
  have HM : Hid (4294967295 ^^^ Pl.run (4294967295 ^^^ Pl.sumOf a) b = Pl.sumOf (a ++ b)) := Pl.moreOf_sum a b
  have HB : Hid (4294967295 ^^^ Pl.nur (4294967295 ^^^ Pl.sumOf (a ++ b)) b = Pl.sumOf a) := back_sum ho0 ho1
  obtain ⟨a0, c0, rfl, k1, k2, k3, k4⟩ := id hs0
  obtain ⟨a1, c1, rfl, m1, m2, m3, m4⟩ := id hs1
  clear k1 k2 k3 k4 m1 m2 m3 m4
  go_enter Try.func4, Try.ntmps4
  go_wp2_with fail
  refine (alive_any w).mono ?_
  rintro e w1 ⟨rfl, hb1⟩
  have hs01 := hs0.below hb1
  have hs11 := hs1.below hb1
  go_wp2_with fail
  refine (sum_one _ rfl hs01 ho0).mono ?_
  rintro e w2 ⟨rfl, rfl⟩
  have hb02 := hb1.alloc hb1.size (.cells #[.slice a0 a.length c0] 22)
  have hs02 := hs0.below hb02
  have hs12 := hs1.below hb02
  generalize w1.alloc (.cells #[.slice a0 a.length c0] 22) = w2 at *
  clear hs01 hs11 hb1
  go_wp2_with fail
  refine (more_any _ _ b w2 hla hs12 ho1).mono ?_
  rintro e w3 ⟨rfl, rfl⟩
  rw [HM.out]
  go_wp2_with fail
  refine (copyBytes_any _ a w2 hs02 (by omega)).mono ?_
  rintro e w3 ⟨x, rfl, hown, hb3⟩
  have hb03 := hb02.trans (hb3.mono hb02.size)
  have hz3 := hb3.size
  have hz2 := hb02.size
  have hs13 := hs1.below hb03
  clear hb3 hs02 hs12 hb02
  have HLn : (a ++ b).length = a.length + b.length := by simp only [List.length_append]
  generalize hL : (a ++ b).length = L at HLn
  have HL : Hid ((a ++ b).length = L) := hL
  have hLb : L ≤ 1048586 := by omega
  clear hL HLn
  go_wp2_with (at_builtin; refine wpList_append_seg _ rfl _ _ rfl w2.heap.size _ _ a b rfl hown rfl hs13 (by omega) hz3 ?_; intro y w4 hown4 hb4; obtain ⟨ay, cy, hy, hy1, hy2, hy3, hy4⟩ := Seg.own hown4; have hs4 : Seg .u8 w4 y (a ++ b) := ⟨ay, cy, hy, hy1, hy2, hy3, hy4⟩; rw [HL.out] at hy; subst hy; have hb04 : Below w.heap.size w w4 := hb03.trans (hb4.mono (by omega)); clear hown hown4 hb4 hb03 hs13 hy1 hy2 hy3 hy4 hz3)
  refine (sum_one _ rfl hs4 hoab).mono ?_
  rintro e w5 ⟨rfl, rfl⟩
  have hb05 := hb04.alloc hb04.size (.cells #[.slice ay L cy] 22)
  have hs05 := hs0.below hb05
  have hs15 := hs1.below hb05
  generalize w4.alloc (.cells #[.slice ay L cy] 22) = w5 at *
  clear hb04 hs4
  go_wp2_with fail
  refine (sum_two _ rfl hs05 hs15 ho0 ho1).mono ?_
  rintro e w6 ⟨rfl, rfl⟩
  have hb06 := hb05.alloc hb05.size (.cells #[.slice a0 a.length c0, .slice a1 b.length c1] 22)
  have hs06 := hs0.below hb06
  have hs16 := hs1.below hb06
  generalize w5.alloc (.cells #[.slice a0 a.length c0, .slice a1 b.length c1] 22) = w6 at *
  clear hb05 hs05 hs15
  go_wp2_with fail
  refine (back_any _ _ b w6 hlab hs16 ho1 (by omega)).mono ?_
  rintro e w7 ⟨rfl, hb7⟩
  rw [HB.out]
  have hb07 := hb06.trans (hb7.mono hb06.size)
  have hs07 := hs0.below hb07
  clear hb7 hb06 hs16 hs06
  go_wp2_with fail
  refine (sum_one _ rfl hs07 ho0).mono ?_
  rintro e w8 ⟨rfl, rfl⟩
  have hb08 := hb07.alloc hb07.size (.cells #[.slice a0 a.length c0] 22)
  generalize w7.alloc (.cells #[.slice a0 a.length c0] 22) = w8 at *
  go_wp2
  go_ret
  exact ⟨ret_bool (by simp), hb08⟩

set_option maxRecDepth 100000 in
theorem contract (H : Type) (enc : TypeId × Value → H) (W : World) (base : Nat) (args : Array Value) (ds gs : List (DataW H)) (before : List MemPlace)
    (hval : ∀ (j : Nat) t v, Try.f4.params[j]? = some t → args[j]? = some v → Value.okWide Try.prog W .any base t v)
    (hW : DataW.Whole enc Try.prog Try.f4.params.toList Rows.crcGoesSpec.vars false W args.toList ds gs before) (hk : Rows.uptoSmall H (ds ++ gs) = true) :
    Calls Try.prog 4 args W fun e W' => ∃ v, e = .returned v ∧ Rows.crcGoesSpec.post enc Try.prog Try.f4 false true false false W args v W' := by
  have hW' := hW
  obtain ⟨p, q, hA0, hV, rfl, hfz, hnd⟩ := hW
  have hA : DataW.TrodAll enc Try.prog W 0 (fun _ => true) true Try.f4.params.toList args.toList ds p := hA0
  rw [Try.params4] at hA hval
  obtain ⟨v0, vs0, d0, ds0, p0, q0, hargs, rfl, rfl, h0, r0⟩ := trodAll_cons hA
  obtain ⟨v1, vs1, d1, ds1, p1, q1, rfl, rfl, rfl, h1, r1⟩ := trodAll_cons r0
  obtain ⟨rfl, rfl, rfl⟩ := trodAll_nil r1
  obtain rfl : args = #[v0, v1] := by cases args; simp_all
  obtain ⟨rfl, rfl⟩ := trodVars_none hV
  have k0 := h0
  have lt0 : ∀ x ∈ p0, x.block < W.heap.size := by obtain ⟨m, hm⟩ := k0; exact DataW.trod_lt m _ _ _ hm
  obtain ⟨l0, hs0, ho0, e0⟩ := open_octets (hval 0 22 v0 rfl rfl) h0
  have k1 := h1
  have lt1 : ∀ x ∈ p1, x.block < W.heap.size := by obtain ⟨m, hm⟩ := k1; exact DataW.trod_lt m _ _ _ hm
  obtain ⟨l1, hs1, ho1, e1⟩ := open_octets (hval 1 22 v1 rfl rfl) h1
  have hlen : l0.length + l1.length ≤ 1048576 := by
    have h := bulk_bound hk
    simp only [List.append_nil, Rows.uptoBulkAll] at h
    have b0 := octets_bulk e0
    have b1 := octets_bulk e1
    omega
  clear hA0
  refine (walk v0 l0 hs0 ho0 v1 l1 hs1 ho1 hlen).mono fun e W' ⟨he, bel⟩ => ?_
  subst he
  exact ⟨_, rfl, _, _, _, [], _, [], hW', trodAll_mk1 (shut_bool Try.underlying4 _), (trodAll_cons_mk (Below.trod laidOut (by kernel_rfl) (of_decide_eq_true (by kernel_rfl)) k0 bel lt0) (trodAll_cons_mk (Below.trod laidOut (by kernel_rfl) (of_decide_eq_true (by kernel_rfl)) k1 bel lt1) trodAll_mk0)), rfl, bel.frame _, fun h => by cases h⟩

set_option maxRecDepth 100000 in
theorem lifted (os : Os) (started : os.Started) (H : Type) (enc : TypeId × Value → H) (F : Stop.Interp) :
    ReturnsInHanded {} Try.checked os 4 .any ((Rows.OpenSpec.upto Rows.crcGoesSpec).pre6 enc Try.prog Try.f4 Rows.crcGoesUptoRow.domain false) (((Rows.OpenSpec.upto Rows.crcGoesSpec).at F).post enc Try.prog Try.f4 false true false false) := by
  refine returnsInHanded_of_cond (C := Try.checked) (s := Rows.OpenSpec.upto Rows.crcGoesSpec) (k := Rows.uptoSmall) rfl own started (by kernel_rfl) Try.func4
    (OpenSpec.witness (enc := enc) (C := Try.checked) (s := Rows.OpenSpec.upto Rows.crcGoesSpec) (k := Rows.uptoSmall) rfl false ⟨#[], #[.slice none 0 0, .slice none 0 0], []⟩ 8 (by kernel_rfl) (by kernel_rfl) (by kernel_rfl)
      (x := ([.nil, .nil], [], [])) (by kernel_rfl) rfl (by kernel_rfl)) ?_
  intro W base args ds gs before hval hW _ hk _
  exact contract H enc W base args ds gs before hval hW hk

theorem over : Rows.CrcGoesUptoSaid :=
  OpenClaim.holds_of_cond 4 Try.f4 rfl rfl rfl rfl rfl rfl rfl ⟨rfl, rfl, rfl, rfl, rfl⟩ rfl rfl rfl rfl rfl (by kernel_rfl) Try.func4 (by kernel_rfl)
    (of_decide_eq_true (by kernel_rfl)) (by unfold Func.isWrapper; first | (rw [if_pos (by decide +kernel)]; kernel_rfl) | (rw [if_neg (by decide +kernel)]; exact ⟨rfl, rfl⟩))
    (fun os started H enc _ F => lifted os started H enc F)
end Go.Proofs.Ytfbgbgblbkiniaa.crcGoes

namespace Go.Proofs.Ytfbgbgblbkiniaa
/-- THE STATEMENT. -/
theorem crcGoesUpto_holds : Rows.CrcGoesUptoSaid := crcGoes.over
#print axioms crcGoesUpto_holds
end Go.Proofs.Ytfbgbgblbkiniaa
