/- For all octets a and b, all uint32 c and turn and every int at: Sum, More, Back, Force and Unlike of the program answer as the reference's do, the octets stay, and 123456789 has the sum cbf43926 (the law CrcTells answers true), and no argument changes. No condition. -/
import Derived.Test.YtfbgbgblbkiniaaOpen
import Derived.Test.YtfbgbgblbkiniaaCallsI
namespace Go.Proofs.Ytfbgbgblbkiniaa.crcTells
open Go.ChangeShapes Go.WideShapes Go.ChangeAt Go.RowKit
open Go.ChangeMaps (open_string shut_string)

set_option maxHeartbeats 4000000 in
theorem walk (v0 : Value) (a : List Int) {w : World} (hs0 : Seg .u8 w v0 a) (ho0 : ∀ z ∈ a, 0 ≤ z ∧ z ≤ 255) (hl0 : a.length ≤ 140737488351232) (v1 : Value) (b : List Int) (hs1 : Seg .u8 w v1 b) (ho1 : ∀ z ∈ b, 0 ≤ z ∧ z ≤ 255) (hl1 : b.length ≤ 140737488351232)
    (c : Int) (x2 : (Lit.int .u32 c).wf = true) (p : Int) (x3 : (Lit.int .i64 p).wf = true) (turn : Int) (x4 : (Lit.int .u32 turn).wf = true) :
    Calls Try.prog 3 #[v0, v1, .int .u32 c, .int .i64 p, .int .u32 turn] w fun e w' => e = .returned (.bool true) ∧ Below w.heap.size w w' := by
  obtain ⟨hc0, hc1⟩ := bounds_u32 x2
  obtain ⟨hp0, hp1⟩ := bounds_i64 x3
  obtain ⟨ht0, ht1⟩ := bounds_u32 x4
  clear x2 x3 x4
  obtain ⟨C, rfl⟩ : ∃ C : Nat, c = C := ⟨c.toNat, by omega⟩
  have hC : C < 4294967296 := by omega
  have hla := Pl.sumOf_lt ho0
  obtain ⟨lu, ec, hou, HU, HV⟩ := unlike_both a p turn ho0 hp0 hp1 ht0 ht1 (by omega)
  have HM : Hid (4294967295 ^^^ Pl.run (4294967295 ^^^ Pl.sumOf a) b = Pl.sumOf (a ++ b)) := Pl.moreOf_sum a b
  clear hc0 hc1 hp0 hp1 ht0 ht1
  go_enter Try.func3, Try.ntmps3
  go_wp2_with fail
  refine (copyBytes_any v0 a w hs0 (by omega)).mono ?_
  rintro e w1 ⟨x, rfl, hown1, hb1⟩
  have hsx1 : Seg .u8 w1 x a := Seg.own hown1
  have hs11 := hs1.below hb1
  clear hown1
  go_wp2_with fail
  refine (copyBytes_any v1 b w1 hs11 (by omega)).mono ?_
  rintro e w2 ⟨y, rfl, hown2, hb2⟩
  have hsy2 : Seg .u8 w2 y b := Seg.own hown2
  have hsx2 := hsx1.below hb2
  have hb02 := hb1.trans (hb2.mono hb1.size)
  clear hown2 hb1 hb2 hsx1 hs11
  go_wp2_with fail
  refine (HU x w2 hsx2).mono ?_
  rintro e w3 ⟨u, rfl, hsu3, hb3⟩
  have hsx3 := hsx2.below hb3
  have hsy3 := hsy2.below hb3
  have hb03 := hb02.trans (hb3.mono hb02.size)
  have hs03 := hs0.below hb03
  clear hb3 hb02 hsx2 hsy2
  go_wp2_with fail
  refine (HV v0 w3 hs03).mono ?_
  rintro e w4 ⟨v, rfl, hsv4, hb4⟩
  have hsx4 := hsx3.below hb4
  have hsy4 := hsy3.below hb4
  have hsu4 := hsu3.below hb4
  have hb04 := hb03.trans (hb4.mono hb03.size)
  have hs04 := hs0.below hb04
  have hs14 := hs1.below hb04
  clear hb4 hb03 hsx3 hsy3 hsu3 hs03 HU HV
  obtain ⟨ax, cx, rfl, k1, k2, k3, k4⟩ := id hsx4
  obtain ⟨ay, cy, rfl, m1, m2, m3, m4⟩ := id hsy4
  clear k1 k2 k3 k4 m1 m2 m3 m4
  go_wp2_with fail
  refine (sum_two _ rfl hsx4 hsy4 ho0 ho1).mono ?_
  rintro e w5 ⟨rfl, rfl⟩
  have hb5 := (Below.refl w4.heap.size w4).alloc (Nat.le_refl _) (.cells #[.slice ax a.length cx, .slice ay b.length cy] 22)
  have hsx5 := hsx4.below hb5
  have hsy5 := hsy4.below hb5
  have hsu5 := hsu4.below hb5
  have hsv5 := hsv4.below hb5
  have hb05 := hb04.trans (hb5.mono hb04.size)
  have hs05 := hs0.below hb05
  have hs15 := hs1.below hb05
  generalize w4.alloc (.cells #[.slice ax a.length cx, .slice ay b.length cy] 22) = w5 at *
  clear hb5 hb04 hsx4 hsy4 hsu4 hsv4 hs04 hs14
  go_wp2_with fail
  refine (rsum_any v0 a w5 hs05 ho0).mono ?_
  rintro e w6 ⟨rfl, rfl⟩
  go_wp2_with fail
  refine (rmore_any _ v1 b w5 hla hs15 ho1).mono ?_
  rintro e w6 ⟨rfl, rfl⟩
  rw [HM.out]
  go_wp2_with fail
  refine (more_any C _ a w5 hC hsx5 ho0).mono ?_
  rintro e w6 ⟨rfl, rfl⟩
  go_wp2_with fail
  refine (rmore_any C v0 a w5 hC hs05 ho0).mono ?_
  rintro e w6 ⟨rfl, rfl⟩
  go_wp2_with fail
  refine (back_any C _ a w5 hC hsx5 ho0 (by omega)).mono ?_
  rintro e w6 ⟨rfl, hb6⟩
  have hsx6 := hsx5.below hb6
  have hsy6 := hsy5.below hb6
  have hsu6 := hsu5.below hb6
  have hsv6 := hsv5.below hb6
  have hb06 := hb05.trans (hb6.mono hb05.size)
  have hs06 := hs0.below hb06
  have hs16 := hs1.below hb06
  clear hb6 hb05 hsx5 hsy5 hsu5 hsv5 hs05 hs15
  go_wp2_with fail
  refine (rback_any C v0 a w6 hC hs06 ho0).mono ?_
  rintro e w7 ⟨rfl, rfl⟩
  go_wp2_with fail
  refine (force_any _ a C w6 hsx6 ho0 hC (by omega)).mono ?_
  rintro e w7 ⟨f, rfl, hsf7, hb7⟩
  have hsx7 := hsx6.below hb7
  have hsy7 := hsy6.below hb7
  have hsu7 := hsu6.below hb7
  have hsv7 := hsv6.below hb7
  have hb07 := hb06.trans (hb7.mono hb06.size)
  have hs07 := hs0.below hb07
  clear hb7 hb06 hsx6 hsy6 hsu6 hsv6 hs06 hs16
  go_wp2_with fail
  refine (rforce_any v0 a C w7 hs07 ho0 hC).mono ?_
  rintro e w8 ⟨g, rfl, hsg8, hb8⟩
  have hsf8 := hsf7.below hb8
  have hsx8 := hsx7.below hb8
  have hsy8 := hsy7.below hb8
  have hsu8 := hsu7.below hb8
  have hsv8 := hsv7.below hb8
  have hb08 := hb07.trans (hb8.mono hb07.size)
  have hs08 := hs0.below hb08
  have hs18 := hs1.below hb08
  clear hb8 hb07 hsx7 hsy7 hsu7 hsv7 hs07 hsf7
  generalize Pl.sumOf a ^^^ (4294967295 ^^^ Pl.nur (4294967295 ^^^ C) [0, 0, 0, 0]) = W at *
  go_wp2_with fail
  refine (sameBytes_any f g _ _ w8 hsf8 hsg8 (Pl.octs_four W) (Pl.octs_four W)).mono ?_
  rintro e w9 ⟨rfl, rfl⟩
  rw [beq_self_eq_true]
  clear hsf8 hsg8
  go_wp2_with fail
  refine (sameBytes_any u v _ _ w8 hsu8 hsv8 hou hou).mono ?_
  rintro e w9 ⟨rfl, rfl⟩
  rw [beq_self_eq_true]
  go_wp2_with fail
  refine (num_any _ _).mono ?_
  rintro e w9 ⟨rfl, rfl⟩
  go_wp2_with fail
  refine (sameBytes_any _ v0 _ _ w8 hsx8 hs08 ho0 ho0).mono ?_
  rintro e w9 ⟨rfl, rfl⟩
  rw [beq_self_eq_true]
  go_wp2_with fail
  refine (sameBytes_any _ v1 _ _ w8 hsy8 hs18 ho1 ho1).mono ?_
  rintro e w9 ⟨rfl, rfl⟩
  rw [beq_self_eq_true]
  go_wp2_with fail
  refine (alive_any w8).mono ?_
  rintro e w9 ⟨rfl, hb9⟩
  have hb09 := hb08.trans (hb9.mono hb08.size)
  go_wp2
  go_ret
  exact ⟨rfl, hb09⟩

set_option maxRecDepth 100000 in
theorem lifted (os : Os) (started : os.Started) (H : Type) (enc : TypeId × Value → H) :
    ReturnsInHanded {} Try.checked os 3 .any (Rows.crcTellsSpec.pre6 enc Try.prog Try.f3 Rows.crcTellsRow.domain false) (Rows.crcTellsSpec.post enc Try.prog Try.f3 false true false false) := by
  refine returnsInHanded_of_change_sized (C := Try.checked) own started (by kernel_rfl) Try.func3
    (ChangeSpec.witness6 (enc := enc) (C := Try.checked) false ⟨#[], #[.slice none 0 0, .slice none 0 0, .int .u32 0, .int .i64 0, .int .u32 0], []⟩ 8 (by kernel_rfl) (by kernel_rfl) (by kernel_rfl) (by kernel_rfl)) ?_
  intro W base args ds gs before hval0 hW hcnd hsz0 _
  have hval : ∀ (j : Nat) t v, Try.f3.params[j]? = some t → args[j]? = some v → Value.okWide Try.prog W .any base t v := hval0
  have hsz : (DataW.weightsEach Try.prog (Try.f3.params.toList ++ Rows.crcTellsSpec.plain.varTypes Try.prog) (ds ++ gs)).all (· ≤ reachBytes) = true := hsz0
  have hW' := hW
  obtain ⟨p, q, hA0, hV, rfl, hfz, hnd⟩ := hW
  have hA : DataW.TrodAll enc Try.prog W 0 (fun _ => true) true Try.f3.params.toList args.toList ds p := hA0
  rw [Try.params3] at hA hval hsz
  obtain ⟨v0, vs0, d0, ds0, p0, q0, hargs, rfl, rfl, h0, r0⟩ := trodAll_cons hA
  obtain ⟨v1, vs1, d1, ds1, p1, q1, rfl, rfl, rfl, h1, r1⟩ := trodAll_cons r0
  obtain ⟨v2, vs2, d2, ds2, p2, q2, rfl, rfl, rfl, h2, r2⟩ := trodAll_cons r1
  obtain ⟨v3, vs3, d3, ds3, p3, q3, rfl, rfl, rfl, h3, r3⟩ := trodAll_cons r2
  obtain ⟨v4, vs4, d4, ds4, p4, q4, rfl, rfl, rfl, h4, r4⟩ := trodAll_cons r3
  obtain ⟨rfl, rfl, rfl⟩ := trodAll_nil r4
  obtain rfl : args = #[v0, v1, v2, v3, v4] := by cases args; simp_all
  obtain ⟨rfl, rfl⟩ := trodVars_none hV
  have k0 := h0
  have lt0 : ∀ x ∈ p0, x.block < W.heap.size := by obtain ⟨m, hm⟩ := k0; exact DataW.trod_lt m _ _ _ hm
  obtain ⟨l0, hs0, ho0, e0⟩ := open_octets (hval 0 22 v0 rfl rfl) h0
  have z0 : l0.length ≤ 140737488351232 := by
    rcases e0 with ⟨_, rfl⟩ | ⟨elems, spare, rfl, hl⟩
    · simp
    · have := sized_slice hsz (j := 0) (t := 22) (e := 5) rfl rfl Try.underlying22
      rw [Try.bytes5] at this
      simp only [reachBytes] at this
      omega
  have k1 := h1
  have lt1 : ∀ x ∈ p1, x.block < W.heap.size := by obtain ⟨m, hm⟩ := k1; exact DataW.trod_lt m _ _ _ hm
  obtain ⟨l1, hs1, ho1, e1⟩ := open_octets (hval 1 22 v1 rfl rfl) h1
  have z1 : l1.length ≤ 140737488351232 := by
    rcases e1 with ⟨_, rfl⟩ | ⟨elems, spare, rfl, hl⟩
    · simp
    · have := sized_slice hsz (j := 1) (t := 22) (e := 5) rfl rfl Try.underlying22
      rw [Try.bytes5] at this
      simp only [reachBytes] at this
      omega
  obtain ⟨a2, rfl, rfl, rfl, w2⟩ := open_int Try.underlying23 (hval 2 23 v2 rfl rfl) h2
  obtain ⟨a3, rfl, rfl, rfl, w3⟩ := open_int Try.underlying3 (hval 3 3 v3 rfl rfl) h3
  obtain ⟨a4, rfl, rfl, rfl, w4⟩ := open_int Try.underlying23 (hval 4 23 v4 rfl rfl) h4
  clear hA0 hval0
  refine (walk v0 l0 hs0 ho0 z0 v1 l1 hs1 ho1 z1 a2 w2 a3 w3 a4 w4).mono fun e W' ⟨he, bel⟩ => ?_
  subst he
  exact ⟨_, rfl, _, _, _, [], _, [], hW', trodAll_mk1 (shut_bool Try.underlying4 _), (trodAll_cons_mk (Below.trod laidOut (by kernel_rfl) (of_decide_eq_true (by kernel_rfl)) k0 bel lt0) (trodAll_cons_mk (Below.trod laidOut (by kernel_rfl) (of_decide_eq_true (by kernel_rfl)) k1 bel lt1) (trodAll_cons_mk (shut_int Try.underlying23 w2) (trodAll_cons_mk (shut_int Try.underlying3 w3) (trodAll_cons_mk (shut_int Try.underlying23 w4) trodAll_mk0))))), rfl, bel.frame _, fun h => by cases h⟩

theorem over : Rows.crcTellsRow.holds Try.pinned (OpenSpec.ofChange Rows.crcTellsSpec) :=
  OpenClaim.holds_of_wide 3 Try.f3 rfl rfl rfl rfl rfl rfl rfl ⟨rfl, rfl, rfl, rfl, rfl⟩ rfl rfl rfl rfl rfl (by kernel_rfl) Try.func3 (by kernel_rfl)
    (of_decide_eq_true (by kernel_rfl)) (by unfold Func.isWrapper; first | (rw [if_pos (by decide +kernel)]; kernel_rfl) | (rw [if_neg (by decide +kernel)]; exact ⟨rfl, rfl⟩))
    (fun os started H enc _ => lifted os started H enc)
end Go.Proofs.Ytfbgbgblbkiniaa.crcTells

namespace Go.Proofs.Ytfbgbgblbkiniaa
/-- THE STATEMENT. -/
theorem crcTells_holds : Rows.CrcTellsSaid := crcTells.over
#print axioms crcTells_holds
end Go.Proofs.Ytfbgbgblbkiniaa
