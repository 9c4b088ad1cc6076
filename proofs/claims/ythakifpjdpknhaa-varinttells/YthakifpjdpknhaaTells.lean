/- For all octets b, all uint64 n and m and all ints at and k: Get, All, Size, Zig, Zag and Put of the program answer as the reference's do, b stays, and 300 is ac 02 (the law VarintTells answers true), and no argument changes. No condition. -/
import Derived.Test.YthakifpjdpknhaaOpen
import Derived.Test.YthakifpjdpknhaaCallsH
namespace Go.Proofs.Ythakifpjdpknhaa.varintTells
open Go.ChangeShapes Go.WideShapes Go.ChangeAt Go.RowKit
open Go.ChangeMaps (open_string shut_string)

theorem seg_two (w : World) (n m : Int) : Seg .u64 (w.alloc (.cells #[.int .u64 n, .int .u64 m] 23)) (.slice (some ⟨w.heap.size, 0, none⟩) 2 2) [n, m] := by
  refine ⟨some ⟨w.heap.size, 0, none⟩, 2, rfl, Nat.le_refl _, by unfold maxLen; omega, fun h => (by cases h), fun x hx i hi => ?_⟩
  cases hx
  rw [add_plain]
  simp at hi
  match i, hi with
  | 0, _ => simp
  | 1, _ => simp

theorem all_oct (l : List Int) (n m : Int) (ho : ∀ z ∈ l, 0 ≤ z ∧ z ≤ 255) (hn0 : 0 ≤ n) (hn1 : n ≤ 18446744073709551615) (hm0 : 0 ≤ m) (hm1 : m ≤ 18446744073709551615) : ∀ z ∈ l ++ Pl.enc 9 n ++ Pl.enc 9 m, 0 ≤ z ∧ z ≤ 255 := by
  intro z hz
  rcases List.mem_append.1 hz with hz | hz
  · rcases List.mem_append.1 hz with hz | hz
    · exact ho z hz
    · exact Pl.enc_oct 9 n hn0 (by rw [Pl.lim9]; omega) z hz
  · exact Pl.enc_oct 9 m hm0 (by rw [Pl.lim9]; omega) z hz

set_option maxHeartbeats 4000000 in
theorem walk (v0 : Value) (b : List Int) {w : World} (hs0 : Seg .u8 w v0 b) (ho : ∀ z ∈ b, 0 ≤ z ∧ z ≤ 255) (hlen : b.length ≤ 140737488351232) (n : Int) (x1 : (Lit.int .u64 n).wf = true) (m : Int) (x2 : (Lit.int .u64 m).wf = true) (p : Int) (x3 : (Lit.int .i64 p).wf = true) (k : Int) (x4 : (Lit.int .i64 k).wf = true) :
    Calls Try.prog 3 #[v0, .int .u64 n, .int .u64 m, .int .i64 p, .int .i64 k] w fun e w' => e = .returned (.bool true) ∧ Below w.heap.size w w' := by
  obtain ⟨hn0, hn1⟩ := bounds_u64 x1
  obtain ⟨hm0, hm1⟩ := bounds_u64 x2
  obtain ⟨hp0, hp1⟩ := bounds_i64 x3
  obtain ⟨hk0, hk1⟩ := bounds_i64 x4
  clear x1 x2 x3 x4
  have hno := all_oct b n m ho hn0 hn1 hm0 hm1
  have hen := Pl.enc_len_le 9 n
  obtain ⟨gn, gq, ge, hg⟩ : ∃ gn gq ge, Pl.getI b p = (gn, gq, ge) := ⟨_, _, _, rfl⟩
  obtain ⟨ns, er, hall⟩ : ∃ ns er, Pl.allI b = (ns, er) := ⟨_, _, rfl⟩
  have HG : Hid (Pl.getI b p = (gn, gq, ge)) := hg
  have HA : Hid (Pl.allI b = (ns, er)) := hall
  clear hg hall
  go_enter Try.func3, Try.ntmps3
  go_wp2_with fail
  refine (copyBytes_any v0 b w hs0 (by omega)).mono ?_
  rintro e w1 ⟨ow, rfl, hown1, hb1⟩
  have hso : Seg .u8 w1 ow b := Seg.own hown1
  have hs1 := hs0.below hb1
  clear hown1
  go_wp2_with fail
  refine (get_is ow b p gn gq ge w1 hso ho HG.out hp0 hp1).mono ?_
  rintro e w2 ⟨rfl, rfl⟩
  go_wp2_with fail
  refine (rget_is v0 b p gn gq ge w1 hs1 ho HG.out hp0 hp1).mono ?_
  rintro e w2 ⟨rfl, rfl⟩
  go_wp2_with fail
  refine (all_any ow b w1 hso ho (by omega)).mono ?_
  rintro e w2 ⟨lv, rfl, hown2, hb2⟩
  rw [HA.out] at hown2 ⊢
  simp only at hown2 ⊢
  have hsl : Seg .u64 w2 lv ns := Seg.own hown2
  have hs2 := hs1.below hb2
  have hso2 := hso.below hb2
  clear hown2
  go_wp2_with fail
  refine (rall_any v0 b w2 hs2 ho (by omega)).mono ?_
  rintro e w3 ⟨rv, rfl, hown3, hb3⟩
  rw [HA.out] at hown3 ⊢
  simp only at hown3 ⊢
  have hsr : Seg .u64 w3 rv ns := Seg.own hown3
  have hsl3 := hsl.below hb3
  have hs3 := hs2.below hb3
  have hso3 := hso2.below hb3
  have hb03 : Below w.heap.size w w3 := (hb1.trans (hb2.mono hb1.size)).trans (hb3.mono (by have := hb1.size; have := hb2.size; omega))
  clear hown3 hs1 hs2 hso hso2 hsl hb1 hb2 hb3
  go_wp2_with fail
  refine (num_any _ _).mono ?_
  rintro e w4 ⟨rfl, rfl⟩
  go_wp2_with fail
  refine (sameNumbers_any lv rv ns ns w3 hsl3 hsr).mono ?_
  rintro e w4 ⟨rfl, hb4⟩
  have hbb : (ns == ns) = true := by simp
  rw [hbb]
  have hs4 := hs3.below hb4
  have hso4 := hso3.below hb4
  have hb04 := hb03.trans (hb4.mono hb03.size)
  clear hs3 hso3 hb4 hb03 hbb hsl3 hsr
  go_wp2_with fail
  refine (num_any _ _).mono ?_
  rintro e w5 ⟨rfl, rfl⟩
  go_wp2_with fail
  refine (size_any n w4 hn0 hn1).mono ?_
  rintro e w5 ⟨rfl, rfl⟩
  go_wp2_with fail
  refine (rsize_any n w4 hn0 hn1).mono ?_
  rintro e w5 ⟨rfl, hb5⟩
  have hs5 := hs4.below hb5
  have hso5 := hso4.below hb5
  have hb05 := hb04.trans (hb5.mono hb04.size)
  clear hs4 hso4 hb5 hb04
  go_wp2_with fail
  refine (zig_any k w5 hk0 hk1).mono ?_
  rintro e w6 ⟨rfl, rfl⟩
  go_wp2_with fail
  refine (rzig_any k w5 hk0 hk1).mono ?_
  rintro e w6 ⟨rfl, rfl⟩
  go_wp2_with fail
  refine (zag_any n w5 hn0 hn1).mono ?_
  rintro e w6 ⟨rfl, rfl⟩
  go_wp2_with fail
  refine (rzag_any n w5 hn0 hn1).mono ?_
  rintro e w6 ⟨rfl, rfl⟩
  go_wp2_with fail
  refine (put_any ow _ b [n, m] _ (hso5.below ((Below.refl _ _).alloc (Nat.le_refl _) _)) (seg_two w5 n m) (by intro z hz; simp at hz; omega) (by simp; omega)).mono ?_
  rintro e w6 ⟨y, rfl, hown6, hb6⟩
  have he : b ++ encs [n, m] = b ++ Pl.enc 9 n ++ Pl.enc 9 m := by simp [encs]
  rw [he] at hown6
  have hsy : Seg .u8 w6 y (b ++ Pl.enc 9 n ++ Pl.enc 9 m) := Seg.own hown6
  have hb56 : Below w5.heap.size w5 w6 := ((Below.refl _ _).alloc (Nat.le_refl _) _).trans (hb6.mono (by simp))
  have hs6 := hs5.below hb56
  have hso6 := hso5.below hb56
  have hb06 := hb05.trans (hb56.mono hb05.size)
  clear hown6 hb6 he hb56 hs5 hso5 hb05
  go_wp2_with fail
  refine (rput_any v0 b n w6 hs6 hn0 hn1 (by omega)).mono ?_
  rintro e w7 ⟨y1, rfl, hown7, hb7⟩
  have hsy1 : Seg .u8 w7 y1 (b ++ Pl.enc 9 n) := Seg.own hown7
  have hs7 := hs6.below hb7
  have hso7 := hso6.below hb7
  have hsy7 := hsy.below hb7
  have hb07 := hb06.trans (hb7.mono hb06.size)
  clear hown7 hb7 hs6 hso6 hsy hb06
  go_wp2_with fail
  refine (rput_any y1 (b ++ Pl.enc 9 n) m w7 hsy1 hm0 hm1 (by simp only [List.length_append]; omega)).mono ?_
  rintro e w8 ⟨y2, rfl, hown8, hb8⟩
  have hsy2 : Seg .u8 w8 y2 (b ++ Pl.enc 9 n ++ Pl.enc 9 m) := Seg.own hown8
  have hs8 := hs7.below hb8
  have hso8 := hso7.below hb8
  have hsy8 := hsy7.below hb8
  have hb08 := hb07.trans (hb8.mono hb07.size)
  clear hown8 hb8 hs7 hso7 hsy7 hb07 hsy1
  go_wp2_with fail
  refine (sameBytes_any y y2 _ _ w8 hsy8 hsy2 hno hno).mono ?_
  rintro e w9 ⟨rfl, rfl⟩
  rw [beq_self_eq_true]
  go_wp2_with fail
  refine (sameBytes_any ow v0 _ _ w8 hso8 hs8 ho ho).mono ?_
  rintro e w9 ⟨rfl, rfl⟩
  rw [beq_self_eq_true]
  go_wp2_with fail
  refine (alive_any w8).mono ?_
  rintro e w9 ⟨rfl, hb9⟩
  go_wp2
  go_ret
  exact ⟨rfl, hb08.trans (hb9.mono hb08.size)⟩

set_option maxRecDepth 100000 in
theorem lifted (os : Os) (started : os.Started) (H : Type) (enc : TypeId × Value → H) :
    ReturnsInHanded {} Try.checked os 3 .any (Rows.varintTellsSpec.pre6 enc Try.prog Try.f3 Rows.varintTellsRow.domain false) (Rows.varintTellsSpec.post enc Try.prog Try.f3 false true false false) := by
  refine returnsInHanded_of_change_sized (C := Try.checked) own started (by kernel_rfl) Try.func3
    (ChangeSpec.witness6 (enc := enc) (C := Try.checked) false ⟨#[], #[.slice none 0 0, .int .u64 0, .int .u64 0, .int .i64 0, .int .i64 0], []⟩ 8 (by kernel_rfl) (by kernel_rfl) (by kernel_rfl) (by kernel_rfl)) ?_
  intro W base args ds gs before hval0 hW hcnd hsz0 _
  have hval : ∀ (j : Nat) t v, Try.f3.params[j]? = some t → args[j]? = some v → Value.okWide Try.prog W .any base t v := hval0
  have hsz : (DataW.weightsEach Try.prog (Try.f3.params.toList ++ Rows.varintTellsSpec.plain.varTypes Try.prog) (ds ++ gs)).all (· ≤ reachBytes) = true := hsz0
  have hW' := hW
  obtain ⟨p, q, hA0, hV, rfl, hfz, hnd⟩ := hW
  have hA : DataW.TrodAll enc Try.prog W 0 (fun _ => true) true Try.f3.params.toList args.toList ds p := hA0
  rw [Try.params3] at hA hval hsz
  obtain ⟨v0, vs0, d0, ds0, p0, q0, hargs, rfl, rfl, h0, r0⟩ := trodAll_cons hA
  obtain ⟨v1, vs1, d1, ds1, p1, q1, rfl, rfl, rfl, h1, r1⟩ := trodAll_cons r0
  obtain ⟨v2, vs2, d2, ds2, p2, q2, rfl, rfl, rfl, h2, r2⟩ := trodAll_cons r1
  obtain ⟨v3, vs3, d3, ds3, p3, q3, rfl, rfl, rfl, h3, r3⟩ := trodAll_cons r2
  obtain ⟨v4, vs4, d4, ds4, p4, q4, rfl, rfl, rfl, h4, r4⟩ := trodAll_cons r3
  obtain ⟨rfl, rfl, rfl⟩ := trodAll_nil r4
  obtain rfl : args = #[v0, v1, v2, v3, v4] := by cases args; simp_all
  obtain ⟨rfl, rfl⟩ := trodVars_none hV
  have k0 := h0
  have lt0 : ∀ x ∈ p0, x.block < W.heap.size := by obtain ⟨m, hm⟩ := k0; exact DataW.trod_lt m _ _ _ hm
  obtain ⟨l0, hs0, ho0, e0⟩ := open_octets (hval 0 22 v0 rfl rfl) h0
  have z0 : l0.length ≤ 140737488351232 := by
    rcases e0 with ⟨_, rfl⟩ | ⟨elems, spare, rfl, hl⟩
    · simp
    · have := sized_slice hsz (j := 0) (t := 22) (e := 5) rfl rfl Try.underlying22
      rw [Try.bytes5] at this
      simp only [reachBytes] at this
      omega
  obtain ⟨a1, rfl, rfl, rfl, w1⟩ := open_int Try.underlying23 (hval 1 23 v1 rfl rfl) h1
  obtain ⟨a2, rfl, rfl, rfl, w2⟩ := open_int Try.underlying23 (hval 2 23 v2 rfl rfl) h2
  obtain ⟨a3, rfl, rfl, rfl, w3⟩ := open_int Try.underlying3 (hval 3 3 v3 rfl rfl) h3
  obtain ⟨a4, rfl, rfl, rfl, w4⟩ := open_int Try.underlying3 (hval 4 3 v4 rfl rfl) h4
  clear hA0 hval0
  refine (walk v0 l0 hs0 ho0 z0 a1 w1 a2 w2 a3 w3 a4 w4).mono fun e W' ⟨he, bel⟩ => ?_
  subst he
  exact ⟨_, rfl, _, _, _, [], _, [], hW', trodAll_mk1 (shut_bool Try.underlying4 _), (trodAll_cons_mk (Below.trod laidOut (by kernel_rfl) (of_decide_eq_true (by kernel_rfl)) k0 bel lt0) (trodAll_cons_mk (shut_int Try.underlying23 w1) (trodAll_cons_mk (shut_int Try.underlying23 w2) (trodAll_cons_mk (shut_int Try.underlying3 w3) (trodAll_cons_mk (shut_int Try.underlying3 w4) trodAll_mk0))))), rfl, bel.frame _, fun h => by cases h⟩

theorem over : Rows.varintTellsRow.holds Try.pinned (OpenSpec.ofChange Rows.varintTellsSpec) :=
  OpenClaim.holds_of_wide 3 Try.f3 rfl rfl rfl rfl rfl rfl rfl ⟨rfl, rfl, rfl, rfl, rfl⟩ rfl rfl rfl rfl rfl (by kernel_rfl) Try.func3 (by kernel_rfl)
    (of_decide_eq_true (by kernel_rfl)) (by unfold Func.isWrapper; first | (rw [if_pos (by decide +kernel)]; kernel_rfl) | (rw [if_neg (by decide +kernel)]; exact ⟨rfl, rfl⟩))
    (fun os started H enc _ => lifted os started H enc)
end Go.Proofs.Ythakifpjdpknhaa.varintTells

namespace Go.Proofs.Ythakifpjdpknhaa
/-- THE STATEMENT. -/
theorem varintTells_holds : Rows.VarintTellsSaid := varintTells.over
#print axioms varintTells_holds
end Go.Proofs.Ythakifpjdpknhaa
