/- For all octets b, every uint64 n and every int at: what Put and Text tell of a copy of b is still the reference's answer for b when the copy has been written over, so it shares nothing with what was handed in (the law VarintOwn answers true), and no argument changes. No condition. -/
import Derived.Test.YthakifpjdpknhaaOpen
import Derived.Test.YthakifpjdpknhaaCallsJ
namespace Go.Proofs.Ythakifpjdpknhaa.varintOwn
open Go.ChangeShapes Go.WideShapes Go.ChangeAt Go.RowKit
open Go.ChangeMaps (open_string shut_string)

theorem text_oct (l : List Int) (p most : Int) (ho : ∀ z ∈ l, 0 ≤ z ∧ z ≤ 255) : ∀ z ∈ (Pl.textI l p most).1, 0 ≤ z ∧ z ≤ 255 := by
  unfold Pl.textI
  split
  · split
    · intro z hz; simp at hz
    · split
      · intro z hz; simp at hz
      · intro z hz; exact ho z (List.mem_of_mem_drop (List.mem_of_mem_take hz))
  · intro z hz; simp at hz

set_option maxHeartbeats 2000000 in
theorem walk (v0 : Value) (b : List Int) {w : World} (hs0 : Seg .u8 w v0 b) (ho : ∀ z ∈ b, 0 ≤ z ∧ z ≤ 255) (hlen : b.length ≤ 140737488351232) (n : Int) (x1 : (Lit.int .u64 n).wf = true) (p : Int) (x2 : (Lit.int .i64 p).wf = true) :
    Calls Try.prog 8 #[v0, .int .u64 n, .int .i64 p] w fun e w' => e = .returned (.bool true) ∧ Below w.heap.size w w' := by
  obtain ⟨hn0, hn1⟩ := bounds_u64 x1
  obtain ⟨hp0, hp1⟩ := bounds_i64 x2
  clear x1 x2
  have hto := text_oct b p 1048576 ho
  obtain ⟨tl, tq, te, ht⟩ : ∃ tl tq te, Pl.textI b p 1048576 = (tl, tq, te) := ⟨_, _, _, rfl⟩
  rw [ht] at hto
  simp only at hto
  have HT : Hid (Pl.textI b p 1048576 = (tl, tq, te)) := ht
  have hno : ∀ z ∈ b ++ Pl.enc 9 n, 0 ≤ z ∧ z ≤ 255 := by
    intro z hz
    rcases List.mem_append.1 hz with hz | hz
    · exact ho z hz
    · exact Pl.enc_oct 9 n hn0 (by rw [Pl.lim9]; omega) z hz
  clear ht
  go_enter Try.func8, Try.ntmps8
  go_wp2_with fail
  refine (alive_any w).mono ?_
  rintro e w1 ⟨rfl, hb1⟩
  have hs1 := hs0.below hb1
  go_wp2_with fail
  refine (copyBytes_any v0 b w1 hs1 (by omega)).mono ?_
  rintro e w2 ⟨ow, rfl, hown2, hb2⟩
  have hso : Seg .u8 w2 ow b := Seg.own hown2
  have hs2 := hs1.below hb2
  have hb02 := hb1.trans (hb2.mono hb1.size)
  have hz2 := hb2.size
  go_wp2_with fail
  refine (put_any ow _ b [n] _ (hso.below ((Below.refl _ _).alloc (Nat.le_refl _) _)) (seg_one w2 n) (by intro z hz; simp at hz; omega) (by simp; omega)).mono ?_
  rintro e w3 ⟨x, rfl, hown3, hb3⟩
  have he : b ++ encs [n] = b ++ Pl.enc 9 n := by simp [encs]
  rw [he] at hown3
  have hb23 : Below w2.heap.size w2 w3 := ((Below.refl _ _).alloc (Nat.le_refl _) _).trans (hb3.mono (by simp))
  have hownO := ownsRow_below hown2 hb23
  have hso3 := hso.below hb23
  have hs3 := hs2.below hb23
  have hb03 := hb02.trans (hb23.mono hb02.size)
  have hz23 := hb23.size
  have hlow : ∀ k, ow.ownBlock = some k → k < w2.heap.size := fun k hk => (hown2.lt k hk).2
  clear he hb3 hb23 hso hs2 hb02 hs1 hown2
  go_wp2_with fail
  refine (text_any ow b p 1048576 w3 hso3 ho (by omega) hp0 hp1 (by omega) (by omega)).mono ?_
  rintro e w4 ⟨t, rfl, hown4, hb4⟩
  rw [HT.out] at hown4 ⊢
  simp only at hown4 ⊢
  have hownO4 := ownsRow_below hownO hb4
  have hownX4 := ownsRow_below hown3 hb4
  have hs4 := hs3.below hb4
  have hb04 := hb03.trans (hb4.mono hb03.size)
  have hz3 := hb03.size
  clear hb4 hs3 hb03 hown3 hownO hso3
  go_wp2_with fail
  refine (spoil_any w1.heap.size ow _ _ w4 hownO4).mono ?_
  rintro e w5 ⟨rfl, hg5⟩
  have hb05 : Below w.heap.size w w5 := hb04.grown hg5 hb04.size (fun k hk => Nat.le_trans hb1.size (hownO4.lt k hk).1)
  have hownX5 := ownsRow_spared hownX4 hg5 (fun k hk => by have := hlow k hk; simp; omega)
  have hownT5 := ownsRow_spared hown4 hg5 (fun k hk => by have := hlow k hk; omega)
  have hs5 := hs0.below hb05
  have hsx : Seg .u8 w5 x (b ++ Pl.enc 9 n) := Seg.own hownX5
  have hst : Seg .u8 w5 t tl := Seg.own hownT5
  clear hg5 hownX4 hown4 hownO4 hownX5 hownT5 hs4 hb04 hlow hz2 hz3 hz23 hb2
  go_wp2_with fail
  refine (rtext_any v0 b p 1048576 w5 hs5 ho (by omega) hp0 hp1 (by omega) (by omega)).mono ?_
  rintro e w6 ⟨y, rfl, hown6, hb6⟩
  rw [HT.out] at hown6 ⊢
  simp only at hown6 ⊢
  have hsy : Seg .u8 w6 y tl := Seg.own hown6
  have hs6 := hs5.below hb6
  have hsx6 := hsx.below hb6
  have hst6 := hst.below hb6
  have hb06 := hb05.trans (hb6.mono hb05.size)
  clear hown6 hb6 hs5 hsx hst hb05
  go_wp2_with fail
  refine (rput_any v0 b n w6 hs6 hn0 hn1 (by omega)).mono ?_
  rintro e w7 ⟨y2, rfl, hown7, hb7⟩
  have hsy2 : Seg .u8 w7 y2 (b ++ Pl.enc 9 n) := Seg.own hown7
  have hsx7 := hsx6.below hb7
  have hst7 := hst6.below hb7
  have hsy7 := hsy.below hb7
  have hb07 := hb06.trans (hb7.mono hb06.size)
  clear hown7 hb7 hsx6 hst6 hsy hb06
  go_wp2_with fail
  refine (sameBytes_any x y2 _ _ w7 hsx7 hsy2 hno hno).mono ?_
  rintro e w8 ⟨rfl, rfl⟩
  rw [beq_self_eq_true]
  go_wp2_with fail
  refine (sameBytes_any t y _ _ w7 hst7 hsy7 hto hto).mono ?_
  rintro e w8 ⟨rfl, rfl⟩
  rw [beq_self_eq_true]
  go_wp2_with fail
  refine (num_any _ _).mono ?_
  rintro e w8 ⟨rfl, rfl⟩
  go_wp2
  go_ret
  exact ⟨ret_bool (by simp), hb07⟩

set_option maxRecDepth 100000 in
theorem lifted (os : Os) (started : os.Started) (H : Type) (enc : TypeId × Value → H) :
    ReturnsInHanded {} Try.checked os 8 .any (Rows.varintOwnSpec.pre6 enc Try.prog Try.f8 Rows.varintOwnRow.domain false) (Rows.varintOwnSpec.post enc Try.prog Try.f8 false true false false) := by
  refine returnsInHanded_of_change_sized (C := Try.checked) own started (by kernel_rfl) Try.func8
    (ChangeSpec.witness6 (enc := enc) (C := Try.checked) false ⟨#[], #[.slice none 0 0, .int .u64 0, .int .i64 0], []⟩ 8 (by kernel_rfl) (by kernel_rfl) (by kernel_rfl) (by kernel_rfl)) ?_
  intro W base args ds gs before hval0 hW hcnd hsz0 _
  have hval : ∀ (j : Nat) t v, Try.f8.params[j]? = some t → args[j]? = some v → Value.okWide Try.prog W .any base t v := hval0
  have hsz : (DataW.weightsEach Try.prog (Try.f8.params.toList ++ Rows.varintOwnSpec.plain.varTypes Try.prog) (ds ++ gs)).all (· ≤ reachBytes) = true := hsz0
  have hW' := hW
  obtain ⟨p, q, hA0, hV, rfl, hfz, hnd⟩ := hW
  have hA : DataW.TrodAll enc Try.prog W 0 (fun _ => true) true Try.f8.params.toList args.toList ds p := hA0
  rw [Try.params8] at hA hval hsz
  obtain ⟨v0, vs0, d0, ds0, p0, q0, hargs, rfl, rfl, h0, r0⟩ := trodAll_cons hA
  obtain ⟨v1, vs1, d1, ds1, p1, q1, rfl, rfl, rfl, h1, r1⟩ := trodAll_cons r0
  obtain ⟨v2, vs2, d2, ds2, p2, q2, rfl, rfl, rfl, h2, r2⟩ := trodAll_cons r1
  obtain ⟨rfl, rfl, rfl⟩ := trodAll_nil r2
  obtain rfl : args = #[v0, v1, v2] := by cases args; simp_all
  obtain ⟨rfl, rfl⟩ := trodVars_none hV
  have k0 := h0
  have lt0 : ∀ x ∈ p0, x.block < W.heap.size := by obtain ⟨m, hm⟩ := k0; exact DataW.trod_lt m _ _ _ hm
  obtain ⟨l0, hs0, ho0, e0⟩ := open_octets (hval 0 22 v0 rfl rfl) h0
  have z0 : l0.length ≤ 140737488351232 := by
    rcases e0 with ⟨_, rfl⟩ | ⟨elems, spare, rfl, hl⟩
    · simp
    · have := sized_slice hsz (j := 0) (t := 22) (e := 5) rfl rfl Try.underlying22
      rw [Try.bytes5] at this
      simp only [reachBytes] at this
      omega
  obtain ⟨a1, rfl, rfl, rfl, w1⟩ := open_int Try.underlying23 (hval 1 23 v1 rfl rfl) h1
  obtain ⟨a2, rfl, rfl, rfl, w2⟩ := open_int Try.underlying3 (hval 2 3 v2 rfl rfl) h2
  clear hA0 hval0
  refine (walk v0 l0 hs0 ho0 z0 a1 w1 a2 w2).mono fun e W' ⟨he, bel⟩ => ?_
  subst he
  exact ⟨_, rfl, _, _, _, [], _, [], hW', trodAll_mk1 (shut_bool Try.underlying4 _), (trodAll_cons_mk (Below.trod laidOut (by kernel_rfl) (of_decide_eq_true (by kernel_rfl)) k0 bel lt0) (trodAll_cons_mk (shut_int Try.underlying23 w1) (trodAll_cons_mk (shut_int Try.underlying3 w2) trodAll_mk0))), rfl, bel.frame _, fun h => by cases h⟩

theorem over : Rows.varintOwnRow.holds Try.pinned (OpenSpec.ofChange Rows.varintOwnSpec) :=
  OpenClaim.holds_of_wide 8 Try.f8 rfl rfl rfl rfl rfl rfl rfl ⟨rfl, rfl, rfl, rfl, rfl⟩ rfl rfl rfl rfl rfl (by kernel_rfl) Try.func8 (by kernel_rfl)
    (of_decide_eq_true (by kernel_rfl)) (by unfold Func.isWrapper; first | (rw [if_pos (by decide +kernel)]; kernel_rfl) | (rw [if_neg (by decide +kernel)]; exact ⟨rfl, rfl⟩))
    (fun os started H enc _ => lifted os started H enc)
end Go.Proofs.Ythakifpjdpknhaa.varintOwn

namespace Go.Proofs.Ythakifpjdpknhaa
/-- THE STATEMENT. -/
theorem varintOwn_holds : Rows.VarintOwnSaid := varintOwn.over
#print axioms varintOwn_holds
end Go.Proofs.Ythakifpjdpknhaa
