/- For all octets b, every int at and every uint32 turn: what Unlike tells of a copy of b is its holder's, also when the copy has been written over, and turned again it is b; where the bits are not there both calls say so (the law CrcOwn answers true), and no argument changes. No condition. -/
import Derived.Test.YtfbgbgblbkiniaaOpen
import Derived.Test.YtfbgbgblbkiniaaCallsC
namespace Go.Proofs.Ytfbgbgblbkiniaa.crcOwn
open Go.ChangeShapes Go.WideShapes Go.ChangeAt Go.RowKit
open Go.ChangeMaps (open_string shut_string)

set_option maxHeartbeats 1000000 in
theorem walk (v0 : Value) (b : List Int) {w : World} (hs0 : Seg .u8 w v0 b) (ho : ∀ z ∈ b, 0 ≤ z ∧ z ≤ 255) (hlen : b.length ≤ 140737488351232) (p : Int) (x1 : (Lit.int .i64 p).wf = true) (turn : Int) (x2 : (Lit.int .u32 turn).wf = true) :
    Calls Try.prog 8 #[v0, .int .i64 p, .int .u32 turn] w fun e w' => e = .returned (.bool true) ∧ Below w.heap.size w w' := by
  obtain ⟨hp0, hp1⟩ := bounds_i64 x1
  obtain ⟨ht0, ht1⟩ := bounds_u32 x2
  clear x1 x2
  go_enter Try.func8, Try.ntmps8
  go_wp2_with fail
  refine (alive_any w).mono ?_
  rintro e w1 ⟨rfl, hb1⟩
  have hs1 := hs0.below hb1
  go_wp2_with fail
  refine (copyBytes_any v0 b w1 hs1 (by omega)).mono ?_
  rintro e w2 ⟨ow, rfl, hown2, hb2⟩
  have hso : Seg .u8 w2 ow b := Seg.own hown2
  have hs2 := hs1.below hb2
  have hb02 := hb1.trans (hb2.mono hb1.size)
  have hz2 := hb2.size
  have hlow : ∀ k, ow.ownBlock = some k → k < w2.heap.size := fun k hk => (hown2.lt k hk).2
  by_cases hr : p < 0 ∨ 8 * (b.length : Int) - 32 < p
  · go_wp2_with fail
    refine (unlike_out ow b p turn w2 hso hp0 hp1 (by omega) hr).mono ?_
    rintro e w3 ⟨rfl, hb3⟩
    have hown3 := ownsRow_below hown2 hb3
    have hb03 := hb02.trans (hb3.mono hb02.size)
    go_wp2_with fail
    refine (spoil_any w1.heap.size ow _ _ w3 hown3).mono ?_
    rintro e w4 ⟨rfl, hg4⟩
    have hb04 : Below w.heap.size w w4 := hb03.grown hg4 hb03.size (fun k hk => Nat.le_trans hb1.size (hown3.lt k hk).1)
    go_wp2_with fail
    refine (unlike_out (.slice none 0 0) [] p turn w4 (Seg.nil _ _) hp0 hp1 (by simp) (by simp; omega)).mono ?_
    rintro e w5 ⟨rfl, hb5⟩
    have hb05 := hb04.trans (hb5.mono hb04.size)
    clear hown3 hg4 hown2
    go_wp2_with fail
    refine (num_any _ _).mono ?_
    rintro e w6 ⟨rfl, rfl⟩
    go_wp2
    go_ret
    exact ⟨rfl, hb05⟩
  · obtain ⟨P, rfl⟩ : ∃ P : Nat, p = P := ⟨p.toNat, by omega⟩
    obtain ⟨T, rfl⟩ : ∃ T : Nat, turn = T := ⟨turn.toNat, by omega⟩
    have hr' : P + 32 ≤ 8 * b.length := by omega
    have HS : Hid (Pl.un (Pl.un b P T 32) P T 32 = b) := Pl.un_twice ho P T 32
    have hou : Pl.Octs (Pl.un b P T 32) := Pl.octs_un ho P T 32
    have hul := Pl.un_len b P T 32
    go_wp2_with fail
    refine (unlike_in ow b P T w2 hso ho (by omega) (by omega) hr').mono ?_
    rintro e w3 ⟨x, rfl, hown3, hb3⟩
    have hownO := ownsRow_below hown2 hb3
    have hb03 := hb02.trans (hb3.mono hb02.size)
    clear hb3 hown2 hso hs2
    go_wp2_with fail
    refine (spoil_any w1.heap.size ow _ _ w3 hownO).mono ?_
    rintro e w4 ⟨rfl, hg4⟩
    have hb04 : Below w.heap.size w w4 := hb03.grown hg4 hb03.size (fun k hk => Nat.le_trans hb1.size (hownO.lt k hk).1)
    have hownX := ownsRow_spared hown3 hg4 hlow
    have hsx : Seg .u8 w4 x (Pl.un b P T 32) := Seg.own (by rw [hul]; exact hownX)
    have hs4 := hs0.below hb04
    clear hg4 hown3 hownO hownX hlow hz2 hb02 hb2 hb03 hs1 hb1
    go_wp2_with fail
    refine (unlike_in x (Pl.un b P T 32) P T w4 hsx hou (by omega) (by omega) (by omega)).mono ?_
    rintro e w5 ⟨y, rfl, hown5, hb5⟩
    rw [HS.out] at hown5
    have hsy : Seg .u8 w5 y b := Seg.own (by rw [hul] at hown5; exact hown5)
    have hs5 := hs4.below hb5
    have hb05 := hb04.trans (hb5.mono hb04.size)
    clear hown5 hb5
    go_wp2_with fail
    refine (num_any _ _).mono ?_
    rintro e w6 ⟨rfl, rfl⟩
    go_wp2_with fail
    refine (sameBytes_any y v0 _ _ w5 hsy hs5 ho ho).mono ?_
    rintro e w6 ⟨rfl, rfl⟩
    rw [beq_self_eq_true]
    go_wp2
    go_ret
    exact ⟨rfl, hb05⟩

set_option maxRecDepth 100000 in
theorem lifted (os : Os) (started : os.Started) (H : Type) (enc : TypeId × Value → H) :
    ReturnsInHanded {} Try.checked os 8 .any (Rows.crcOwnSpec.pre6 enc Try.prog Try.f8 Rows.crcOwnRow.domain false) (Rows.crcOwnSpec.post enc Try.prog Try.f8 false true false false) := by
  refine returnsInHanded_of_change_sized (C := Try.checked) own started (by kernel_rfl) Try.func8
    (ChangeSpec.witness6 (enc := enc) (C := Try.checked) false ⟨#[], #[.slice none 0 0, .int .i64 0, .int .u32 0], []⟩ 8 (by kernel_rfl) (by kernel_rfl) (by kernel_rfl) (by kernel_rfl)) ?_
  intro W base args ds gs before hval0 hW hcnd hsz0 _
  have hval : ∀ (j : Nat) t v, Try.f8.params[j]? = some t → args[j]? = some v → Value.okWide Try.prog W .any base t v := hval0
  have hsz : (DataW.weightsEach Try.prog (Try.f8.params.toList ++ Rows.crcOwnSpec.plain.varTypes Try.prog) (ds ++ gs)).all (· ≤ reachBytes) = true := hsz0
  have hW' := hW
  obtain ⟨p, q, hA0, hV, rfl, hfz, hnd⟩ := hW
  have hA : DataW.TrodAll enc Try.prog W 0 (fun _ => true) true Try.f8.params.toList args.toList ds p := hA0
  rw [Try.params8] at hA hval hsz
  obtain ⟨v0, vs0, d0, ds0, p0, q0, hargs, rfl, rfl, h0, r0⟩ := trodAll_cons hA
  obtain ⟨v1, vs1, d1, ds1, p1, q1, rfl, rfl, rfl, h1, r1⟩ := trodAll_cons r0
  obtain ⟨v2, vs2, d2, ds2, p2, q2, rfl, rfl, rfl, h2, r2⟩ := trodAll_cons r1
  obtain ⟨rfl, rfl, rfl⟩ := trodAll_nil r2
  obtain rfl : args = #[v0, v1, v2] := by cases args; simp_all
  obtain ⟨rfl, rfl⟩ := trodVars_none hV
  have k0 := h0
  have lt0 : ∀ x ∈ p0, x.block < W.heap.size := by obtain ⟨m, hm⟩ := k0; exact DataW.trod_lt m _ _ _ hm
  obtain ⟨l0, hs0, ho0, e0⟩ := open_octets (hval 0 22 v0 rfl rfl) h0
  have z0 : l0.length ≤ 140737488351232 := by
    rcases e0 with ⟨_, rfl⟩ | ⟨elems, spare, rfl, hl⟩
    · simp
    · have := sized_slice hsz (j := 0) (t := 22) (e := 5) rfl rfl Try.underlying22
      rw [Try.bytes5] at this
      simp only [reachBytes] at this
      omega
  obtain ⟨a1, rfl, rfl, rfl, w1⟩ := open_int Try.underlying3 (hval 1 3 v1 rfl rfl) h1
  obtain ⟨a2, rfl, rfl, rfl, w2⟩ := open_int Try.underlying23 (hval 2 23 v2 rfl rfl) h2
  clear hA0 hval0
  refine (walk v0 l0 hs0 ho0 z0 a1 w1 a2 w2).mono fun e W' ⟨he, bel⟩ => ?_
  subst he
  exact ⟨_, rfl, _, _, _, [], _, [], hW', trodAll_mk1 (shut_bool Try.underlying4 _), (trodAll_cons_mk (Below.trod laidOut (by kernel_rfl) (of_decide_eq_true (by kernel_rfl)) k0 bel lt0) (trodAll_cons_mk (shut_int Try.underlying3 w1) (trodAll_cons_mk (shut_int Try.underlying23 w2) trodAll_mk0))), rfl, bel.frame _, fun h => by cases h⟩

theorem over : Rows.crcOwnRow.holds Try.pinned (OpenSpec.ofChange Rows.crcOwnSpec) :=
  OpenClaim.holds_of_wide 8 Try.f8 rfl rfl rfl rfl rfl rfl rfl ⟨rfl, rfl, rfl, rfl, rfl⟩ rfl rfl rfl rfl rfl (by kernel_rfl) Try.func8 (by kernel_rfl)
    (of_decide_eq_true (by kernel_rfl)) (by unfold Func.isWrapper; first | (rw [if_pos (by decide +kernel)]; kernel_rfl) | (rw [if_neg (by decide +kernel)]; exact ⟨rfl, rfl⟩))
    (fun os started H enc _ => lifted os started H enc)
end Go.Proofs.Ytfbgbgblbkiniaa.crcOwn

namespace Go.Proofs.Ytfbgbgblbkiniaa
/-- THE STATEMENT. -/
theorem crcOwn_holds : Rows.CrcOwnSaid := crcOwn.over
#print axioms crcOwn_holds
end Go.Proofs.Ytfbgbgblbkiniaa
