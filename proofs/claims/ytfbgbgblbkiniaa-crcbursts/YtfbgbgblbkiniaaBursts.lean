/- For all octets b, every int at and every uint32 turn: octets of which some of 32 bits in a row are turned have another sum than b just where a bit is turned, and where the bits are not there the answer is empty (the law CrcBursts answers true), and no argument changes. No condition. -/
import Derived.Test.YtfbgbgblbkiniaaOpen
import Derived.Test.YtfbgbgblbkiniaaCallsC
namespace Go.Proofs.Ytfbgbgblbkiniaa.crcBursts
open Go.ChangeShapes Go.WideShapes Go.ChangeAt Go.RowKit
open Go.ChangeMaps (open_string shut_string)

theorem sum_un (l : List Int) (p turn : Nat) (ht : turn < 4294967296) (h : p + 32 ≤ 8 * l.length) : (Pl.sumOf (Pl.un l p turn 32) = Pl.sumOf l) ↔ turn = 0 := by
  rw [← Pl.run_unlike 4294967295 l p turn ht h]
  unfold Pl.sumOf
  constructor
  · intro e
    have := congrArg (4294967295 ^^^ ·) e
    simpa only [Pl.xx] using this
  · intro e
    rw [e]

theorem both_told {A B T : Nat} (h : A = B ↔ T = 0) : (((A : Int) == (B : Int)) == ((T : Int) == 0)) = true := by
  by_cases hT : T = 0
  · simp [hT, h.2 hT]
  · have hn : ¬ A = B := fun e => hT (h.1 e)
    have h1 : ((A : Int) == (B : Int)) = false := by simp; omega
    have h2 : ((T : Int) == 0) = false := by simp; omega
    rw [h1, h2]
    rfl

set_option maxHeartbeats 1000000 in
theorem walk (v0 : Value) (b : List Int) {w : World} (hs0 : Seg .u8 w v0 b) (ho : ∀ z ∈ b, 0 ≤ z ∧ z ≤ 255) (hlen : b.length ≤ 140737488351232) (p : Int) (x1 : (Lit.int .i64 p).wf = true) (turn : Int) (x2 : (Lit.int .u32 turn).wf = true) :
    Calls Try.prog 6 #[v0, .int .i64 p, .int .u32 turn] w fun e w' => e = .returned (.bool true) ∧ Below w.heap.size w w' := by
  obtain ⟨hp0, hp1⟩ := bounds_i64 x1
  obtain ⟨ht0, ht1⟩ := bounds_u32 x2
  clear x1 x2
  go_enter Try.func6, Try.ntmps6
  go_wp2_with fail
  refine (alive_any w).mono ?_
  rintro e w1 ⟨rfl, hb1⟩
  have hs1 := hs0.below hb1
  by_cases hr : p < 0 ∨ 8 * (b.length : Int) - 32 < p
  · go_wp2_with fail
    refine (unlike_out v0 b p turn w1 hs1 hp0 hp1 (by omega) hr).mono ?_
    rintro e w2 ⟨rfl, hb2⟩
    go_wp2_with fail
    refine (num_any _ _).mono ?_
    rintro e w3 ⟨rfl, rfl⟩
    go_wp2
    go_ret
    exact ⟨rfl, hb1.trans (hb2.mono hb1.size)⟩
  · obtain ⟨P, rfl⟩ : ∃ P : Nat, p = P := ⟨p.toNat, by omega⟩
    obtain ⟨T, rfl⟩ : ∃ T : Nat, turn = T := ⟨turn.toNat, by omega⟩
    have hr' : P + 32 ≤ 8 * b.length := by omega
    have HS : Hid (Pl.sumOf (Pl.un b P T 32) = Pl.sumOf b ↔ T = 0) := sum_un b P T (by omega) hr'
    have hou : Pl.Octs (Pl.un b P T 32) := Pl.octs_un ho P T 32
    go_wp2_with fail
    refine (unlike_in v0 b P T w1 hs1 ho (by omega) (by omega) hr').mono ?_
    rintro e w2 ⟨x, rfl, hown2, hb2⟩
    have hsx : Seg .u8 w2 x (Pl.un b P T 32) := Seg.own (by rw [Pl.un_len]; exact hown2)
    have hs2 := hs1.below hb2
    have hb02 := hb1.trans (hb2.mono hb1.size)
    clear hown2 hb2 hs1 hb1 hs0
    obtain ⟨ax, capx, rfl, g1, g2, g3, g4⟩ := id hsx
    obtain ⟨a0, cap0, rfl, k1, k2, k3, k4⟩ := id hs2
    clear g1 g2 g3 g4 k1 k2 k3 k4
    go_wp2_with fail
    refine (num_any _ _).mono ?_
    rintro e w3 ⟨rfl, rfl⟩
    go_wp2_with fail
    refine (sum_one _ rfl hsx hou).mono ?_
    rintro e w3 ⟨rfl, rfl⟩
    have hb3 := (Below.refl w2.heap.size w2).alloc (Nat.le_refl _) (.cells #[.slice ax (Pl.un b P T 32).length capx] 22)
    have hs3 := hs2.below hb3
    have hb03 := hb02.trans (hb3.mono hb02.size)
    generalize w2.alloc (.cells #[.slice ax (Pl.un b P T 32).length capx] 22) = w3 at *
    go_wp2_with fail
    refine (sum_one _ rfl hs3 ho).mono ?_
    rintro e w4 ⟨rfl, rfl⟩
    have hb04 := hb03.alloc hb03.size (.cells #[.slice a0 b.length cap0] 22)
    generalize w3.alloc (.cells #[.slice a0 b.length cap0] 22) = w4 at *
    go_wp2
    go_ret
    exact ⟨ret_bool (both_told HS.out), hb04⟩

set_option maxRecDepth 100000 in
theorem lifted (os : Os) (started : os.Started) (H : Type) (enc : TypeId × Value → H) :
    ReturnsInHanded {} Try.checked os 6 .any (Rows.crcBurstsSpec.pre6 enc Try.prog Try.f6 Rows.crcBurstsRow.domain false) (Rows.crcBurstsSpec.post enc Try.prog Try.f6 false true false false) := by
  refine returnsInHanded_of_change_sized (C := Try.checked) own started (by kernel_rfl) Try.func6
    (ChangeSpec.witness6 (enc := enc) (C := Try.checked) false ⟨#[], #[.slice none 0 0, .int .i64 0, .int .u32 0], []⟩ 8 (by kernel_rfl) (by kernel_rfl) (by kernel_rfl) (by kernel_rfl)) ?_
  intro W base args ds gs before hval0 hW hcnd hsz0 _
  have hval : ∀ (j : Nat) t v, Try.f6.params[j]? = some t → args[j]? = some v → Value.okWide Try.prog W .any base t v := hval0
  have hsz : (DataW.weightsEach Try.prog (Try.f6.params.toList ++ Rows.crcBurstsSpec.plain.varTypes Try.prog) (ds ++ gs)).all (· ≤ reachBytes) = true := hsz0
  have hW' := hW
  obtain ⟨p, q, hA0, hV, rfl, hfz, hnd⟩ := hW
  have hA : DataW.TrodAll enc Try.prog W 0 (fun _ => true) true Try.f6.params.toList args.toList ds p := hA0
  rw [Try.params6] at hA hval hsz
  obtain ⟨v0, vs0, d0, ds0, p0, q0, hargs, rfl, rfl, h0, r0⟩ := trodAll_cons hA
  obtain ⟨v1, vs1, d1, ds1, p1, q1, rfl, rfl, rfl, h1, r1⟩ := trodAll_cons r0
  obtain ⟨v2, vs2, d2, ds2, p2, q2, rfl, rfl, rfl, h2, r2⟩ := trodAll_cons r1
  obtain ⟨rfl, rfl, rfl⟩ := trodAll_nil r2
  obtain rfl : args = #[v0, v1, v2] := by cases args; simp_all
  obtain ⟨rfl, rfl⟩ := trodVars_none hV
  have k0 := h0
  have lt0 : ∀ x ∈ p0, x.block < W.heap.size := by obtain ⟨m, hm⟩ := k0; exact DataW.trod_lt m _ _ _ hm
  obtain ⟨l0, hs0, ho0, e0⟩ := open_octets (hval 0 22 v0 rfl rfl) h0
  have z0 : l0.length ≤ 140737488351232 := by
    rcases e0 with ⟨_, rfl⟩ | ⟨elems, spare, rfl, hl⟩
    · simp
    · have := sized_slice hsz (j := 0) (t := 22) (e := 5) rfl rfl Try.underlying22
      rw [Try.bytes5] at this
      simp only [reachBytes] at this
      omega
  obtain ⟨a1, rfl, rfl, rfl, w1⟩ := open_int Try.underlying3 (hval 1 3 v1 rfl rfl) h1
  obtain ⟨a2, rfl, rfl, rfl, w2⟩ := open_int Try.underlying23 (hval 2 23 v2 rfl rfl) h2
  clear hA0 hval0
  refine (walk v0 l0 hs0 ho0 z0 a1 w1 a2 w2).mono fun e W' ⟨he, bel⟩ => ?_
  subst he
  exact ⟨_, rfl, _, _, _, [], _, [], hW', trodAll_mk1 (shut_bool Try.underlying4 _), (trodAll_cons_mk (Below.trod laidOut (by kernel_rfl) (of_decide_eq_true (by kernel_rfl)) k0 bel lt0) (trodAll_cons_mk (shut_int Try.underlying3 w1) (trodAll_cons_mk (shut_int Try.underlying23 w2) trodAll_mk0))), rfl, bel.frame _, fun h => by cases h⟩

theorem over : Rows.crcBurstsRow.holds Try.pinned (OpenSpec.ofChange Rows.crcBurstsSpec) :=
  OpenClaim.holds_of_wide 6 Try.f6 rfl rfl rfl rfl rfl rfl rfl ⟨rfl, rfl, rfl, rfl, rfl⟩ rfl rfl rfl rfl rfl (by kernel_rfl) Try.func6 (by kernel_rfl)
    (of_decide_eq_true (by kernel_rfl)) (by unfold Func.isWrapper; first | (rw [if_pos (by decide +kernel)]; kernel_rfl) | (rw [if_neg (by decide +kernel)]; exact ⟨rfl, rfl⟩))
    (fun os started H enc _ => lifted os started H enc)
end Go.Proofs.Ytfbgbgblbkiniaa.crcBursts

namespace Go.Proofs.Ytfbgbgblbkiniaa
/-- THE STATEMENT. -/
theorem crcBursts_holds : Rows.CrcBurstsSaid := crcBursts.over
#print axioms crcBursts_holds
end Go.Proofs.Ytfbgbgblbkiniaa
