/- For all octets b and all uint32 want and other: Force tells four octets, behind b they make the sum want, and four others make it just where they are the same (the law CrcForces answers true), and no argument changes. No condition. -/
import Derived.Test.YtfbgbgblbkiniaaOpen
import Derived.Test.YtfbgbgblbkiniaaCallsF
namespace Go.Proofs.Ytfbgbgblbkiniaa.crcForces
open Go.ChangeShapes Go.WideShapes Go.ChangeAt Go.RowKit
open Go.ChangeMaps (open_string shut_string)

def word (b : List Int) (want : Nat) : Nat := Pl.sumOf b ^^^ (4294967295 ^^^ Pl.nur (4294967295 ^^^ want) [0, 0, 0, 0])
theorem octs0 : Pl.Octs [0, 0, 0, 0] := by intro z hz; simp at hz; omega
theorem word_lt {b : List Int} {want : Nat} (ho : Pl.Octs b) (hw : want < 4294967296) : word b want < 4294967296 :=
  Pl.xlt (Pl.sumOf_lt ho) (Pl.xlt (by decide) (Pl.nur_lt (Pl.xlt (by decide) hw) octs0))
theorem xinj {a b c : Nat} (h : a ^^^ b = a ^^^ c) : b = c := by
  have := congrArg (a ^^^ ·) h
  simpa only [Pl.xx] using this
theorem forces {b : List Int} {want V : Nat} (ho : Pl.Octs b) (hw : want < 4294967296) (hV : V < 4294967296) : Pl.sumOf (b ++ Pl.four V) = want ↔ V = word b want := by
  have hX : 4294967295 ^^^ want < 4294967296 := Pl.xlt (by decide) hw
  have hN := Pl.nur_lt hX octs0
  have hR : Pl.run 4294967295 b < 4294967296 := Pl.run_lt (by decide) ho
  have h0 : Pl.it 32 (Pl.nur (4294967295 ^^^ want) [0, 0, 0, 0]) = 4294967295 ^^^ want := by
    have h1 := Pl.run_nur hX octs0
    have h2 := Pl.run_four (Pl.nur (4294967295 ^^^ want) [0, 0, 0, 0]) 0 (by decide)
    rw [Nat.xor_zero] at h2
    rw [← h2]
    exact h1
  have hS : Pl.sumOf (b ++ Pl.four V) = 4294967295 ^^^ Pl.it 32 (Pl.run 4294967295 b ^^^ V) := by
    unfold Pl.sumOf
    rw [Pl.run_app, Pl.run_four _ _ hV]
  have hW : word b want = Pl.run 4294967295 b ^^^ Pl.nur (4294967295 ^^^ want) [0, 0, 0, 0] := by
    unfold word Pl.sumOf
    rw [Nat.xor_comm 4294967295 (Pl.run 4294967295 b), Nat.xor_assoc, Pl.xx]
  rw [hS, hW]
  generalize Pl.nur (4294967295 ^^^ want) [0, 0, 0, 0] = N at *
  generalize Pl.run 4294967295 b = R at *
  constructor
  · intro e
    have e1 : Pl.it 32 (R ^^^ V) = Pl.it 32 N := by
      rw [h0, ← e, Pl.xx]
    have e2 := Pl.it_inj (Pl.xlt hR hV) hN e1
    rw [← e2, Pl.xx]
  · intro e
    rw [e, Pl.xx, h0, Pl.xx]

theorem four_same {V W : Nat} (hV : V < 4294967296) (hW : W < 4294967296) : (Pl.four V == Pl.four W) = decide (V = W) := by
  by_cases h : V = W
  · subst h
    simp
  · have hn : ¬ Pl.four V = Pl.four W := fun e => h (Pl.four_inj hV hW e)
    simp [h, hn]

theorem seg_four {w : World} {T : Nat} (hT : T < 4294967296) : Seg .u8 (w.alloc (.cells #[.int .u8 ((T : Int) % 256), .int .u8 ((T : Int) / 256 % 256), .int .u8 ((T : Int) / 65536 % 256), .int .u8 ((T : Int) / 16777216)] 5)) (.slice (some ⟨w.heap.size, 0, none⟩) 4 4) (Pl.four T) := by
  have h := seg_new (w := w) (l := Pl.four T) 5 (0, 0) (by simp [Pl.four])
  have e : (u8s (Pl.four T)).toArray = #[.int .u8 ((T : Int) % 256), .int .u8 ((T : Int) / 256 % 256), .int .u8 ((T : Int) / 65536 % 256), .int .u8 ((T : Int) / 16777216)] := by
    simp [u8s, Pl.four]
    omega
  rw [e] at h
  exact h
theorem both_same {A S T W : Nat} (h : A = S ↔ T = W) : (((A : Int) == (S : Int)) == decide (W = T)) = true := by
  by_cases hT : T = W
  · simp [hT, h.2 hT]
  · have hn : ¬ A = S := fun e => hT (h.1 e)
    have h1 : ((A : Int) == (S : Int)) = false := by simp; omega
    have h2 : decide (W = T) = false := by simp; omega
    rw [h1, h2]
    rfl

set_option maxHeartbeats 1000000 in
theorem walk (v0 : Value) (b : List Int) {w : World} (hs0 : Seg .u8 w v0 b) (ho : ∀ z ∈ b, 0 ≤ z ∧ z ≤ 255) (hlen : b.length ≤ 140737488351232) (want : Int) (x1 : (Lit.int .u32 want).wf = true) (other : Int) (x2 : (Lit.int .u32 other).wf = true) :
    Calls Try.prog 5 #[v0, .int .u32 want, .int .u32 other] w fun e w' => e = .returned (.bool true) ∧ Below w.heap.size w w' := by
  obtain ⟨hw0, hw1⟩ := bounds_u32 x1
  obtain ⟨ht0, ht1⟩ := bounds_u32 x2
  clear x1 x2
  obtain ⟨S, rfl⟩ : ∃ S : Nat, want = S := ⟨want.toNat, by omega⟩
  obtain ⟨T, rfl⟩ : ∃ T : Nat, other = T := ⟨other.toNat, by omega⟩
  have hS : S < 4294967296 := by omega
  have hT : T < 4294967296 := by omega
  have hwl := word_lt ho hS
  have F1 : Hid (Pl.sumOf (b ++ Pl.four (word b S)) = S) := (forces ho hS hwl).2 rfl
  have F2 : Hid (Pl.sumOf (b ++ Pl.four T) = S ↔ T = word b S) := forces ho hS hT
  have F3 : Hid ((Pl.four (word b S) == Pl.four T) = decide (word b S = T)) := four_same hwl hT
  obtain ⟨a0, c0, rfl, k1, k2, k3, k4⟩ := id hs0
  clear k1 k2 k3 k4
  go_enter Try.func5, Try.ntmps5
  go_wp2_with fail
  refine (alive_any w).mono ?_
  rintro e w1 ⟨rfl, hb1⟩
  have hs1 := hs0.below hb1
  go_wp2_with fail
  refine (force_any _ b S w1 hs1 ho hS (by omega)).mono ?_
  rintro e w2 ⟨f, rfl, hf2, hb2⟩
  have hf : Seg .u8 w2 f (Pl.four (word b S)) := hf2
  have hb02 := hb1.trans (hb2.mono hb1.size)
  clear hf2 hb2 hs1 hb1
  have hof := Pl.octs_four (word b S)
  generalize word b S = W at *
  obtain ⟨af, cf, rfl, m1, m2, m3, m4⟩ := id hf
  clear m1 m2 m3 m4
  go_wp2_with fail
  have hfo := seg_four (w := w2) hT
  have hz3 : (w2.alloc (.cells #[.int .u8 ((T : Int) % 256), .int .u8 ((T : Int) / 256 % 256), .int .u8 ((T : Int) / 65536 % 256), .int .u8 ((T : Int) / 16777216)] 5)).heap.size = w2.heap.size + 1 := by simp
  have hb3 := (Below.refl w2.heap.size w2).alloc (Nat.le_refl _) (.cells #[.int .u8 ((T : Int) % 256), .int .u8 ((T : Int) / 256 % 256), .int .u8 ((T : Int) / 65536 % 256), .int .u8 ((T : Int) / 16777216)] 5)
  have hb03 := hb02.trans (hb3.mono hb02.size)
  have hf3 := hf.below hb3
  have hs3 := hs0.below hb03
  generalize w2.alloc (.cells #[.int .u8 ((T : Int) % 256), .int .u8 ((T : Int) / 256 % 256), .int .u8 ((T : Int) / 65536 % 256), .int .u8 ((T : Int) / 16777216)] 5) = w3 at *
  clear hb3 hf hb02
  refine (sum_two _ hz3 hs3 hf3 ho hof).mono ?_
  rintro e w4 ⟨rfl, rfl⟩
  rw [F1.out]
  have hb4 := (Below.refl w3.heap.size w3).alloc (Nat.le_refl _) (.cells #[.slice a0 b.length c0, .slice af (Pl.four W).length cf] 22)
  have hb04 := hb03.trans (hb4.mono hb03.size)
  have hf4 := hf3.below hb4
  have hs4 := hs0.below hb04
  have hfo4 := hfo.below hb4
  generalize w3.alloc (.cells #[.slice a0 b.length c0, .slice af (Pl.four W).length cf] 22) = w4 at *
  clear hb4 hb03 hf3 hs3 hfo
  go_wp2_with fail
  refine (sum_two _ rfl hs4 hfo4 ho (Pl.octs_four T)).mono ?_
  rintro e w5 ⟨rfl, rfl⟩
  have hb5 := (Below.refl w4.heap.size w4).alloc (Nat.le_refl _) (.cells #[.slice a0 b.length c0, .slice (some ⟨w2.heap.size, 0, none⟩) 4 4] 22)
  have hb05 := hb04.trans (hb5.mono hb04.size)
  have hf5 := hf4.below hb5
  have hfo5 := hfo4.below hb5
  generalize w4.alloc (.cells #[.slice a0 b.length c0, .slice (some ⟨w2.heap.size, 0, none⟩) 4 4] 22) = w5 at *
  clear hb5 hb04 hf4 hs4 hfo4
  go_wp2_with fail
  refine (sameBytes_any _ _ _ _ w5 hf5 hfo5 hof (Pl.octs_four T)).mono ?_
  rintro e w6 ⟨rfl, rfl⟩
  rw [F3.out]
  go_wp2
  go_ret
  exact ⟨ret_bool (both_same F2.out), hb05⟩

set_option maxRecDepth 100000 in
theorem lifted (os : Os) (started : os.Started) (H : Type) (enc : TypeId × Value → H) :
    ReturnsInHanded {} Try.checked os 5 .any (Rows.crcForcesSpec.pre6 enc Try.prog Try.f5 Rows.crcForcesRow.domain false) (Rows.crcForcesSpec.post enc Try.prog Try.f5 false true false false) := by
  refine returnsInHanded_of_change_sized (C := Try.checked) own started (by kernel_rfl) Try.func5
    (ChangeSpec.witness6 (enc := enc) (C := Try.checked) false ⟨#[], #[.slice none 0 0, .int .u32 0, .int .u32 0], []⟩ 8 (by kernel_rfl) (by kernel_rfl) (by kernel_rfl) (by kernel_rfl)) ?_
  intro W base args ds gs before hval0 hW hcnd hsz0 _
  have hval : ∀ (j : Nat) t v, Try.f5.params[j]? = some t → args[j]? = some v → Value.okWide Try.prog W .any base t v := hval0
  have hsz : (DataW.weightsEach Try.prog (Try.f5.params.toList ++ Rows.crcForcesSpec.plain.varTypes Try.prog) (ds ++ gs)).all (· ≤ reachBytes) = true := hsz0
  have hW' := hW
  obtain ⟨p, q, hA0, hV, rfl, hfz, hnd⟩ := hW
  have hA : DataW.TrodAll enc Try.prog W 0 (fun _ => true) true Try.f5.params.toList args.toList ds p := hA0
  rw [Try.params5] at hA hval hsz
  obtain ⟨v0, vs0, d0, ds0, p0, q0, hargs, rfl, rfl, h0, r0⟩ := trodAll_cons hA
  obtain ⟨v1, vs1, d1, ds1, p1, q1, rfl, rfl, rfl, h1, r1⟩ := trodAll_cons r0
  obtain ⟨v2, vs2, d2, ds2, p2, q2, rfl, rfl, rfl, h2, r2⟩ := trodAll_cons r1
  obtain ⟨rfl, rfl, rfl⟩ := trodAll_nil r2
  obtain rfl : args = #[v0, v1, v2] := by cases args; simp_all
  obtain ⟨rfl, rfl⟩ := trodVars_none hV
  have k0 := h0
  have lt0 : ∀ x ∈ p0, x.block < W.heap.size := by obtain ⟨m, hm⟩ := k0; exact DataW.trod_lt m _ _ _ hm
  obtain ⟨l0, hs0, ho0, e0⟩ := open_octets (hval 0 22 v0 rfl rfl) h0
  have z0 : l0.length ≤ 140737488351232 := by
    rcases e0 with ⟨_, rfl⟩ | ⟨elems, spare, rfl, hl⟩
    · simp
    · have := sized_slice hsz (j := 0) (t := 22) (e := 5) rfl rfl Try.underlying22
      rw [Try.bytes5] at this
      simp only [reachBytes] at this
      omega
  obtain ⟨a1, rfl, rfl, rfl, w1⟩ := open_int Try.underlying23 (hval 1 23 v1 rfl rfl) h1
  obtain ⟨a2, rfl, rfl, rfl, w2⟩ := open_int Try.underlying23 (hval 2 23 v2 rfl rfl) h2
  clear hA0 hval0
  refine (walk v0 l0 hs0 ho0 z0 a1 w1 a2 w2).mono fun e W' ⟨he, bel⟩ => ?_
  subst he
  exact ⟨_, rfl, _, _, _, [], _, [], hW', trodAll_mk1 (shut_bool Try.underlying4 _), (trodAll_cons_mk (Below.trod laidOut (by kernel_rfl) (of_decide_eq_true (by kernel_rfl)) k0 bel lt0) (trodAll_cons_mk (shut_int Try.underlying23 w1) (trodAll_cons_mk (shut_int Try.underlying23 w2) trodAll_mk0))), rfl, bel.frame _, fun h => by cases h⟩

theorem over : Rows.crcForcesRow.holds Try.pinned (OpenSpec.ofChange Rows.crcForcesSpec) :=
  OpenClaim.holds_of_wide 5 Try.f5 rfl rfl rfl rfl rfl rfl rfl ⟨rfl, rfl, rfl, rfl, rfl⟩ rfl rfl rfl rfl rfl (by kernel_rfl) Try.func5 (by kernel_rfl)
    (of_decide_eq_true (by kernel_rfl)) (by unfold Func.isWrapper; first | (rw [if_pos (by decide +kernel)]; kernel_rfl) | (rw [if_neg (by decide +kernel)]; exact ⟨rfl, rfl⟩))
    (fun os started H enc _ => lifted os started H enc)
end Go.Proofs.Ytfbgbgblbkiniaa.crcForces

namespace Go.Proofs.Ytfbgbgblbkiniaa
/-- THE STATEMENT. -/
theorem crcForces_holds : Rows.CrcForcesSaid := crcForces.over
#print axioms crcForces_holds
end Go.Proofs.Ytfbgbgblbkiniaa
