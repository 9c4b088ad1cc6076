/- histo: the reference's own and Same. -/
import Derived.Test.YthdaldgmolhljaaHsH
import Derived.Deep.RegionHeld
namespace Go.Proofs.Ythdaldgmolhljaa
open Go.RowKit
set_option linter.unusedVariables false
set_option maxRecDepth 20000

theorem ret_h1 {fn : Func} {k : Nat} (h : fn.results = #[.cell k 24]) {W : World} {tmps : Array Value} {b : Nat} {x0 x1 : Value} (ht : tmps.getD k undef = .pointer (some ⟨b, 0, none⟩))
    (hB : Bo W b [x0, x1] 24) : (results fn tmps).run Try.prog W = .ok (.agg #[x0, x1]) W := by
  have h0 := hB.cell 0 rfl
  have h1 := hB.cell 1 rfl
  clear hB
  rw [Array.getD_eq_getD_getElem?] at ht
  simp [results, h]
  go_simp

theorem Hi.onto_pad {c : List Int} (h : c.length = 0 ∨ c.length = 81) : Hi.onto Hi.zeros c c.length = Hi.pad c := by
  rcases h with h | h
  · rw [List.length_eq_zero_iff.1 h]
    rfl
  · rw [Hi.onto_both (by rw [Hi.zeros_len, h]), Hi.zeros_both h]
    unfold Hi.pad
    rw [if_neg (by omega)]
set_option maxHeartbeats 8000000 in
theorem rown_any (row : Value) (h : Hi.H) (w : World) (hs : Seg .i64 w row h.c) (hlen : h.c.length = 0 ∨ h.c.length = 81) :
    Calls Try.prog 33 #[vH row h.t] w fun e w' => ∃ r, e = .returned (vH r h.t) ∧ Below w.heap.size w w' ∧ OR w.heap.size w' r (Hi.pad h.c) := by
  obtain ⟨c, t⟩ := h
  dsimp only at hs hlen ⊢
  obtain ⟨a, cap, rfl, a1, a2, _, _⟩ := id hs
  unfold maxLen at a2
  obtain ⟨W0, hW0, X0, X1, HB, HS⟩ := two_boxes w (hL (.slice a c.length cap) t) (hL (.slice none 0 0) 0) 24 24
  have HSEG := hidD (fun (W : World) (b : Below w.heap.size w W) => hs.below b)
  obtain ⟨L, hL'⟩ : ∃ L, L = c.length := ⟨_, rfl⟩
  rw [← hL'] at a1 HSEG hlen hW0 X0 ⊢
  replace hL' := hidD hL'
  obtain ⟨N, hN⟩ : ∃ N, N = w.heap.size := ⟨_, rfl⟩
  rw [← hN] at X0 X1 HB HS HSEG ⊢
  replace X0 := hidD X0
  replace X1 := hidD X1
  replace HB := hidD HB
  replace HS := hidD HS
  simp only [hL] at hW0
  clear hs
  go_enter Try.func33, Try.ntmps33
  go_wp2_with fail
  rw [← hN, ← hW0]
  clear hW0
  clear hN
  go_cut [3] (fun p wx => ∃ b G, p = .pointer (some ⟨b, 0, none⟩) ∧ Bo wx b (hL (gR G) t) 24 ∧ Bo wx G (i64s Hi.zeros) tI ∧ b ≠ G ∧ N + 2 ≤ b ∧ N + 2 ≤ G ∧ Below (N + 2) W0 wx)
  case first =>
    have p1 := X0.out.cell 1 rfl
    have LN := X0.out.lt
    obtain ⟨w2, hmk, hG, hb⟩ := made_81 W0.drew
    have X2 := Bo.below (w := W0.drew) (show Bo W0.drew N (hL (.slice a L cap) t) 24 from X0.out) hb
    have p2 := X2.cell 1 rfl
    have L2 := X2.lt
    obtain ⟨w3, hmk3, hG3, hb3⟩ := made_81 (W0.alloc (.cells #[.slice none 0 0, .int .i64 0] 24)).drew
    have A3 : Bo (W0.alloc (.cells #[.slice none 0 0, .int .i64 0] 24)).drew W0.heap.size (hL (.slice none 0 0) 0) 24 := Bo.new W0 (hL (.slice none 0 0) 0) 24
    have X3 := Bo.below (w := (W0.alloc (.cells #[.slice none 0 0, .int .i64 0] 24)).drew) (Bo.alloc X0.out (.cells #[.slice none 0 0, .int .i64 0] 24)) hb3
    have Y3 := A3.below hb3
    have p3 := X3.cell 1 rfl
    have c30 := Y3.cell 0 rfl
    have c31 := Y3.cell 1 rfl
    have f30 := Y3.frozen 0
    have f31 := Y3.frozen 1
    have HS2 := HS.out
    have hb' : Below (N + 2) W0 w2 := by rw [← HS2]; exact ⟨hb.os, hb.tape, hb.output, hb.size, hb.block⟩
    have hb3' : Below (N + 2) W0 w3 := by
      rw [← HS2]
      exact below_on (b := (W0.alloc (.cells #[.slice none 0 0, .int .i64 0] 24)).drew) (belowD_drew ((Below.refl W0.heap.size W0).alloc (Nat.le_refl _) _)) (by show W0.heap.size ≤ (W0.alloc _).heap.size; rw [World.size_alloc]; omega) hb3
    have LG : W0.heap.size < w2.heap.size := hG.lt
    have FA : Hid (∃ b G, (.pointer (some ⟨w2.heap.size, 0, none⟩) : Value) = .pointer (some ⟨b, 0, none⟩) ∧ Bo (w2.alloc (.cells #[.slice (some ⟨W0.heap.size, 0, none⟩) 81 81, .int .i64 t] 24)) b (hL (gR G) t) 24 ∧ Bo (w2.alloc (.cells #[.slice (some ⟨W0.heap.size, 0, none⟩) 81 81, .int .i64 t] 24)) G (i64s Hi.zeros) tI ∧ b ≠ G ∧ N + 2 ≤ b ∧ N + 2 ≤ G ∧ Below (N + 2) W0 (w2.alloc (.cells #[.slice (some ⟨W0.heap.size, 0, none⟩) 81 81, .int .i64 t] 24))) :=
      hidD ⟨w2.heap.size, W0.heap.size, rfl, Bo.new w2 (hL (gR W0.heap.size) t) _, Bo.alloc hG _, by omega, by omega, by omega, below_on hb' (by omega) ((Below.refl _ _).alloc (Nat.le_refl _) _)⟩
    have hs3 : (W0.alloc (.cells #[.slice none 0 0, .int .i64 0] 24)).drew.heap.size = W0.heap.size + 1 := World.size_alloc _ _
    rw [hs3] at hG3 hmk3
    have FB : Hid (∃ b G, (.pointer (some ⟨W0.heap.size, 0, none⟩) : Value) = .pointer (some ⟨b, 0, none⟩) ∧ Bo (put2 w3 W0.heap.size (.slice (some ⟨W0.heap.size + 1, 0, none⟩) 81 81) (.int .i64 t)) b (hL (gR G) t) 24 ∧ Bo (put2 w3 W0.heap.size (.slice (some ⟨W0.heap.size + 1, 0, none⟩) 81 81) (.int .i64 t)) G (i64s Hi.zeros) tI ∧ b ≠ G ∧ N + 2 ≤ b ∧ N + 2 ≤ G ∧ Below (N + 2) W0 (put2 w3 W0.heap.size (.slice (some ⟨W0.heap.size + 1, 0, none⟩) 81 81) (.int .i64 t))) :=
      hidD ⟨W0.heap.size, W0.heap.size + 1, rfl, put2_bo (gR (W0.heap.size + 1)) (.int .i64 t) Y3, (put2_cg _ _ _ _).bo (by omega) hG3, by omega, by omega, by omega, (put2_cg _ _ _ _).below (by omega) (by have := hb3'.size; omega) hb3'⟩
    clear hG hb hG3 hb3 X2 X3 A3 Y3 hb' hb3' hs3 HS2 LG
    go_region_with (fail)
    all_goals (
      go_wp2
      go_meet
      first
      | exact FA.out
      | exact FB.out)
  case rest =>
    obtain ⟨b, G, rfl, b1, b2, hbG, hbN, hGN, hbl⟩ := hcut
    generalize wc = W3 at *
    replace HB := hidD (below_then HB.out (below_low hbl (by omega)))
    have HLW := hidD (And.intro X0.out.lt X1.out.lt)
    replace X0 := hidD (X0.out.under hbl (by omega))
    replace X1 := hidD (X1.out.under hbl (by omega))
    have B1 := hidD b1
    have B2 := hidD b2
    clear b1 b2 hbl HS
    go_wp2_with fail
    go_loopw [4] (fun i wr => ∃ k : Nat, k ≤ L ∧ i = .int .i64 (k : Int) ∧ Hid (Bo wr b (hL (gR G) t) 24 ∧ Bo wr G (i64s (Hi.onto Hi.zeros c k)) tI ∧ Bo wr N (hL (.slice a L cap) t) 24 ∧ Bo wr (N + 1) (hL (.slice none 0 0) 0) 24 ∧ Below N w wr)) (fun i _ => 100 - (intOf i).toNat)
    case atStart => exact ⟨0, Nat.zero_le _, rfl, hidD ⟨B1.out, B2.out, X0.out, X1.out, HB.out⟩⟩
    case round =>
      clear B1 B2 X0 X1 HB
      obtain ⟨k, hk, rfl, hJ⟩ := hrel
      obtain ⟨j1, j2, j3, j4, j5⟩ := hJ.out
      have r0 := j3.cell 0 rfl
      have q0 := j1.cell 0 rfl
      by_cases hlt : k < L
      · have hL81 : L = 81 := by omega
        obtain ⟨g, off, rfl, hg, Q⟩ := Seg.atE (HSEG.out wr j5) k (by have := hL'.out; omega)
        have z := bo_int j2 k (by rw [Hi.onto_len, Hi.zeros_len]; omega)
        have hz0 : (Hi.onto Hi.zeros c k).getD k 0 = 0 := by
          rw [Hi.onto_at _ _ _ _ (by rw [Hi.zeros_len]; omega), Hi.zeros_at, if_neg (by omega)]
          rfl
        rw [hz0] at z
        have fz := j2.frozen k
        have HX : Hid (Hi.onto Hi.zeros c (k + 1) = (Hi.onto Hi.zeros c k).set k (c.getD k 0)) := hidD (by
          show (Hi.onto Hi.zeros c k).set k ((Hi.onto Hi.zeros c k).getD k 0 + c.getD k 0) = _
          rw [hz0, Int.zero_add])
        have K2 := bo_put j2 k (c.getD k 0)
        have KC := Cg.set (b := G) wr k (.int .i64 (c.getD k 0))
        have HJ2 := hidD (And.intro (KC.bo hbG j1) (And.intro K2 (And.intro (KC.bo (by omega) j3) (And.intro (KC.bo (by omega) j4) (KC.below (B := N) (by omega) (by have := j3.lt; omega) j5)))))
        have hi : (k : Int) < (L : Int) := by omega
        clear j1 j2 j3 j4 j5 hJ K2 KC hz0
        generalize c.getD k 0 = x at *
        subst hL81
        go_wp2_with fail
        go_region_with (fail)
        all_goals (
          go_wp2_with fail
          exact ⟨⟨k + 1, by omega, by go_num, hidD ⟨HJ2.out.1, by rw [HX.out]; exact HJ2.out.2.1, HJ2.out.2.2.1, HJ2.out.2.2.2.1, belowD_drew HJ2.out.2.2.2.2⟩⟩, by simp [intOf]; omega⟩)
      · have hke : k = L := by omega
        subst hke
        have r1 := j1.cell 1 rfl
        have s0 := j4.cell 0 rfl
        have s1 := j4.cell 1 rfl
        have f0 := j4.frozen 0
        have f1 := j4.frozen 1
        have S := hidD (put2_bo (gR G) (.int .i64 t) j4)
        have SB := hidD ((put2_cg wr (N + 1) (gR G) (.int .i64 t)).below (B := N) (by omega) (by have := j3.lt; omega) j5)
        have SG := hidD ((put2_cg wr (N + 1) (gR G) (.int .i64 t)).bo (c := G) (by omega) j2)
        clear j1 j2 j3 j4 j5 hJ
        go_wp2_with fail
        refine bodyPost_ret (ret_h1 rfl rfl S.out) rfl ?_
        refine ⟨_, rfl, SB.out, .inr ⟨G, by omega, Hi.pad_len (by have := hL'.out; omega), rfl, ?_⟩⟩
        have := SG.out
        rw [hL'.out, Hi.onto_pad (by have := hL'.out; omega)] at this
        exact this
end Go.Proofs.Ythdaldgmolhljaa
