/- resolve: what the code's own functions tell, as contracts; alive, ResolveLatest over them. -/
import Derived.Test.YtcjopphefmogiaaRsH
namespace Go.Proofs.Ytcjopphefmogiaa
open Go.RowKit
set_option linter.unusedVariables false
set_option maxRecDepth 20000

def RChk : Prop := ∀ (r : Value) (s : Rv.S) (w : World), BS w r s.l → Calls Try.prog 24 #[vS r s.v] w fun e w' => e = .returned (.int .i64 (Rv.chk s)) ∧ Below w.heap.size w w'
def RApp : Prop := ∀ (r u : Value) (s : Rv.S) (L : List Rv.S) (w : World), BS w r s.l → SS w u L → Calls Try.prog 10 #[vS r s.v, u] w fun e w' => ∃ x, e = .returned (.tuple #[vS x (Rv.applyS s L).v, .int .i64 (Rv.applyN s L : Nat), .int .i64 (Rv.applyE s L)]) ∧ Below w.heap.size w w' ∧ OB w' w.heap.size x (Rv.applyS s L).l
def RIds : Prop := ∀ (r : Value) (s : Rv.S) (w : World), BS w r s.l → Calls Try.prog 12 #[vS r s.v] w fun e w' => ∃ u, e = .returned (.tuple #[u, .int .i64 (Rv.chk s)]) ∧ Below w.heap.size w w' ∧ OI w' w.heap.size u (Rv.idsR s)
def RDif : Prop := ∀ (r u : Value) (s t : Rv.S) (w : World), BS w r s.l → BS w u t.l → Calls Try.prog 14 #[vS r s.v, vS u t.v] w fun e w' => ∃ x y z, e = .returned (.tuple #[x, y, z, .int .i64 (Rv.diffE s t)]) ∧ Below w.heap.size w w' ∧ OI w' w.heap.size x (Rv.difM s t) ∧ OI w' w.heap.size y (Rv.difG s t) ∧ OI w' w.heap.size z (Rv.difO s t)
def RPik : Prop := ∀ (r u : Value) (s : Rv.S) (ids : List Int) (w : World), BS w r s.l → Seg .i64 w u ids → ids.length ≤ 1048576 → (∀ i ∈ ids, (Lit.int .i64 i).wf = true) → Calls Try.prog 16 #[vS r s.v, u] w fun e w' => ∃ x, e = .returned (.tuple #[x, .int .i64 (Rv.pickE s ids)]) ∧ Below w.heap.size w w' ∧ OB w' w.heap.size x (Rv.pick s ids)
def RSum : Prop := ∀ (r : Value) (s : Rv.S) (w : World), BS w r s.l → Calls Try.prog 18 #[vS r s.v] w fun e w' => e = .returned (.tuple #[.int .i64 (Rv.sumR s), .int .i64 (Rv.chk s)]) ∧ Below w.heap.size w w'
def RAlive : Prop := ∀ (w : World), Calls Try.prog 26 #[] w fun e w' => e = .returned (.bool true) ∧ Below w.heap.size w w'

theorem ss_two {W : World} {g : Nat} {r u : Value} {s t : Rv.S} (h : Bo W g [.int .i64 s.v, r, .int .i64 t.v, u] 24) (hr : BS W r s.l) (hu : BS W u t.l) : SS W (.slice (some ⟨g, 0, none⟩) 2 2) [s, t] :=
  ⟨some ⟨g, 0, none⟩, 2, rfl, Nat.le_refl _, by unfold maxLen; decide, fun e => (by cases e), fun g' off ar e h0 => by
    cases e
    refine ⟨rfl, h.lt, fun i hi => ?_⟩
    rcases (by simp at hi; omega : i = 0 ∨ i = 1) with rfl | rfl
    · exact ⟨r, h.cell 0 rfl, h.cell 1 rfl, hr⟩
    · exact ⟨u, h.cell 2 rfl, h.cell 3 rfl, hu⟩⟩
theorem ss_one {W : World} {g : Nat} {r : Value} {s : Rv.S} (h : Bo W g [.int .i64 s.v, r] 24) (hr : BS W r s.l) : SS W (.slice (some ⟨g, 0, none⟩) 1 1) [s] :=
  ⟨some ⟨g, 0, none⟩, 1, rfl, Nat.le_refl _, by unfold maxLen; decide, fun e => (by cases e), fun g' off ar e h0 => by
    cases e
    refine ⟨rfl, h.lt, fun i hi => ?_⟩
    obtain rfl : i = 0 := by simpa using hi
    exact ⟨r, h.cell 0 rfl, h.cell 1 rfl, hr⟩⟩
set_option maxHeartbeats 4000000 in
theorem alive_of (CA : RApp) : RAlive := by
  intro w
  obtain ⟨W, hW, X, B, Z⟩ := box_one w [.int .i64 2, .slice none 0 0, .int .i64 1, .slice none 0 0] 24
  have c := CA (.slice none 0 0) (.slice (some ⟨w.heap.size, 0, none⟩) 2 2) Rv.s0 [⟨2, []⟩, ⟨1, []⟩] W (BS.nil _) (ss_two (s := ⟨2, []⟩) (t := ⟨1, []⟩) X (BS.nil _) (BS.nil _))
  rw [Rv.alive.1, Rv.alive.2.1, Rv.alive.2.2] at c
  have HB := hidD B
  have HZ : Hid (w.heap.size ≤ W.heap.size) := hidD (by omega)
  have c' : Calls Try.prog 10 #[.agg #[.int .i64 0, .slice none 0 0], .slice (some ⟨w.heap.size, 0, none⟩) 2 2] W fun e w' => ∃ x, e = .returned (.tuple #[.agg #[.int .i64 2, x], .int .i64 1, .int .i64 0]) ∧ Below W.heap.size W w' ∧ OB w' W.heap.size x [] := c
  clear c X B Z
  go_enter Try.func26, Try.ntmps26
  go_wp2_with fail
  rw [← hW]
  clear hW
  refine c'.mono ?_
  rintro e w1 ⟨x, rfl, b1, o1⟩
  have B1 := hidD (below_on HB.out HZ.out b1)
  obtain ⟨a1, c1, rfl, _⟩ := id (OB.ts o1)
  clear c' b1 o1
  go_wp2_with (first | (go_at_call 21; refine (num_any _ _).mono ?_; rintro e ww ⟨rfl, rfl⟩))
  go_ret
  exact ⟨by first | rfl | simp, by first | exact B1.out | exact B1.out.alloc B1.out.size _⟩
/-- Behind a call: a struct that is told lies in a box. -/
theorem Rv.apply_facts (s : Rv.S) (L : List Rv.S) : (Rv.applyE s L = 0 → s.v ≤ (Rv.applyS s L).v ∧ (∀ t, t ∈ L → t.v ≤ (Rv.applyS s L).v) ∧ Rv.applyN s L ≤ L.length ∧ (0 < Rv.applyN s L ↔ s.v < (Rv.applyS s L).v)) ∧ (¬ Rv.applyE s L = 0 → Rv.applyN s L = 0 ∧ (Rv.applyS s L).l.length = 0) := by
  refine ⟨fun h => ?_, fun h => ?_⟩
  · obtain ⟨h1, h2, h3, h4, _⟩ := Rv.run_facts s L
    rw [Rv.applyS, if_pos h, Rv.applyN, if_pos h]
    exact ⟨h1, h2, h3, h4⟩
  · rw [Rv.applyS, if_neg h, Rv.applyN, if_neg h]
    exact ⟨rfl, rfl⟩
set_option maxHeartbeats 8000000 in
theorem latest_walk (AL : RAlive) (CA : RApp) (r u : Value) (s : Rv.S) (L : List Rv.S) (w : World) (hs : BS w r s.l) (hu : SS w u L) :
    Calls Try.prog 5 #[vS r s.v, u] w fun e w' => e = .returned (.bool true) ∧ Below w.heap.size w w' := by
  obtain ⟨W, hW, X, B, Z⟩ := box_one w [.int .i64 s.v, r] 24
  have cal := AL W
  have HC := hidD (fun (W : World) (b : Below w.heap.size w W) => CA r u s L W (hs.below b) (hu.below b))
  have HU := hidD (fun (W : World) (b : Below w.heap.size w W) => hu.below b)
  have F0 := hidD (Rv.apply_facts s L).1
  have F1 := hidD (Rv.apply_facts s L).2
  generalize Rv.applyE s L = E at *
  generalize Rv.applyS s L = R at *
  generalize Rv.applyN s L = RN at *
  obtain ⟨a, cap, rfl, _⟩ := id hs
  obtain ⟨a', cap', rfl, g1, g2, _, _⟩ := id hu
  obtain ⟨M, hM⟩ : ∃ n, n = L.length := ⟨_, rfl⟩
  obtain ⟨b, hb⟩ : ∃ b, b = w.heap.size := ⟨_, rfl⟩
  rw [← hM] at g1 HU HC F0 ⊢
  rw [← hb] at X B HC HU ⊢
  unfold maxLen at g2
  replace hM := hidD hM
  have HX := hidD X
  have HB := hidD B
  have HZ : Hid (b ≤ W.heap.size) := hidD (by omega)
  clear X B Z hs hu
  obtain ⟨sv, sl⟩ := s
  dsimp only at *
  go_enter Try.func5, Try.ntmps5
  go_wp2_with fail
  rw [← hb, ← hW]
  clear hb hW
  with_reducible refine cal.mono ?_
  rintro e w1 ⟨rfl, b1⟩
  replace HB := hidD (below_on HB.out HZ.out b1)
  replace HZ := hidD (Nat.le_trans HZ.out b1.size)
  replace HX := hidD (HX.out.below b1)
  have q0 := HX.out.cell 0 rfl
  have q1 := HX.out.cell 1 rfl
  clear cal b1
  go_wp2_with fail
  refine (HC.out w1 HB.out).mono ?_
  rintro e w2 ⟨x, rfl, b2, o2⟩
  obtain ⟨ax, cx, rfl, _⟩ := id (OB.ts o2)
  obtain ⟨rv, rl⟩ := R
  obtain ⟨W3, hW3, X3, B3, Z3⟩ := box_one w2 [.int .i64 rv, .slice ax rl.length cx] 24
  obtain ⟨c, hc⟩ : ∃ c, c = w2.heap.size := ⟨_, rfl⟩
  rw [← hc] at X3
  have HX3 := hidD X3
  have HXb := hidD ((HX.out.below b2).below B3)
  have HB3 := hidD (below_on (below_on HB.out HZ.out b2) (Nat.le_trans HZ.out b2.size) B3)
  clear b2 o2 q0 q1 X3 B3 Z3 HC HX HB HZ
  dsimp only at *
  have q0 := HXb.out.cell 0 rfl
  have p0 := HX3.out.cell 0 rfl
  have p1 := HX3.out.cell 1 rfl
  by_cases hE : E = 0
  case neg =>
    obtain ⟨f1, f2⟩ := F1.out hE
    subst f1
    rw [f2] at p1 hW3 ⊢
    have hE1 : (E != 0) = true := by simpa using hE
    clear F0 F1 hE
    go_upto_region 4 with fail
    rw [← hc, ← hW3]
    clear hc hW3
    go_wp2_with (first | (go_at_call 21; refine (num_any _ _).mono ?_; rintro e ww ⟨rfl, rfl⟩))
    go_ret
    exact ⟨by first | rfl | simp, HB3.out⟩
  subst hE
  obtain ⟨f1, f2, f3, f4⟩ := F0.out rfl
  replace f2 := hidD f2
  replace f4 := hidD f4
  clear F0 F1
  go_upto_region 4 with fail
  rw [← hc, ← hW3]
  clear hc hW3
  go_wp2_with (first | (go_at_call 21; refine (num_any _ _).mono ?_; rintro e ww ⟨rfl, rfl⟩))
  go_loopw [8] (fun i wr => ∃ k : Nat, k ≤ M ∧ i = .int .i64 k ∧ Hid (Below b w wr ∧ Below W3.heap.size W3 wr)) (fun i _ => M - (intOf i).toNat)
  case atStart => exact ⟨0, Nat.zero_le _, rfl, hidD ⟨HB3.out, Below.refl _ _⟩⟩
  case round =>
    obtain ⟨k, hk, rfl, hJ⟩ := hrel
    have E1 := HXb.out.below hJ.out.2
    have E2 := HX3.out.below hJ.out.2
    have q0 := E1.cell 0 rfl
    have p0 := E2.cell 0 rfl
    clear E1 E2
    by_cases hlt : k < M
    · obtain ⟨g, off, rk, rfl, hg, t1, _, _⟩ := SS.at (HU.out wr hJ.out.1) k (by have := hM.out; omega)
      have hle := f2.out (Rv.sg L k) (by rw [Rv.sg_at (by have := hM.out; omega)]; exact List.getElem_mem _)
      have i1 : (k : Int) < (M : Int) := by omega
      have hkw : IntKind.i64.wrap ((k : Int) + 1) = (k : Int) + 1 := by rw [IntKind.wrap_i64]; omega
      generalize (Rv.sg L k).v = z at *
      have hd : decide (rv < z) = false := decide_eq_false (by omega)
      have hd2 : ¬ rv < z := by omega
      go_wp2_with fail
      go_quiet (fail)
      go_wp2_with fail
      exact ⟨⟨k + 1, by omega, by go_num, hidD ⟨below_drewN hJ.out.1 _, below_drewN hJ.out.2 _⟩⟩, by simp [intOf]; omega⟩
    · have hkM : k = M := by omega
      have i1 : ¬ (k : Int) < (M : Int) := by omega
      have hf3 : (RN : Int) ≤ (M : Int) := by omega
      have HE := hidD hJ.out.1
      have F4 := hidD f4.out
      clear hJ HX3 HXb HU f2 f4
      by_cases hRN : 0 < RN
      · have h4 := F4.out.1 hRN
        have h5 : (0 : Int) < (RN : Int) := by omega
        clear F4
        go_wp2_with fail
        go_ret
        exact ⟨by first | rfl | simp, HE.out⟩
      · have h4 : ¬ sv < rv := fun h => hRN (F4.out.2 h)
        have h6 : RN = 0 := by omega
        subst h6
        clear F4 hRN
        go_wp2_with fail
        go_ret
        exact ⟨by first | rfl | simp, HE.out⟩
end Go.Proofs.Ytcjopphefmogiaa
