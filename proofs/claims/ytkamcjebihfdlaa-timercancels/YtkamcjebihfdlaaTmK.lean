/- timers: what the code's own functions tell, as contracts; TimerMay over them. -/
import Derived.Test.YtkamcjebihfdlaaTmJ
namespace Go.Proofs.Ytkamcjebihfdlaa
open Go.RowKit
set_option linter.unusedVariables false
set_option maxRecDepth 20000

def CChk : Prop := ∀ (v : Value) (l : List Ti.T) (w : World), TS w v l → Calls Try.prog 23 #[v] w fun e w' => e = .returned (.int .i64 (Ti.chkE l)) ∧ Below w.heap.size w w'
def CAdd : Prop := ∀ (v u : Value) (l more : List Ti.T) (w : World), TS w v l → TS w u more → l.length ≤ 8796093022208 →
    Calls Try.prog 10 #[v, u] w fun e w' => ∃ r, e = .returned (.tuple #[r, .int .i64 (Ti.addE l more)]) ∧ Below w.heap.size w w' ∧ OT w' w.heap.size r (Ti.addR l more)
def CDue : Prop := ∀ (v : Value) (l : List Ti.T) (t : Int) (w : World), TS w v l → l.length ≤ 8796093022208 →
    Calls Try.prog 14 #[v, .int .i64 t] w fun e w' => ∃ r s, e = .returned (.tuple #[r, s, .int .i64 (Ti.chkE l)]) ∧ Below w.heap.size w w' ∧ OT w' w.heap.size r (Ti.dueL l t) ∧ w'.ownsRow w.heap.size 3 1 s (Ti.dueI l t).length (i64s (Ti.dueI l t))
def CCan : Prop := ∀ (v u : Value) (l : List Ti.T) (ids : List Int) (w : World), TS w v l → Seg .i64 w u ids → l.length ≤ 8796093022208 → (∀ i ∈ ids, (Lit.int .i64 i).wf = true) →
    Calls Try.prog 16 #[v, u] w fun e w' => ∃ r, e = .returned (.tuple #[r, .int .i64 (Ti.canN l ids), .int .i64 (Ti.chkE l)]) ∧ Below w.heap.size w w' ∧ OT w' w.heap.size r (Ti.canR l ids)
def CAlive : Prop := ∀ (w : World), Calls Try.prog 25 #[] w fun e w' => e = .returned (.bool true) ∧ Below w.heap.size w w'
set_option maxHeartbeats 8000000 in
theorem may_walk (AL : CAlive) (CA : CAdd) (CD : CDue) (CC : CCan) (CK : CChk) (v u x : Value) (l more : List Ti.T) (t : Int) (ids : List Int) (w : World) (hs : TS w v l) (hm : TS w u more) (hi : Seg .i64 w x ids) (hl : l.length ≤ 8796093022208) (hwf : ∀ i ∈ ids, (Lit.int .i64 i).wf = true) :
    Calls Try.prog 4 #[v, u, .int .i64 t, x] w fun e w' => e = .returned (.bool true) ∧ Below w.heap.size w w' := by
  have cal := AL w
  have HA : Hid (∀ w1, Below w.heap.size w w1 → Calls Try.prog 10 #[v, u] w1 fun e w' => ∃ r, e = .returned (.tuple #[r, .int .i64 (Ti.addE l more)]) ∧ Below w.heap.size w w' ∧ TS w' r (Ti.addR l more)) := hidD fun w1 b => (CA v u l more w1 (hs.below b) (hm.below b) hl).mono (by rintro e w' ⟨r, h1, h2, h3⟩; exact ⟨r, h1, below_then b (below_low h2 b.size), h3.ts⟩)
  have HD : Hid (∀ w1, Below w.heap.size w w1 → Calls Try.prog 14 #[v, .int .i64 t] w1 fun e w' => ∃ r s, e = .returned (.tuple #[r, s, .int .i64 (Ti.chkE l)]) ∧ Below w.heap.size w w' ∧ Below w1.heap.size w1 w' ∧ TS w' r (Ti.dueL l t)) := hidD fun w1 b => (CD v l t w1 (hs.below b) hl).mono (by rintro e w' ⟨r, s, h1, h2, h3, _⟩; exact ⟨r, s, h1, below_then b (below_low h2 b.size), h2, h3.ts⟩)
  have HC : Hid (∀ w1, Below w.heap.size w w1 → Calls Try.prog 16 #[v, x] w1 fun e w' => ∃ r, e = .returned (.tuple #[r, .int .i64 (Ti.canN l ids), .int .i64 (Ti.chkE l)]) ∧ Below w.heap.size w w' ∧ Below w1.heap.size w1 w' ∧ TS w' r (Ti.canR l ids)) := hidD fun w1 b => (CC v x l ids w1 (hs.below b) (hi.below b) hl hwf).mono (by rintro e w' ⟨r, h1, h2, h3⟩; exact ⟨r, h1, below_then b (below_low h2 b.size), h2, h3.ts⟩)
  have F1 := hidD (@Ti.add_chk l more)
  have F2 := hidD (fun h => Ti.due_chk (l := l) t h)
  have F3 := hidD (fun h => Ti.can_chk (l := l) ids h)
  generalize Ti.addE l more = eA at *
  generalize Ti.addR l more = rA at *
  generalize Ti.canN l ids = nC at *
  generalize Ti.canR l ids = rC at *
  generalize Ti.dueL l t = rD at *
  generalize Ti.chkE l = ck at *
  go_enter Try.func4, Try.ntmps4
  go_wp2_with fail
  with_reducible refine cal.mono ?_
  rintro e w1 ⟨rfl, b1⟩
  have B1 := hidD b1
  clear cal b1
  go_wp2_with fail
  with_reducible refine (HA.out _ B1.out).mono ?_
  rintro e w2 ⟨ra, rfl, b2, ta⟩
  have B2 := hidD b2
  have TA := hidD (fun (W : World) (b : Below w2.heap.size w2 W) => ta.below b)
  clear b2 ta
  go_wp2_with fail
  with_reducible refine (HD.out _ B2.out).mono ?_
  rintro e w3 ⟨rd, sd, rfl, b3, k3, td⟩
  have B3 := hidD b3
  have K3 := hidD k3
  have TD := hidD (fun (W : World) (b : Below w3.heap.size w3 W) => td.below b)
  clear b3 td k3
  go_wp2_with fail
  with_reducible refine (HC.out _ B3.out).mono ?_
  rintro e w4 ⟨rc, rfl, b4, k4, tc⟩
  have B4 := hidD b4
  have K4 := hidD k4
  have TC := hidD (fun (W : World) (b : Below w4.heap.size w4 W) => tc.below b)
  clear b4 tc k4
  have FA1 := hidD (fun h : ¬ eA = 0 => (by simp [h] : (eA != 0) = true))
  have FC1 := hidD (fun h : ¬ ck = 0 => (by simp [h] : (ck != 0) = true))
  by_cases hA : eA = 0
  · subst hA
    have f1 := hidD (F1.out rfl)
    clear F1
    by_cases hC : ck = 0
    · subst hC
      have f2 := hidD (F2.out rfl)
      have f3 := hidD (F3.out rfl)
      clear F2 F3
      clear FA1 FC1
      have cc := CK ra rA w4 (TA.out w4 (below_then K3.out (below_low K4.out K3.out.size)))
      rw [f1.out] at cc
      go_wp2_with (first | (go_at_call 21; refine (num_any _ _).mono ?_; rintro e ww ⟨rfl, rfl⟩))
      with_reducible refine cc.mono ?_
      rintro e w5 ⟨rfl, w5b⟩
      have W5 := hidD w5b
      clear cc w5b
      have cc := CK rd rD w5 (TD.out w5 (below_then K4.out (below_low W5.out K4.out.size)))
      rw [f2.out] at cc
      go_wp2_with (first | (go_at_call 21; refine (num_any _ _).mono ?_; rintro e ww ⟨rfl, rfl⟩))
      with_reducible refine cc.mono ?_
      rintro e w6 ⟨rfl, w6b⟩
      have W6 := hidD w6b
      clear cc w6b
      have cc := CK rc rC w6 (TC.out w6 (below_then W5.out (below_low W6.out W5.out.size)))
      rw [f3.out] at cc
      go_wp2_with (first | (go_at_call 21; refine (num_any _ _).mono ?_; rintro e ww ⟨rfl, rfl⟩))
      with_reducible refine cc.mono ?_
      rintro e w7 ⟨rfl, w7b⟩
      have W7 := hidD w7b
      clear cc w7b
      go_wp2_with (first | (go_at_call 21; refine (num_any _ _).mono ?_; rintro e ww ⟨rfl, rfl⟩))
      go_ret
      exact ⟨by first | rfl | simp, below_then (below_then (below_then B4.out (below_low W5.out B4.out.size)) (below_low W6.out (below_then B4.out (below_low W5.out B4.out.size)).size)) (below_low W7.out (below_then (below_then B4.out (below_low W5.out B4.out.size)) (below_low W6.out (below_then B4.out (below_low W5.out B4.out.size)).size)).size)⟩
    · have hC1 := FC1.out hC
      clear FA1 FC1
      have cc := CK ra rA w4 (TA.out w4 (below_then K3.out (below_low K4.out K3.out.size)))
      rw [f1.out] at cc
      go_wp2_with (first | (go_at_call 21; refine (num_any _ _).mono ?_; rintro e ww ⟨rfl, rfl⟩))
      with_reducible refine cc.mono ?_
      rintro e w5 ⟨rfl, w5b⟩
      have W5 := hidD w5b
      clear cc w5b
      go_wp2_with (first | (go_at_call 21; refine (num_any _ _).mono ?_; rintro e ww ⟨rfl, rfl⟩))
      go_ret
      exact ⟨by first | rfl | simp, below_then B4.out (below_low W5.out B4.out.size)⟩
  · have hA1 := FA1.out hA
    by_cases hC : ck = 0
    · subst hC
      have f2 := hidD (F2.out rfl)
      have f3 := hidD (F3.out rfl)
      clear F2 F3
      clear FA1 FC1
      have cc := CK rd rD w4 (TD.out w4 (K4.out))
      rw [f2.out] at cc
      go_wp2_with (first | (go_at_call 21; refine (num_any _ _).mono ?_; rintro e ww ⟨rfl, rfl⟩))
      with_reducible refine cc.mono ?_
      rintro e w6 ⟨rfl, w6b⟩
      have W6 := hidD w6b
      clear cc w6b
      have cc := CK rc rC w6 (TC.out w6 (W6.out))
      rw [f3.out] at cc
      go_wp2_with (first | (go_at_call 21; refine (num_any _ _).mono ?_; rintro e ww ⟨rfl, rfl⟩))
      with_reducible refine cc.mono ?_
      rintro e w7 ⟨rfl, w7b⟩
      have W7 := hidD w7b
      clear cc w7b
      go_wp2_with (first | (go_at_call 21; refine (num_any _ _).mono ?_; rintro e ww ⟨rfl, rfl⟩))
      go_ret
      exact ⟨by first | rfl | simp, below_then (below_then (B4.out) (below_low W6.out (B4.out).size)) (below_low W7.out (below_then (B4.out) (below_low W6.out (B4.out).size)).size)⟩
    · have hC1 := FC1.out hC
      clear FA1 FC1
      go_wp2_with (first | (go_at_call 21; refine (num_any _ _).mono ?_; rintro e ww ⟨rfl, rfl⟩))
      go_ret
      exact ⟨by first | rfl | simp, B4.out⟩
end Go.Proofs.Ytkamcjebihfdlaa
