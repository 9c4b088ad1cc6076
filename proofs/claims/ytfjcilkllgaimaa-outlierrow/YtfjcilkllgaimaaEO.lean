/- outlier: bad ends in a row, plainly; a slice of one bool of one's own. -/
import Derived.Test.YtfjcilkllgaimaaEK
import Derived.Test.YtfjcilkllgaimaaEM
namespace Go.Proofs.Ytfjcilkllgaimaa
open Go.RowKit
set_option maxRecDepth 20000
set_option linter.unusedVariables false

/-- So many bad ends behind. -/
def Ou.bads (o : Ou.St) (k : Nat) : Ou.St := Ou.recs o (List.replicate k false)
theorem Ou.bads_zero (o : Ou.St) : Ou.bads o 0 = o := rfl
theorem Ou.bads_succ (o : Ou.St) (k : Nat) : Ou.bads o (k + 1) = Ou.rec1 (Ou.bads o k) false := by
  unfold Ou.bads Ou.recs
  rw [List.replicate_succ', List.foldl_append]
  rfl
theorem Ou.rec1_o (o : Ou.St) (g : Bool) : (Ou.rec1 o g).o = o.o := by
  unfold Ou.rec1
  split <;> rfl
theorem Ou.recs_o (o : Ou.St) (l : List Bool) : (Ou.recs o l).o = o.o := by
  unfold Ou.recs
  induction l generalizing o with
  | nil => rfl
  | cons g l ih => exact (ih (Ou.rec1 o g)).trans (Ou.rec1_o o g)
theorem Ou.bads_row (o : Ou.St) (h : Ou.may o = true) (k : Nat) (hk : k ≤ 1000) : (k : Int) ≤ (Ou.bads o k).r := by
  induction k with
  | zero => exact (Ou.may_iff.1 h).1.1
  | succ k ih =>
    have i := ih (by omega)
    have hm := Ou.may_iff.1 (Ou.recs_may (List.replicate k false) h)
    rw [Ou.bads_succ]
    unfold Ou.rec1
    rw [if_neg (by decide)]
    show ((k + 1 : Nat) : Int) ≤ Ou.up (Ou.bads o k).r 1048576
    unfold Ou.up
    split <;> omega
theorem Ou.chk_may {o : Ou.St} {s : Ou.Se} {t : Int} (h : Ou.chk o s t = 0) {x : Ou.St} (hx : Ou.may x = true) : Ou.chk x s t = 0 := by
  obtain ⟨h1, h2, h3, _⟩ := Ou.chk_zero h
  exact Ou.chk_good h1 h2 h3 hx
theorem Ou.bads_step {A : Ou.St} {s : Ou.Se} {t : Int} (h : Ou.chk A s t = 0) (k : Nat) :
    Ou.recR (Ou.bads A k) s t [false] = Ou.bads A (k + 1) ∧ Ou.chk (Ou.bads A k) s t = 0 := by
  have hm := Ou.recs_may (List.replicate k false) (Ou.chk_zero h).2.2.2
  have hc : Ou.chk (Ou.bads A k) s t = 0 := Ou.chk_may h hm
  refine ⟨?_, hc⟩
  unfold Ou.recR
  rw [if_pos hc, Ou.bads_succ]
  rfl
theorem Ou.bads_end {A : Ou.St} {s : Ou.Se} {t : Int} (h : Ou.chk A s t = 0) (ho : A.o = false) (k : Nat) (hk : (k : Int) = s.w) :
    Ou.ripeR (Ou.bads A k) s t = true ∧ Ou.chk (Ou.bads A k) s t = 0 ∧ (Ou.recR (Ou.bads A k) s t [true]).r = 0 := by
  obtain ⟨hs, _, _, hA⟩ := Ou.chk_zero h
  have hm := Ou.recs_may (List.replicate k false) hA
  have hc : Ou.chk (Ou.bads A k) s t = 0 := Ou.chk_may h hm
  obtain ⟨⟨w0, w1, _⟩, _⟩ := Ou.sets_iff.1 hs
  have hr := Ou.bads_row A hA k (by omega)
  have hoo : (Ou.bads A k).o = false := (Ou.recs_o A _).trans ho
  refine ⟨?_, hc, ?_⟩
  · unfold Ou.ripeR Ou.ripe Ou.row
    rw [if_pos hc, hoo, decide_eq_true (by omega)]
    rfl
  · unfold Ou.recR
    rw [if_pos hc]
    rfl
theorem Ou.first {s : Ou.Se} {t : Int} {l : List Bool} (h : Ou.chk Ou.zero s t = 0) : Ou.chk (Ou.recR Ou.zero s t l) s t = 0 ∧ (Ou.recR Ou.zero s t l).o = false := by
  have e : Ou.recR Ou.zero s t l = Ou.recs Ou.zero l := if_pos h
  rw [e]
  exact ⟨Ou.chk_may h (Ou.recs_may l (Ou.chk_zero h).2.2.2), Ou.recs_o _ _⟩

theorem gseg_one (w : World) (b : Bool) (T : TypeId) : GSeg (w.alloc (.cells #[.bool b] T)) (.slice (some ⟨w.heap.size, 0, none⟩) 1 1) [b] := by
  refine ⟨some ⟨w.heap.size, 0, none⟩, 1, rfl, Nat.le_refl _, by unfold maxLen; omega, (fun h => by cases h), fun g off ar ha h0 => ?_⟩
  cases ha
  refine ⟨rfl, by simp, fun i hi => ?_⟩
  have hi0 : i = 0 := by simp at hi; omega
  subst hi0
  exact (Bo.new w [.bool b] T).cell 0 rfl
end Go.Proofs.Ytfjcilkllgaimaa
