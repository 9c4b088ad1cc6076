/- breaker, plainly: so many bad ends open it; so many good probes close it. -/
import Derived.Test.YtkfkhhhoboenkaaBT
namespace Go.Proofs.Ytkfkhhhoboenkaa
open Go.RowKit
set_option maxRecDepth 20000

/-- Behind k bad ends. -/
def Br.bad (s : Br.Se) (t : Int) (k : Nat) : Br.St := if (k : Int) < s.f then ⟨0, k, 0, 0, 0⟩ else ⟨1, 0, t + s.o, 0, 0⟩
/-- Behind k good probes. -/
def Br.heal (s : Br.Se) (t : Int) (k : Nat) : Br.St := if (k : Int) < s.p then ⟨2, 0, t + s.o, 0, k⟩ else ⟨0, 0, t + s.o, 0, 0⟩
theorem Br.chk_of {b : Br.St} {s : Br.Se} {t : Int} (hs : Br.sets s = true) (h1 : 0 ≤ t) (h2 : t ≤ 536870912) (hb : 0 ≤ b.m ∧ b.m ≤ 2 ∧ 0 ≤ b.f ∧ b.f ≤ 1000 ∧ 0 ≤ b.u ∧ b.u ≤ 1073741824 ∧ 0 ≤ b.p ∧ b.p ≤ 1000 ∧ 0 ≤ b.w ∧ b.w ≤ 1000) : Br.chk b s t = 0 :=
  Br.chk_good hs h1 h2 (Br.may_iff.2 hb)
theorem Br.bad_zero {s : Br.Se} {t : Int} (hs : Br.sets s = true) : Br.bad s t 0 = ⟨0, 0, 0, 0, 0⟩ := by
  have := Br.sets_iff.1 hs
  unfold Br.bad
  rw [if_pos (by omega)]
  rfl
theorem Br.bad_step {s : Br.Se} {t : Int} (hs : Br.sets s = true) (h1 : 0 ≤ t) (h2 : t ≤ 268435456) (k : Nat) (hk : (k : Int) < s.f) : (Br.bad s t k).m = 0 ∧ Br.endR (Br.bad s t k) s t false false = Br.bad s t (k + 1) := by
  have h3 := Br.sets_iff.1 hs
  unfold Br.bad
  rw [if_pos hk]
  refine ⟨rfl, ?_⟩
  unfold Br.endR
  rw [if_pos (Br.chk_of hs h1 (by omega) (by dsimp only; omega)), Br.fin_zero (b' := ⟨0, k, 0, 0, 0⟩) rfl rfl]
  unfold Br.count
  rw [if_neg (by decide)]
  by_cases h : (k : Int) + 1 < s.f
  · rw [if_neg (by dsimp only; omega), if_pos (by omega)]
    simp
  · rw [if_pos (by dsimp only; omega), if_neg (by omega)]
    rfl
theorem Br.bad_done {s : Br.Se} {t : Int} (k : Nat) (hk : (k : Int) = s.f) : Br.bad s t k = ⟨1, 0, t + s.o, 0, 0⟩ := if_neg (by omega)
theorem Br.wait {s : Br.Se} {t e : Int} (hs : Br.sets s = true) (h1 : 0 ≤ t) (h2 : t ≤ 268435456) (he0 : 0 ≤ e) (he1 : e < s.o) :
    Br.tickR ⟨1, 0, t + s.o, 0, 0⟩ s (t + e) = ⟨1, 0, t + s.o, 0, 0⟩ ∧ Br.chk ⟨1, 0, t + s.o, 0, 0⟩ s (t + e) = 0 ∧ Br.allowsR ⟨1, 0, t + s.o, 0, 0⟩ s (t + e) = false := by
  have h3 := Br.sets_iff.1 hs
  have hc : Br.chk ⟨1, 0, t + s.o, 0, 0⟩ s (t + e) = 0 := Br.chk_of hs (by omega) (by omega) (by dsimp only; omega)
  refine ⟨?_, hc, ?_⟩
  · unfold Br.tickR
    rw [if_pos hc]
    unfold Br.tick
    rw [if_neg (by rintro ⟨_, h⟩; dsimp only at h; omega)]
  · unfold Br.allowsR
    rw [if_pos hc]
    simp [Br.allows]
theorem Br.awake {s : Br.Se} {t : Int} (hs : Br.sets s = true) (h1 : 0 ≤ t) (h2 : t ≤ 268435456) :
    Br.tickR ⟨1, 0, t + s.o, 0, 0⟩ s (t + s.o) = Br.heal s t 0 ∧ Br.chk ⟨1, 0, t + s.o, 0, 0⟩ s (t + s.o) = 0 := by
  have h3 := Br.sets_iff.1 hs
  have hc : Br.chk ⟨1, 0, t + s.o, 0, 0⟩ s (t + s.o) = 0 := Br.chk_of hs (by omega) (by omega) (by dsimp only; omega)
  refine ⟨?_, hc⟩
  unfold Br.tickR
  rw [if_pos hc]
  unfold Br.tick Br.heal
  rw [if_pos ⟨rfl, Int.le_refl _⟩, if_pos (by omega)]
  rfl
theorem Br.heal_step {s : Br.Se} {t : Int} (hs : Br.sets s = true) (h1 : 0 ≤ t) (h2 : t ≤ 268435456) (k : Nat) (hk : (k : Int) < s.p) :
    (Br.heal s t k).m = 2 ∧ Br.begE (Br.heal s t k) s (t + s.o) = 0 ∧ Br.begP (Br.heal s t k) s (t + s.o) = true ∧ Br.chk (Br.begR (Br.heal s t k) s (t + s.o)) s (t + s.o) = 0 ∧ Br.endR (Br.begR (Br.heal s t k) s (t + s.o)) s (t + s.o) true true = Br.heal s t (k + 1) := by
  have h3 := Br.sets_iff.1 hs
  unfold Br.heal
  rw [if_pos hk]
  have hc : Br.chk ⟨2, 0, t + s.o, 0, k⟩ s (t + s.o) = 0 := Br.chk_of hs (by omega) (by omega) (by dsimp only; omega)
  have ha : Br.allows ⟨2, 0, t + s.o, 0, k⟩ s = true := by
    unfold Br.allows
    simp
    omega
  have hb : Br.begR ⟨2, 0, t + s.o, 0, k⟩ s (t + s.o) = ⟨2, 0, t + s.o, 1, k⟩ := by
    unfold Br.begR
    rw [if_pos ⟨hc, ha⟩]
    rfl
  have hc2 : Br.chk ⟨2, 0, t + s.o, 1, k⟩ s (t + s.o) = 0 := Br.chk_of hs (by omega) (by omega) (by dsimp only; omega)
  refine ⟨rfl, by unfold Br.begE; rw [if_pos hc, if_pos ha], by unfold Br.begP; rw [if_pos ⟨hc, ha⟩]; rfl, by rw [hb]; exact hc2, ?_⟩
  rw [hb]
  unfold Br.endR
  rw [if_pos hc2, Br.fin_two (b' := ⟨2, 0, t + s.o, 0, k⟩) rfl rfl]
  unfold Br.weigh
  rw [if_pos rfl]
  by_cases h : (k : Int) + 1 < s.p
  · rw [if_neg (by dsimp only; omega), if_pos (by omega)]
    simp
  · rw [if_pos (by dsimp only; omega), if_neg (by omega)]
theorem Br.heal_done {s : Br.Se} {t : Int} (k : Nat) (hk : (k : Int) = s.p) : Br.heal s t k = ⟨0, 0, t + s.o, 0, 0⟩ := if_neg (by omega)
end Go.Proofs.Ytkfkhhhoboenkaa
