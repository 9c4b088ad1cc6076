/- frame: Get by its answer; alive. -/
import Derived.Test.YtoadcaennlfadaaFD
namespace Go.Proofs.Ytoadcaennlfadaa
open Go.RowKit
set_option maxRecDepth 20000

theorem fget_is (v : Value) (l p : List Int) (k : Nat) (er : Int) (w : World) (hs : Seg .u8 w v l) (ho : Pl.Octs l) (hF : Pl.getF l = (p, k, er)) :
    Calls Try.prog 60 #[v] w fun e w' => ∃ v', e = .returned (.tuple #[v', .int .i64 (k : Nat), .int .i64 er]) ∧ w'.ownsRow w.heap.size 5 1 v' p.length (u8s p) ∧ Below w.heap.size w w' := by
  refine (fget_any v l w hs ho).mono ?_
  rintro e w' ⟨v', rfl, h1, h2⟩
  rw [hF] at h1 ⊢
  exact ⟨v', rfl, h1, h2⟩

/-- Put of one payload, as it is handed over. -/
theorem fput_one {w : World} {v u : Value} {l p : List Int} (n : Nat) (hn : w.heap.size = n) (hs : Seg .u8 w v l) (hp : Seg .u8 w u p) (hf : Pl.fits p) (hlen : l.length + 4110 ≤ 140737488355328) :
    Calls Try.prog 39 #[v, .slice (some ⟨n, 0, none⟩) 1 1] (w.alloc (.cells #[u] 22)) fun e w' => ∃ v', e = .returned (.tuple #[v', .int .i64 0]) ∧ Part w' 5 v' (u8s (l ++ Pl.frameOf p)) ∧ Since n v' ∧ Below n w w' := by
  subst hn
  have hal := (Below.refl w.heap.size w).alloc (Nat.le_refl _) (.cells #[u] 22)
  refine (fput_good v u l p _ w.heap.size 0 1 (hs.below hal) (by simp) (hp.below hal) hf hlen).mono ?_
  rintro e w' ⟨v', rfl, h1, h2, h3⟩
  exact ⟨v', rfl, h1, h2.mono (by simp), hal.trans (h3.mono (by simp))⟩
theorem fput_none {w : World} {v u : Value} {p : List Int} (n : Nat) (hn : w.heap.size = n) (hp : Seg .u8 w u p) (hbad : Pl.errP p ≠ 0) :
    Calls Try.prog 39 #[v, .slice (some ⟨n, 0, none⟩) 1 1] (w.alloc (.cells #[u] 22)) fun e w' => e = .returned (.tuple #[.slice none 0 0, .int .i64 (Pl.errP p)]) ∧ Below n w w' := by
  subst hn
  have hal := (Below.refl w.heap.size w).alloc (Nat.le_refl _) (.cells #[u] 22)
  refine (fput_bad v u p _ w.heap.size 0 1 (by simp) (hp.below hal) hbad).mono ?_
  rintro e w' ⟨rfl, rfl⟩
  exact ⟨rfl, hal⟩

def one : List Int := [97]
theorem octs_one : Pl.Octs one := by
  intro z hz
  simp [one] at hz
  omega
theorem fits_one : Pl.fits one := ⟨by decide, by decide, octs_one⟩
theorem octs_frame' {p : List Int} (h : Pl.fits p) : Pl.Octs (Pl.frameOf p) := Pl.octs_frame h.2.2 (by have := h.2.1; omega)
theorem frame_one : (Pl.frameOf one).take 2 = [1, 97] ∧ (Pl.frameOf one).length = 6 := by
  unfold Pl.frameOf Pl.bodyOf one
  constructor
  · rfl
  · rfl
theorem Part.at {w : World} {e : TypeId} {v : Value} {xs : List Value} (h : Part w e v xs) (h0 : 0 < xs.length) : ∃ g off cap, v = .slice (some ⟨g, off, none⟩) xs.length cap ∧ xs.length ≤ cap ∧ cap ≤ maxLen := by
  rcases h with ⟨_, rfl⟩ | ⟨g, off, cap, cur, hv, _, hle, hm, _⟩
  · simp at h0
  · exact ⟨g, off, cap, hv, hle, hm⟩

end Go.Proofs.Ytoadcaennlfadaa
