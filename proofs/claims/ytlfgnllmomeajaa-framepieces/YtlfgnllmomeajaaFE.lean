/- frame: Get by its answer; alive. -/
import Derived.Test.YtlfgnllmomeajaaFD
namespace Go.Proofs.Ytlfgnllmomeajaa
open Go.RowKit

theorem fget_is (v : Value) (l p : List Int) (k : Nat) (er : Int) (w : World) (hs : Seg .u8 w v l) (ho : Pl.Octs l) (hF : Pl.getF l = (p, k, er)) :
    Calls Try.prog 12 #[v] w fun e w' => ∃ v', e = .returned (.tuple #[v', .int .i64 (k : Nat), .int .i64 er]) ∧ w'.ownsRow w.heap.size 5 1 v' p.length (u8s p) ∧ Below w.heap.size w w' := by
  refine (fget_any v l w hs ho).mono ?_
  rintro e w' ⟨v', rfl, h1, h2⟩
  rw [hF] at h1 ⊢
  exact ⟨v', rfl, h1, h2⟩

/-- Put of one payload, as it is handed over. -/
theorem fput_one {w : World} {v u : Value} {l p : List Int} (n : Nat) (hn : w.heap.size = n) (hs : Seg .u8 w v l) (hp : Seg .u8 w u p) (hf : Pl.fits p) (hlen : l.length + 4110 ≤ 140737488355328) :
    Calls Try.prog 10 #[v, .slice (some ⟨n, 0, none⟩) 1 1] (w.alloc (.cells #[u] 22)) fun e w' => ∃ v', e = .returned (.tuple #[v', .int .i64 0]) ∧ Part w' 5 v' (u8s (l ++ Pl.frameOf p)) ∧ Since n v' ∧ Below n w w' := by
  subst hn
  have hal := (Below.refl w.heap.size w).alloc (Nat.le_refl _) (.cells #[u] 22)
  refine (fput_good v u l p _ w.heap.size 0 1 (hs.below hal) (by simp) (hp.below hal) hf hlen).mono ?_
  rintro e w' ⟨v', rfl, h1, h2, h3⟩
  exact ⟨v', rfl, h1, h2.mono (by simp), hal.trans (h3.mono (by simp))⟩
theorem fput_none {w : World} {v u : Value} {p : List Int} (n : Nat) (hn : w.heap.size = n) (hp : Seg .u8 w u p) (hbad : Pl.errP p ≠ 0) :
    Calls Try.prog 10 #[v, .slice (some ⟨n, 0, none⟩) 1 1] (w.alloc (.cells #[u] 22)) fun e w' => e = .returned (.tuple #[.slice none 0 0, .int .i64 (Pl.errP p)]) ∧ Below n w w' := by
  subst hn
  have hal := (Below.refl w.heap.size w).alloc (Nat.le_refl _) (.cells #[u] 22)
  refine (fput_bad v u p _ w.heap.size 0 1 (by simp) (hp.below hal) hbad).mono ?_
  rintro e w' ⟨rfl, rfl⟩
  exact ⟨rfl, hal⟩

def one : List Int := [97]
theorem octs_one : Pl.Octs one := by
  intro z hz
  simp [one] at hz
  omega
theorem fits_one : Pl.fits one := ⟨by decide, by decide, octs_one⟩
theorem octs_frame' {p : List Int} (h : Pl.fits p) : Pl.Octs (Pl.frameOf p) := Pl.octs_frame h.2.2 (by have := h.2.1; omega)
theorem frame_one : (Pl.frameOf one).take 2 = [1, 97] ∧ (Pl.frameOf one).length = 6 := by
  unfold Pl.frameOf Pl.bodyOf one
  constructor
  · rfl
  · rfl
theorem Part.at {w : World} {e : TypeId} {v : Value} {xs : List Value} (h : Part w e v xs) (h0 : 0 < xs.length) : ∃ g off cap, v = .slice (some ⟨g, off, none⟩) xs.length cap ∧ xs.length ≤ cap ∧ cap ≤ maxLen := by
  rcases h with ⟨_, rfl⟩ | ⟨g, off, cap, cur, hv, _, hle, hm, _⟩
  · simp at h0
  · exact ⟨g, off, cap, hv, hle, hm⟩

set_option maxHeartbeats 400000 in
theorem alive_any (w : World) : Calls Try.prog 19 #[] w fun e w' => e = .returned (.bool true) ∧ Below w.heap.size w w' := by
  have kc := fun (w : World) (C : Array Value) (n c : Nat) => Lib.run_convert_bytes_const (P := Try.prog) w 22 5 C n c Try.underlying22 Try.underlying5
  go_enter Try.func19, Try.ntmps19
  go_wp2_with fail
  have hb0 := (Below.refl w.heap.size w).alloc (Nat.le_refl _) (.cells #[.int .u8 97] 5 (1, 2))
  have hs0 : Seg .u8 (w.alloc (.cells #[.int .u8 97] 5 (1, 2))) (.slice (some ⟨w.heap.size, 0, none⟩) 1 1) one := seg_new (w := w) (l := one) 5 (1, 2) (by decide)
  refine (fput_one _ (by simp) (Seg.nil _ _) hs0 fits_one (by simp)).mono ?_
  rintro e w1 ⟨v1, rfl, hP1, _, hb1⟩
  rw [List.nil_append] at hP1
  have hb01 : Below w.heap.size w w1 := hb0.trans (hb1.mono (by simp))
  have hF := Pl.getF_put one [] fits_one
  rw [List.append_nil, frame_one.2] at hF
  have hlen := frame_one.2
  have htk := frame_one.1
  have hS1 := hP1.seg
  obtain ⟨g, off, cap, hv1, hc1, hc2⟩ := hP1.at (by rw [List.length_map, hlen]; decide)
  rw [List.length_map, hlen] at hv1 hc1
  subst hv1
  have hget := fget_is _ _ _ _ _ w1 hS1 (octs_frame' fits_one) hF
  clear hb0 hb1 hs0
  go_wp2_with (go_at_call 12; refine hget.mono ?_; rintro e w2 ⟨v2, rfl, hown2, hb2⟩)
  have hb02 := hb01.trans (hb2.mono hb01.size)
  have hS2 := hS1.below hb2
  obtain ⟨a3, cp3, hv3, k1, k2, k3, k4⟩ := id hS2
  rw [hlen] at hv3 k1
  simp only [Value.slice.injEq, true_and] at hv3
  obtain ⟨rfl, rfl⟩ := hv3
  have hpt : Seg .u8 w2 (.slice (some ⟨g, off, none⟩) 2 cap) [1, 97] := by
    have := seg_part (w := w2) (b := g) (off := off) (cap := cap) (l := Pl.frameOf one) 0 2 (by rw [hlen]; decide) (by rw [hlen]; exact k1) k2 (fun i hi => by have := k4 _ rfl i hi; rwa [add_plain] at this)
    simpa [htk] using this
  have hst1 := seg_string hpt
  have hst2 := seg_string (Part.seg (l := one) (Part.own hown2))
  obtain ⟨a4, cp4, hv4, _⟩ := Part.seg (l := one) (Part.own hown2)
  subst hv4
  have e1 : strOf [1, 97] = ⟨#[1, 97]⟩ := rfl
  have e2 : strOf one = ⟨#[97]⟩ := rfl
  rw [e1] at hst1
  rw [e2] at hst2
  clear hS2 hP1 hS1 hF hget hown2 hpt k3 k4 kc
  go_wp2_with (go_at_call 17; refine (num_any _ _).mono ?_; rintro e w3 ⟨rfl, rfl⟩)
  go_ret
  exact ⟨rfl, hb02⟩
end Go.Proofs.Ytlfgnllmomeajaa
