/- message: Frames and Read in one form. -/
import Derived.Test.YtoadcaennlfadaaMF7
import Derived.Test.YtoadcaennlfadaaRF9
import Derived.Test.YtoadcaennlfadaaRF7
namespace Go.Proofs.Ytoadcaennlfadaa
open Go.RowKit
set_option maxRecDepth 20000

theorem mFrames_R (v : Value) (ms : List (Mg × List Int)) (w : World) (h : MSeg w v ms) (hdo : ∀ p ∈ ms, ∀ z ∈ p.2, 0 ≤ z ∧ z ≤ 255) (I : Nat) (hok : ∀ p ∈ ms.take I, ckM p.1 p.2 = 0) (E : Int) (hE : I = ms.length ∧ E = 0 ∨ E ≠ 0 ∧ ∃ bx bd, ms[I]? = some (bx, bd) ∧ E = ckM bx bd) (hfl : (Pl.framesOf (ms.map encP)).length ≤ 140737488350000) (hlen : ms.length ≤ 5864062014804) :
    Calls Try.prog 14 #[v] w fun e w' => ∃ o, e = .returned (.tuple #[o, .int .i64 E]) ∧ Seg .u8 w' o (if E = 0 then Pl.framesOf (ms.map encP) else []) ∧ Below w.heap.size w w' := by
  rcases hE with ⟨rfl, rfl⟩ | ⟨h0, bx, bd, hp, rfl⟩
  · rw [List.take_length] at hok
    rw [if_pos rfl]
    refine (mFrames_ok v ms w h hok hlen (fun W u hP _ => fput_many W u _ hP (fun p hp => ?_) hfl)).mono ?_
    · obtain ⟨q, hq, rfl⟩ := List.mem_map.1 hp
      exact enc_fits (hok q hq) (hdo q hq)
    · rintro e w' ⟨o, rfl, hP, _, hb⟩
      exact ⟨o, rfl, hP.seg, hb⟩
  · rw [if_neg h0]
    refine (mFrames_bad v ms w h I bx bd hp hok h0 hlen).mono ?_
    rintro e w' ⟨rfl, hb⟩
    exact ⟨_, rfl, Seg.nil _ _, hb⟩

/-- What Read tells. -/
def rdm (b : List Int) (ms : List (Mg × List Int)) (E : Int) : Prop :=
  ((Pl.scanF b).2.2 ≠ 0 ∧ ms = [] ∧ E = (Pl.scanF b).2.2) ∨ ((Pl.scanF b).2.2 = 0 ∧ (Pl.scanF b).2.1 < b.length ∧ ms = [] ∧ E = 8) ∨
  ((Pl.scanF b).2.2 = 0 ∧ (Pl.scanF b).2.1 = b.length ∧ ((E = 0 ∧ (Pl.scanF b).1 = ms.map encP ∧ (∀ p ∈ ms, ckM p.1 p.2 = 0) ∧ ∀ p ∈ ms, ∀ z ∈ p.2, 0 ≤ z ∧ z ≤ 255) ∨
    (E ≠ 0 ∧ ms = [] ∧ ∃ (I : Nat) (pb : List Int), (Pl.scanF b).1[I]? = some pb ∧ (∀ k : Nat, k < I → ∃ p, (Pl.scanF b).1[k]? = some p ∧ (dcm p).2.2 = 0) ∧ E = (dcm pb).2.2)))

theorem first_bad (ls : List (List Int)) : (∀ p ∈ ls, (dcm p).2.2 = 0) ∨ ∃ (I : Nat) (pb : List Int), ls[I]? = some pb ∧ (∀ k : Nat, k < I → ∃ p, ls[k]? = some p ∧ (dcm p).2.2 = 0) ∧ (dcm pb).2.2 ≠ 0 := by
  induction ls with
  | nil => left; simp
  | cons p r ih =>
    by_cases h : (dcm p).2.2 = 0
    · rcases ih with h1 | ⟨I, pb, h1, h2, h3⟩
      · left
        intro q hq
        rcases List.mem_cons.1 hq with rfl | hq
        · exact h
        · exact h1 q hq
      · right
        refine ⟨I + 1, pb, by simpa using h1, fun k hk => ?_, h3⟩
        cases k with
        | zero => exact ⟨p, rfl, h⟩
        | succ k => simpa using h2 k (by omega)
    · right
      exact ⟨0, p, rfl, fun k hk => by omega, h⟩

theorem rdm_ex (b : List Int) (ho : Pl.Octs b) : ∃ ms E, rdm b ms E := by
  by_cases h0 : (Pl.scanF b).2.2 = 0
  · obtain ⟨hl, _, hf⟩ := Pl.scanF_fits b ho
    by_cases h1 : (Pl.scanF b).2.1 < b.length
    · exact ⟨[], 8, Or.inr (Or.inl ⟨h0, h1, rfl, rfl⟩)⟩
    · rcases first_bad (Pl.scanF b).1 with h | ⟨I, pb, h2, h3, h4⟩
      · refine ⟨(Pl.scanF b).1.map fun p => ((dcm p).1, (dcm p).2.1), 0, Or.inr (Or.inr ⟨h0, by omega, Or.inl ⟨rfl, ?_, ?_, ?_⟩⟩)⟩
        · rw [List.map_map]
          conv => lhs; rw [← List.map_id (Pl.scanF b).1]
          apply List.map_congr_left
          intro p hp
          have hd : dcm p = ((dcm p).1, (dcm p).2.1, 0) := by rw [← h p hp]
          exact (dcm_just (hf p hp).2.2 hd).2.1.symm
        · intro q hq
          obtain ⟨p, hp, rfl⟩ := List.mem_map.1 hq
          have hd : dcm p = ((dcm p).1, (dcm p).2.1, 0) := by rw [← h p hp]
          exact (dcm_just (hf p hp).2.2 hd).1
        · intro q hq
          obtain ⟨p, hp, rfl⟩ := List.mem_map.1 hq
          have hd : dcm p = ((dcm p).1, (dcm p).2.1, 0) := by rw [← h p hp]
          exact (dcm_just (hf p hp).2.2 hd).2.2
      · exact ⟨[], (dcm pb).2.2, Or.inr (Or.inr ⟨h0, by omega, Or.inr ⟨h4, rfl, I, pb, h2, h3, rfl⟩⟩)⟩
  · exact ⟨[], _, Or.inl ⟨h0, rfl, rfl⟩⟩

theorem MSeg.nil (w : World) : MSeg w (.slice none 0 0) [] := ⟨none, 0, rfl, Nat.le_refl _, Nat.zero_le _, fun _ => ⟨rfl, rfl⟩, fun g off ar ha => by cases ha⟩

theorem mRead_R (v : Value) (b : List Int) (w : World) (hs : Seg .u8 w v b) (ho : Pl.Octs b) (hlen : b.length ≤ 1048576) (ms : List (Mg × List Int)) (E : Int) (h : rdm b ms E) :
    Calls Try.prog 16 #[v] w fun e w' => ∃ o, e = .returned (.tuple #[o, .int .i64 E]) ∧ MSeg w' o ms ∧ Below w.heap.size w w' := by
  obtain ⟨hf1, hf2, hf3⟩ := Pl.scanF_fits b ho
  rcases h with ⟨h0, rfl, rfl⟩ | ⟨h0, h1, rfl, rfl⟩ | ⟨h0, h1, ⟨rfl, h2, h3, h4⟩ | ⟨h2, rfl, I, pb, h3, h4, rfl⟩⟩
  · exact (mRead_err v b w hs ho (by omega) h0).mono fun e w' hh => ⟨_, hh.1, MSeg.nil _, hh.2⟩
  · exact (mRead_rest v b w hs ho (by omega) h0 h1).mono fun e w' hh => ⟨_, hh.1, MSeg.nil _, hh.2⟩
  · have hl : ms.length = (Pl.scanF b).1.length := by rw [h2, List.length_map]
    refine (mRead_ok v b w hs ho (by omega) ms (by rw [← h2, ← h1, ← h0]) h3 h4 (by omega)).mono ?_
    rintro e w' ⟨o, ys, rfl, hM, hb⟩
    exact ⟨o, rfl, hM.seg, hb⟩
  · exact (mRead_bad v b w hs ho (by omega) (Pl.scanF b).1 (by rw [← h1, ← h0]) I pb h3 h4 h2 hf3 (by omega)).mono fun e w' hh => ⟨_, hh.1, MSeg.nil _, hh.2⟩

theorem rRead_R (v : Value) (b : List Int) (w : World) (hs : Seg .u8 w v b) (ho : Pl.Octs b) (hlen : b.length ≤ 1048576) (ms : List (Mg × List Int)) (E : Int) (h : rdm b ms E) :
    Calls Try.prog 17 #[v] w fun e w' => ∃ o, e = .returned (.tuple #[o, .int .i64 E]) ∧ MSeg w' o ms ∧ Below w.heap.size w w' := by
  obtain ⟨hf1, hf2, hf3⟩ := Pl.scanF_fits b ho
  rcases h with ⟨h0, rfl, rfl⟩ | ⟨h0, h1, rfl, rfl⟩ | ⟨h0, h1, ⟨rfl, h2, h3, h4⟩ | ⟨h2, rfl, I, pb, h3, h4, rfl⟩⟩
  · exact (rRead_err v b w hs ho (by omega) h0).mono fun e w' hh => ⟨_, hh.1, MSeg.nil _, hh.2⟩
  · exact (rRead_rest v b w hs ho (by omega) h0 h1).mono fun e w' hh => ⟨_, hh.1, MSeg.nil _, hh.2⟩
  · have hl : ms.length = (Pl.scanF b).1.length := by rw [h2, List.length_map]
    refine (rRead_ok v b w hs ho (by omega) ms (by rw [← h2, ← h1, ← h0]) h3 h4 (by omega)).mono ?_
    rintro e w' ⟨o, ys, rfl, hM, hb⟩
    exact ⟨o, rfl, hM.seg, hb⟩
  · exact (rRead_bad v b w hs ho (by omega) (Pl.scanF b).1 (by rw [← h1, ← h0]) I pb h3 h4 h2 hf3 (by omega)).mono fun e w' hh => ⟨_, hh.1, MSeg.nil _, hh.2⟩
end Go.Proofs.Ytoadcaennlfadaa
