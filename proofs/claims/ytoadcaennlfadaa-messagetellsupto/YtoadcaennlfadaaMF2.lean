/- message: the frame of one message; Read where no frame is whole. -/
import Derived.Test.YtoadcaennlfadaaMF1
namespace Go.Proofs.Ytoadcaennlfadaa
open Go.RowKit
set_option maxRecDepth 20000

theorem enc_octs {x : Mg} {d : List Int} (h : ckM x d = 0) (ho : ∀ z ∈ d, 0 ≤ z ∧ z ≤ 255) : Pl.Octs (encM x d) := by
  obtain ⟨h1, h2, h3, _, _⟩ := ck_zero h
  obtain ⟨k1, k8⟩ := used_kind h1
  intro z hz
  unfold encM at hz
  rcases List.mem_append.1 hz with hz | hz
  · exact Pl.enc_oct 9 x.k (by omega) (by rw [Pl.lim9]; omega) z hz
  · obtain ⟨f, hf, hzf⟩ := List.mem_flatMap.1 hz
    unfold encF at hzf
    split at hzf
    · rcases List.mem_append.1 hzf with hzf | hzf
      · exact Pl.enc_oct 9 d.length (by omega) (by rw [Pl.lim9]; omega) z hzf
      · exact ho z hzf
    · obtain ⟨n0, n1⟩ := num_bd h2 f.toNat
      exact Pl.enc_oct 9 _ n0 (by rw [Pl.lim9]; omega) z hzf

theorem enc_bounds {x : Mg} {d : List Int} (h : ckM x d = 0) : 1 ≤ (encM x d).length ∧ (encM x d).length ≤ 1200 := by
  obtain ⟨h1, _, h3, _, _⟩ := ck_zero h
  have hp := Pl.enc_len_pos 9 x.k
  have hk := Pl.enc_len_le 9 x.k
  have hF : ∀ f, f ≠ 10 → (encF x d f).length ≤ 10 := fun f hf => by unfold encF; rw [if_neg hf]; exact Pl.enc_len_le 9 _
  have hT := encF_len x d 10 h3
  have a0 := hF 0 (by decide)
  have a1 := hF 1 (by decide)
  have a2 := hF 2 (by decide)
  have a3 := hF 3 (by decide)
  have a4 := hF 4 (by decide)
  have a5 := hF 5 (by decide)
  have a6 := hF 6 (by decide)
  have a7 := hF 7 (by decide)
  have a8 := hF 8 (by decide)
  have a9 := hF 9 (by decide)
  have hl : (encM x d).length = (Pl.enc 9 x.k).length + ((usedP x.k).flatMap (encF x d)).length := by unfold encM; rw [List.length_append]
  have hu : ((usedP x.k).flatMap (encF x d)).length ≤ 1104 := by
    unfold usedP
    repeat' split
    all_goals simp only [List.flatMap_cons, List.flatMap_nil, List.length_append, List.length_nil]
    all_goals omega
  omega

theorem enc_fits {x : Mg} {d : List Int} (h : ckM x d = 0) (ho : ∀ z ∈ d, 0 ≤ z ∧ z ≤ 255) : Pl.fits (encM x d) := by
  have := enc_bounds h
  exact ⟨this.1, by omega, enc_octs h ho⟩

theorem put_one_pays {Q : Nat → Prop} {W : World} {u : Value} {p : List Int} (hP : Pays Q W u [p]) (hf : Pl.fits p) :
    Calls Try.prog 39 #[.slice none 0 0, u] W fun e w' => ∃ o, e = .returned (.tuple #[o, .int .i64 0]) ∧ Part w' 5 o (u8s (Pl.frameOf p)) ∧ Since W.heap.size o ∧ Below W.heap.size W w' := by
  obtain ⟨vs, h1, h2, h3, h4⟩ := hP
  obtain ⟨y, rfl⟩ : ∃ y, vs = [y] := by
    match vs, h3 with
    | [y], _ => exact ⟨y, rfl⟩
  have hy := (h4 0 (by simp)).1
  simp at hy
  obtain ⟨g, off, cap, hv, _, _⟩ := h1.at (by simp)
  subst hv
  have hc := h1.cells 0 y rfl
  have := fput_good (.slice none 0 0) y [] p W g off cap (Seg.nil _ _) hc hy hf (by simp)
  simpa using this

theorem mFrames_one (b : Nat) (x : Mg) (v : Value) (d : List Int) (w : World) (hM : MBx w b x v) (hs : Seg .u8 w v d) (ho : ∀ z ∈ d, 0 ≤ z ∧ z ≤ 255) (h : ckM x d = 0) :
    Calls Try.prog 14 #[.slice (some ⟨b, 0, none⟩) 1 1] w fun e w' => ∃ o, e = .returned (.tuple #[o, .int .i64 0]) ∧ Part w' 5 o (u8s (Pl.frameOf (encM x d))) ∧ Since w.heap.size o ∧ Below w.heap.size w w' := by
  have hfr : Pl.framesOf ([(x, d)].map encP) = Pl.frameOf (encM x d) := by simp [Pl.framesOf, encP]
  have := mFrames_ok _ [(x, d)] w (MSeg.one hM hs) (by simpa using h) (by simp) (fun W u hP _ => by
    rw [hfr]
    exact put_one_pays (by simpa [encP] using hP) (enc_fits h ho))
  rw [hfr] at this
  exact this

set_option maxHeartbeats 2000000 in
theorem mRead_none (v : Value) (b : List Int) (w : World) (hs : Seg .u8 w v b) (ho : Pl.Octs b) (hlen : b.length ≤ 100000) (hsc : Pl.scanF b = ([], 0, 0)) :
    Calls Try.prog 16 #[v] w fun e w' => e = .returned (.tuple #[.slice none 0 0, .int .i64 (if b.length = 0 then 0 else 8)]) ∧ Below w.heap.size w w' := by
  have hf := fscan_any v b w hs ho (by omega)
  rw [hsc] at hf
  obtain ⟨a, cap, rfl, _⟩ := id hs
  obtain ⟨N, hN⟩ : ∃ N, N = b.length := ⟨_, rfl⟩
  rw [← hN] at hf hlen ⊢
  clear hs ho hsc hN
  by_cases h0 : N = 0
  · subst h0
    go_enter Try.func16, Try.ntmps16
    go_wp2_with fail
    refine hf.mono ?_
    rintro e w2 ⟨pv, rfl, hP, hb⟩
    obtain ⟨pa, pc, rfl⟩ := hP.shape
    simp only [List.length_nil]
    clear hP hf
    go_wp2_with fail
    refine wp_loop_rounds 1 ?_
    rw [rounds_succ]
    go_wp2
    go_ret2
    exact ⟨rfl, hb⟩
  · go_enter Try.func16, Try.ntmps16
    go_wp2_with fail
    refine hf.mono ?_
    rintro e w2 ⟨pv, rfl, hP, hb⟩
    obtain ⟨pa, pc, rfl⟩ := hP.shape
    have hlt : 0 < N := by omega
    simp only [List.length_nil]
    clear hP hf
    go_wp2
    go_ret2
    exact ⟨by first | rfl | (rw [if_neg h0]; rfl), hb⟩

theorem scan_cut {p : List Int} (hf : Pl.fits p) (k : Nat) (hk : k < (Pl.frameOf p).length) : Pl.scanF ((Pl.frameOf p).take k) = ([], 0, 0) := by
  have hne : (Pl.frameOf p).drop k ≠ [] := by
    intro e
    have := congrArg List.length e
    simp at this
    omega
  exact Pl.scanF_none _ _ _ (Pl.getF_cut p _ _ hf hne (List.take_append_drop _ _).symm)
end Go.Proofs.Ytoadcaennlfadaa
