/- Subsets plainly: rounds, checks, places, what is asked of lists. -/
import Derived.Test.YtdgdhhbapgfjgaaDG
import Derived.Lib.SlicesCompact
namespace Go.Proofs.Ytdgdhhbapgfjgaa

abbrev Sp.bad (n c k : Int) : Prop := n < 0 ∨ 32 < n ∨ c < 0 ∨ 1048576 < c ∨ k < 1 ∨ 32 < k
def Sp.rE (n c k : Int) : Int := if Sp.bad n c k then 4 else 0
def Sp.rR (n c k : Int) : Int := if Sp.bad n c k then 0 else if n ≤ k then 0 else c / (n / k)
def Sp.rP (n c k : Int) : Int := if Sp.bad n c k then 0 else if n ≤ k then 0 else c % (n / k)
def Sp.rises : Int → List Int → Bool
  | _, [] => true
  | z, a :: l => decide (z < a) && Sp.rises a l
def Sp.chE (l : List Int) : Int := if 32 < l.length then 3 else if Sp.rises (-1) l = true then 0 else 9
def Sp.srt (l : List Int) : List Int := l.mergeSort fun x y => decide (x ≤ y)
def Sp.ord (n : Nat) (c k : Int) (s : Nat) : List Nat := Hp.order (Hp.ints s [Sp.rR n c k]) n
def Sp.cut (n : Nat) (c k : Int) (s : Nat) : List Int := (((Sp.ord n c k s).map Int.ofNat).drop (Sp.rP n c k * k).toNat).take k.toNat
def Sp.plc (n : Nat) (c k : Int) (s : Nat) : List Int := if Sp.rE n c k = 0 then Sp.srt (Sp.cut n c k s) else []
def Sp.ofE (ids : List Int) (c k : Int) : Int := if Sp.chE ids ≠ 0 then Sp.chE ids else Sp.rE ids.length c k
def Sp.ofL (ids : List Int) (c k : Int) (s : Nat) : List Int := if Sp.ofE ids c k = 0 then (Sp.plc ids.length c k s).map (fun p => ids.getD p.toNat 0) else []
def Sp.cnt (n : Nat) (k : Int) (s : Nat) (m : Nat) (i : Nat) : Nat := ((List.range m).map fun c => (Sp.plc n (c : Nat) k s).count (i : Int)).sum
def Sp.cntE (ids : List Int) (m k : Int) : Int := if Sp.ofE ids 0 k ≠ 0 then Sp.ofE ids 0 k else if m < 0 ∨ 256 < m then 4 else 0
def Sp.cntL (ids : List Int) (m k : Int) (s : Nat) : List Int := if Sp.cntE ids m k = 0 then (List.range ids.length).map (fun i => (Sp.cnt ids.length k s m.toNat i : Int)) else []
abbrev Sp.Up (l : List Int) : Prop := l.Pairwise (· < ·)

theorem Sp.srt_perm (l : List Int) : (Sp.srt l).Perm l := List.mergeSort_perm _ _
theorem Sp.srt_length (l : List Int) : (Sp.srt l).length = l.length := List.length_mergeSort l
theorem Sp.srt_le (l : List Int) : (Sp.srt l).Pairwise (· ≤ ·) := by
  have h := List.pairwise_mergeSort (le := fun x y : Int => decide (x ≤ y)) (fun a b c h1 h2 => by simp at *; omega) (fun a b => by simp; omega) l
  refine h.imp ?_
  intro a b h
  simpa using h
theorem Sp.srt_mem {l : List Int} {z : Int} : z ∈ Sp.srt l ↔ z ∈ l := (Sp.srt_perm l).mem_iff
theorem Sp.up_of_le {l : List Int} (h : l.Pairwise (· ≤ ·)) (hn : l.Nodup) : Sp.Up l := by
  refine (List.Pairwise.and h hn).imp ?_
  rintro a b ⟨h1, h2⟩
  omega
theorem Sp.srt_up {l : List Int} (h : l.Nodup) : Sp.Up (Sp.srt l) := Sp.up_of_le (Sp.srt_le l) ((Sp.srt_perm l).nodup_iff.2 h)
theorem Sp.up_ext : ∀ {l m : List Int}, Sp.Up l → Sp.Up m → (∀ z, z ∈ l ↔ z ∈ m) → l = m := by
  intro l
  induction l with
  | nil =>
    intro m _ _ h
    cases m with
    | nil => rfl
    | cons a m => have := (h a).2 (by simp); cases this
  | cons a l ih =>
    intro m hl hm h
    cases m with
    | nil => have := (h a).1 (by simp); cases this
    | cons b m =>
      have hl' := List.pairwise_cons.1 hl
      have hm' := List.pairwise_cons.1 hm
      have hab : a = b := by
        have h1 := (h a).1 (by simp)
        have h2 := (h b).2 (by simp)
        rcases List.mem_cons.1 h1 with e | h1
        · exact e
        · rcases List.mem_cons.1 h2 with e | h2
          · exact e.symm
          · have := hm'.1 a h1
            have := hl'.1 b h2
            omega
      subst hab
      refine congrArg _ (ih hl'.2 hm'.2 ?_)
      intro z
      constructor
      · intro hz
        rcases List.mem_cons.1 ((h z).1 (List.mem_cons_of_mem _ hz)) with e | h2
        · have := hl'.1 z hz; omega
        · exact h2
      · intro hz
        rcases List.mem_cons.1 ((h z).2 (List.mem_cons_of_mem _ hz)) with e | h2
        · have := hm'.1 z hz; omega
        · exact h2

theorem Sp.rises_up : ∀ (l : List Int) (z : Int), Sp.rises z l = true ↔ (∀ x ∈ l, z < x) ∧ Sp.Up l := by
  intro l
  induction l with
  | nil => intro z; simp [Sp.rises]
  | cons a l ih =>
    intro z
    simp only [Sp.rises, Bool.and_eq_true, decide_eq_true_iff, ih, List.pairwise_cons]
    constructor
    · rintro ⟨h1, h2, h3⟩
      refine ⟨fun x hx => ?_, h2, h3⟩
      rcases List.mem_cons.1 hx with rfl | hx
      · exact h1
      · have := h2 x hx; omega
    · rintro ⟨h1, h2, h3⟩
      exact ⟨h1 a (by simp), h2, h3⟩

/-- What a round's place is. -/
theorem Sp.place_fits {n : Nat} {c k : Int} (h : Sp.rE n c k = 0) : 1 ≤ k ∧ k ≤ 32 ∧ n ≤ 32 ∧ 0 ≤ c ∧ c ≤ 1048576 ∧ 0 ≤ Sp.rP n c k ∧ Sp.rP n c k * k ≤ n ∧ (k < n → Sp.rP n c k * k + k ≤ n) ∧ (n ≤ k → Sp.rP n c k = 0) ∧ 0 ≤ Sp.rR n c k ∧ Sp.rR n c k ≤ 1048576 ∧ 0 ≤ Sp.rP n c k * k := by
  unfold Sp.rE at h
  split at h
  · cases h
  · rename_i hb
    unfold Sp.rP Sp.rR
    rw [if_neg hb, if_neg hb]
    have hb' : ¬ Sp.bad n c k := hb
    unfold Sp.bad at hb'
    have g1 : 1 ≤ k := by omega
    have g2 : k ≤ 32 := by omega
    have g3 : n ≤ 32 := by omega
    have g4 : 0 ≤ c := by omega
    have g5 : c ≤ 1048576 := by omega
    by_cases hk : (n : Int) ≤ k
    · rw [if_pos hk, if_pos hk]
      refine ⟨g1, g2, g3, g4, g5, by omega, by omega, by omega, fun _ => rfl, by omega, by omega, by omega⟩
    · rw [if_neg hk, if_neg hk]
      have e1 : 1 ≤ (n : Int) / k := by
        refine (Int.le_ediv_iff_mul_le (by omega)).2 (by omega)
      have e2 : (n : Int) / k * k ≤ n := Int.ediv_mul_le _ (by omega)
      generalize (n : Int) / k = q at *
      have m0 := Int.emod_nonneg c (show q ≠ 0 by omega)
      have m1 := Int.emod_lt_of_pos c (show 0 < q by omega)
      have d0 : 0 ≤ c / q := Int.ediv_nonneg g4 (by omega)
      have d1 : c / q ≤ c := Int.ediv_le_self _ g4
      generalize c % q = p at *
      have f1 : (p + 1) * k ≤ q * k := Int.mul_le_mul_of_nonneg_right (by omega) (by omega)
      rw [Int.add_mul, Int.one_mul] at f1
      have f2 : 0 ≤ p * k := Int.mul_nonneg m0 (by omega)
      refine ⟨g1, g2, g3, g4, g5, m0, by omega, fun _ => by omega, fun h => by omega, d0, by omega, f2⟩

theorem Sp.ord_length (n : Nat) (c k : Int) (s : Nat) : ((Sp.ord n c k s).map Int.ofNat).length = n := by rw [List.length_map]; exact Hp.order_length _ _
theorem Sp.cut_length {n : Nat} {c k : Int} (s : Nat) (h : Sp.rE n c k = 0) : (Sp.cut n c k s).length = min k.toNat n := by
  obtain ⟨a1, a2, a3, a4, a5, a6, a7, a8, a9, a10, a11, a12⟩ := Sp.place_fits h
  unfold Sp.cut
  rw [List.length_take, List.length_drop, Sp.ord_length]
  by_cases hk : (n : Int) ≤ k
  · rw [a9 hk]; simp
  · have := a8 (by omega)
    generalize Sp.rP n c k * k = f at *
    omega
theorem Sp.plc_length {n : Nat} {c k : Int} (s : Nat) (h : Sp.rE n c k = 0) : (Sp.plc n c k s).length = min k.toNat n := by
  unfold Sp.plc
  rw [if_pos h, Sp.srt_length, Sp.cut_length s h]
theorem Sp.ord_nodup (n : Nat) (c k : Int) (s : Nat) : ((Sp.ord n c k s).map Int.ofNat).Nodup := by
  refine List.Pairwise.map Int.ofNat ?_ (Hp.order_nodup _ _)
  intro a b h e
  exact h (Int.ofNat.inj e)
theorem Sp.cut_nodup (n : Nat) (c k : Int) (s : Nat) : (Sp.cut n c k s).Nodup := ((Sp.ord_nodup n c k s).sublist (List.drop_sublist _ _)).sublist (List.take_sublist _ _)
theorem Sp.plc_up (n : Nat) (c k : Int) (s : Nat) : Sp.Up (Sp.plc n c k s) := by
  unfold Sp.plc
  split
  · exact Sp.srt_up (Sp.cut_nodup n c k s)
  · exact List.Pairwise.nil
theorem Sp.cut_mem {n : Nat} {c k : Int} {s : Nat} {z : Int} (h : z ∈ Sp.cut n c k s) : 0 ≤ z ∧ z < n := by
  have h1 := List.mem_of_mem_drop (List.mem_of_mem_take h)
  obtain ⟨x, hx, rfl⟩ := List.mem_map.1 h1
  have := Hp.order_lt hx
  exact ⟨Int.natCast_nonneg _, by simpa using this⟩
theorem Sp.plc_mem {n : Nat} {c k : Int} {s : Nat} {z : Int} (h : z ∈ Sp.plc n c k s) : 0 ≤ z ∧ z < n := by
  unfold Sp.plc at h
  split at h
  · exact Sp.cut_mem (Sp.srt_mem.1 h)
  · cases h

end Go.Proofs.Ytdgdhhbapgfjgaa
