/- The tokens of a text may be printed. -/
import Derived.Test.YtjeegcfdhoiplaaPE
namespace Go.Proofs.Ytjeegcfdhoiplaa
open Go.RowKit

theorem cons_count (t : Pl.Tok) (x : List Pl.Tok × Nat × Int) : (Pl.tokCons t x).1.length ≤ x.1.length + 1 := by
  unfold Pl.tokCons
  split
  · simp
  · simp
theorem tok_count (f : Nat) : ∀ (l : List Nat) (ln : Nat), (Pl.tokS f l ln).1.length ≤ l.length := by
  induction f with
  | zero => intro l ln; exact Nat.zero_le _
  | succ f ih =>
    intro l ln
    cases l with
    | nil => exact Nat.le_refl _
    | cons c r =>
      simp only [Pl.tokS, List.length_cons]
      split
      · have := ih r (ln + 1); omega
      · split
        · have := ih r ln; omega
        · split
          · have h1 := ih (r.dropWhile (fun d => d != 10)) ln
            have := Pl.dropWhile_le (fun d => d != 10) r
            omega
          · split
            · have h1 := ih r ln
              have := cons_count ⟨3, [c], ln⟩ (Pl.tokS f r ln)
              omega
            · split
              · rename_i hp
                split
                · have h1 := ih ((c :: r).dropWhile Pl.isPart) ln
                  have h2 := Pl.part_drop c r hp
                  have := cons_count ⟨(Pl.wordE ((c :: r).takeWhile Pl.isPart)).1, (c :: r).takeWhile Pl.isPart, ln⟩ (Pl.tokS f ((c :: r).dropWhile Pl.isPart) ln)
                  omega
                · simp
              · simp

/-- A token takes an octet, too: its line is less than octets and one. -/
theorem tok_line (f : Nat) : ∀ (l : List Nat) (ln : Nat), ∀ t ∈ (Pl.tokS f l ln).1, t.line < ln + l.length := by
  induction f with
  | zero => intro l ln t ht; cases ht
  | succ f ih =>
    intro l ln t ht
    cases l with
    | nil => cases ht
    | cons c r =>
      rw [List.length_cons]
      simp only [Pl.tokS] at ht
      split at ht
      · have := ih _ _ t ht; omega
      · split at ht
        · have := ih _ _ t ht; omega
        · split at ht
          · have h1 := ih _ _ t ht
            have := Pl.dropWhile_le (fun d => d != 10) r
            omega
          · split at ht
            · rcases Pl.mem_cons ht with rfl | ht
              · simp only; omega
              · have := ih _ _ t ht; omega
            · split at ht
              · rename_i hp
                split at ht
                · rcases Pl.mem_cons ht with rfl | ht
                  · simp only; omega
                  · have h1 := ih _ _ t ht
                    have := Pl.part_drop c r hp
                    omega
                · cases ht
              · cases ht

theorem zero_check (t : T3) (h : Pl.okTok (asTok t)) (hl : 1 ≤ t.2.2) : checkZ (toZ t) = 0 := by
  obtain ⟨k, x, ln⟩ := t
  have hn := Pl.ok_next _ h
  have hk := Pl.ok_kind _ h
  simp only [asTok] at hn hk hl
  have hj : just (k : Int) x = true := by
    unfold just
    rw [hn]
    simp [bl_length]
  unfold checkZ toZ
  simp only
  rw [if_neg (by omega), hj, if_neg (by simp), if_neg (by omega)]
theorem z_of (t : T3) : zTok (toZ t) = asTok t := by
  obtain ⟨k, x, ln⟩ := t
  simp [zTok, toZ, asTok]

/-- The tokens of a text may be printed. -/
theorem toks_good (s : ByteArray) (tl : List T3) (h : tl.map asTok = (Pl.tok (bl s) 1).1) (hs : s.size ≤ 65536) : Good (tl.map toZ) ∧ (∀ t ∈ tl.map toZ, t.2.1.size ≤ maxLen) ∧ tl.length ≤ 65536 ∧ (tl.map toZ).map zTok = tl.map asTok := by
  have hok := Pl.tok_ok ((bl s).length + 1) (bl s) 1
  have hri := Pl.tok_rises ((bl s).length + 1) (bl s) 1
  have hwi := (Pl.tok_within ((bl s).length + 1) (bl s) 1).1
  have hct := tok_count ((bl s).length + 1) (bl s) 1
  have hlt := tok_line ((bl s).length + 1) (bl s) 1
  have e : Pl.tokS ((bl s).length + 1) (bl s) 1 = Pl.tok (bl s) 1 := rfl
  rw [e, ← h] at hok hri hwi hct hlt
  rw [bl_length] at hwi hct hlt
  have hm : ∀ t ∈ tl, Pl.okTok (asTok t) ∧ 1 ≤ t.2.2 ∧ t.2.2 ≤ 1 + s.size := fun t ht => ⟨hok _ (List.mem_map_of_mem ht), hwi _ (List.mem_map_of_mem ht)⟩
  have hz : (tl.map toZ).map zTok = tl.map asTok := by
    rw [List.map_map]
    exact List.map_congr_left fun t _ => z_of t
  refine ⟨⟨?_, ?_, ?_⟩, ?_, by rw [List.length_map] at hct; omega, hz⟩
  · intro t ht
    obtain ⟨u, hu, rfl⟩ := List.mem_map.1 ht
    exact zero_check u (hm u hu).1 (hm u hu).2.1
  · intro i t u ht hu
    rw [List.getElem?_map] at ht hu
    cases hq : tl[i]? with
    | none => rw [hq] at ht; simp at ht
    | some x =>
      cases hq2 : tl[i + 1]? with
      | none => rw [hq2] at hu; simp at hu
      | some y =>
        rw [hq] at ht
        rw [hq2] at hu
        simp at ht hu
        subst ht hu
        have := Pl.rises_at hri i (asTok x) (asTok y) (by rw [List.getElem?_map, hq]; rfl) (by rw [List.getElem?_map, hq2]; rfl)
        simp only [asTok] at this
        simp only [toZ]
        omega
  · intro t ht
    obtain ⟨u, hu, rfl⟩ := List.mem_map.1 ht
    have h1 := hlt _ (List.mem_map_of_mem hu)
    simp only [asTok] at h1
    simp only [toZ]
    omega
  · intro t ht
    obtain ⟨u, hu, rfl⟩ := List.mem_map.1 ht
    have h1 := (Pl.ok_kind _ (hm u hu).1).2.2.2
    have e2 : (asTok u).text.length = u.2.1.size := bl_length u.2.1
    simp only [toZ]
    unfold maxLen
    omega
end Go.Proofs.Ytjeegcfdhoiplaa
