/- lex: Tokens. -/
import Derived.Test.YthdooemgnpiomaaXI
namespace Go.Proofs.Ythdooemgnpiomaa
open Go.RowKit
namespace Pl

def preT (l : List Tok) (x : List Tok × Nat × Int) : List Tok × Nat × Int := if x.2.2 = 0 then (l ++ x.1, 0, 0) else ([], x.2)

theorem preT_cons (l : List Tok) (t : Tok) (x : List Tok × Nat × Int) : preT l (tokCons t x) = preT (l ++ [t]) x := by
  unfold preT tokCons
  by_cases h : x.2.2 = 0
  · simp [h]
  · simp [h]

theorem cons_shape (t : Tok) (x : List Tok × Nat × Int) : ((tokCons t x).2.2 = 0 → (tokCons t x).2.1 = 0) ∧ ((tokCons t x).2.2 ≠ 0 → (tokCons t x).1 = []) := by
  unfold tokCons
  by_cases h : x.2.2 = 0
  · simp [h]
  · simp [h]
theorem tok_shape (f : Nat) : ∀ (l : List Nat) (ln : Nat), ((tokS f l ln).2.2 = 0 → (tokS f l ln).2.1 = 0) ∧ ((tokS f l ln).2.2 ≠ 0 → (tokS f l ln).1 = []) := by
  induction f with
  | zero => intro l ln; exact ⟨fun _ => rfl, fun _ => rfl⟩
  | succ f ih =>
    intro l ln
    cases l with
    | nil => exact ⟨fun _ => rfl, fun _ => rfl⟩
    | cons c r =>
      simp only [tokS]
      split
      · exact ih _ _
      · split
        · exact ih _ _
        · split
          · exact ih _ _
          · split
            · exact cons_shape _ _
            · split
              · split
                · exact cons_shape _ _
                · rename_i h
                  exact ⟨fun h' => absurd h' h, fun _ => rfl⟩
              · exact ⟨fun h' => by simp at h', fun _ => rfl⟩
theorem preT_nil (l : List Nat) (ln : Nat) : preT [] (tok l ln) = tok l ln := by
  have h := tok_shape (l.length + 1) l ln
  unfold tok preT
  generalize tokS (l.length + 1) l ln = x at h ⊢
  obtain ⟨a, b, c⟩ := x
  simp only at h ⊢
  by_cases hc : c = 0
  · subst hc
    simp [h.1 rfl]
  · simp [hc, h.2 hc]

theorem next_len (l : List Nat) : (nextP l).2.1 ≤ l.length ∧ ((nextP l).2.2 = 0 → 1 ≤ (nextP l).2.1) := by
  cases l with
  | nil => exact ⟨Nat.le_refl _, fun h => by simp [nextP] at h⟩
  | cons c r =>
    have h1 := takeWhile_le (p := isPart) (c :: r)
    have h2 := takeWhile_le (p := isDigit) (c :: r)
    have e1 : isLetter c = true → 1 ≤ ((c :: r).takeWhile isPart).length := by
      intro h
      rw [List.takeWhile_cons, if_pos (by rw [part_split]; simp [isJoin, h])]
      simp
    have e2 : isDigit c = true → 1 ≤ ((c :: r).takeWhile isDigit).length := by
      intro h
      rw [List.takeWhile_cons, if_pos h]
      simp
    simp only [nextP]
    by_cases hl : isLetter c = true
    · rw [if_pos hl]
      split
      · exact ⟨h1, fun h => by simp at h⟩
      · exact ⟨h1, fun _ => e1 hl⟩
    · rw [if_neg hl]
      by_cases hd : isDigit c = true
      · rw [if_pos hd]
        split
        · exact ⟨h2, fun h => by simp at h⟩
        · exact ⟨h2, fun _ => e2 hd⟩
      · rw [if_neg hd]
        split
        · exact ⟨by simp, fun _ => Nat.le_refl _⟩
        · exact ⟨Nat.zero_le _, fun h => by simp at h⟩
end Pl

theorem bl_extract (s : ByteArray) (a m : Nat) (_h : a + m ≤ s.size) : bl (s.extract a (a + m)) = ((bl s).drop a).take m := by
  unfold bl
  rw [← List.map_drop, ← List.map_take]
  congr 1
  rw [ByteArray.data_extract, Array.toList_extract]
  simp only [List.extract]
  congr 1
  omega

/-- The tokens of a text: the list, the line, the error. -/
def tokA (s : ByteArray) : List Pl.Tok × Nat × Int := if 65536 < s.size then ([], 0, 5) else Pl.tok (bl s) 1

set_option maxHeartbeats 4000000 in
set_option maxRecDepth 4000 in
theorem tokens_any (s : ByteArray) (w : World) :
    Calls Try.prog 19 #[.string s] w fun e w' => ∃ v tl, e = .returned (.tuple #[v, .int .i64 ((tokA s).2.1 : Int), .int .i64 (tokA s).2.2]) ∧ Toks w.heap.size w' v tl ∧ tl.map asTok = (tokA s).1 ∧ Below w.heap.size w w' := by
  by_cases hbig : 65536 < s.size
  · have hA : tokA s = ([], 0, 5) := by unfold tokA; rw [if_pos hbig]
    have hbi : (65536 : Int) < (s.size : Int) := by omega
    rw [hA]
    go_enter Try.func19, Try.ntmps19
    go_wp2
    go_returns
    exact ⟨_, [], rfl, ⟨rfl, .inl ⟨rfl, rfl⟩⟩, rfl, Below.refl _ _⟩
  · have hA : tokA s = Pl.tok (bl s) 1 := by unfold tokA; rw [if_neg hbig]
    have hbi : ¬ (65536 : Int) < (s.size : Int) := by omega
    rw [hA]
    have hsz : s.size ≤ 70000 := by omega
    generalize hR : Pl.tok (bl s) 1 = R
    obtain ⟨n, hn⟩ : ∃ n, n = w.heap.size := ⟨_, rfl⟩
    go_enter Try.func19, Try.ntmps19
    go_wp2_with fail
    have hA0 : At n 86 [.slice none 0 0] (w.alloc (.cells #[.string s, .int .i64 0, .int .i64 1, .slice none 0 0] 86)) s 0 1 := by
      rw [hn]
      exact heap_alloc_new w _
    have hb0 : Below n w (w.alloc (.cells #[.string s, .int .i64 0, .int .i64 1, .slice none 0 0] 86)) := (Below.refl _ w).alloc (by omega) _
    generalize w.alloc (.cells #[.string s, .int .i64 0, .int .i64 1, .slice none 0 0] 86) = w0 at hA0 hb0 ⊢
    simp only [← hn]
    have hT0 : Toks n w0 (.slice none 0 0) [] := ⟨rfl, .inl ⟨rfl, rfl⟩⟩
    refine (skip_any n 86 _ w0 s 0 1 hA0 (Nat.zero_le _) hsz (by omega)).mono ?_
    rintro e w1 ⟨rfl, k1, l1, hk1, hk2, hl1, hl2, htk, hst, hA1, hg1⟩
    have hT1 := hT0.grown hg1 hA0 (by decide)
    have hb1 : Below n w w1 := below_grown hb0 hg1 (by have := hA0.facts.2.2.2.2; omega) (fun j hj => by cases hj; exact Nat.le_refl _)
    rw [List.drop_zero, hR] at htk
    have HN : Hid (n = w.heap.size) := hn
    clear hA0 hb0 hT0 hg1 hn
    go_wp2_with fail
    go_loopw [] (fun wr => ∃ (k ln : Nat) (tl : List T3) (tv : Value), k ≤ s.size ∧ tl.length ≤ k ∧ ln ≤ 1 + k ∧ R = Pl.preT (tl.map asTok) (Pl.tok ((bl s).drop k) ln) ∧ Stop ((bl s).drop k) ∧ At n 86 [tv] wr s k ln ∧ Toks n wr tv tl ∧ Below n w wr) (fun wr => s.size - atOf n wr)
    case atStart => exact ⟨k1, l1, [], _, hk2, Nat.zero_le _, by omega, by rw [htk]; exact (Pl.preT_nil _ _).symm, hst, hA1, hT1, hb1⟩
    case round =>
      obtain ⟨k, ln, tl, tv, hk, htl, hln, hRk, hst, hA, hT, hb⟩ := hrel
      have hat := hA.at
      have hov := over_any n 86 [tv] wr s k ln hA
      by_cases hend : k = s.size
      · rw [decide_eq_true hend] at hov
        have hRe : R = (tl.map asTok, 0, 0) := by
          rw [hRk, hend, drop_end, Pl.tok_nil]
          simp [Pl.preT]
        go_wp2_with fail
        refine hov.mono ?_
        rintro e w2 ⟨rfl, m, rfl⟩
        have c3 : wr.cell? ⟨n, 3, none⟩ = some tv := by rw [cell_of_row wr n 3 _ 86 (0, 0) hA]; rfl
        obtain ⟨ad, cp, rfl⟩ := hT.shape
        go_wp2
        go_returns
        rw [← HN.out, hRe]
        exact ⟨_, tl, rfl, hT.below (below_drewN (Below.refl _ _) m), rfl, below_drewN hb m⟩
      · rw [decide_eq_false hend] at hov
        obtain ⟨kk, m, er, hN⟩ : ∃ kk m er, Pl.nextP ((bl s).drop k) = (kk, m, er) := ⟨_, _, _, rfl⟩
        have hlen := Pl.next_len ((bl s).drop k)
        have hne : (bl s).drop k ≠ [] := by rw [drop_at s k (by omega)]; simp
        have hnt := Pl.next_tok ((bl s).drop k) ln hst hne
        rw [hN] at hnt hlen
        simp only [List.length_drop, bl_length] at hlen
        obtain ⟨hlm, hl0⟩ := hlen
        have hkm : k + m ≤ s.size := by omega
        go_wp2_with fail
        refine hov.mono ?_
        rintro e w2 ⟨rfl, m2, rfl⟩
        have hA2 := hA.drew m2
        have hT2 := hT.below (below_drewN (Below.refl _ _) m2)
        have hb2 := below_drewN hb m2
        generalize wr.drewN m2 = w2 at hA2 hT2 hb2 ⊢
        have hrd := read_any n n w2 s k ln tv tl hA2 hT2 (Nat.le_refl _) hk hsz (by omega) kk m er hN hkm
        by_cases her : er = 0
        · subst her
          have hRn : R = Pl.preT ((tl ++ [(kk, s.extract k (k + m), ln)]).map asTok) (Pl.tok ((bl s).drop (k + m)) ln) := by
            rw [hRk, hnt]
            simp only [Pl.nextT, if_true]
            rw [Pl.preT_cons, List.map_append, List.drop_drop]
            simp only [List.map_cons, List.map_nil, asTok]
            rw [bl_extract s k m hkm]
          specialize hl0 rfl
          rw [if_pos rfl] at hrd
          generalize hq : tl ++ [(kk, s.extract k (k + m), ln)] = tl2 at hrd hRn
          have htl2 : tl2.length ≤ k + m := by rw [← hq, List.length_append]; simp; omega
          clear hq hnt hN hA hT hb hov hRk
          go_wp2_with fail
          refine hrd.mono ?_
          rintro e w3 ⟨rfl, ⟨tv3, hA3, hT3⟩, hb3⟩
          have hb3' := hb2.trans hb3
          clear hA2 hT2 hb2 hb3 hrd
          go_wp2_with fail
          refine (skip_any n 86 _ w3 s (k + m) ln hA3 hkm hsz (by omega)).mono ?_
          rintro e w4 ⟨rfl, k4, l4, hk41, hk42, hl41, hl42, htk4, hst4, hA4, hg4⟩
          have hT4 := hT3.grown hg4 hA3 (by decide)
          have hb4 : Below n w w4 := below_grown hb3' hg4 (by have := hA3.facts.2.2.2.2; omega) (fun j hj => by cases hj; exact Nat.le_refl _)
          go_wp2_with fail
          refine ⟨⟨k4, l4, tl2, tv3, hk42, by omega, by omega, by rw [hRn, htk4], hst4, hA4, hT4, hb4⟩, ?_⟩
          rw [hA4.at, hat]
          omega
        · have hRn : R = ([], ln, er) := by
            rw [hRk, hnt]
            simp only [Pl.nextT, if_neg her, Pl.preT]
          have hbe : (er != 0) = true := by simp; exact her
          clear hnt hN hRk
          go_wp2_with fail
          refine hrd.mono ?_
          rintro e w3 ⟨rfl, ⟨tv3, hA3, hT3⟩, hb3⟩
          have hb3' := hb2.trans hb3
          obtain ⟨c0, c1, c2, hf, hlt⟩ := hA3.facts
          go_wp2_with fail
          go_quiet (fail)
          go_wp2
          go_returns
          rw [← HN.out, hRn]
          exact ⟨_, [], rfl, ⟨rfl, .inl ⟨rfl, rfl⟩⟩, rfl, below_drewN hb3' nq⟩
end Go.Proofs.Ythdooemgnpiomaa
