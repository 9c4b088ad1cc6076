/- The reference: Get. -/
import Derived.Test.YtoadcaennlfadaaRA
namespace Go.Proofs.Ytoadcaennlfadaa
open Go.RowKit
set_option maxRecDepth 20000

set_option maxHeartbeats 1000000 in
set_option maxRecDepth 4000 in
theorem rget3_early (v : Value) (l : List Int) (n q er : Int) (w : World) (hs : Seg .u8 w v l) (ho : Pl.Octs l) (hg : Pl.getI l 0 = (n, q, er)) (hbad : er ≠ 0 ∨ n = 0 ∨ 4096 < n) (hn0 : 0 ≤ n) (hn1 : n ≤ 18446744073709551615) :
    Calls Try.prog 61 #[v] w fun e w' => GetsF w l e w' := by
  have hget := rget_is v l 0 n q er w hs ho hg (by omega) (by omega)
  by_cases h8 : er = 8
  · subst h8
    have HN := gets_none (w := w) (l := l) (er := 71) (by unfold Pl.getF; rw [hg]; rfl)
    clear hbad
    go_enter Try.func61, Try.ntmps61
    go_wp2_with (go_at_call 37; refine hget.mono ?_; rintro e w1 ⟨rfl, rfl⟩)
    go_ret3
    exact HN
  · have hb8 : (er == 8) = false := by simp; exact h8
    by_cases h0 : er = 0
    · subst h0
      by_cases hz : n = 0
      · subst hz
        have HN := gets_none (w := w) (l := l) (er := 8) (by unfold Pl.getF; rw [hg]; rfl)
        clear hbad
        go_enter Try.func61, Try.ntmps61
        go_wp2_with (go_at_call 37; refine hget.mono ?_; rintro e w1 ⟨rfl, rfl⟩)
        go_ret3
        exact HN
      · have hbz : (n == 0) = false := by simp; exact hz
        have hgt : 4096 < n := by
          rcases hbad with h | h | h
          · exact absurd rfl h
          · exact absurd h hz
          · exact h
        have HN := gets_none (w := w) (l := l) (er := 5) (by unfold Pl.getF; rw [hg]; simp only; rw [if_neg (by decide), if_neg (by simp), if_neg hz, if_pos hgt])
        clear hbad
        go_enter Try.func61, Try.ntmps61
        go_wp2_with (go_at_call 37; refine hget.mono ?_; rintro e w1 ⟨rfl, rfl⟩)
        go_ret3
        exact HN
    · have hb0 : (er == 0) = false := by simp; exact h0
      have HN := gets_none (w := w) (l := l) (er := er) (by unfold Pl.getF; rw [hg]; simp only; rw [if_neg h8, if_pos h0])
      clear hbad
      go_enter Try.func61, Try.ntmps61
      go_wp2_with (go_at_call 37; refine hget.mono ?_; rintro e w1 ⟨rfl, rfl⟩)
      go_ret3
      exact HN

set_option maxHeartbeats 1000000 in
set_option maxRecDepth 4000 in
theorem rget3_late (v : Value) (l : List Int) (n q : Nat) (w : World) (hs : Seg .u8 w v l) (ho : Pl.Octs l) (hg : Pl.getI l 0 = ((n : Int), (q : Int), 0)) (hn0 : 1 ≤ n) (hn1 : n ≤ 4096) :
    Calls Try.prog 61 #[v] w fun e w' => GetsF w l e w' := by
  have hget := rget_is v l 0 n q 0 w hs ho hg (by omega) (by omega)
  obtain ⟨_, _, _, g3, g4, r5, g5, g6⟩ := Pl.getI_ok l 0 n q ho hg
  have hq10 : q ≤ 10 := by have := Pl.enc_len_le 9 n; omega
  clear g5 g6 r5
  have hbz : ((n : Int) == 0) = false := by simp; omega
  obtain ⟨a, cap, rfl, h1, h2, h3, h4⟩ := id hs
  unfold maxLen at h2
  by_cases hsh : l.length < q + n + 4
  · have HN := gets_none (w := w) (l := l) (er := 71) (by
      unfold Pl.getF; rw [hg]; simp only
      rw [if_neg (by decide), if_neg (by simp), if_neg (by omega), if_neg (by omega), if_pos (by omega)])
    clear h3 h4
    go_enter Try.func61, Try.ntmps61
    go_wp2_with (go_at_call 37; refine hget.mono ?_; rintro e w1 ⟨rfl, rfl⟩)
    go_ret3
    exact HN
  · obtain ⟨b, off, rfl, hb, hc⟩ := seg_at (by omega) h3 h4
    have hS2 : Seg .u8 w (.slice (some ⟨b, off + q, none⟩) n (cap - q)) ((l.drop q).take n) := seg_part q n (by omega) h1 (by unfold maxLen; omega) hc
    have hS3 : Seg .u8 w (.slice (some ⟨b, off, none⟩) (q + n + 4) cap) (l.take (q + n + 4)) := by
      have := seg_part (w := w) (b := b) (off := off) (cap := cap) (l := l) 0 (q + n + 4) (by omega) h1 (by unfold maxLen; omega) hc
      simpa using this
    have ho2 : Pl.Octs ((l.drop q).take n) := fun z hz => ho z (List.mem_of_mem_drop (List.mem_of_mem_take hz))
    have ho3 : Pl.Octs (l.take (q + n + 4)) := fun z hz => ho z (List.mem_of_mem_take hz)
    have hpl : ((l.drop q).take n).length = n := by rw [List.length_take, List.length_drop]; omega
    have hfit : Pl.fits ((l.drop q).take n) := ⟨by omega, by omega, ho2⟩
    have hof := octs_frame' hfit
    have hq1 : ¬ cap = q := by omega
    have hgF : Pl.getF l = if Pl.frameOf ((l.drop q).take n) = l.take (q + n + 4) then ((l.drop q).take n, q + n + 4, 0) else ([], 0, 21) := by
      unfold Pl.getF
      rw [hg]
      simp only
      rw [if_neg (by decide), if_neg (by simp), if_neg (by omega), if_neg (by omega), if_neg (by omega)]
      simp only [Int.toNat_natCast]
    clear h3 h4 hc
    generalize (l.drop q).take n = pl at *
    generalize l.take (q + n + 4) = T at *
    have hput := rput3_nil _ pl w hS2 hfit
    generalize hFe : Pl.frameOf pl = F at *
    go_enter Try.func61, Try.ntmps61
    go_wp2_with (first
      | (go_at_call 37; refine hget.mono ?_; rintro e w1 ⟨rfl, rfl⟩)
      | (go_at_call 40; refine hput.mono ?_; rintro e w5 ⟨v5, rfl, hs5, hb5⟩))
    have hdr := below_drew (Below.refl w5.heap.size w5)
    have hst1 : (convert 22 9 v5).run Try.prog w5.drew = .ok (.string (strOf F)) w5.drew := seg_string (hs5.below hdr)
    have hst2 : (convert 22 9 (.slice (some ⟨b, off, none⟩) (q + n + 4) cap)).run Try.prog w5.drew = .ok (.string (strOf T)) w5.drew := seg_string ((hS3.below hb5).below hdr)
    have hbd := hb5.trans (hdr.mono hb5.size)
    have heq := strOf_beq F T hof ho3
    have hcp : (q : Int) + n + 4 ≤ cap := by omega
    have hcp2 : q + n + 4 ≤ cap := by omega
    have hc0 : ¬ cap = 0 := by omega
    clear hs5
    by_cases ht : F = T
    · rw [if_pos ht] at hgF
      have HGF : Hid (Pl.getF l = (pl, q + n + 4, 0)) := hgF
      rw [show (F == T) = true by simp [ht]] at heq
      clear hgF ht
      go_region
      all_goals
        go_wp2_with (go_at_call 51; refine (copied_any _ pl _ (hS2.below hbd) (by omega)).mono ?_; rintro e w6 ⟨v6, rfl, hown6, hb6⟩)
        go_ret3
        exact gets_some HGF.out (by omega) (ownsRow_lower hown6 hbd.size) (hbd.trans (hb6.mono hbd.size))
    · rw [if_neg ht] at hgF
      have HGF : Hid (Pl.getF l = ([], 0, 21)) := hgF
      rw [show (F == T) = false by simp [ht]] at heq
      clear hgF ht
      go_region
      all_goals
        go_wp2
        go_ret3
        exact gets_none' HGF.out hbd

/-- Get, of any octets. -/
theorem rget3_any (v : Value) (l : List Int) (w : World) (hs : Seg .u8 w v l) (ho : Pl.Octs l) : Calls Try.prog 61 #[v] w fun e w' => GetsF w l e w' := by
  obtain ⟨n, q, er, hg⟩ : ∃ n q er, Pl.getI l 0 = (n, q, er) := ⟨_, _, _, rfl⟩
  by_cases he : er = 0
  · subst he
    obtain ⟨_, g1, g2, g3, _⟩ := Pl.getI_ok l 0 n q ho hg
    by_cases hn : n = 0 ∨ 4096 < n
    · exact rget3_early v l n q 0 w hs ho hg (.inr hn) g1 g2
    · obtain ⟨n', rfl⟩ := Int.eq_ofNat_of_zero_le g1
      obtain ⟨q', rfl⟩ := Int.eq_ofNat_of_zero_le (show 0 ≤ q by omega)
      exact rget3_late v l n' q' w hs ho hg (by omega) (by omega)
  · have hn : n = 0 := by
      rcases Pl.getI_err l 0 with h | h | h | h
      · rw [hg] at h
        exact absurd h he
      · rw [hg] at h
        simp only [Prod.mk.injEq] at h
        exact h.1
      · rw [hg] at h
        simp only [Prod.mk.injEq] at h
        exact h.1
      · rw [hg] at h
        simp only [Prod.mk.injEq] at h
        exact h.1
    exact rget3_early v l n q er w hs ho hg (.inl he) (by omega) (by omega)
theorem rget3_is (v : Value) (l p : List Int) (k : Nat) (er : Int) (w : World) (hs : Seg .u8 w v l) (ho : Pl.Octs l) (hF : Pl.getF l = (p, k, er)) :
    Calls Try.prog 61 #[v] w fun e w' => ∃ v', e = .returned (.tuple #[v', .int .i64 (k : Nat), .int .i64 er]) ∧ w'.ownsRow w.heap.size 5 1 v' p.length (u8s p) ∧ Below w.heap.size w w' := by
  refine (rget3_any v l w hs ho).mono ?_
  rintro e w' ⟨v', rfl, h1, h2⟩
  rw [hF] at h1 ⊢
  exact ⟨v', rfl, h1, h2⟩
end Go.Proofs.Ytoadcaennlfadaa
