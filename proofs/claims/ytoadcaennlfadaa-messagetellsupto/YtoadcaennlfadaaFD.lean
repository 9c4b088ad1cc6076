/- frame: Get. -/
import Derived.Test.YtoadcaennlfadaaGF
import Derived.Deep.RegionWith
import Derived.BigRegion
import Derived.BigQuiet
import Derived.Deep.QuietTactic
namespace Go.Proofs.Ytoadcaennlfadaa
open Go.RowKit
set_option maxRecDepth 20000

theorem Pl.getF_test (b : List Int) (n q : Nat) (ho : Pl.Octs b) (hg : Pl.getI b 0 = ((n : Int), (q : Int), 0)) (hl : q + n + 4 ≤ b.length) :
    Pl.frameOf ((b.drop q).take n) = b.take (q + n + 4) ↔ (b.drop (q + n)).take 4 = Pl.four (Pl.sumOf (b.take q ++ (b.drop q).take n)) := by
  obtain ⟨_, g1, g2, g3, g4, r, g5, g6⟩ := Pl.getI_ok b 0 n q ho hg
  have hpl : ((b.drop q).take n).length = n := by rw [List.length_take, List.length_drop]; omega
  have he : b.take q = Pl.enc 9 n := by
    have hq : q = (Pl.enc 9 n).length := by omega
    simp only [Int.toNat_zero, List.drop_zero] at g5
    rw [g5, hq, List.take_left]
  have hb : Pl.bodyOf ((b.drop q).take n) = b.take (q + n) := by
    unfold Pl.bodyOf
    rw [hpl, ← he, ← List.take_add]
  unfold Pl.frameOf
  rw [hb, ← List.take_add, List.take_add (i := q + n) (j := 4), List.append_cancel_left_eq]
  exact ⟨fun h => h.symm, fun h => h.symm⟩

set_option maxHeartbeats 400000 in
theorem equal_any (v u : Value) (l m : List Int) (w : World) (hv : Seg .u8 w v l) (hu : Seg .u8 w u m) (hl : ∀ z ∈ l, 0 ≤ z ∧ z ≤ 255) (hm : ∀ z ∈ m, 0 ≤ z ∧ z ≤ 255) :
    Calls Try.prog 71 #[v, u] w fun e w' => e = .returned (.bool (l == m)) ∧ w = w' := by
  have h1 := seg_string hv
  have h2 := seg_string hu
  go_enter Try.func71, Try.ntmps71
  go_wp2
  go_ret
  exact ⟨ret_bool (strOf_beq l m hl hm), rfl⟩

/-- What Get hands back. -/
def GetsF (w : World) (l : List Int) (e : Ending) (w' : World) : Prop :=
  ∃ v', e = .returned (.tuple #[v', .int .i64 ((Pl.getF l).2.1 : Nat), .int .i64 (Pl.getF l).2.2]) ∧ w'.ownsRow w.heap.size 5 1 v' (Pl.getF l).1.length (u8s (Pl.getF l).1) ∧ Below w.heap.size w w'

theorem gets_none {w : World} {l : List Int} {er : Int} (h : Pl.getF l = ([], 0, er)) : GetsF w l (.returned (.tuple #[.slice none 0 0, .int .i64 0, .int .i64 er])) w := by
  unfold GetsF
  rw [h]
  exact ⟨_, rfl, World.ownsRow_nil _ _ _ _, Below.refl _ _⟩

set_option maxHeartbeats 1000000 in
theorem fget_early (v : Value) (l : List Int) (n q er : Int) (w : World) (hs : Seg .u8 w v l) (ho : Pl.Octs l) (hg : Pl.getI l 0 = (n, q, er)) (hbad : er ≠ 0 ∨ n = 0 ∨ 4096 < n) (hn0 : 0 ≤ n) (hn1 : n ≤ 18446744073709551615) :
    Calls Try.prog 60 #[v] w fun e w' => GetsF w l e w' := by
  have hget := get_is v l 0 n q er w hs ho hg (by omega) (by omega)
  by_cases h8 : er = 8
  · subst h8
    have HN := gets_none (w := w) (l := l) (er := 71) (by unfold Pl.getF; rw [hg]; rfl)
    clear hbad
    go_enter Try.func60, Try.ntmps60
    go_wp2_with (go_at_call 67; refine hget.mono ?_; rintro e w1 ⟨rfl, rfl⟩)
    go_ret3
    exact HN
  · have hb8 : (er == 8) = false := by simp; exact h8
    by_cases h0 : er = 0
    · subst h0
      by_cases hz : n = 0
      · subst hz
        have HN := gets_none (w := w) (l := l) (er := 8) (by unfold Pl.getF; rw [hg]; rfl)
        clear hbad
        go_enter Try.func60, Try.ntmps60
        go_wp2_with (go_at_call 67; refine hget.mono ?_; rintro e w1 ⟨rfl, rfl⟩)
        go_ret3
        exact HN
      · have hbz : (n == 0) = false := by simp; exact hz
        have hgt : 4096 < n := by
          rcases hbad with h | h | h
          · exact absurd rfl h
          · exact absurd h hz
          · exact h
        have HN := gets_none (w := w) (l := l) (er := 5) (by unfold Pl.getF; rw [hg]; simp only; rw [if_neg (by decide), if_neg (by simp), if_neg hz, if_pos hgt])
        clear hbad
        go_enter Try.func60, Try.ntmps60
        go_wp2_with (go_at_call 67; refine hget.mono ?_; rintro e w1 ⟨rfl, rfl⟩)
        go_ret3
        exact HN
    · have hb0 : (er == 0) = false := by simp; exact h0
      have HN := gets_none (w := w) (l := l) (er := er) (by unfold Pl.getF; rw [hg]; simp only; rw [if_neg h8, if_pos h0])
      clear hbad
      go_enter Try.func60, Try.ntmps60
      go_wp2_with (go_at_call 67; refine hget.mono ?_; rintro e w1 ⟨rfl, rfl⟩)
      go_ret3
      exact HN

theorem gets_none' {w w' : World} {l : List Int} {er : Int} (h : Pl.getF l = ([], 0, er)) (hb : Below w.heap.size w w') : GetsF w l (.returned (.tuple #[.slice none 0 0, .int .i64 0, .int .i64 er])) w' := by
  unfold GetsF
  rw [h]
  exact ⟨_, rfl, World.ownsRow_nil _ _ _ _, hb⟩
theorem gets_some {w w' : World} {l p : List Int} {k : Nat} {z : Int} {v : Value} (h : Pl.getF l = (p, k, 0)) (hz : z = k) (ho : w'.ownsRow w.heap.size 5 1 v p.length (u8s p)) (hb : Below w.heap.size w w') : GetsF w l (.returned (.tuple #[v, .int .i64 z, .int .i64 0])) w' := by
  subst hz
  unfold GetsF
  rw [h]
  exact ⟨_, rfl, ho, hb⟩
theorem below_drewN {B : Nat} {a w : World} (h : Below B a w) (n : Nat) : Below B a (w.drewN n) := h.trans ⟨rfl, rfl, rfl, Nat.le_refl _, fun _ _ => rfl⟩

set_option maxHeartbeats 1000000 in
theorem fget_late (v : Value) (l : List Int) (n q : Nat) (w : World) (hs : Seg .u8 w v l) (ho : Pl.Octs l) (hg : Pl.getI l 0 = ((n : Int), (q : Int), 0)) (hn0 : 1 ≤ n) (hn1 : n ≤ 4096) :
    Calls Try.prog 60 #[v] w fun e w' => GetsF w l e w' := by
  have hget := get_is v l 0 n q 0 w hs ho hg (by omega) (by omega)
  obtain ⟨_, _, _, g3, g4, r5, g5, g6⟩ := Pl.getI_ok l 0 n q ho hg
  have hq10 : q ≤ 10 := by have := Pl.enc_len_le 9 n; omega
  clear g5 g6 r5
  have hbz : ((n : Int) == 0) = false := by simp; omega
  obtain ⟨a, cap, rfl, h1, h2, h3, h4⟩ := id hs
  unfold maxLen at h2
  by_cases hsh : l.length < q + n + 4
  · have HN := gets_none (w := w) (l := l) (er := 71) (by
      unfold Pl.getF; rw [hg]; simp only
      rw [if_neg (by decide), if_neg (by simp), if_neg (by omega), if_neg (by omega), if_pos (by omega)])
    clear h3 h4
    go_enter Try.func60, Try.ntmps60
    go_wp2_with (go_at_call 67; refine hget.mono ?_; rintro e w1 ⟨rfl, rfl⟩)
    go_ret3
    exact HN
  · obtain ⟨b, off, rfl, hb, hc⟩ := seg_at (by omega) h3 h4
    have htest := Pl.getF_test l n q ho hg (by omega)
    have hS1 : Seg .u8 w (.slice (some ⟨b, off, none⟩) q cap) (l.take q) := by
      have := seg_part (w := w) (b := b) (off := off) (cap := cap) (l := l) 0 q (by omega) h1 (by unfold maxLen; omega) hc
      simpa using this
    have hS2 : Seg .u8 w (.slice (some ⟨b, off + q, none⟩) n (cap - q)) ((l.drop q).take n) := seg_part q n (by omega) h1 (by unfold maxLen; omega) hc
    have hS3 : Seg .u8 w (.slice (some ⟨b, off + (q + n), none⟩) 4 (cap - (q + n))) ((l.drop (q + n)).take 4) := seg_part (q + n) 4 (by omega) h1 (by unfold maxLen; omega) hc
    have ho1 : Pl.Octs (l.take q) := fun z hz => ho z (List.mem_of_mem_take hz)
    have ho2 : Pl.Octs ((l.drop q).take n) := fun z hz => ho z (List.mem_of_mem_drop (List.mem_of_mem_take hz))
    have ho3 : Pl.Octs ((l.drop (q + n)).take 4) := fun z hz => ho z (List.mem_of_mem_drop (List.mem_of_mem_take hz))
    have hq1 : ¬ cap = q := by omega
    have hq2 : ¬ cap = q + n := by omega
    have HS : ∀ k, Calls Try.prog 58 #[.slice (some ⟨w.heap.size, 0, none⟩) 2 2] ((w.drewN k).alloc (.cells #[.slice (some ⟨b, off, none⟩) q cap, .slice (some ⟨b, off + q, none⟩) n (cap - q)] 22)) fun e w' => ∃ v', e = .returned v' ∧ w'.ownsRow w.heap.size 5 1 v' 4 (u8s (Pl.four (Pl.sumOf (l.take q ++ (l.drop q).take n)))) ∧ Below w.heap.size w w' := by
      intro k
      refine (fsum_two (w := w.drewN k) w.heap.size rfl (hS1.below (below_drewN (Below.refl _ _) k)) (hS2.below (below_drewN (Below.refl _ _) k)) ho1 ho2).mono ?_
      rintro e w' ⟨v', rfl, h1, h2⟩
      exact ⟨v', rfl, h1, (below_drewN (Below.refl _ _) k).trans h2⟩
    have hoS := Pl.octs_four (Pl.sumOf (l.take q ++ (l.drop q).take n))
    have hgF : Pl.getF l = if Pl.frameOf ((l.drop q).take n) = l.take (q + n + 4) then ((l.drop q).take n, q + n + 4, 0) else ([], 0, 21) := by
      unfold Pl.getF
      rw [hg]
      simp only
      rw [if_neg (by decide), if_neg (by simp), if_neg (by omega), if_neg (by omega), if_neg (by omega)]
      simp only [Int.toNat_natCast]
    have hpl : ((l.drop q).take n).length = n := by rw [List.length_take, List.length_drop]; omega
    clear h3 h4 hc
    generalize Pl.four (Pl.sumOf (l.take q ++ (l.drop q).take n)) = S4 at *
    have hS4 : S4.length = 4 ∨ True := .inr trivial
    generalize (l.drop (q + n)).take 4 = T4 at *
    generalize (l.drop q).take n = pl at *
    by_cases ht : T4 = S4
    · rw [if_pos (htest.2 ht)] at hgF
      have HGF : Hid (Pl.getF l = (pl, q + n + 4, 0)) := hgF
      have hbq : (T4 == S4) = true := by rw [ht]; simp
      clear hgF htest ht hS4 hS1
      go_enter Try.func60, Try.ntmps60
      go_wp2_with (go_at_call 67; refine hget.mono ?_; rintro e w1 ⟨rfl, rfl⟩)
      go_quiet (fail)
      go_wp2
      go_region_with (first | (go_at_call 58; refine (HS _).mono ?_; rintro e w3 ⟨v3, rfl, hown3, hb3⟩) | (go_at_call 71; refine (equal_any _ _ T4 S4 w3 (hS3.below hb3) (Part.seg (Part.own hown3)) ho3 hoS).mono ?_; rintro e w4 ⟨rfl, rfl⟩; rw [hbq]))
      all_goals
        go_wp2_with (go_at_call 57; refine (ffresh_any _ pl w3 (hS2.below hb3) (by omega)).mono ?_; rintro e w5 ⟨v5, rfl, hown5, hb5⟩)
        go_ret3
        exact gets_some HGF.out (by omega) (ownsRow_lower hown5 hb3.size) (hb3.trans (hb5.mono hb3.size))
    · rw [if_neg (fun h => ht (htest.1 h))] at hgF
      have HGF : Hid (Pl.getF l = ([], 0, 21)) := hgF
      have hbq : (T4 == S4) = false := by rw [beq_eq_false_iff_ne]; exact ht
      clear hgF htest ht hS4 hS1
      go_enter Try.func60, Try.ntmps60
      go_wp2_with (go_at_call 67; refine hget.mono ?_; rintro e w1 ⟨rfl, rfl⟩)
      go_quiet (fail)
      go_wp2
      go_region_with (first | (go_at_call 58; refine (HS _).mono ?_; rintro e w3 ⟨v3, rfl, hown3, hb3⟩) | (go_at_call 71; refine (equal_any _ _ T4 S4 w3 (hS3.below hb3) (Part.seg (Part.own hown3)) ho3 hoS).mono ?_; rintro e w4 ⟨rfl, rfl⟩; rw [hbq]))
      all_goals
        go_wp2
        go_ret3
        exact gets_none' HGF.out hb3

/-- Get, of any octets. -/
theorem fget_any (v : Value) (l : List Int) (w : World) (hs : Seg .u8 w v l) (ho : Pl.Octs l) : Calls Try.prog 60 #[v] w fun e w' => GetsF w l e w' := by
  obtain ⟨n, q, er, hg⟩ : ∃ n q er, Pl.getI l 0 = (n, q, er) := ⟨_, _, _, rfl⟩
  by_cases he : er = 0
  · subst he
    obtain ⟨_, g1, g2, g3, _⟩ := Pl.getI_ok l 0 n q ho hg
    by_cases hn : n = 0 ∨ 4096 < n
    · exact fget_early v l n q 0 w hs ho hg (.inr hn) g1 g2
    · obtain ⟨n', rfl⟩ := Int.eq_ofNat_of_zero_le g1
      obtain ⟨q', rfl⟩ := Int.eq_ofNat_of_zero_le (show 0 ≤ q by omega)
      exact fget_late v l n' q' w hs ho hg (by omega) (by omega)
  · have hn : n = 0 := by
      rcases Pl.getI_err l 0 with h | h | h | h
      · rw [hg] at h
        exact absurd h he
      · rw [hg] at h
        simp only [Prod.mk.injEq] at h
        exact h.1
      · rw [hg] at h
        simp only [Prod.mk.injEq] at h
        exact h.1
      · rw [hg] at h
        simp only [Prod.mk.injEq] at h
        exact h.1
    exact fget_early v l n q er w hs ho hg (.inl he) (by omega) (by omega)
end Go.Proofs.Ytoadcaennlfadaa
