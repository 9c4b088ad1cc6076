/- frame: Put, of one payload. -/
import Derived.Test.YtoadcaennlfadaaFB
import Derived.Test.YtoadcaennlfadaaPart
namespace Go.Proofs.Ytoadcaennlfadaa
open Go.RowKit
set_option maxRecDepth 20000

theorem Pl.errP_good {p : List Int} (h1 : 1 ≤ p.length) (h2 : p.length ≤ 4096) : Pl.errP p = 0 := by unfold Pl.errP; rw [if_neg (by omega), if_neg (by omega)]

set_option maxHeartbeats 400000 in
theorem fput_bad (v u : Value) (p : List Int) (w : World) (b off cap : Nat) (hc : w.cell? ⟨b, off, none⟩ = some u) (hp : Seg .u8 w u p) (hbad : Pl.errP p ≠ 0) :
    Calls Try.prog 39 #[v, .slice (some ⟨b, off, none⟩) 1 cap] w fun e w' => e = .returned (.tuple #[.slice none 0 0, .int .i64 (Pl.errP p)]) ∧ w = w' := by
  have hm := mayGo_one w _ u p b off cap rfl hc hp
  generalize Pl.errP p = z at *
  have hb : (z == 0) = false := by simp; exact hbad
  go_enter Try.func39, Try.ntmps39
  go_wp2_with (go_at_call 56; refine hm.mono ?_; rintro e w1 ⟨rfl, rfl⟩)
  go_ret2
  exact ⟨rfl, rfl⟩

/-- One number as octets, as it is handed over. -/
theorem vput_one (n : Nat) (w : World) (k : Nat) (hk : w.heap.size = k) (hn : n ≤ 4096) :
    Calls Try.prog 48 #[.slice none 0 0, .slice (some ⟨k, 0, none⟩) 1 1] (w.alloc (.cells #[.int .u64 (n : Int)] 58)) fun e w' => ∃ v', e = .returned v' ∧ w'.ownsRow k 5 1 v' (Pl.enc 9 n).length (u8s (Pl.enc 9 n)) ∧ Below k w w' := by
  subst hk
  refine (put_any _ _ [] [(n : Int)] _ (Seg.nil _ _) (seg_one w n) (by intro z hz; simp at hz; omega) (by simp)).mono ?_
  rintro e w' ⟨v', rfl, ho, hb⟩
  have he : [] ++ encs [(n : Int)] = Pl.enc 9 n := by simp [encs]
  rw [he] at ho
  have hal := (Below.refl w.heap.size w).alloc (Nat.le_refl _) (.cells #[.int .u64 (n : Int)] 58)
  refine ⟨v', rfl, ownsRow_lower ho (by simp), hal.trans (hb.mono (by simp))⟩

/-- The sum's octets of two texts, as they are handed over. -/
theorem fsum_two {w : World} {v u : Value} {l m : List Int} (n : Nat) (hn : w.heap.size = n) (h : Seg .u8 w v l) (k : Seg .u8 w u m) (ho : Pl.Octs l) (hm : Pl.Octs m) :
    Calls Try.prog 58 #[.slice (some ⟨n, 0, none⟩) 2 2] (w.alloc (.cells #[v, u] 22)) fun e w' => ∃ v', e = .returned v' ∧ w'.ownsRow n 5 1 v' 4 (u8s (Pl.four (Pl.sumOf (l ++ m)))) ∧ Below n w w' := by
  subst hn
  have := fsum_any _ [l, m] _ (Segs.two 22 h k) (by intro z hz; simp at hz; rcases hz with rfl | rfl <;> assumption)
  rw [show [l, m].flatten = l ++ m by simp] at this
  refine this.mono ?_
  rintro e w' ⟨v', rfl, ho, hb⟩
  have hal := (Below.refl w.heap.size w).alloc (Nat.le_refl _) (.cells #[v, u] 22)
  exact ⟨v', rfl, ownsRow_lower ho (by simp), hal.trans (hb.mono (by simp))⟩

set_option maxHeartbeats 1000000 in
theorem fput_good (v u : Value) (l p : List Int) (w : World) (b off cap : Nat) (hs : Seg .u8 w v l) (hc : w.cell? ⟨b, off, none⟩ = some u) (hp : Seg .u8 w u p) (hf : Pl.fits p) (hlen : l.length + 4110 ≤ 140737488355328) :
    Calls Try.prog 39 #[v, .slice (some ⟨b, off, none⟩) 1 cap] w fun e w' => ∃ v', e = .returned (.tuple #[v', .int .i64 0]) ∧ Part w' 5 v' (u8s (l ++ Pl.frameOf p)) ∧ Since w.heap.size v' ∧ Below w.heap.size w w' := by
  obtain ⟨hf1, hf2, hoc⟩ := hf
  have hm := mayGo_one w _ u p b off cap rfl hc hp
  rw [Pl.errP_good hf1 hf2] at hm
  have hel := Pl.enc_len_le 9 p.length
  obtain ⟨ax, cx, hx, hx1, hx2, hx3, hx4⟩ := id hp
  subst hx
  clear hx3 hx4
  unfold maxLen at hx2
  go_enter Try.func39, Try.ntmps39
  go_wp2_with (first | (go_at_call 56; refine hm.mono ?_; rintro e w1 ⟨rfl, rfl⟩) | (go_at_call 57; refine (ffresh_any v l w hs (by omega)).mono ?_; rintro e w1 ⟨v1, rfl, hown1, hb1⟩))
  have hc1 := (hb1.cell (World.block_lt_of_cell? w _ hc)).trans hc
  have hp1 := hp.below hb1
  refine wp_loop_rounds 2 ?_
  rw [rounds_succ]
  go_wp2_with fail
  refine (vput_one p.length w1 _ rfl hf2).mono ?_
  rintro e w2 ⟨v2, rfl, hown2, hb2⟩
  have hs2 := Seg.own hown2
  have hP2 := (Part.own hown1).below (hb2.mono (Nat.le_refl _))
  have hsi1 := Since.own hown1
  have ha2 : Apart v2 v1 := (Since.own hown2).apart (Part.own hown1)
  have hl2 := Till.own hown2
  have hsz1 := hb1.size
  have hsz2 := hb2.size
  have hb02 := hb1.trans (hb2.mono hsz1)
  clear hown1 hb2 hown2 hc1 hp1 hm hs hb1
  obtain ⟨a2, cp2, hv2, _, _, _, _⟩ := id hs2
  generalize hen : (Pl.enc 9 p.length).length = n2 at hv2
  subst hv2
  go_wp2_with (first
    | (at_builtin; refine wpList_append_oct _ rfl (.tmp 29) (.tmp 30) rfl v1 _ l (Pl.enc 9 p.length) rfl rfl hP2 hs2 (by omega) ?_; intro v3 w3 hP3 hg3 hm3; have hb3 := below_by hb02 hg3 hb02.size hsi1; have hsi3 := hm3.since hsi1 hb02.size; have hs3 := hs2.spared hg3 ha2.ne; have ha3 := hm3.apart ha2 hl2; have hp3 := hp.below hb3; have hl3 := hg3.size)
    | (at_builtin; refine wpList_append_oct _ rfl (.tmp 32) (.tmp 33) rfl v3 _ (l ++ Pl.enc 9 p.length) p rfl rfl hP3 hp3 (by simp only [List.length_append]; omega) ?_; intro v4 w4 hP4 hg4 hm4; have hb4 := below_by hb3 hg4 hb3.size hsi3; have hsi4 := hm4.since hsi3 hb3.size; have hs4 := hs3.spared hg4 ha3.ne; have hp4 := hp.below hb4))
  refine (fsum_two w4.heap.size rfl hs4 hp4 (Pl.enc_oct 9 _ (by omega) (by rw [Pl.lim9]; omega)) hoc).mono ?_
  rintro e w5 ⟨v5, rfl, hown5, hb5⟩
  have hP5 := hP4.below hb5
  have hs5 := Seg.own (l := Pl.four (Pl.sumOf (Pl.enc 9 p.length ++ p))) hown5
  have hb05 := hb4.trans (hb5.mono hb4.size)
  have hfr : l ++ Pl.enc 9 p.length ++ p ++ Pl.four (Pl.sumOf (Pl.enc 9 p.length ++ p)) = l ++ Pl.frameOf p := by simp [Pl.frameOf, Pl.bodyOf]
  clear hP4 hs4 hp4 hb5 hown5 hg4 hm4 hb4 hs3 hp3 hg3 hm3 hb3 hs2 hP2 hl2 ha2 ha3 hP3 hl3
  go_wp2_with (at_builtin; refine wpList_append_oct _ rfl (.tmp 35) (.tmp 39) rfl v4 v5 (l ++ Pl.enc 9 p.length ++ p) (Pl.four (Pl.sumOf (Pl.enc 9 p.length ++ p))) rfl rfl hP5 hs5 (by simp only [List.length_append, Pl.four_len]; omega) ?_; intro v6 w6 hP6 hg6 hm6; have hb6 := below_by hb05 hg6 hb05.size hsi4; have hsi6 := hm6.since hsi4 hb05.size; rw [hfr] at hP6)
  rw [rounds_succ]
  go_wp2
  go_ret2
  exact ⟨_, rfl, hP6, hsi6, hb6⟩
end Go.Proofs.Ytoadcaennlfadaa
