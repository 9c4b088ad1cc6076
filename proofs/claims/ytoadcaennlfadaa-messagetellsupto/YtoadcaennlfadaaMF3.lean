/- frame: Put of many payloads. -/
import Derived.Test.YtoadcaennlfadaaMF2
namespace Go.Proofs.Ytoadcaennlfadaa
open Go.RowKit
set_option maxRecDepth 20000

/-- The k-th text of a list of texts. -/
theorem Pays.elem {Q : Nat → Prop} {w : World} {v : Value} {ls : List (List Int)} (h : Pays Q w v ls) (hl : 0 < ls.length) : ∃ g off cap, v = .slice (some ⟨g, off, none⟩) ls.length cap ∧ ls.length ≤ cap ∧ cap ≤ maxLen ∧ g < w.heap.size ∧ ∀ k p, ls[k]? = some p → ∃ y, w.cell? ⟨g, off + k, none⟩ = some y ∧ Seg .u8 w y p := by
  obtain ⟨vs, h1, h2, h3, h4⟩ := h
  obtain ⟨g, off, cap, hv, hc1, hc2⟩ := h1.at (by omega)
  rw [h3] at hv hc1
  subst hv
  refine ⟨g, off, cap, rfl, hc1, hc2, h1.lt g (by simp [Value.ownBlock]), fun k p hp => ?_⟩
  have hk : k < ls.length := (List.getElem?_eq_some_iff.1 hp).1
  have hs := (h4 k hk).1
  refine ⟨vs.getD k (.bool false), h1.cells k _ (by simp [List.getD, h3, hk]), ?_⟩
  have : ls.getD k [] = p := by simp [List.getD, hp]
  rw [this] at hs
  exact hs

theorem Pays.dest {Q : Nat → Prop} {w : World} {v : Value} {ls : List (List Int)} (h : Pays Q w v ls) : ∃ a cap, v = .slice a ls.length cap ∧ cap ≤ maxLen := by
  obtain ⟨vs, h1, h2, h3, h4⟩ := h
  rcases id h1 with ⟨hv, hx⟩ | ⟨g, off, cap, cur, hv, _, _, hcm, _, _⟩
  · subst hx
    simp at h3
    exact ⟨none, 0, by rw [hv, ← h3], Nat.zero_le _⟩
  · exact ⟨_, cap, by rw [hv, h3], hcm⟩

set_option maxHeartbeats 2000000 in
theorem mayGo_many {Q : Nat → Prop} (w : World) (v : Value) (ls : List (List Int)) (hP : Pays Q w v ls) (hf : ∀ p ∈ ls, 1 ≤ p.length ∧ p.length ≤ 4096) :
    Calls Try.prog 56 #[v] w fun e w' => e = .returned (.int .i64 0) ∧ w = w' := by
  obtain ⟨a, cap, hv, hcm⟩ := hP.dest
  obtain ⟨N, hN⟩ : ∃ N, N = ls.length := ⟨_, rfl⟩
  have HN := hid hN
  rw [← hN] at hv
  unfold maxLen at hcm
  have hNc : (N : Int) ≤ 9223372036854775807 := by
    rcases Nat.eq_zero_or_pos N with h | h
    · omega
    · obtain ⟨_, _, c, hv', h1, h2, _⟩ := hP.elem (by omega)
      unfold maxLen at h2
      omega
  have hel : Hid (∀ k, k < N → ∃ g off, a = some ⟨g, off, none⟩ ∧ g < w.heap.size ∧ ∃ b n c, w.cell? ⟨g, off + k, none⟩ = some (.slice b n c) ∧ 1 ≤ n ∧ n ≤ 4096) := by
    intro k hk
    obtain ⟨g, off, c, hv', _, _, hg, he⟩ := hP.elem (by omega)
    rw [hv] at hv'
    simp only [Value.slice.injEq] at hv'
    obtain ⟨y, hy, hs⟩ := he k (ls[k]'(by omega)) (by simp)
    obtain ⟨b, c2, rfl, _⟩ := hs
    have := hf _ (List.getElem_mem (by omega : k < ls.length))
    exact ⟨g, off, hv'.1, hg, b, _, c2, hy, this⟩
  subst hv
  clear hP hf hN
  go_enter Try.func56, Try.ntmps56
  go_wp2_with fail
  go_loopw [9] (fun i wr => ∃ k : Nat, k ≤ N ∧ i = .int .i64 k ∧ w = wr) (fun i _ => N - (intOf i).toNat)
  case atStart => exact ⟨0, Nat.zero_le _, rfl, rfl⟩
  case round =>
    obtain ⟨k, hk, rfl, rfl⟩ := hrel
    by_cases hlt : k < N
    · obtain ⟨g, off, rfl, hg, b, n, c, hc, hn1, hn2⟩ := hel.out k hlt
      have hb0 : ((n : Int) == 0) = false := by simp; omega
      go_wp2
      go_roundw
      case rel => exact ⟨k + 1, by omega, by go_num, (by first | rfl | trivial)⟩
      case measure => simp [intOf]; omega
    · go_wp2_with fail
      go_loopw [19] (fun i wr => ∃ k : Nat, k ≤ N ∧ i = .int .i64 k ∧ w = wr) (fun i _ => N - (intOf i).toNat)
      case atStart => exact ⟨0, Nat.zero_le _, rfl, rfl⟩
      case round =>
        obtain ⟨k2, hk2, rfl, rfl⟩ := hrel
        by_cases hlt2 : k2 < N
        · obtain ⟨g, off, rfl, hg, b, n, c, hc, hn1, hn2⟩ := hel.out k2 hlt2
          go_wp2
          go_roundw
          case rel => exact ⟨k2 + 1, by omega, by go_num, (by first | rfl | trivial)⟩
          case measure => simp [intOf]; omega
        · go_wp2
          go_ret
          exact ⟨rfl, rfl⟩

theorem frames_take {ls : List (List Int)} {k : Nat} {p : List Int} (h : ls[k]? = some p) : Pl.framesOf (ls.take (k + 1)) = Pl.framesOf (ls.take k) ++ Pl.frameOf p := by
  rw [List.take_add_one, h]
  simp [Pl.framesOf]
theorem frames_take_le (ls : List (List Int)) (k : Nat) : (Pl.framesOf (ls.take k)).length ≤ (Pl.framesOf ls).length := by
  have h : Pl.framesOf (ls.take k ++ ls.drop k) = Pl.framesOf (ls.take k) ++ Pl.framesOf (ls.drop k) := by
    unfold Pl.framesOf
    first | exact List.flatMap_append | (rw [List.map_append, List.flatten_append])
  rw [List.take_append_drop] at h
  rw [h, List.length_append]
  omega

set_option maxHeartbeats 4000000 in
theorem fput_many {Q : Nat → Prop} (w : World) (u : Value) (ls : List (List Int)) (hP : Pays Q w u ls) (hf : ∀ p ∈ ls, Pl.fits p) (hlen : (Pl.framesOf ls).length ≤ 140737488350000) :
    Calls Try.prog 39 #[.slice none 0 0, u] w fun e w' => ∃ o, e = .returned (.tuple #[o, .int .i64 0]) ∧ Part w' 5 o (u8s (Pl.framesOf ls)) ∧ Since w.heap.size o ∧ Below w.heap.size w w' := by
  have hm := mayGo_many w u ls hP (fun p hp => ⟨(hf p hp).1, (hf p hp).2.1⟩)
  obtain ⟨a, cap, hv, hcm⟩ := hP.dest
  obtain ⟨N, hN⟩ : ∃ N, N = ls.length := ⟨_, rfl⟩
  have HN := hid hN
  rw [← hN] at hv
  unfold maxLen at hcm
  have hNc : (N : Int) ≤ 9223372036854775807 := by
    rcases Nat.eq_zero_or_pos N with h | h
    · omega
    · obtain ⟨_, _, c, hv', h1, h2, _⟩ := hP.elem (by omega)
      unfold maxLen at h2
      omega
  have hel : Hid (∀ k, k < N → ∃ g off, a = some ⟨g, off, none⟩ ∧ g < w.heap.size ∧ ∃ p y, ls[k]? = some p ∧ w.cell? ⟨g, off + k, none⟩ = some y ∧ Seg .u8 w y p ∧ Pl.fits p) := by
    intro k hk
    obtain ⟨g, off, c, hv', _, _, hg, he⟩ := hP.elem (by omega)
    rw [hv] at hv'
    simp only [Value.slice.injEq] at hv'
    obtain ⟨y, hy, hs⟩ := he k (ls[k]'(by omega)) (by simp)
    exact ⟨g, off, hv'.1, hg, _, y, by simp, hy, hs, hf _ (List.getElem_mem (by omega : k < ls.length))⟩
  subst hv
  have hfn : Pl.framesOf (ls.take 0) = [] := rfl
  have HFL := hid hlen
  clear hP hf hN hlen
  go_enter Try.func39, Try.ntmps39
  go_wp2_with (first | (go_at_call 56; refine hm.mono ?_; rintro e w1 ⟨rfl, rfl⟩) | (go_at_call 57; refine (ffresh_any (.slice none 0 0) [] w (Seg.nil _ _) (by simp)).mono ?_; rintro e w1 ⟨v1, rfl, hown1, hb1⟩))
  go_loopw [7, 20] (fun o i wr => ∃ k : Nat, k ≤ N ∧ i = .int .i64 k ∧ Hid (Part wr 5 o (u8s (Pl.framesOf (ls.take k)))) ∧ Since w.heap.size o ∧ Below w.heap.size w wr) (fun _ i _ => N - (intOf i).toNat)
  case atStart => exact ⟨0, Nat.zero_le _, rfl, by rw [hfn]; exact Part.own hown1, Since.own hown1, hb1⟩
  case round =>
    obtain ⟨k, hk, rfl, hPo, hsi1, hbel⟩ := hrel
    clear hown1 hb1 hm
    by_cases hlt : k < N
    · obtain ⟨g, off, rfl, hg, p, y, hp, hc0, hp0, hf1, hf2, hoc⟩ := hel.out k hlt
      have HT := hid (frames_take hp)
      have hle := frames_take_le ls k
      have hle2 := HFL.out
      have hc := (hbel.cell (p := ⟨g, off + k, none⟩) hg).trans hc0
      have hel9 := Pl.enc_len_le 9 p.length
      obtain ⟨ax, cx, hx, hx1, hx2, _, _⟩ := id hp0
      subst hx
      unfold maxLen at hx2
      have HP0 := hid hp0
      clear hc0 hp hel hp0
      generalize hL : Pl.framesOf (ls.take k) = l at *
      clear hL
      go_wp2_with fail
      refine (vput_one p.length wr _ rfl hf2).mono ?_
      rintro e w2 ⟨v2, rfl, hown2, hb2⟩
      have hs2 := Seg.own hown2
      have hP2 := hPo.out.below (hb2.mono (Nat.le_refl _))
      have ha2 : Apart v2 u7 := (Since.own hown2).apart hPo.out
      have hl2 := Till.own hown2
      have hsz1 := hbel.size
      have hsz2 := hb2.size
      have hb02 := hbel.trans (hb2.mono hsz1)
      clear hown2 hb2 hc hPo
      obtain ⟨a2, cp2, hv2, _, _, _, _⟩ := id hs2
      generalize hen : (Pl.enc 9 p.length).length = n2 at hv2
      subst hv2
      have hp := HP0.out
      go_wp2_with (first
        | (at_builtin; refine wpList_append_oct _ rfl (.tmp 29) (.tmp 30) rfl u7 _ l (Pl.enc 9 p.length) rfl rfl hP2 hs2 (by omega) ?_; intro v3 w3 hP3 hg3 hm3; have hb3 := below_by hb02 hg3 hb02.size hsi1; have hsi3 := hm3.since hsi1 hb02.size; have hs3 := hs2.spared hg3 ha2.ne; have ha3 := hm3.apart ha2 hl2; have hp3 := hp.below hb3; have hl3 := hg3.size)
        | (at_builtin; refine wpList_append_oct _ rfl (.tmp 32) (.tmp 33) rfl v3 _ (l ++ Pl.enc 9 p.length) p rfl rfl hP3 hp3 (by simp only [List.length_append]; omega) ?_; intro v4 w4 hP4 hg4 hm4; have hb4 := below_by hb3 hg4 hb3.size hsi3; have hsi4 := hm4.since hsi3 hb3.size; have hs4 := hs3.spared hg4 ha3.ne; have hp4 := hp.below hb4))
      refine (fsum_two w4.heap.size rfl hs4 hp4 (Pl.enc_oct 9 _ (by omega) (by rw [Pl.lim9]; omega)) hoc).mono ?_
      rintro e w5 ⟨v5, rfl, hown5, hb5⟩
      have hP5 := hP4.below hb5
      have hs5 := Seg.own (l := Pl.four (Pl.sumOf (Pl.enc 9 p.length ++ p))) hown5
      have hb05 := hb4.trans (hb5.mono hb4.size)
      have hfr : l ++ Pl.enc 9 p.length ++ p ++ Pl.four (Pl.sumOf (Pl.enc 9 p.length ++ p)) = l ++ Pl.frameOf p := by simp [Pl.frameOf, Pl.bodyOf]
      clear hP4 hs4 hp4 hb5 hown5 hg4 hm4 hb4 hs3 hp3 hg3 hm3 hb3 hs2 hP2 hl2 ha2 ha3 hP3 hl3 hp HP0
      go_wp2_with (at_builtin; refine wpList_append_oct _ rfl (.tmp 35) (.tmp 39) rfl v4 v5 (l ++ Pl.enc 9 p.length ++ p) (Pl.four (Pl.sumOf (Pl.enc 9 p.length ++ p))) rfl rfl hP5 hs5 (by simp only [List.length_append, Pl.four_len]; omega) ?_; intro v6 w6 hP6 hg6 hm6; have hb6 := below_by hb05 hg6 hb05.size hsi4; have hsi6 := hm6.since hsi4 hb05.size; rw [hfr, ← HT.out] at hP6; have HP6 := hid hP6; clear hP6)
      go_roundw
      case rel => exact ⟨k + 1, by omega, by go_num, HP6, hsi6, hb6⟩
      case measure => simp [intOf]; omega
    · have hke : ls.take k = ls := List.take_of_length_le (by have := HN.out; omega)
      rw [hke] at hPo
      clear hel hke
      go_wp2
      go_ret2
      exact ⟨_, rfl, hPo.out, hsi1, hbel⟩
end Go.Proofs.Ytoadcaennlfadaa
