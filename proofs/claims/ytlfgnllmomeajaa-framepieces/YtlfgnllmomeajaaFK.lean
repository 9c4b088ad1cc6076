/- frame: a piece fed to a buffer on its way. -/
import Derived.Test.YtlfgnllmomeajaaFJ
import Derived.Handy
namespace Go.Proofs.Ytlfgnllmomeajaa
open Go.RowKit

theorem Pays.reads {Q : Nat → Prop} {w : World} {v : Value} {ls : List (List Int)} (h : Pays Q w v ls) : ∃ ys, Reads w v ys ∧ Elems Q w ys ls := by
  obtain ⟨vs, h1, _, h3⟩ := h
  exact ⟨vs, h1.reads, h3.mono fun k hk => hk.1⟩

set_option maxHeartbeats 1000000 in
set_option maxRecDepth 4000 in
theorem feed_lost (B n : Nat) (w : World) (held : List Int) (pays : List (List Int)) (fault : Int) (u : Value) (piece : List Int) (hW : Way B n w held true pays fault) (hs : Seg .u8 w u piece) :
    Calls Try.prog 38 #[.pointer (some ⟨n, 0, none⟩), u] w fun e w' => e = .returned (.tuple #[]) ∧ Way B n w' held true pays (if fault = 0 ∧ 0 < piece.length then 21 else fault) ∧ Below B w w' := by
  have hmiss := miss_any B n w held true pays fault u piece hW hs
  generalize (if fault = 0 ∧ 0 < piece.length then 21 else fault) = f2 at hmiss ⊢
  obtain ⟨hv, pv, hbx, hP, hsi, hne, hBn, hpay⟩ := hW
  obtain ⟨c0, c1, c2, c3, hfz, hlt⟩ := box_facts hbx
  clear hfz
  go_enter Try.func38, Try.ntmps38
  go_wp2_with (go_at_call 45; refine hmiss.mono ?_; rintro e w2 ⟨rfl, hW2, hb2⟩)
  go_returns
  exact ⟨rfl, hW2, hb2⟩

set_option maxHeartbeats 2000000 in
set_option maxRecDepth 4000 in
theorem feed_on (B n : Nat) (w : World) (held : List Int) (pays : List (List Int)) (fault : Int) (u : Value) (piece : List Int) (hW : Way B n w held false pays fault) (hs : Seg .u8 w u piece) (ho : Pl.Octs (held ++ piece)) (hlen : (held ++ piece).length ≤ 1000000000000) (hpl : pays.length ≤ 1000000000000) (l : List (List Int)) (k : Nat) (er : Int) (hF : Pl.scanF (held ++ piece) = (l, k, er)) :
    Calls Try.prog 38 #[.pointer (some ⟨n, 0, none⟩), u] w fun e w' => e = .returned (.tuple #[]) ∧ (if er = 0 then Way B n w' ((held ++ piece).drop k) false (pays ++ l) fault else Way B n w' [] true (pays ++ l) er) ∧ Below B w w' := by
  have hhold := hold_any B n w held false pays fault u piece hW hs (by rw [List.length_append] at hlen; omega)
  obtain ⟨hfk, hfl, _⟩ := Pl.scanF_fits (held ++ piece) ho
  rw [hF] at hfk hfl
  simp only at hfk hfl
  obtain ⟨hv, pv, hbx, hP, hsi, hne, hBn, hpay⟩ := hW
  obtain ⟨c0, c1, c2, c3, hfz, hlt⟩ := box_facts hbx
  clear hfz hbx hP hsi hne hpay c0 c2 c3
  go_enter Try.func38, Try.ntmps38
  go_wp2_with fail
  refine hhold.mono ?_
  rintro e w2 ⟨rfl, hW2, hb2⟩
  obtain ⟨hv2, pv2, hbx2, hP2, hsi2, hne2, _, hpay2⟩ := hW2
  obtain ⟨d0, d1, d2, d3, hfz2, hlt2⟩ := box_facts hbx2
  clear hfz2
  go_wp2_with fail
  refine (fscan_any hv2 (held ++ piece) w2 hP2.seg ho (by omega)).mono ?_
  rintro e w3 ⟨lv, rfl, hL, hb3⟩
  rw [hF] at hL ⊢
  have hbx3 := (hb3.block n hlt2).trans hbx2
  obtain ⟨e0, e1, e2, e3, hfz3, hlt3⟩ := box_facts hbx3
  have hf32 := hfz3 2
  obtain ⟨ys, hR, hE⟩ := hL.reads
  have hpay3 := hpay2.below hb3
  have hQ : ∀ j, (Span B w2 j ∧ j ≠ n ∧ hv2.ownBlock ≠ some j) → j < w3.heap.size := fun j hj => Nat.lt_of_lt_of_le hj.1.2 hb3.size
  have hRR : ∀ j, Span w2.heap.size w3 j → j < w3.heap.size ∧ pv2.ownBlock ≠ some j := fun j hj => ⟨hj.2, hpay2.apart fun hq => by have h1 := hj.1; have h2 := hq.1.2; omega⟩
  clear hfz3 d0 d1 d2 d3
  go_wp2_with (at_builtin; refine wpList_append_pays _ rfl (.tmp 34) (.tmp 35) rfl _ _ pv2 lv pays l ys rfl rfl hpay3 hR hE hQ hRR (by omega) ?_; intro v4 w4 hP4 hg4 hm4; have hbx4 := (hg4.block n hlt3 (fun e => (hpay2.apart fun hq => hq.2.1 rfl) e.symm)).trans hbx3; obtain ⟨f0, f1, f2, f3, hfz4, hlt4⟩ := box_facts hbx4; have hf42 := hfz4 2; clear hfz4; obtain ⟨a4, c4, hv4⟩ := hP4.shape; generalize hnl : (pays ++ l).length = nl at hv4; subst hv4)
  have hsz3 := hb3.size
  have hsz4 := hg4.size
  have hsz2 := hb2.size
  have hpB : Since B pv2 := fun j hj => by
    by_cases h : B ≤ j
    · exact h
    · exact absurd hj (hpay2.apart fun hq => h hq.1.1)
  have hb4 : Below B w w4 := (hb2.trans (hb3.mono (by omega))).grown hg4 (by omega) hpB
  have hgs := grown_set w4 n 2 (.slice a4 nl c4)
  have hvne : hv2.ownBlock = none ∨ hv2.ownBlock ≠ pv2.ownBlock := by
    cases hh : hv2.ownBlock with
    | none => exact .inl rfl
    | some j => exact .inr fun he => (hpay2.apart fun hq => hq.2.2 hh) he.symm
  have hW5 : Way B n (w4.setCell ⟨n, 2, none⟩ (.slice a4 nl c4)) (held ++ piece) false (pays ++ l) fault := by
    refine ⟨hv2, _, heap_setCell_same w4 n 2 _ 75 _ hbx4, ((hP2.below hb3).kept hg4 hvne).kept hgs (.inr hne2), hsi2, hne2, hBn, ?_⟩
    have hnoQ : ¬ ((fun k => (Span B w2 k ∧ k ≠ n ∧ hv2.ownBlock ≠ some k) ∨ Span w2.heap.size w3 k ∨ w3.heap.size ≤ k ∧ k < w4.heap.size) n) := by
      rintro (h | h | h)
      · exact h.2.1 rfl
      · have := h.1; omega
      · omega
    refine (hP4.kept hgs fun j hj he => ?_).mono fun j hj => ?_
    · cases he
      exact hnoQ hj
    · have hl2 := hP2.lt
      rcases hj with h | h | h
      · exact ⟨⟨h.1.1, by have := h.1.2; simp; omega⟩, h.2⟩
      · refine ⟨⟨by have := h.1; omega, by have := h.2; simp; omega⟩, fun e => by have := h.1; omega, fun e => ?_⟩
        have := hl2 j e
        have := h.1
        omega
      · refine ⟨⟨by omega, by simp; omega⟩, fun e => by omega, fun e => ?_⟩
        have := hl2 j e
        omega
  have hb5 : Below B w (w4.setCell ⟨n, 2, none⟩ (.slice a4 nl c4)) := hb4.setCell hBn _
  generalize w4.setCell ⟨n, 2, none⟩ (.slice a4 nl c4) = w5 at *
  clear hgs hP4 hg4 hm4 hbx4 f0 f1 f2 f3 hf42 hlt4 hpay3 hpay2 hE hR hL hQ hRR hbx3 e0 e1 e2 e3 hf32 hlt3
  refine (release_any B n w5 _ _ _ _ k hW5 hfk).mono ?_
  rintro e w6 ⟨rfl, hW6, hb6⟩
  have hb06 := hb5.trans hb6
  by_cases her : er = 0
  · subst her
    go_wp2_with fail
    go_end0
    exact ⟨rfl, hW6, hb06⟩
  · have hbe : (er == 0) = false := by simp; exact her
    go_wp2_with fail
    refine (lose_any B n w6 _ _ _ _ hW6).mono ?_
    rintro e w7 ⟨rfl, hW7, hb7⟩
    obtain ⟨hv7, pv7, hbx7, hP7, hsi7, hne7, _, hpay7⟩ := hW7
    obtain ⟨g0, g1, g2, g3, hfz7, hlt7⟩ := box_facts hbx7
    have hf73 := hfz7 3
    clear hfz7
    go_wp2_with fail
    go_end0
    have hgs := grown_set w7 n 3 (.int .i64 er)
    refine ⟨rfl, ⟨_, pv7, heap_setCell_same w7 n 3 _ 75 _ hbx7, hP7.kept hgs (.inr hne7), hsi7, hne7, hBn, ?_⟩, (hb06.trans hb7).setCell hBn _⟩
    exact (hpay7.kept hgs fun k hk he => hk.2.1 (by cases he; rfl)).mono fun k hk => ⟨hk.1.grow (by simp), hk.2⟩
end Go.Proofs.Ytlfgnllmomeajaa
