/- frame: Feed of a buffer that may be. -/
import Derived.Test.YtlfgnllmomeajaaFL
namespace Go.Proofs.Ytlfgnllmomeajaa
open Go.RowKit

/-- A buffer on its way, fed with a piece: what it holds, whether it is lost, the payloads, the fault. -/
abbrev St := List Int × Bool × List (List Int) × Int
def Pl.fd (s : St) (p : List Int) : St :=
  if s.2.1 = true then (s.1, true, s.2.2.1, if s.2.2.2 = 0 ∧ 0 < p.length then 21 else s.2.2.2)
  else if (Pl.scanF (s.1 ++ p)).2.2 = 0 then ((s.1 ++ p).drop (Pl.scanF (s.1 ++ p)).2.1, false, s.2.2.1 ++ (Pl.scanF (s.1 ++ p)).1, s.2.2.2)
  else ([], true, s.2.2.1 ++ (Pl.scanF (s.1 ++ p)).1, (Pl.scanF (s.1 ++ p)).2.2)
def Pl.mass (s : St) : Nat := s.1.length + 6 * s.2.2.1.length
def WayS (B n : Nat) (w : World) (s : St) : Prop := Way B n w s.1 s.2.1 s.2.2.1 s.2.2.2

theorem Pl.fd_octs {s : St} {p : List Int} (h : Pl.Octs s.1) (hp : Pl.Octs p) : Pl.Octs (Pl.fd s p).1 := by
  unfold Pl.fd
  split
  · exact h
  · split
    · exact Pl.octs_drop (Pl.octs_app h hp) _
    · exact Pl.octs_nil
theorem Pl.fd_mass {s : St} {p : List Int} (h : Pl.Octs s.1) (hp : Pl.Octs p) : Pl.mass (Pl.fd s p) ≤ Pl.mass s + p.length := by
  obtain ⟨h1, h2, _⟩ := Pl.scanF_fits (s.1 ++ p) (Pl.octs_app h hp)
  rw [List.length_append] at h1
  unfold Pl.fd Pl.mass
  split
  · simp only
    omega
  · split
    · simp only [List.length_drop, List.length_append]
      omega
    · simp only [List.length_append, List.length_nil]
      omega

theorem feed_any (B n : Nat) (w : World) (s : St) (u : Value) (p : List Int) (hW : WayS B n w s) (hs : Seg .u8 w u p) (ho : Pl.Octs s.1) (hp : Pl.Octs p) (hlen : Pl.mass s + p.length ≤ 1000000000000) :
    Calls Try.prog 38 #[.pointer (some ⟨n, 0, none⟩), u] w fun e w' => e = .returned (.tuple #[]) ∧ WayS B n w' (Pl.fd s p) ∧ Below B w w' := by
  obtain ⟨held, lost, pays, fault⟩ := s
  unfold Pl.mass at hlen
  simp only at hlen ho
  cases lost with
  | true =>
    refine (feed_lost B n w held pays fault u p hW hs).mono ?_
    rintro e w' ⟨rfl, h1, h2⟩
    refine ⟨rfl, ?_, h2⟩
    unfold WayS Pl.fd
    simpa using h1
  | false =>
    obtain ⟨l, k, er, hF⟩ : ∃ l k er, Pl.scanF (held ++ p) = (l, k, er) := ⟨_, _, _, rfl⟩
    refine (feed_on B n w held pays fault u p hW hs (Pl.octs_app ho hp) (by rw [List.length_append]; omega) (by omega) l k er hF).mono ?_
    rintro e w' ⟨rfl, h1, h2⟩
    refine ⟨rfl, ?_, h2⟩
    unfold WayS Pl.fd
    simp only [Bool.false_eq_true, if_false]
    rw [hF]
    simp only
    by_cases he : er = 0
    · rw [if_pos he] at h1 ⊢
      exact h1
    · rw [if_neg he] at h1 ⊢
      exact h1

def lens (ps : List (List Int)) : Nat := (ps.map List.length).sum
theorem lens_take (ps : List (List Int)) (k : Nat) : lens (ps.take k) ≤ lens ps := by
  conv => rhs; rw [← List.take_append_drop k ps]
  unfold lens
  rw [List.map_append, List.sum_append]
  omega
theorem lens_succ {ps : List (List Int)} {k : Nat} (h : k < ps.length) : lens (ps.take (k + 1)) = lens (ps.take k) + (ps.getD k []).length := by
  rw [List.take_succ_eq_append_getElem h]
  unfold lens
  rw [List.map_append, List.sum_append]
  simp [List.getD, h]

/-- What Feed hands back. -/
def FeedsTo (w : World) (S : St) (e : Ending) (w' : World) : Prop :=
  ∃ hv' pv', e = .returned (.tuple #[.agg #[hv', .bool S.2.1], pv', .int .i64 S.2.2.2]) ∧ w'.ownsRow w.heap.size 5 1 hv' S.1.length (u8s S.1) ∧ Pays (Span w.heap.size w') w' pv' S.2.2.1 ∧ Below w.heap.size w w'

set_option maxHeartbeats 4000000 in
set_option maxRecDepth 4000 in
theorem ffeed_good (hv u : Value) (held : List Int) (lost : Bool) (ps : List (List Int)) (w : World) (hs : Seg .u8 w hv held) (hps : Segs w u ps) (ho : Pl.Octs held) (hop : ∀ p ∈ ps, Pl.Octs p) (hok : Pl.checkF held lost = 0) (hlen : held.length + lens ps ≤ 1000000000000) :
    Calls Try.prog 21 #[.agg #[hv, .bool lost], u] w fun e w' => FeedsTo w (ps.foldl Pl.fd (held, lost, [], 0)) e w' := by
  obtain ⟨a, c, n, hvs, hn⟩ : ∃ a c n, hv = .slice a n c ∧ n = held.length := by
    obtain ⟨a, c, h, _⟩ := id hs
    exact ⟨a, c, _, h, rfl⟩
  have HN : Hid (n = held.length) := hn
  clear hn
  subst hvs
  have hchk := fun (wa : World) (hb : Below w.heap.size w wa) => fcheck_any _ held lost wa (hs.below hb) ho
  rw [hok] at hchk
  obtain ⟨b, off, cap, hu, hu1, hu2, hu4⟩ := id hps
  generalize hN : ps.length = N at hu hu1
  have HNN : Hid (ps.length = N) := hN
  subst hu
  clear hN
  unfold maxLen at hu2
  go_enter Try.func21, Try.ntmps21
  go_wp2_with fail
  have hB := Boxes.new w (.slice a n c) lost
  have hal : Below w.heap.size w ((w.alloc (.cells #[.slice a n c, .bool lost] 45)).alloc (.cells #[.slice none 0 0, .bool false] 45)) := ((Below.refl _ _).alloc (Nat.le_refl _) _).alloc (by simp) _
  have hsz : ((w.alloc (.cells #[.slice a n c, .bool lost] 45)).alloc (.cells #[.slice none 0 0, .bool false] 45)).heap.size = w.heap.size + 2 := by simp
  generalize (w.alloc (.cells #[.slice a n c, .bool lost] 45)).alloc (.cells #[.slice none 0 0, .bool false] 45) = wa at *
  refine (hchk wa hal).mono ?_
  rintro e w2 ⟨rfl, hb2⟩
  rw [hsz] at hb2
  have hb02 := hal.trans (hb2.mono (Nat.le_add_right _ 2))
  obtain ⟨c0, c1, c2, c3, f0, f1⟩ := (hB.below hb2).facts
  go_wp2_with fail
  refine (alone_any w.heap.size 0 _ held lost w2 c0 c1 (hs.below hb02) (by omega)).mono ?_
  rintro e w3 ⟨v3, rfl, hown3, hb3⟩
  obtain ⟨a3, c3', hv3⟩ := own_shape hown3
  rw [← HN.out] at hv3
  subst hv3
  clear c0 c1 c2 c3 f0 f1
  go_wp2_with fail
  have hsz2 := hb2.size
  have hsz3 := hb3.size
  rw [hsz] at hsz2
  have hP3 := Part.own hown3
  have hal4 := (Below.refl w3.heap.size w3).alloc (Nat.le_refl _) (.cells #[.slice a3 n c3', .bool lost, .slice none 0 0, .int .i64 0] 75)
  have hW0 : WayS (w.heap.size + 2) w3.heap.size (w3.alloc (.cells #[.slice a3 n c3', .bool lost, .slice none 0 0, .int .i64 0] 75)) (held, lost, [], 0) := by
    refine ⟨_, _, heap_alloc_new _ _, hP3.below hal4, (Since.own hown3).mono (by omega), fun he => ?_, by omega, Pays.nil _ _⟩
    have := hP3.lt _ he
    omega
  have hb34 : Below (w.heap.size + 2) w2 (w3.alloc (.cells #[.slice a3 n c3', .bool lost, .slice none 0 0, .int .i64 0] 75)) := (hb3.mono (by omega)).alloc (by omega) _
  have hBx := (hB.below hb2).below hb34
  have hbA := hb02.trans (hb34.mono (Nat.le_add_right _ 2))
  generalize hn0 : w3.heap.size = n0 at *
  clear hown3 hP3 hal4 hb34 hb3 hb2 hB hal hchk
  go_loopw [21] (fun i wr => ∃ (k : Nat) (S : St), k ≤ N ∧ i = .int .i64 k ∧ WayS (w.heap.size + 2) n0 wr S ∧ Hid ((ps.take k).foldl Pl.fd (held, lost, [], 0) = S) ∧ Pl.Octs S.1 ∧ Pl.mass S ≤ held.length + lens (ps.take k) ∧ Boxes w.heap.size wr (.slice a n c) lost ∧ Below w.heap.size w wr) (fun i _ => N - (intOf i).toNat)
  case atStart => exact ⟨0, _, Nat.zero_le _, rfl, hW0, (rfl : _ = _), ho, by simp [Pl.mass, lens], hBx, hbA⟩
  case round =>
    obtain ⟨k, S, hk, rfl, hW, HS, hoS, hmS, hBr, hbr⟩ := hrel
    clear hW0 hBx hbA
    by_cases hlt : k < N
    · obtain ⟨x, hcx, hsx⟩ := hu4 k (by rw [HNN.out]; exact hlt)
      have hblk := World.block_lt_of_cell? w _ hcx
      simp only at hblk
      have hcr := (hbr.cell (p := ⟨b, off + k, none⟩) hblk).trans hcx
      have hox := hop (ps.getD k []) (by have := HNN.out; simp [List.getD, show k < ps.length by omega])
      have hls := lens_succ (ps := ps) (k := k) (by rw [HNN.out]; exact hlt)
      have hlt2 := lens_take ps (k + 1)
      have HS2 : Hid ((ps.take (k + 1)).foldl Pl.fd (held, lost, [], 0) = Pl.fd S (ps.getD k [])) := by
        show _ = _
        rw [List.take_succ_eq_append_getElem (by rw [HNN.out]; exact hlt), List.foldl_append, HS.out]
        have := HNN.out
        simp [List.getD, show k < ps.length by omega]
      have hfeed := feed_any (w.heap.size + 2) n0 wr S x (ps.getD k []) hW (hsx.below hbr) hoS hox (by omega)
      have hoS2 := Pl.fd_octs hoS hox
      have hm2 := Pl.fd_mass hoS hox
      generalize Pl.fd S (ps.getD k []) = S2 at *
      clear HS hW hu4
      go_wp2_with (go_at_call 38; refine hfeed.mono ?_; rintro e w5 ⟨rfl, hW5, hb5⟩)
      go_roundw
      case rel => exact ⟨k + 1, S2, by omega, by go_num, hW5, HS2, hoS2, by omega, hBr.below hb5, hbr.trans (hb5.mono (Nat.le_add_right _ 2))⟩
      case measure => simp [intOf]; omega
    · have hke : k = N := by omega
      have HS2 : Hid (ps.foldl Pl.fd (held, lost, [], 0) = S) := by
        have := HS.out
        rw [hke, ← HNN.out, List.take_length] at this
        exact this
      clear HS hke hu4
      obtain ⟨H, L, pays, fault⟩ := S
      obtain ⟨hv5, pv5, hbx, hP, hsi, hne, hBn, hpay⟩ := hW
      simp only at hbx hP hpay
      obtain ⟨d0, d1, d2, d3, _, hlt5⟩ := box_facts hbx
      obtain ⟨c0, c1, c2, c3, f0, f1⟩ := hBr.facts
      have hbd := below_drew (Below.refl wr.heap.size wr)
      have hbx6 := fun (w6 : World) (h : Below wr.heap.size wr w6) => (h.block n0 hlt5).trans hbx
      have hBr6 := fun (w6 : World) (h : Below wr.heap.size wr w6) => hBr.below (h.mono (by have := hbr.size; omega))
      have hn1 : ¬ n0 = w.heap.size + 1 := by omega
      have halone := alone_any n0 0 hv5 H L wr.drew (by simpa using d0) (by simpa using d1) (hP.seg.below hbd) (by unfold Pl.mass at hmS; simp only at hmS; have := lens_take ps k; omega)
      generalize hHn : H.length = Hn at halone
      have HH : Hid (H.length = Hn) := hHn
      have hend : ∀ (w6 : World) (a6 : Option Addr) (c6 : Nat), Below wr.heap.size wr w6 → w6.ownsRow wr.heap.size 5 1 (.slice a6 Hn c6) Hn (u8s H) →
          FeedsTo w (ps.foldl Pl.fd (held, lost, [], 0)) (.returned (.tuple #[.agg #[.slice a6 Hn c6, .bool L], pv5, .int .i64 fault])) ((w6.setCell ⟨w.heap.size + 1, 0, none⟩ (.slice a6 Hn c6)).setCell ⟨w.heap.size + 1, 1, none⟩ (.bool L)) := by
        intro w6 a6 c6 hb6 ho6
        have hs6 := hb6.size
        have hsr := hbr.size
        have hg1 := grown_set w6 (w.heap.size + 1) 0 (.slice a6 Hn c6)
        have hg2 := grown_set (w6.setCell ⟨w.heap.size + 1, 0, none⟩ (.slice a6 Hn c6)) (w.heap.size + 1) 1 (.bool L)
        rw [HS2.out]
        refine ⟨_, pv5, rfl, ?_, ?_, ((hbr.trans (hb6.mono hsr)).setCell (Nat.le_succ _) _).setCell (Nat.le_succ _) _⟩
        · simp only
          rw [HH.out]
          refine ownsRow_lower ((ho6.kept hg1 (.inr fun he => ?_)).kept hg2 (.inr fun he => ?_)) hsr
          · have := (ho6.lt _ he).1
            omega
          · have := (ho6.lt _ he).1
            omega
        · refine ((((hpay.below hb6).mono (R := fun k => Span (w.heap.size + 2) w6 k) fun k hk => hk.1.grow hs6).kept hg1 fun k hk he => ?_).kept hg2 fun k hk he => ?_).mono fun k hk => ⟨by have := hk.1; omega, by have := hk.2; simpa using this⟩
          · cases he
            have := hk.1
            omega
          · cases he
            have := hk.1
            omega
      clear hHn HS2 hpay hP hmS hbr hBr hbx
      go_wp2_with fail
      go_region_with (go_at_call 37; refine halone.mono ?_; rintro e w6 ⟨v6, rfl, hown6, hb6⟩; have hb66 := hbd.trans hb6; obtain ⟨e0, e1, e2, e3, _, _⟩ := box_facts (hbx6 w6 hb66); obtain ⟨g0, g1, g2, g3, j0, j1⟩ := (hBr6 w6 hb66).facts; obtain ⟨a6, c6, rfl⟩ := own_shape hown6)
      all_goals
        go_wp2
        have hcc := two_cells (x := .slice a6 Hn c6) (y := .bool L) g2 g3
        refine bodyPost_ret (ret_box21 rfl rfl rfl hcc.1 hcc.2) rfl ?_
        exact hend w6 a6 c6 hb66 hown6
end Go.Proofs.Ytlfgnllmomeajaa
