/- message: a row of messages of the call's own; Read. -/
import Derived.Test.YtoadcaennlfadaaMF3
namespace Go.Proofs.Ytoadcaennlfadaa
open Go.RowKit
set_option maxRecDepth 20000

theorem Try.info24 : (Try.prog.info? 24).map (fun i => (i.zero, i.size, i.bytes)) = some (some (.agg #[.int .i64 0, .int .i64 0, .int .i64 0, .int .i64 0, .int .i64 0, .int .i64 0, .int .i64 0, .int .i64 0, .int .i64 0, .int .i64 0, .int .i64 0, .slice none 0 0]), 12, 112) := by kernel_rfl

def rowM (ys : List (Mg × Value)) : List Value := ys.flatMap fun y => y.1.cells y.2
theorem cells_len (x : Mg) (v : Value) : (x.cells v).length = 12 := rfl
theorem rowM_len (ys : List (Mg × Value)) : (rowM ys).length = ys.length * 12 := by
  induction ys with
  | nil => rfl
  | cons y r ih => simp only [rowM, List.flatMap_cons, List.length_append, cells_len, List.length_cons] at ih ⊢; omega
theorem rowM_at {ys : List (Mg × Value)} {i : Nat} {y : Mg × Value} (h : ys[i]? = some y) (j : Nat) (hj : j < 12) : (rowM ys)[i * 12 + j]? = (y.1.cells y.2)[j]? := by
  induction ys generalizing i with
  | nil => simp at h
  | cons z r ih =>
    simp only [rowM, List.flatMap_cons]
    cases i with
    | zero =>
      simp at h
      subst h
      rw [List.getElem?_append_left (by rw [cells_len]; omega)]
      simp
    | succ i =>
      rw [List.getElem?_append_right (by rw [cells_len]; omega), cells_len]
      have := ih (i := i) (by simpa using h)
      rw [show (i + 1) * 12 + j - 12 = i * 12 + j by omega]
      exact this

/-- Messages in a row of the call's own, each with its text in a row of its own. -/
structure Msgs (B : Nat) (w : World) (v : Value) (ms : List (Mg × List Int)) (ys : List (Mg × Value)) : Prop where
  len : ys.length = ms.length
  row : w.ownsRow B 24 12 v ms.length (rowM ys)
  txt : ∀ (i : Nat) (x : Mg) (t : List Int), ms[i]? = some (x, t) → ∃ tv, ys[i]? = some (x, tv) ∧ w.ownsRow B 5 1 tv t.length (u8s t)

theorem own_types {w : World} {B C s1 s2 : Nat} {e1 e2 : TypeId} {v1 v2 : Value} {n1 n2 : Nat} {xs1 xs2 : List Value} (h1 : w.ownsRow B e1 s1 v1 n1 xs1) (h2 : w.ownsRow C e2 s2 v2 n2 xs2) (he : e1 ≠ e2) : v1.ownBlock = none ∨ v1.ownBlock ≠ v2.ownBlock := by
  rcases h1.2 with ⟨rfl, _⟩ | ⟨g, cap, cur, rfl, hb, hg, _⟩
  · left; rfl
  · rcases h2.2 with ⟨rfl, _⟩ | ⟨g2, cap2, cur2, rfl, hb2, hg2, _⟩
    · right; simp [Value.ownBlock]
    · right
      intro e
      simp [Value.ownBlock] at e
      subst e
      rw [hg] at hg2
      cases hg2
      exact he rfl

theorem Msgs.nil (B : Nat) (w : World) : Msgs B w (.slice none 0 0) [] [] := ⟨rfl, World.ownsRow_nil _ _ _ _, fun i x t h => by simp at h⟩
theorem Msgs.below {B : Nat} {w w' : World} {v : Value} {ms : List (Mg × List Int)} {ys : List (Mg × Value)} (h : Msgs B w v ms ys) (hb : Below w.heap.size w w') : Msgs B w' v ms ys :=
  ⟨h.len, ownsRow_below h.row hb, fun i x t hi => by
    obtain ⟨tv, h1, h2⟩ := h.txt i x t hi
    exact ⟨tv, h1, ownsRow_below h2 hb⟩⟩
theorem Msgs.lower {B C : Nat} {w : World} {v : Value} {ms : List (Mg × List Int)} {ys : List (Mg × Value)} (h : Msgs B w v ms ys) (hc : C ≤ B) : Msgs C w v ms ys :=
  ⟨h.len, ownsRow_lower h.row hc, fun i x t hi => by
    obtain ⟨tv, h1, h2⟩ := h.txt i x t hi
    exact ⟨tv, h1, ownsRow_lower h2 hc⟩⟩
theorem Msgs.push {B : Nat} {w w' : World} {v v' : Value} {ms : List (Mg × List Int)} {ys : List (Mg × Value)} {x : Mg} {t : List Int} {tv : Value} (h : Msgs B w v ms ys) (ht : w.ownsRow B 5 1 tv t.length (u8s t)) (hg : w.grownBy w' v.ownBlock) (hr : w'.ownsRow B 24 12 v' (ms.length + 1) (rowM ys ++ x.cells tv)) : Msgs B w' v' (ms ++ [(x, t)]) (ys ++ [(x, tv)]) := by
  refine ⟨by simp [h.len], ?_, fun i y s hi => ?_⟩
  · have : rowM (ys ++ [(x, tv)]) = rowM ys ++ x.cells tv := by simp [rowM]
    rw [this, List.length_append]
    exact hr
  · rcases Nat.lt_or_ge i ms.length with hlt | hge
    · rw [List.getElem?_append_left hlt] at hi
      obtain ⟨tv', h1, h2⟩ := h.txt i y s hi
      exact ⟨tv', by rw [List.getElem?_append_left (by rw [h.len]; exact hlt)]; exact h1, h2.kept hg (own_types h2 h.row (by decide))⟩
    · rw [List.getElem?_append_right hge] at hi
      have h0 : i - ms.length = 0 := by
        have := (List.getElem?_eq_some_iff.1 hi).1
        simp at this
        omega
      rw [h0] at hi
      simp at hi
      obtain ⟨rfl, rfl⟩ := hi
      refine ⟨tv, ?_, ht.kept hg (own_types ht h.row (by decide))⟩
      rw [List.getElem?_append_right (by rw [h.len]; exact hge), h.len, h0]
      rfl
theorem Msgs.seg {B : Nat} {w : World} {v : Value} {ms : List (Mg × List Int)} {ys : List (Mg × Value)} (h : Msgs B w v ms ys) : MSeg w v ms := by
  rcases h.row.2 with ⟨rfl, h0⟩ | ⟨g, cap, cur, rfl, hb, hg, hr⟩
  · refine ⟨none, 0, by rw [h0], by omega, Nat.zero_le _, fun _ => ⟨List.length_eq_zero_iff.1 h0, rfl⟩, fun g off ar ha => by cases ha⟩
  · obtain ⟨h1, h2, h3, h4⟩ := hr
    refine ⟨some ⟨g, 0, none⟩, cap, rfl, h1, h2, (fun h => by cases h), fun g' off ar ha _ => ?_⟩
    cases ha
    refine ⟨rfl, lt_of_some hg, fun i p hp => ?_⟩
    obtain ⟨x, t⟩ := p
    obtain ⟨tv, hy, ho⟩ := h.txt i x t hp
    have hi : i < ms.length := (List.getElem?_eq_some_iff.1 hp).1
    have hc : ∀ j, j < 12 → w.cell? ⟨g, 0 + i * 12 + j, none⟩ = (x.cells tv)[j]? := by
      intro j hj
      rw [cell_of_row w g _ cur _ (0, 0) hg, ← rowM_at hy j hj, ← h4, List.getElem?_take_of_lt (by omega), Nat.zero_add]
      simp
    refine ⟨tv, ⟨hc 0 (by omega), hc 1 (by omega), hc 2 (by omega), hc 3 (by omega), hc 4 (by omega), hc 5 (by omega), hc 6 (by omega), hc 7 (by omega), hc 8 (by omega), hc 9 (by omega), hc 10 (by omega), hc 11 (by omega)⟩, Seg.own ho⟩

set_option maxHeartbeats 8000000 in
theorem mRead_ok (v : Value) (b : List Int) (w : World) (hs : Seg .u8 w v b) (ho : Pl.Octs b) (hlen : b.length ≤ 5864062014805) (ms : List (Mg × List Int)) (hsc : Pl.scanF b = (ms.map encP, b.length, 0)) (hck : ∀ p ∈ ms, ckM p.1 p.2 = 0) (hdo : ∀ p ∈ ms, ∀ z ∈ p.2, 0 ≤ z ∧ z ≤ 255) (hml : ms.length ≤ 1000000000000) :
    Calls Try.prog 16 #[v] w fun e w' => ∃ o ys, e = .returned (.tuple #[o, .int .i64 0]) ∧ Msgs w.heap.size w' o ms ys ∧ Below w.heap.size w w' := by
  obtain ⟨i0, hi0, hz0, hz1, hz2⟩ := info_parts Try.info24
  have hf := fscan_any v b w hs ho (by omega)
  rw [hsc] at hf
  simp only at hf
  obtain ⟨a, cap, rfl, _⟩ := id hs
  obtain ⟨L, hL⟩ : ∃ L, L = b.length := ⟨_, rfl⟩
  rw [← hL] at hf hlen ⊢
  obtain ⟨N, hN⟩ : ∃ N, N = ms.length := ⟨_, rfl⟩
  have HN := hid hN
  clear hs ho hsc hL
  go_enter Try.func16, Try.ntmps16
  go_wp2_with fail
  refine hf.mono ?_
  rintro e w2 ⟨pv, rfl, hP, hb2⟩
  obtain ⟨pa, pc, hpv, hpm⟩ := hP.dest
  rw [List.length_map, ← hN] at hpv
  unfold maxLen at hpm
  have hNc : (N : Int) ≤ 9223372036854775807 := by omega
  have hel : Hid (∀ k, k < N → ∃ g off, pa = some ⟨g, off, none⟩ ∧ g < w2.heap.size ∧ ∃ x d y, ms[k]? = some (x, d) ∧ w2.cell? ⟨g, off + k, none⟩ = some y ∧ Seg .u8 w2 y (encM x d) ∧ ckM x d = 0 ∧ ∀ z ∈ d, 0 ≤ z ∧ z ≤ 255) := by
    intro k hk
    obtain ⟨g, off, c, hv', _, _, hg, he⟩ := hP.elem (by rw [List.length_map]; omega)
    rw [hpv] at hv'
    simp only [Value.slice.injEq] at hv'
    obtain ⟨x, d, hmk⟩ : ∃ x d, ms[k]? = some (x, d) := ⟨(ms[k]'(by omega)).1, (ms[k]'(by omega)).2, by rw [List.getElem?_eq_getElem (by omega)]⟩
    obtain ⟨y, hy, hsy⟩ := he k (encM x d) (by rw [List.getElem?_map, hmk]; rfl)
    have hmem := List.mem_of_getElem? hmk
    exact ⟨g, off, hv'.1, hg, x, d, y, hmk, hy, hsy, hck _ hmem, hdo _ hmem⟩
  subst hpv
  have HB2 := hid hb2
  clear hP hb2 hf hN hck hdo
  go_wp2_with fail
  go_loopw [7, 27] (fun o i wr => ∃ (k : Nat) (ys : List (Mg × Value)), k ≤ N ∧ i = .int .i64 k ∧ Hid (Msgs w2.heap.size wr o (ms.take k) ys) ∧ Below w2.heap.size w2 wr) (fun _ i _ => N - (intOf i).toNat)
  case atStart => exact ⟨0, [], Nat.zero_le _, rfl, Msgs.nil _ _, Below.refl _ _⟩
  case round =>
    obtain ⟨k, ys, hk, rfl, hMs, hbel⟩ := hrel
    by_cases hlt : k < N
    · obtain ⟨g, off, rfl, hg, x, d, y, hmk, hc0, hsy, hck, hdo⟩ := hel.out k hlt
      have hc := (hbel.cell (p := ⟨g, off + k, none⟩) hg).trans hc0
      have hbd := enc_bounds hck
      have hde := mDecode_any y (encM x d) wr (hsy.below hbel) (enc_octs hck hdo) (by omega)
      rw [dcm_enc hck] at hde
      simp only at hde
      have HT : Hid (ms.take (k + 1) = ms.take k ++ [(x, d)]) := by show _ = _; rw [List.take_add_one, hmk]; rfl
      have HLK : Hid ((ms.take k).length = k) := by show _ = _; rw [List.length_take]; have := HN.out; omega
      obtain ⟨ya, yc, hyv, _⟩ := id hsy
      generalize (encM x d).length = EL at hyv
      subst hyv
      clear hc0 hsy hel hmk hck hdo hbd
      go_wp2_with fail
      refine hde.mono ?_
      rintro e w3 ⟨tv, rfl, o3, b3⟩
      obtain ⟨ta, tc, rfl⟩ := own_shape8 o3
      have hM3 := hMs.out.below b3
      have hb3 := hbel.trans (b3.mono hbel.size)
      have hal : Below w3.heap.size w3 ((w3.alloc (.cells ⟨x.cells (.slice ta d.length tc)⟩ 24)).alloc (.cells ⟨x.cells (.slice ta d.length tc)⟩ 24)) := ((Below.refl _ w3).alloc (Nat.le_refl _) _).alloc (by simp) _
      have hM4 := hM3.below hal
      have hb4 := hb3.trans (hal.mono hb3.size)
      have o4 := ownsRow_below (ownsRow_lower (C := w2.heap.size) o3 hbel.size) hal
      have NB := Bx.new (w3.alloc (.cells ⟨x.cells (.slice ta d.length tc)⟩ 24)) (x.cells (.slice ta d.length tc)) 24
      have hnews : ∀ j u, (x.cells (.slice ta d.length tc))[j]? = some u → ((w3.alloc (.cells ⟨x.cells (.slice ta d.length tc)⟩ 24)).alloc (.cells ⟨x.cells (.slice ta d.length tc)⟩ 24)).cell? ((⟨w3.heap.size + 1, 0, none⟩ : Addr).add j) = some u := by
        intro j u hu
        rw [add_plain]
        have := NB.cell j hu
        simpa using this
      have hone : ∀ u ∈ x.cells (.slice ta d.length tc), u.oneCell' = true := by
        intro u hu
        simp only [Mg.cells, List.mem_cons, List.not_mem_nil, or_false] at hu
        rcases hu with rfl | rfl | rfl | rfl | rfl | rfl | rfl | rfl | rfl | rfl | rfl | rfl <;> rfl
      have hrow := hM4.row
      rw [HLK.out] at hrow
      simp only [Mg.cells] at hnews hone hrow hb4 o4 hM4
      unfold Mg.val
      clear hde hal b3 o3 hM3 hb3 hMs NB
      go_wp2_with (at_builtin; refine wpList_append_own _ rfl (.tmp 39) (.tmp 41) 37 rfl w2.heap.size 24 i0 _ 12 112 Try.underlying37 hi0 hz0 hz1 hz2 rfl (by decide) u7 k (rowM ys) rfl hrow ⟨w3.heap.size + 1, 0, none⟩ 1 1 _ rfl ?c1 hnews hone ?c2 ?c3 hb4.size ?_)
      case c1 => rfl
      case c2 => unfold maxLen; have := HN.out; omega
      case c3 => have := HN.out; omega
      intro v5 w5 o5 hg5 _
      have hM5 := Msgs.push (x := x) (t := d) hM4 o4 hg5 (by rw [HLK.out]; exact o5)
      have hb5 := hb4.grown hg5 hb4.size (fun j hj => (hrow.lt j hj).1)
      rw [← HT.out] at hM5
      have HM5 := hid hM5
      clear hM5 hM4 o4 o5 hg5 hrow hnews hone hb4 HT HLK hi0 hz0 hz1 hz2
      go_wp2
      go_roundw
      case rel => exact ⟨k + 1, _, by omega, by go_num, HM5, hb5⟩
      case measure => simp [intOf]; omega
    · have hke : ms.take k = ms := List.take_of_length_le (by have := HN.out; omega)
      rw [hke] at hMs
      have HM := hid (hMs.out.lower HB2.out.size)
      have HB := hid (HB2.out.trans (hbel.mono HB2.out.size))
      clear hel hke hMs hbel HB2 hi0 hz0 hz1 hz2
      go_wp2
      go_ret2
      exact ⟨_, ys, rfl, HM.out, HB.out⟩
end Go.Proofs.Ytoadcaennlfadaa
