/- subset: the reference's Change. -/
import Derived.Test.YtdgdhhbapgfjgaaSRC
import Derived.Test.YtdgdhhbapgfjgaaSH2
namespace Go.Proofs.Ytdgdhhbapgfjgaa
open Go.RowKit
set_option linter.unusedVariables false

/-- What has come of the first numbers of a list: each once, none of another list. -/
structure Sp.Came (l m : List Int) (q : Nat) (X : List Int) : Prop where
  mem : ∀ z, z ∈ X ↔ z ∈ l.take q ∧ ¬ z ∈ m
  nodup : X.Nodup
  len : X.length ≤ q
theorem Sp.came_start (l m : List Int) : Sp.Came l m 0 [] := ⟨by simp, List.nodup_nil, Nat.le_refl _⟩
theorem Sp.came_skip {l m X : List Int} {q : Nat} (h : Sp.Came l m q X) (hq : q < l.length) (hx : l.getD q 0 ∈ m ∨ l.getD q 0 ∈ X) : Sp.Came l m (q + 1) X := by
  refine ⟨fun z => ?_, h.nodup, Nat.le_succ_of_le h.len⟩
  rw [h.mem, mem_take_succ hq]
  constructor
  · rintro ⟨h1, h2⟩; exact ⟨.inl h1, h2⟩
  · rintro ⟨h1 | rfl, h2⟩
    · exact ⟨h1, h2⟩
    · rcases hx with hx | hx
      · exact absurd hx h2
      · exact (h.mem _).1 hx
theorem Sp.came_put {l m X : List Int} {q : Nat} (h : Sp.Came l m q X) (hq : q < l.length) (h1 : ¬ l.getD q 0 ∈ m) (h2 : ¬ l.getD q 0 ∈ X) : Sp.Came l m (q + 1) (X ++ [l.getD q 0]) := by
  refine ⟨fun z => ?_, ?_, by rw [List.length_append]; exact Nat.succ_le_succ h.len⟩
  · rw [List.mem_append, List.mem_singleton, h.mem, mem_take_succ hq]
    constructor
    · rintro (⟨a, b⟩ | rfl)
      · exact ⟨.inl a, b⟩
      · exact ⟨.inr rfl, h1⟩
    · rintro ⟨a | rfl, b⟩
      · exact .inl ⟨a, b⟩
      · exact .inr rfl
  · refine List.nodup_append.2 ⟨h.nodup, by simp, fun a ha b hb e => ?_⟩
    rw [List.mem_singleton] at hb
    subst hb
    subst e
    exact h2 ha
theorem Sp.came_end {l m X : List Int} (h : Sp.Came l m l.length X) : Sp.srt X = Sp.wo (Sp.onc l) (Sp.onc m) := by
  refine Sp.up_ext (Sp.srt_up h.nodup) (Sp.wo_up (Sp.onc_up l)) (fun z => ?_)
  rw [Sp.srt_mem, h.mem, Sp.wo_mem, Sp.onc_mem, Sp.onc_mem, List.take_of_length_le (Nat.le_refl _)]

set_option maxRecDepth 20000 in
set_option maxHeartbeats 8000000 in
theorem rchange_any (v u : Value) (old ids : List Int) (w : World) (hs : Seg .i64 w v old) (ho : Seg .i64 w u ids) (hl : old.length ≤ 17592186044414) (hl2 : ids.length ≤ 17592186044414) :
    Calls Try.prog 17 #[v, u] w fun e w' => ∃ v1 v2, e = .returned (.tuple #[v1, v2]) ∧ Seg .i64 w' v1 (Sp.wo (Sp.onc ids) (Sp.onc old)) ∧ Seg .i64 w' v2 (Sp.wo (Sp.onc old) (Sp.onc ids)) ∧ Below w.heap.size w w' := by
  have HS := hidD hs
  have HO := hidD ho
  obtain ⟨a, cap, rfl, h1, h2, _, _⟩ := hs
  unfold maxLen at h2
  obtain ⟨a2, cap2, rfl, h3, h4, _, _⟩ := ho
  unfold maxLen at h4
  obtain ⟨N, hN⟩ : ∃ N, N = ids.length := ⟨_, rfl⟩
  rw [← hN] at h3 hl2 HO ⊢
  have HLN := hidD hN
  obtain ⟨M, hM⟩ : ∃ M, M = old.length := ⟨_, rfl⟩
  rw [← hM] at h1 hl HS ⊢
  have HLM := hidD hM
  clear hN hM
  go_enter Try.func17, Try.ntmps17
  go_wp2
  go_loopw [6, 8] (fun o i wr => ∃ (q : Nat) (X : List Int), q ≤ N ∧ i = .int .i64 q ∧ wr.ownsRow w.heap.size 3 1 o X.length (i64s X) ∧ Hid (Sp.Came ids old q X) ∧ Below w.heap.size w wr) (fun _ i _ => N - (intOf i).toNat)
  case atStart => exact ⟨0, [], Nat.zero_le _, rfl, World.ownsRow_nil _ _ _ _, hidD (Sp.came_start _ _), Below.refl _ _⟩
  case round =>
    obtain ⟨q, X, hq, rfl, hrow, HX, hbl⟩ := hrel
    obtain ⟨wq, rfl⟩ : ∃ wq, wq = wr := ⟨_, rfl⟩
    by_cases hlq : q < N
    · have ql : q < ids.length := by have := HLN.out; omega
      obtain ⟨g1, o1, rfl, hg1, Q1⟩ := (HO.out.below hbl).atD q ql
      have ch1 := rhas_any _ old (ids.getD q 0) wq (HS.out.below hbl)
      have ch2 := rhas_any _ X (ids.getD q 0) wq (Seg.own hrow)
      have hXl : X.length ≤ q := HX.out.len
      have hbq := hbl.size
      have i1 : (q : Int) < (N : Int) := by omega
      have HROW := hidD hrow
      have HBL := hidD hbl
      obtain ⟨oa, ocap, hoa⟩ := row_slice hrow
      subst hoa
      clear hrow hbl
      by_cases hin : ids.getD q 0 ∈ old
      · rw [decide_eq_true hin] at ch1
        have HX2 := hidD (Sp.came_skip HX.out ql (.inl hin))
        clear hin HX ql ch2
        generalize ids.getD q 0 = y at *
        go_wp2_with (go_at_call 28; refine ch1.mono ?_; rintro e w8 ⟨rfl, rfl⟩)
        exact ⟨⟨q + 1, X, by omega, by go_num, HROW.out, HX2, HBL.out⟩, by simp [intOf]; omega⟩
      · rw [decide_eq_false hin] at ch1
        by_cases hin2 : ids.getD q 0 ∈ X
        · rw [decide_eq_true hin2] at ch2
          have HX2 := hidD (Sp.came_skip HX.out ql (.inr hin2))
          clear hin hin2 HX ql
          generalize ids.getD q 0 = y at *
          go_wp2_with (go_at_call 28; first | (with_reducible refine ch1.mono ?_; rintro e w8 ⟨rfl, rfl⟩) | (with_reducible refine ch2.mono ?_; rintro e w8 ⟨rfl, rfl⟩))
          exact ⟨⟨q + 1, X, by omega, by go_num, HROW.out, HX2, HBL.out⟩, by simp [intOf]; omega⟩
        · rw [decide_eq_false hin2] at ch2
          have HX2 := hidD (Sp.came_put HX.out ql hin hin2)
          clear hin hin2 HX ql
          generalize ids.getD q 0 = y at *
          go_wp2_with (first | (go_at_call 28; first | (with_reducible refine ch1.mono ?_; rintro e w8 ⟨rfl, rfl⟩) | (with_reducible refine ch2.mono ?_; rintro e w8 ⟨rfl, rfl⟩)) | (at_builtin; refine wpList_append_ints _ rfl _ _ rfl w.heap.size _ (.slice (some ⟨wq.heap.size, 0, none⟩) 1 1) X [y] rfl (HROW.out.alloc _) rfl (seg_one wq y) (by simp; omega) (by simp; omega) ?_; intro v2 w6 hown' hB6 hgrow))
          exact ⟨⟨q + 1, X ++ [y], by omega, by go_num, hown', HX2, (HBL.out.alloc hbq _).trans hB6⟩, by simp [intOf]; omega⟩
    · obtain rfl : q = N := by omega
      have HXE : Hid (Sp.srt X = Sp.wo (Sp.onc ids) (Sp.onc old)) := hidD (Sp.came_end (by have := HX.out; rw [HLN.out] at this; exact this))
      have hXl : X.length ≤ q := HX.out.len
      have HROWX := hidD hrow
      have HBLX := hidD hbl
      have HSX := hidD (Seg.own hrow)
      have HS1 := hidD (HS.out.below hbl)
      have HO1 := hidD (HO.out.below hbl)
      clear HX hrow hbl HS HO
      go_wp2
      go_loopw [7, 9] (fun o i wr => ∃ (t : Nat) (Y : List Int), t ≤ M ∧ i = .int .i64 t ∧ wr.ownsRow wq.heap.size 3 1 o Y.length (i64s Y) ∧ Hid (Sp.Came old ids t Y) ∧ Below wq.heap.size wq wr) (fun _ i _ => M - (intOf i).toNat)
      case atStart => exact ⟨0, [], Nat.zero_le _, rfl, World.ownsRow_nil _ _ _ _, hidD (Sp.came_start _ _), Below.refl _ _⟩
      case round =>
        obtain ⟨t, Y, ht, rfl, hrow, HY, hbl⟩ := hrel
        obtain ⟨wt, rfl⟩ : ∃ wt, wt = wr := ⟨_, rfl⟩
        by_cases hlt : t < M
        · have tl : t < old.length := by have := HLM.out; omega
          obtain ⟨g1, o1, rfl, hg1, Q1⟩ := (HS1.out.below hbl).atD t tl
          have ch1 := rhas_any _ ids (old.getD t 0) wt (HO1.out.below hbl)
          have ch2 := rhas_any _ Y (old.getD t 0) wt (Seg.own hrow)
          have hYl : Y.length ≤ t := HY.out.len
          have hbq := hbl.size
          have i1 : (t : Int) < (M : Int) := by omega
          have HROW := hidD hrow
          have HBL := hidD hbl
          obtain ⟨oa, ocap, hoa⟩ := row_slice hrow
          subst hoa
          clear hrow hbl
          by_cases hin : old.getD t 0 ∈ ids
          · rw [decide_eq_true hin] at ch1
            have HX2 := hidD (Sp.came_skip HY.out tl (.inl hin))
            clear hin HY tl ch2
            generalize old.getD t 0 = y at *
            go_wp2_with (go_at_call 28; refine ch1.mono ?_; rintro e w8 ⟨rfl, rfl⟩)
            exact ⟨⟨t + 1, Y, by omega, by go_num, HROW.out, HX2, HBL.out⟩, by simp [intOf]; omega⟩
          · rw [decide_eq_false hin] at ch1
            by_cases hin2 : old.getD t 0 ∈ Y
            · rw [decide_eq_true hin2] at ch2
              have HX2 := hidD (Sp.came_skip HY.out tl (.inr hin2))
              clear hin hin2 HY tl
              generalize old.getD t 0 = y at *
              go_wp2_with (go_at_call 28; first | (with_reducible refine ch1.mono ?_; rintro e w8 ⟨rfl, rfl⟩) | (with_reducible refine ch2.mono ?_; rintro e w8 ⟨rfl, rfl⟩))
              exact ⟨⟨t + 1, Y, by omega, by go_num, HROW.out, HX2, HBL.out⟩, by simp [intOf]; omega⟩
            · rw [decide_eq_false hin2] at ch2
              have HX2 := hidD (Sp.came_put HY.out tl hin hin2)
              clear hin hin2 HY tl
              generalize old.getD t 0 = y at *
              go_wp2_with (first | (go_at_call 28; first | (with_reducible refine ch1.mono ?_; rintro e w8 ⟨rfl, rfl⟩) | (with_reducible refine ch2.mono ?_; rintro e w8 ⟨rfl, rfl⟩)) | (at_builtin; refine wpList_append_ints _ rfl _ _ rfl wq.heap.size _ (.slice (some ⟨wt.heap.size, 0, none⟩) 1 1) Y [y] rfl (HROW.out.alloc _) rfl (seg_one wt y) (by simp; omega) (by simp; omega) ?_; intro v2 w6 hown' hB6 hgrow))
              exact ⟨⟨t + 1, Y ++ [y], by omega, by go_num, hown', HX2, (HBL.out.alloc hbq _).trans hB6⟩, by simp [intOf]; omega⟩
        · obtain rfl : t = M := by omega
          have HYE : Hid (Sp.srt Y = Sp.wo (Sp.onc old) (Sp.onc ids)) := hidD (Sp.came_end (by have := HY.out; rw [HLM.out] at this; exact this))
          have hYl : Y.length ≤ t := HY.out.len
          have HSY := hidD (Seg.own hrow)
          have c1 := rsorted_any _ X wt (HSX.out.below hbl) (by omega)
          have HB := hidD (Below.step HBLX.out hbl)
          clear HY hrow hbl
          go_wp2_with fail
          with_reducible refine c1.mono ?_
          rintro e w7 ⟨v7, rfl, r7, b7⟩
          have c2 := rsorted_any _ Y w7 (HSY.out.below b7) (by omega)
          clear c1
          go_wp2_with fail
          with_reducible refine c2.mono ?_
          rintro e w8 ⟨v8, rfl, r8, b8⟩
          have S7 : Seg .i64 w7 v7 (Sp.srt X) := by
            refine Seg.own (e := 3) (B := wt.heap.size) ?_
            rw [Sp.srt_length]
            exact r7
          have S8 : Seg .i64 w8 v8 (Sp.srt Y) := by
            refine Seg.own (e := 3) (B := w7.heap.size) ?_
            rw [Sp.srt_length]
            exact r8
          have S7' := S7.below b8
          rw [HXE.out] at S7'
          rw [HYE.out] at S8
          have HS7 := hidD S7'
          have HS8 := hidD S8
          have HB8 := hidD (Below.step (Below.step HB.out b7) b8)
          clear r7 r8 S7 S7' S8 b7 b8 c2
          go_wp2
          go_ret2
          exact ⟨_, _, rfl, HS7.out, HS8.out, HB8.out⟩
end Go.Proofs.Ytdgdhhbapgfjgaa
