/- lex: mayPrint. -/
import Derived.Test.YtjeegcfdhoiplaaPA
namespace Go.Proofs.Ytjeegcfdhoiplaa
open Go.RowKit

/-- Tokens that may be printed. -/
def Good (l : List Z3) : Prop := (∀ t ∈ l, checkZ t = 0) ∧ (∀ i t u, l[i]? = some t → l[i + 1]? = some u → t.2.2 ≤ u.2.2) ∧ (∀ t ∈ l, t.2.2 ≤ 65536)

/-- Is a line too far down? -/
def Above (l : List Z3) : Prop := ∃ t, t ∈ l ∧ 65536 < t.2.2

theorem TSeg.at {w : World} {a : Option Addr} {n cap : Nat} {l : List Z3} (h : TSeg w (.slice a n cap) l) (i : Nat) (t : Z3) (hi : l[i]? = some t) :
    ∃ g off, a = some ⟨g, off, none⟩ ∧ g < w.heap.size ∧ w.cell? ⟨g, off + i * 3, none⟩ = some (.int .i64 t.1) ∧ w.cell? ⟨g, off + i * 3 + 1, none⟩ = some (.string t.2.1) ∧ w.cell? ⟨g, off + i * 3 + 2, none⟩ = some (.int .i64 t.2.2) := by
  obtain ⟨a', cap', hv, h1, h2, h3, h4⟩ := h
  simp only [Value.slice.injEq] at hv
  obtain ⟨rfl, _, rfl⟩ := hv
  rcases a with _ | ⟨g, off, ar⟩
  · obtain ⟨rfl, _⟩ := h3 rfl
    simp at hi
  · obtain ⟨rfl, k2, k3⟩ := h4 _ _ _ rfl (by have := (List.getElem?_eq_some_iff.1 hi).1; omega)
    exact ⟨g, off, rfl, k2, k3 i t hi⟩

set_option maxHeartbeats 1000000 in
theorem above_any (t : Z3) (w : World) : Calls Try.prog 24 #[.agg #[.int .i64 t.1, .string t.2.1, .int .i64 t.2.2]] w fun e w' => e = .returned (.bool (decide (65536 < t.2.2))) ∧ Below w.heap.size w w' := by
  go_enter Try.func24, Try.ntmps24
  go_wp2
  go_ret
  exact ⟨rfl, (Below.refl _ w).alloc (Nat.le_refl _) _⟩

set_option maxHeartbeats 1000000 in
set_option maxRecDepth 4000 in
theorem indexFunc_any (v : Value) (l : List Z3) (w : World) (hv : TSeg w v l) : Calls Try.prog 33 #[v, .func (.func 24) #[] #[]] w fun e w' => ∃ r : Int, e = .returned (.int .i64 r) ∧ (0 ≤ r ↔ Above l) ∧ Below w.heap.size w w' := by
  obtain ⟨a, cap, rfl, h1, h2, h3, h4⟩ := id hv
  obtain ⟨N, hN⟩ : ∃ N, N = l.length := ⟨_, rfl⟩
  rw [← hN] at h1 hv ⊢
  unfold maxLen at h2
  have HN : Hid (N = l.length) := hN
  clear h3 h4 hN
  go_enter Try.func33, Try.ntmps33
  go_wp2_with fail
  go_loopw [8] (fun i wr => ∃ k : Nat, k ≤ N ∧ i = .int .i64 k ∧ Hid (∀ t ∈ l.take k, t.2.2 ≤ 65536) ∧ Below w.heap.size w wr) (fun i _ => N - (intOf i).toNat)
  case atStart => exact ⟨0, Nat.zero_le _, rfl, fun t ht => by simp at ht, Below.refl _ _⟩
  case round =>
    obtain ⟨k, hk, rfl, hc, hb⟩ := hrel
    by_cases hlt : k < N
    · obtain ⟨t, ht⟩ : ∃ t, l[k]? = some t := ⟨l[k]'(by have := HN.out; omega), by simp⟩
      obtain ⟨g, off, rfl, k2, q1, q2, q3⟩ := hv.at k t ht
      have Q1 := (hb.cell (p := ⟨g, off + k * 3, none⟩) k2).trans q1
      have Q2 := (hb.cell (p := ⟨g, off + k * 3 + 1, none⟩) k2).trans q2
      have Q3 := (hb.cell (p := ⟨g, off + k * 3 + 2, none⟩) k2).trans q3
      have hab := above_any t wr
      have HM : Hid (t ∈ l) := List.mem_of_getElem? ht
      have HT : Hid (l.take (k + 1) = l.take k ++ [t]) := by
        show l.take (k + 1) = _
        rw [List.take_add_one, ht]
        rfl
      clear q1 q2 q3 ht
      by_cases hq : 65536 < t.2.2
      · rw [decide_eq_true hq] at hab
        go_wp2_with (go_at_call 24; refine hab.mono ?_; rintro e w2 ⟨rfl, hb2⟩)
        go_ret
        exact ⟨_, rfl, ⟨fun _ => ⟨t, HM.out, hq⟩, fun _ => by omega⟩, hb.trans (hb2.mono hb.size)⟩
      · rw [decide_eq_false hq] at hab
        go_wp2_with (go_at_call 24; refine hab.mono ?_; rintro e w2 ⟨rfl, hb2⟩)
        have hc2 : Hid (∀ t ∈ l.take (k + 1), t.2.2 ≤ 65536) := by
          show ∀ t ∈ l.take (k + 1), t.2.2 ≤ 65536
          rw [HT.out]
          intro u hu
          rcases List.mem_append.1 hu with hu | hu
          · exact hc.out u hu
          · rw [List.mem_singleton.1 hu]
            omega
        go_roundw
        case rel => exact ⟨k + 1, by omega, by go_num, hc2, hb.trans (hb2.mono hb.size)⟩
        case measure => simp [intOf]; omega
    · have hke : l.take k = l := List.take_of_length_le (by have := HN.out; omega)
      have HC : Hid (∀ t ∈ l, t.2.2 ≤ 65536) := by rw [hke] at hc; exact hc
      clear hke hc
      go_wp2
      go_ret
      exact ⟨_, rfl, ⟨fun h => by simp at h, fun hA => by obtain ⟨t, ht, h⟩ := hA; have := HC.out t ht; omega⟩, hb⟩

theorem containsFunc_any (v : Value) (l : List Z3) (w : World) (hv : TSeg w v l) : Calls Try.prog 23 #[v, .func (.func 24) #[] #[]] w fun e w' => ∃ b : Bool, e = .returned (.bool b) ∧ (b = true ↔ Above l) ∧ Below w.heap.size w w' := by
  have h33 := indexFunc_any v l w hv
  obtain ⟨a, cap, rfl, _⟩ := id hv
  go_enter Try.func23, Try.ntmps23
  go_wp2_with (go_at_call 33; refine h33.mono ?_; rintro e w2 ⟨r, rfl, hr, hb2⟩)
  go_ret
  exact ⟨_, rfl, by rw [← hr]; simp, hb2⟩

set_option maxHeartbeats 2000000 in
set_option maxRecDepth 4000 in
theorem mayPrint_any (v : Value) (l : List Z3) (w : World) (hv : TSeg w v l) (hx : ∀ t ∈ l, t.2.1.size ≤ maxLen) : Calls Try.prog 15 #[v] w fun e w' => ∃ er : Int, e = .returned (.int .i64 er) ∧ (er = 0 ↔ Good l) ∧ Below w.heap.size w w' := by
  obtain ⟨a, cap, rfl, h1, h2, h3, h4⟩ := id hv
  obtain ⟨N, hN⟩ : ∃ N, N = l.length := ⟨_, rfl⟩
  rw [← hN] at h1 hv ⊢
  unfold maxLen at h2
  have HN : Hid (N = l.length) := hN
  clear h3 h4 hN
  go_enter Try.func15, Try.ntmps15
  go_wp2_with fail
  go_loopw [9] (fun i wr => ∃ k : Nat, k ≤ N ∧ i = .int .i64 k ∧ Hid (∀ t ∈ l.take k, checkZ t = 0) ∧ Below w.heap.size w wr) (fun i _ => N - (intOf i).toNat)
  case atStart => exact ⟨0, Nat.zero_le _, rfl, fun t ht => by simp at ht, Below.refl _ _⟩
  case round =>
    obtain ⟨k, hk, rfl, hc, hb⟩ := hrel
    by_cases hlt : k < N
    · obtain ⟨t, ht⟩ : ∃ t, l[k]? = some t := ⟨l[k]'(by have := HN.out; omega), by simp⟩
      obtain ⟨g, off, rfl, k2, q1, q2, q3⟩ := hv.at k t ht
      have Q1 := (hb.cell (p := ⟨g, off + k * 3, none⟩) k2).trans q1
      have Q2 := (hb.cell (p := ⟨g, off + k * 3 + 1, none⟩) k2).trans q2
      have Q3 := (hb.cell (p := ⟨g, off + k * 3 + 2, none⟩) k2).trans q3
      have HM : Hid (t ∈ l) := List.mem_of_getElem? ht
      have hck := fun w' => check_any t (hx t (List.mem_of_getElem? ht)) w'
      have HT : Hid (l.take (k + 1) = l.take k ++ [t]) := by
        show l.take (k + 1) = _
        rw [List.take_add_one, ht]
        rfl
      clear q1 q2 q3 ht
      by_cases hq : checkZ t = 0
      · rw [hq] at hck
        go_wp2_with fail
        refine (hck _).mono ?_
        rintro e w2 ⟨rfl, hb2⟩
        have hbb : Below w.heap.size w w2 := (hb.alloc hb.size _).trans (hb2.mono (by have := hb.size; simp; omega))
        go_wp2
        have hc2 : Hid (∀ t ∈ l.take (k + 1), checkZ t = 0) := by
          show ∀ t ∈ l.take (k + 1), checkZ t = 0
          rw [HT.out]
          intro u hu
          rcases List.mem_append.1 hu with hu | hu
          · exact hc.out u hu
          · rw [List.mem_singleton.1 hu]
            exact hq
        go_roundw
        case rel => exact ⟨k + 1, by omega, by go_num, hc2, hbb⟩
        case measure => simp [intOf]; omega
      · have hne : (checkZ t != 0) = true := by simp [hq]
        go_wp2_with fail
        refine (hck _).mono ?_
        rintro e w2 ⟨rfl, hb2⟩
        have hbb : Below w.heap.size w w2 := (hb.alloc hb.size _).trans (hb2.mono (by have := hb.size; simp; omega))
        go_wp2
        go_ret
        exact ⟨_, rfl, ⟨fun h => absurd h hq, fun h => absurd (h.1 t HM.out) hq⟩, hbb⟩
    · have hke : l.take k = l := List.take_of_length_le (by have := HN.out; omega)
      have HC : Hid (∀ t ∈ l, checkZ t = 0) := by rw [hke] at hc; exact hc
      clear hc hke
      go_wp2_with fail
      go_loopw [6] (fun i wr => ∃ m : Nat, m ≤ N ∧ i = .int .i64 ((m : Int) + 1) ∧ Hid (∀ i t u, i + 1 ≤ m → l[i]? = some t → l[i + 1]? = some u → t.2.2 ≤ u.2.2) ∧ Below w.heap.size w wr) (fun i _ => N + 1 - (intOf i).toNat)
      case atStart => exact ⟨0, Nat.zero_le _, rfl, fun i t u h => by omega, hb⟩
      case round =>
        obtain ⟨m, hm, rfl, hp, hb⟩ := hrel
        by_cases hlt : m + 1 < N
        · obtain ⟨t, ht⟩ : ∃ t, l[m]? = some t := ⟨l[m]'(by have := HN.out; omega), by simp⟩
          obtain ⟨u, hu⟩ : ∃ u, l[m + 1]? = some u := ⟨l[m + 1]'(by have := HN.out; omega), by simp⟩
          obtain ⟨g, off, rfl, k2, q1, q2, q3⟩ := hv.at m t ht
          obtain ⟨g', off', hge, k2', r1, r2, r3⟩ := hv.at (m + 1) u hu
          simp at hge
          obtain ⟨rfl, rfl⟩ := hge
          have Q3 := (hb.cell (p := ⟨g, off + m * 3 + 2, none⟩) k2).trans q3
          have R3 := (hb.cell (p := ⟨g, off + (m + 1) * 3 + 2, none⟩) k2).trans r3
          have hto : ((m : Int) + 1).toNat = m + 1 := by omega
          have hsub : (m : Int) + 1 - 1 = m := by omega
          have HU : Hid (l[m + 1]? = some u) := hu
          have HTT : Hid (l[m]? = some t) := ht
          clear q1 q2 q3 r1 r2 r3 ht hu
          by_cases hq : u.2.2 < t.2.2
          · go_wp2_with fail
            go_quiet (fail)
            go_wp2
            go_ret
            refine ⟨_, rfl, ⟨fun h => by simp at h, fun h => ?_⟩, below_drewN hb nq⟩
            have := h.2.1 m t u HTT.out HU.out
            omega
          · go_wp2_with fail
            go_quiet (fail)
            go_wp2
            refine ⟨⟨m + 1, by omega, by go_num, ?_, below_drewN hb nq⟩, by simp [intOf]; omega⟩
            intro i t' u' hi ht' hu'
            by_cases him : i = m
            · subst him
              rw [HTT.out] at ht'
              rw [HU.out] at hu'
              cases ht'
              cases hu'
              omega
            · exact hp.out i t' u' (by omega) ht' hu'
        · have HP : Hid (∀ i t u, l[i]? = some t → l[i + 1]? = some u → t.2.2 ≤ u.2.2) := by
            intro i t u ht hu
            have h1 : i + 1 < l.length := (List.getElem?_eq_some_iff.1 hu).1
            exact hp.out i t u (by have := HN.out; omega) ht hu
          clear hp
          have hcf := containsFunc_any _ l wr (hv.below hb)
          go_wp2_with fail
          refine hcf.mono ?_
          rintro e w2 ⟨b, rfl, hbb, hb2⟩
          have HB : Hid (b = true ↔ Above l) := hbb
          clear hbb
          cases b with
          | true =>
            go_wp2
            go_ret
            refine ⟨_, rfl, ⟨fun h => by simp at h, fun h => ?_⟩, hb.trans (hb2.mono hb.size)⟩
            obtain ⟨t, ht, hq⟩ := HB.out.1 (by first | rfl | trivial)
            have := h.2.2 t ht
            omega
          | false =>
            go_wp2
            go_ret
            refine ⟨_, rfl, ⟨fun _ => ⟨HC.out, HP.out, fun t ht => ?_⟩, fun _ => rfl⟩, hb.trans (hb2.mono hb.size)⟩
            by_cases hq : 65536 < t.2.2
            · have := HB.out.2 ⟨t, ht, hq⟩
              cases this
            · omega
end Go.Proofs.Ytjeegcfdhoiplaa
