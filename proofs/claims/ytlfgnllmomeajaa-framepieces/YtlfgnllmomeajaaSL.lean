/- Lists of texts compared. -/
import Derived.Test.YtlfgnllmomeajaaPays
import Derived.Test.YtlfgnllmomeajaaOpenB
namespace Go.Proofs.Ytlfgnllmomeajaa
open Go.RowKit

theorem Pays.texts {Q : Nat → Prop} {w : World} {v : Value} {ls : List (List Int)} (h : Pays Q w v ls) : Texts w v ls := by
  obtain ⟨vs, h1, _, h3⟩ := h
  have hl := h3.1
  rcases id h1 with ⟨rfl, rfl⟩ | ⟨g, off, cap, cur, rfl, hg, hle, hm, hs, ht⟩
  · have : ls = [] := List.length_eq_zero_iff.1 (by simpa using hl.symm)
    subst this
    exact ⟨none, 0, rfl, Nat.le_refl _, Nat.zero_le _, fun _ => ⟨rfl, rfl⟩, fun x hx => by cases hx⟩
  · refine ⟨_, cap, by rw [hl], by omega, hm, fun h => (by cases h), fun x hx i hi => ?_⟩
    cases hx
    rw [add_plain]
    exact ⟨_, h1.cells i (vs.getD i (.bool false)) (by simp [List.getD, show i < vs.length by omega]), (h3.2 i hi).1⟩

theorem take_succ_getD {ls : List (List Int)} {k : Nat} (h : k < ls.length) : ls.take (k + 1) = ls.take k ++ [ls.getD k []] := by
  rw [List.take_succ_eq_append_getElem h]
  simp [List.getD, h]

set_option maxHeartbeats 1000000 in
theorem sameList_any (v u : Value) (ls ms : List (List Int)) (w : World) (hv : Texts w v ls) (hu : Texts w u ms) (hl : ∀ l ∈ ls, Pl.Octs l) (hm : ∀ l ∈ ms, Pl.Octs l) :
    Calls Try.prog 18 #[v, u] w fun e w' => e = .returned (.bool (ls == ms)) ∧ Below w.heap.size w w' := by
  obtain ⟨a, cap, rfl, h1, h2, h3, h4⟩ := hv
  obtain ⟨a', cap', rfl, h1', h2', h3', h4'⟩ := hu
  unfold maxLen at h2 h2'
  by_cases hne : ls.length = ms.length
  · obtain ⟨n, hn1, hn2⟩ : ∃ n, ls.length = n ∧ ms.length = n := ⟨_, rfl, hne.symm⟩
    have HA : Hid (ls.length = n) := hn1
    have HB : Hid (ms.length = n) := hn2
    rw [hn1] at h1 ⊢
    rw [hn2] at h1' ⊢
    clear hn1 hn2 hne
    go_enter Try.func18, Try.ntmps18
    go_wp2
    go_loopw [5] (fun i wr => ∃ k : Nat, k ≤ n ∧ i = .int .i64 k ∧ Hid (ls.take k = ms.take k) ∧ Below w.heap.size w wr) (fun i _ => n - (intOf i).toNat)
    case atStart => exact ⟨0, Nat.zero_le _, rfl, (rfl : _ = _), Below.refl _ _⟩
    case round =>
      obtain ⟨k, hk, rfl, HE, hbel⟩ := hrel
      by_cases hlt : k < n
      · obtain ⟨b, off, rfl, hb, hc⟩ := texts_at (w := w) (ls := ls) (by rw [HA.out]; omega) h3 h4
        obtain ⟨b', off', rfl, hb', hc'⟩ := texts_at (w := w) (ls := ms) (by rw [HB.out]; omega) h3' h4'
        obtain ⟨x, hcx, hsx⟩ := hc k (by rw [HA.out]; exact hlt)
        obtain ⟨y, hcy, hsy⟩ := hc' k (by rw [HB.out]; exact hlt)
        have hcx2 := (hbel.cell (p := ⟨b, off + k, none⟩) hb).trans hcx
        have hcy2 := (hbel.cell (p := ⟨b', off' + k, none⟩) hb').trans hcy
        have hox := hl (ls.getD k []) (by have := HA.out; simp [List.getD, show k < ls.length by omega])
        have hoy := hm (ms.getD k []) (by have := HB.out; simp [List.getD, show k < ms.length by omega])
        have hbd := below_drew hbel
        have hsx2 := hsx.below hbd
        have hsy2 := hsy.below hbd
        have HT : Hid (ls.getD k [] = ms.getD k [] → ls.take (k + 1) = ms.take (k + 1)) := fun h => by
          rw [take_succ_getD (by rw [HA.out]; exact hlt), take_succ_getD (by rw [HB.out]; exact hlt), HE.out, h]
        have HN : Hid (ls.getD k [] ≠ ms.getD k [] → (ls == ms) = false) := fun h => by
          rw [beq_eq_false_iff_ne]
          intro e
          exact h (by rw [e])
        generalize ls.getD k [] = p at *
        generalize ms.getD k [] = q at *
        clear hc hc' h3 h3' h4 h4' hcx hcy hsx hsy HE
        by_cases hpq : p = q
        · subst hpq
          have HT2 := HT.out rfl
          have HT3 : Hid (ls.take (k + 1) = ms.take (k + 1)) := HT2
          clear HT2
          go_wp2
          go_region_with (go_at_call 16; refine (sameBytes_any x y p p _ hsx2 hsy2 hox hoy).mono ?_; rintro e w2 ⟨rfl, rfl⟩; simp only [beq_self_eq_true])
          all_goals
            go_wp2
            go_roundw
            case rel => exact ⟨k + 1, by omega, by go_num, HT3, hbd⟩
            case measure => simp [intOf]; omega
        · have HF := HN.out hpq
          have HFF : Hid ((ls == ms) = false) := HF
          have hbe : (p == q) = false := by rw [beq_eq_false_iff_ne]; exact hpq
          clear HF hpq HT
          go_wp2
          go_region_with (go_at_call 16; refine (sameBytes_any x y p q _ hsx2 hsy2 hox hoy).mono ?_; rintro e w2 ⟨rfl, rfl⟩; simp only [hbe])
          all_goals
            go_wp2
            go_ret
            exact ⟨by rw [HFF.out]; rfl, hbd⟩
      · have hke : k = n := by omega
        have HF : Hid ((ls == ms) = true) := by
          show _ = _
          have := HE.out
          rw [hke, ← HA.out, List.take_length, HA.out, ← HB.out, List.take_length] at this
          rw [this]
          simp
        clear hke HE
        go_wp2
        go_ret
        exact ⟨by rw [HF.out]; rfl, hbel⟩
  · have HF : Hid ((ls == ms) = false) := by
      show _ = _
      rw [beq_eq_false_iff_ne]
      intro e
      exact hne (by rw [e])
    have hbe : ((ls.length : Int) == (ms.length : Int)) = false := by rw [beq_eq_false_iff_ne]; omega
    clear h3 h3' h4 h4'
    go_enter Try.func18, Try.ntmps18
    go_wp2
    go_ret
    exact ⟨by rw [HF.out]; rfl, Below.refl _ _⟩
end Go.Proofs.Ytlfgnllmomeajaa
