/- waybillplain: SameMsgs of lists that are one. -/
import Derived.Test.YtoadcaennlfadaaMF4
import Derived.Test.YtoadcaennlfadaaSM6
namespace Go.Proofs.Ytoadcaennlfadaa
open Go.RowKit
set_option maxRecDepth 20000

theorem MSeg.at {w : World} {a : Option Addr} {n cap : Nat} {ms : List (Mg × List Int)} (h : MSeg w (.slice a n cap) ms) (i : Nat) (x : Mg) (t : List Int) (hi : ms[i]? = some (x, t)) : ∃ g off dv, a = some ⟨g, off, none⟩ ∧ g < w.heap.size ∧ MCells w g (off + i * 12) x dv ∧ Seg .u8 w dv t := by
  obtain ⟨a', cap', hv, h1, h2, h3, h4⟩ := h
  simp only [Value.slice.injEq] at hv
  obtain ⟨rfl, _, rfl⟩ := hv
  have hl : 0 < ms.length := by have := (List.getElem?_eq_some_iff.1 hi).1; omega
  rcases a with _ | ⟨g, off, ar⟩
  · have := (h3 rfl).1
    subst this
    simp at hl
  · obtain ⟨rfl, k2, k3⟩ := h4 g off ar rfl hl
    obtain ⟨dv, c, s⟩ := k3 i (x, t) hi
    exact ⟨g, off, dv, rfl, k2, c, s⟩

theorem same_self (x : Mg) (v u : Value) (d : List Int) (w : World) (hv : Seg .u8 w v d) (hu : Seg .u8 w u d) (hd : ∀ z ∈ d, 0 ≤ z ∧ z ≤ 255) :
    Calls Try.prog 20 #[x.val v, x.val u] w fun r w' => r = .returned (.bool true) ∧ Below w.heap.size w w' :=
  same_12 x x v u d d w hv hu hd hd (by simp) (by simp) (by simp) (by simp) (by simp) (by simp) (by simp) (by simp) (by simp) (by simp) (by simp) (by simp)

set_option maxHeartbeats 8000000 in
theorem sameMsgs_true (v u : Value) (ms : List (Mg × List Int)) (w : World) (hv : MSeg w v ms) (hu : MSeg w u ms) (hdo : ∀ p ∈ ms, ∀ z ∈ p.2, 0 ≤ z ∧ z ≤ 255) :
    Calls Try.prog 21 #[v, u] w fun r w' => r = .returned (.bool true) ∧ Below w.heap.size w w' := by
  obtain ⟨a, cap, rfl, h1, h2, _⟩ := id hv
  obtain ⟨a2, cap2, rfl, k1, k2, _⟩ := id hu
  unfold maxLen at h2 k2
  obtain ⟨N, hN⟩ : ∃ N, N = ms.length := ⟨_, rfl⟩
  have HN := hid hN
  rw [← hN] at h1 k1 hv hu ⊢
  have HV := hid hv
  have HU := hid hu
  clear hN hv hu
  go_enter Try.func21, Try.ntmps21
  go_wp2_with fail
  go_loopw [5] (fun i wr => ∃ k : Nat, k ≤ N ∧ i = .int .i64 k ∧ Below w.heap.size w wr) (fun i _ => N - (intOf i).toNat)
  case atStart => exact ⟨0, Nat.zero_le _, rfl, Below.refl _ _⟩
  case round =>
    obtain ⟨k, hk, rfl, hbel⟩ := hrel
    by_cases hlt : k < N
    · obtain ⟨x, t, hp⟩ : ∃ x t, ms[k]? = some (x, t) := ⟨(ms[k]'(by have := HN.out; omega)).1, (ms[k]'(by have := HN.out; omega)).2, by rw [List.getElem?_eq_getElem (by have := HN.out; omega)]⟩
      obtain ⟨g, off, dv, rfl, hg, hc, hs⟩ := (HV.out.below hbel).at k x t hp
      obtain ⟨g2, off2, dv2, rfl, hg2, hc2, hs2⟩ := (HU.out.below hbel).at k x t hp
      have hdd := hdo _ (List.mem_of_getElem? hp)
      obtain ⟨r0, r1, r2, r3, r4, r5, r6, r7, r8, r9, r10, r11⟩ := hc
      obtain ⟨s0, s1, s2, s3, s4, s5, s6, s7, s8, s9, s10, s11⟩ := hc2
      have hsm := fun nq => same_self x dv dv2 t (wr.drewN nq) (hs.below (below_drewN (Below.refl _ _) nq)) (hs2.below (below_drewN (Below.refl _ _) nq)) hdd
      obtain ⟨da, dc, hdv, _⟩ := id hs
      obtain ⟨da2, dc2, hdv2, _⟩ := id hs2
      generalize t.length = TL at hdv hdv2
      subst hdv hdv2
      simp only [Mg.val] at hsm
      clear hs hs2 hdd hp
      go_wp2_with fail
      go_region_with (go_at_call 20; refine (hsm _).mono ?_; rintro e w1 ⟨rfl, b1⟩)
      all_goals
        go_wp2
        go_roundw
        case rel => exact ⟨k + 1, by omega, by go_num, (below_drewN hbel _).trans (b1.mono (Nat.le_trans hbel.size (Nat.le_refl _)))⟩
        case measure => simp [intOf]; omega
    · go_wp2
      go_ret
      exact ⟨rfl, hbel⟩
end Go.Proofs.Ytoadcaennlfadaa
