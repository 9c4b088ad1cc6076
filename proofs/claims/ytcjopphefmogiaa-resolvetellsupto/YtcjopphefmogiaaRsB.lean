/- resolve: which backends may be, by the reference of layer 12. -/
import Derived.Test.YtcjopphefmogiaaRsA
namespace Go.Proofs.Ytcjopphefmogiaa
open Go.RowKit
set_option linter.unusedVariables false
set_option maxRecDepth 20000

theorem pany_take (f : Rp.Pt → Bool) (l : List Rp.Pt) (k : Nat) (h : k < l.length) : (l.take (k + 1)).any f = ((l.take k).any f || f (Rv.g l k)) := by
  rw [List.take_succ_eq_append_getElem h]
  simp only [List.any_append, List.any_cons, List.any_nil, Bool.or_false, Rv.g_at h]
theorem pany_at (f : Rp.Pt → Bool) (l : List Rp.Pt) (k : Nat) (h : k < l.length) (hf : f (Rv.g l k) = true) : l.any f = true := by
  rw [List.any_eq_true]
  exact ⟨Rv.g l k, by rw [Rv.g_at h]; exact List.getElem_mem _, hf⟩

theorem out_iff (x : Rp.Pt) : Rp.outside x = true ↔ x.1 < 0 ∨ 2147483647 < x.1 ∨ x.2 < 1 ∨ 16 < x.2 := by simp [Rp.outside, or_assoc]

theorem belowD_drewN {B : Nat} {w w' : World} (h : Below B w w') (n : Nat) : Below B w (w'.drewN n) := ⟨h.os, h.tape, h.output, h.size, h.block⟩

theorem rises_all {l : List Rp.Pt} (hs : ∀ i, 0 < i → i < l.length → (Rv.g l (i - 1)).1 < (Rv.g l i).1) : Rp.rises l = true := by
  unfold Rp.rises
  rw [List.all_eq_true]
  intro i hi
  rw [List.mem_range] at hi
  rcases Nat.eq_zero_or_pos i with rfl | h0
  · simp
  · simp only [decide_eq_true (hs i h0 hi), Bool.or_true]
theorem rises_not {l : List Rp.Pt} (i : Nat) (h0 : 0 < i) (h1 : i < l.length) (h : ¬ (Rv.g l (i - 1)).1 < (Rv.g l i).1) : Rp.rises l = false := by
  rw [← Bool.not_eq_true]
  intro hs
  unfold Rp.rises at hs
  rw [List.all_eq_true] at hs
  have := hs i (List.mem_range.2 h1)
  rw [decide_eq_false h] at this
  simp at this
  omega

set_option maxHeartbeats 1000000 in
theorem rcheck12_any (v : Value) (l : List Rp.Pt) (w : World) (hv : BS w v l) :
    Calls Try.prog 32 #[v] w fun e w' => e = .returned (.int .i64 (Rp.checkE l)) ∧ Below w.heap.size w w' := by
  have HV0 := hidD (fun (W : World) (b : Below w.heap.size w W) => hv.below b)
  obtain ⟨a, cap, rfl, h1, h2, h3, h4⟩ := id hv
  have HE : Hid (Rp.checkE l = if 32 < l.length then 3 else if l.any Rp.outside then 4 else if Rp.rises l then 0 else 6) := hidD rfl
  have HS1 := hidD (@rises_all l)
  have HS2 := hidD (@rises_not l)
  have HA := hidD (pany_take Rp.outside l)
  have HB := hidD (pany_at Rp.outside l)
  obtain ⟨N, hN⟩ : ∃ N, N = l.length := ⟨_, rfl⟩
  rw [← hN] at h1 HV0 ⊢
  unfold maxLen at h2
  have HN : Hid (N = l.length) := hN
  have HV := HV0
  clear HV0
  generalize Rp.checkE l = E at *
  generalize hq : l.any Rp.outside = o at *
  generalize Rp.rises l = B at *
  have HQ := hidD hq
  clear hN hv h3 h4 hq
  by_cases hlen : 32 < N
  · have hE : E = 3 := by rw [HE.out, if_pos (by rw [← HN.out]; exact hlen)]
    subst hE
    go_enter Try.func32, Try.ntmps32
    go_wp2
    go_ret
    exact ⟨rfl, Below.refl _ _⟩
  · have hE : Hid (E = if o then 4 else if B then 0 else 6) := by show E = _; rw [HE.out, if_neg (by rw [← HN.out]; exact hlen)]
    clear HE
    go_enter Try.func32, Try.ntmps32
    go_wp2_with fail
    go_loopw [3] (fun i wr => ∃ k : Nat, k ≤ N ∧ i = .int .i64 k ∧ Hid ((l.take k).any Rp.outside = false) ∧ Below w.heap.size w wr) (fun i _ => N - (intOf i).toNat)
    case atStart => exact ⟨0, Nat.zero_le _, rfl, hidD rfl, Below.refl _ _⟩
    case round =>
      obtain ⟨k, hk, rfl, hc, hbl⟩ := hrel
      by_cases hlt : k < N
      · obtain ⟨g, off, rfl, hg, hcell⟩ := BS.at (HV.out _ hbl) k (by have := HN.out; omega)
        obtain ⟨Q1, Q2⟩ := hcell k (by have := HN.out; omega)
        have HA2 := hidD (HA.out k (by have := HN.out; omega))
        have HB2 := hidD (HB.out k (by have := HN.out; omega))
        have HO := hidD (out_iff (Rv.g l k))
        clear hcell HS1 HS2 HA HB
        generalize Rv.g l k = x at *
        obtain ⟨x1, x2⟩ := x
        by_cases hx : x1 < 0 ∨ 2147483647 < x1 ∨ x2 < 1 ∨ 16 < x2
        · have ho : o = true := HB2.out (HO.out.2 hx)
          subst ho
          have HE2 : E = 4 := hE.out
          subst HE2
          by_cases d1 : x1 < 0
          · go_wp2
            go_ret
            exact ⟨rfl, hbl⟩
          · by_cases d2 : 2147483647 < x1
            · go_wp2
              go_ret
              exact ⟨rfl, hbl⟩
            · by_cases d3 : x2 < 1
              · go_wp2
                go_ret
                exact ⟨rfl, hbl⟩
              · have d4 : 16 < x2 := by omega
                go_wp2
                go_ret
                exact ⟨rfl, hbl⟩
        · have hc2 : Hid ((l.take (k + 1)).any Rp.outside = false) := by
            show (l.take (k + 1)).any Rp.outside = false
            rw [HA2.out, hc.out]
            rw [← Bool.not_eq_true]
            intro h
            exact hx (HO.out.1 (by simpa using h))
          have d1 : ¬ x1 < 0 := by omega
          have d2 : ¬ 2147483647 < x1 := by omega
          have d3 : ¬ x2 < 1 := by omega
          have d4 : ¬ 16 < x2 := by omega
          go_wp2
          exact ⟨⟨k + 1, by omega, by go_num, hc2, hbl⟩, by simp [intOf]; omega⟩
      · have hke : l.take k = l := List.take_of_length_le (by have := HN.out; omega)
        rw [hke, HQ.out] at hc
        have ho : o = false := hc.out
        subst ho
        have hE3 : Hid (E = if B then 0 else 6) := by show E = _; rw [hE.out]; rfl
        clear hE hke HA HB HQ hc
        go_wp2_with fail
        go_loopw [4] (fun i wr => ∃ k : Nat, 1 ≤ k ∧ (k ≤ N ∨ k = 1) ∧ i = .int .i64 k ∧ Hid (∀ j : Nat, j < k → 0 < j → (Rv.g l (j - 1)).1 < (Rv.g l j).1) ∧ Below w.heap.size w wr) (fun i _ => N - (intOf i).toNat)
        case atStart => exact ⟨1, by omega, .inr rfl, rfl, hidD (fun j h1 h2 => by omega), hbl⟩
        case round =>
          clear hbl
          obtain ⟨k, hk1, hk2, rfl, hc, hbl⟩ := hrel
          by_cases hlt : k < N
          · obtain ⟨g, off, rfl, hg, hcell⟩ := BS.at (HV.out _ hbl) k (by have := HN.out; omega)
            obtain ⟨J, hJ⟩ : ∃ J, J = k - 1 := ⟨_, rfl⟩
            have Q1 := (hcell k (by have := HN.out; omega)).1
            have Q3 := (hcell J (by have := HN.out; omega)).1
            have HU : Hid (¬ (Rv.g l J).1 < (Rv.g l k).1 → B = false) := hidD (fun h => HS2.out k (by omega) (by have := HN.out; omega) (by rw [← hJ]; omega))
            have HN2 : Hid ((Rv.g l J).1 < (Rv.g l k).1 → ∀ j : Nat, j < k + 1 → 0 < j → (Rv.g l (j - 1)).1 < (Rv.g l j).1) := hidD (fun h j h1 h2 => by
              by_cases hj : j = k
              · subst hj; rw [← hJ]; exact h
              · exact hc.out j (by omega) h2)
            clear hcell HS1 HS2
            generalize (Rv.g l k).1 = x at *
            generalize (Rv.g l J).1 = y at *
            have i1 : (k : Int) < (N : Int) := by omega
            have i3 : (J : Int) < (N : Int) := by omega
            have i4 : IntKind.i64.wrap ((k : Int) - 1) = (J : Int) := by rw [IntKind.wrap_i64]; omega
            have HJ := hidD hJ
            clear hJ
            by_cases hz : y < x
            · have hc2 := hidD (HN2.out hz)
              have hd : decide (x ≤ y) = false := decide_eq_false (by omega)
              go_wp2_with fail
              go_quiet (fail)
              go_wp2
              exact ⟨⟨k + 1, by omega, .inl (by omega), by go_num, hc2, belowD_drewN hbl _⟩, by simp [intOf]; omega⟩
            · have HB := HU.out hz
              subst HB
              have HE2 : E = 6 := hE3.out
              subst HE2
              have hd : x ≤ y := by omega
              go_wp2_with fail
              go_quiet (fail)
              go_wp2
              go_ret
              exact ⟨rfl, belowD_drewN hbl _⟩
          · have HB : B = true := HS1.out (fun i h0 h1 => hc.out i (by have := HN.out; omega) h0)
            subst HB
            have HE2 : E = 0 := hE3.out
            subst HE2
            go_wp2
            go_ret
            exact ⟨rfl, hbl⟩

end Go.Proofs.Ytcjopphefmogiaa
