/- The contract of the reference's Get. -/
import Derived.Test.YthakifpjdpknhaaCallsF
namespace Go.Proofs.Ythakifpjdpknhaa
open Go.RowKit

theorem wrap_u64 (x : Int) (h0 : 0 ≤ x) (h1 : x ≤ 18446744073709551615) : IntKind.u64.wrap x = x := by
  simp only [IntKind.wrap, IntKind.bits, IntKind.signed]
  simp
  omega

set_option maxHeartbeats 2000000 in
theorem rget_any (v : Value) (l : List Int) (p : Int) (w : World) (hs : Seg .u8 w v l) (ho : ∀ z ∈ l, 0 ≤ z ∧ z ≤ 255) (hp0 : -9223372036854775808 ≤ p) (hp1 : p ≤ 9223372036854775807) :
    Calls Try.prog 11 #[v, .int .i64 p] w fun e w' => e = .returned (trip (Pl.getI l p)) ∧ w = w' := by
  obtain ⟨a, cap, rfl, h1, h2, h3, h4⟩ := hs
  unfold maxLen at h2
  by_cases hr : p < 0 ∨ (l.length : Int) < p
  · have HG : Hid (Pl.getI l p = (0, 0, 4)) := by show _ = _; unfold Pl.getI; rw [if_pos hr]
    rcases hr with hr | hr
    · go_enter Try.func11, Try.ntmps11
      go_wp2
      go_ret3
      exact ⟨by rw [HG.out]; rfl, rfl⟩
    · have hnn : ¬ p < 0 := by omega
      go_enter Try.func11, Try.ntmps11
      go_wp2
      go_ret3
      exact ⟨by rw [HG.out]; rfl, rfl⟩
  · have HG : Hid (Pl.getI l p = Pl.getS (l.drop p.toNat) 0 p 0) := by show _ = _; unfold Pl.getI; rw [if_neg hr]
    have hq0 : 0 ≤ p := by omega
    have hq1 : p ≤ (l.length : Int) := by omega
    clear hr
    obtain ⟨q, rfl⟩ := Int.eq_ofNat_of_zero_le hq0
    rw [Int.toNat_natCast] at HG
    have hq : q ≤ l.length := by omega
    have hd1 : decide ((q : Int) < 0) = false := decide_eq_false (by omega)
    have hd2 : decide (l.length < q) = false := decide_eq_false (by omega)
    have hd3 : decide ((l.length : Int) < (q : Int)) = false := decide_eq_false (by omega)
    go_enter Try.func11, Try.ntmps11
    go_wp2
    go_loop [1, 7, 8, 9] (fun t n s i => ∃ (k : Nat) (acc : Int), q + k ≤ l.length ∧ k ≤ 9 ∧ t = .int .i64 ((q : Int) + (k : Int)) ∧ n = .int .u64 acc ∧ s = .int .u64 (Pl.sc k) ∧ i = .int .i64 k ∧ 0 ≤ acc ∧ acc < Pl.sc k ∧ Hid (Pl.getI l q = Pl.getS (l.drop (q + k)) k (q + k) acc)) (fun _ _ _ i => 9 - (intOf i).toNat)
    case atStart => exact ⟨0, 0, by omega, by omega, by simp, rfl, rfl, rfl, by omega, by decide, by show _ = _; rw [HG.out]; simp⟩
    case round =>
      obtain ⟨k, acc, hk, hk9, rfl, rfl, rfl, rfl, ha0, ha1, HE⟩ := hrel
      have hkb : (k : Int) ≤ 9 := by omega
      have hk10 : ((k : Int) == 10) = false := by simp; omega
      by_cases hend : q + k = l.length
      · have HF : Hid (Pl.getI l q = (0, 0, 8)) := by show _ = _; rw [HE.out, List.drop_eq_nil_of_le (by omega)]; rfl
        have hb : ((q : Int) + (k : Int) == (l.length : Int)) = true := by simp; omega
        have HX : Hid (q + k = l.length) := hend
        clear hend
        go_wp2
        go_ret3
        exact ⟨by rw [HF.out]; rfl, rfl⟩
      · have hb : ((q : Int) + (k : Int) == (l.length : Int)) = false := by simp; omega
        have hlt : q + k < l.length := by omega
        obtain ⟨b, off, rfl, hbb, hc⟩ := seg_at (by omega) h3 h4
        have hck := hc (q + k) (by omega)
        have hox := ho (l.getD (q + k) 0) (getD_mem (by omega))
        have hdr : l.drop (q + k) = l.getD (q + k) 0 :: l.drop (q + (k + 1)) := by
          rw [List.drop_eq_getElem_cons (by omega), getD_at (by omega)]; rfl
        generalize hx : l.getD (q + k) 0 = c at *
        have HD : Hid (l.drop (q + k) = c :: l.drop (q + (k + 1))) := hdr
        clear hdr hx hc ho h3 h4 hend
        obtain ⟨hc0, hc1⟩ := hox
        cases hmb : Pl.mayB k c
        · have HF : Hid (Pl.getI l q = (0, 0, 21)) := by show _ = _; rw [HE.out, HD.out]; simp [Pl.getS, hmb]
          have hcs : (k = 9 ∧ 1 < c % 128) ∨ (k = 9 ∧ c % 128 ≤ 1 ∧ 128 ≤ c) ∨ (1 ≤ k ∧ c = 0) := by
            unfold Pl.mayB at hmb
            by_cases h9 : k = 9
            · rw [if_pos h9] at hmb; simp at hmb; omega
            · rw [if_neg h9] at hmb; simp at hmb; omega
          clear hmb
          rcases hcs with ⟨rfl, hx⟩ | ⟨rfl, hx, hy⟩ | ⟨hx, rfl⟩
          · go_wp2
            go_ret3
            exact ⟨by rw [HF.out]; rfl, rfl⟩
          · have hdc : decide (c < 128) = false := decide_eq_false (by omega)
            go_wp2
            go_ret3
            exact ⟨by rw [HF.out]; rfl, rfl⟩
          · have hkp : (0 : Int) < (k : Int) := by omega
            by_cases h9 : k = 9
            · subst h9
              go_wp2
              go_ret3
              exact ⟨by rw [HF.out]; rfl, rfl⟩
            · have hb9 : ((k : Int) == 9) = false := by simp; omega
              go_wp2
              go_ret3
              exact ⟨by rw [HF.out]; rfl, rfl⟩
        · have hw1 := Pl.dig_lt k c hk9 hmb
          have hw2 := Pl.acc_bd k acc c hk9 ha0 ha1 hmb
          have hw3 := Pl.acc_next k acc c ha0 ha1
          have hm0 : 0 ≤ c % 128 * Pl.sc k := Int.mul_nonneg (by omega) (by have := Pl.sc_pos k; omega)
          have hm1 : IntKind.u64.wrap (c % 128 * Pl.sc k) = c % 128 * Pl.sc k := wrap_u64 _ hm0 (by omega)
          have hm2 : IntKind.u64.wrap (acc + c % 128 * Pl.sc k) = acc + c % 128 * Pl.sc k := wrap_u64 _ hw3.1 hw2
          by_cases h128 : c < 128
          · have HF : Hid (Pl.getI l q = (acc + c % 128 * Pl.sc k, (q : Int) + (k : Int) + 1, 0)) := by show _ = _; rw [HE.out, HD.out]; simp only [Pl.getS]; rw [if_pos hmb, if_pos h128]
            have hdc : decide (c < 128) = true := decide_eq_true h128
            by_cases h9 : k = 9
            · subst h9
              have hc1' := Pl.mayB_nine hmb
              have hg1 : decide (1 < c % 128) = false := decide_eq_false (by omega)
              have hg2 : (c % 128 == 0) = false := by simp; omega
              clear hmb hw1 hw2 hw3 hm0 hc1'
              go_wp2
              go_ret3
              exact ⟨by rw [HF.out]; rfl, rfl⟩
            · have hb9 : ((k : Int) == 9) = false := by simp; omega
              by_cases hc : c = 0
              · have hk0 : k = 0 := by
                  unfold Pl.mayB at hmb
                  rw [if_neg h9] at hmb
                  simp at hmb
                  omega
                have hkz : (k : Int) ≤ 0 := by omega
                have hkd : decide (0 < k) = false := decide_eq_false (by omega)
                have hg2 : (c % 128 == 0) = true := by simp [hc]
                clear hmb hw1 hw2 hw3 hm0 hc h9 hk0
                go_wp2
                go_ret3
                exact ⟨by rw [HF.out]; rfl, rfl⟩
              · have hg2 : (c % 128 == 0) = false := by simp; omega
                clear hmb hw1 hw2 hw3 hm0 hc h9
                go_wp2
                go_ret3
                exact ⟨by rw [HF.out]; rfl, rfl⟩
          · have hdc : decide (c < 128) = false := decide_eq_false h128
            have hk8 : k + 1 ≤ 9 := by
              by_cases h9 : k = 9
              · subst h9; have := Pl.mayB_nine hmb; omega
              · omega
            have hb9 : ((k : Int) == 9) = false := by simp; omega
            have hm3 : IntKind.u64.wrap (Pl.sc k * 128) = Pl.sc (k + 1) := by
              have e : Pl.sc k * 128 = Pl.sc (k + 1) := by simp only [Pl.sc]; omega
              rw [e]
              refine wrap_u64 _ (by have := Pl.sc_pos (k + 1); omega) ?_
              rw [Pl.sc_pow]
              have : 2 ^ (7 * (k + 1)) ≤ 2 ^ 63 := Nat.pow_le_pow_right (by decide) (by omega)
              have h4 : 2 ^ 63 = 9223372036854775808 := by decide
              omega
            have hR : Hid (Pl.getI l q = Pl.getS (l.drop (q + (k + 1))) (k + 1) (q + ((k + 1 : Nat) : Int)) (acc + c % 128 * Pl.sc k)) := by
              show _ = _
              rw [HE.out, HD.out]
              simp only [Pl.getS]
              rw [if_pos hmb, if_neg (by omega)]
              congr 1
            have HM : Hid (Pl.mayB k c = true) := hmb
            have HW : Hid (0 ≤ acc + c % 128 * Pl.sc k ∧ acc + c % 128 * Pl.sc k < Pl.sc (k + 1)) := hw3
            clear hmb hw1 hw2 hw3 hm0
            go_wp2
            go_round
            case rel => exact ⟨k + 1, acc + c % 128 * Pl.sc k, by omega, hk8, by go_num, rfl, rfl, by go_num, HW.out.1, HW.out.2, hR⟩
            case measure => simp [intOf]; omega
end Go.Proofs.Ythakifpjdpknhaa
