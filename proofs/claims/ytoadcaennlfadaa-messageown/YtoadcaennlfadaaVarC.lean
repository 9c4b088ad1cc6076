/- Contracts of mayStand and Get. -/
import Derived.Test.YtoadcaennlfadaaVarB
namespace Go.Proofs.Ytoadcaennlfadaa
open Go.RowKit
set_option maxRecDepth 20000

set_option maxHeartbeats 400000 in
theorem mayStand_any (i : Nat) (c : Int) (w : World) (hi : i ≤ 9) :
    Calls Try.prog 74 #[.int .i64 i, .int .u8 c] w fun e w' => e = .returned (.bool (Pl.mayB i c)) ∧ w = w' := by
  by_cases h9 : i = 9
  · subst h9
    go_enter Try.func74, Try.ntmps74
    go_wp2
    go_ret
    exact ⟨ret_bool (by simp [Pl.mayB]), rfl⟩
  · have hb : ((i : Int) == 9) = false := by simp; omega
    by_cases h0 : i = 0
    · subst h0
      go_enter Try.func74, Try.ntmps74
      go_wp2
      go_ret
      exact ⟨ret_bool (by simp [Pl.mayB]), rfl⟩
    · have hb0 : ((i : Int) == 0) = false := by simp; omega
      go_enter Try.func74, Try.ntmps74
      go_wp2
      go_ret
      exact ⟨ret_bool (by simp [Pl.mayB, h9, h0]), rfl⟩

theorem getD_at {l : List Int} {i : Nat} (h : i < l.length) : l.getD i 0 = l[i] := by simp [List.getD, h]
theorem getD_mem {l : List Int} {i : Nat} (h : i < l.length) : l.getD i 0 ∈ l := by rw [getD_at h]; exact List.getElem_mem _

def trip (r : Int × Int × Int) : Value := .tuple #[.int .u64 r.1, .int .i64 r.2.1, .int .i64 r.2.2]

set_option maxHeartbeats 1000000 in
theorem get_any (v : Value) (l : List Int) (p : Int) (w : World) (hs : Seg .u8 w v l) (ho : ∀ z ∈ l, 0 ≤ z ∧ z ≤ 255) (hp0 : -9223372036854775808 ≤ p) (hp1 : p ≤ 9223372036854775807) :
    Calls Try.prog 67 #[v, .int .i64 p] w fun e w' => e = .returned (trip (Pl.getI l p)) ∧ w = w' := by
  obtain ⟨a, cap, rfl, h1, h2, h3, h4⟩ := hs
  unfold maxLen at h2
  by_cases hr : p < 0 ∨ (l.length : Int) < p
  · have HG : Hid (Pl.getI l p = (0, 0, 4)) := by show _ = _; unfold Pl.getI; rw [if_pos hr]
    rcases hr with hr | hr
    · go_enter Try.func67, Try.ntmps67
      go_wp2
      go_ret3
      exact ⟨by rw [HG.out]; rfl, rfl⟩
    · have hnn : ¬ p < 0 := by omega
      go_enter Try.func67, Try.ntmps67
      go_wp2
      go_ret3
      exact ⟨by rw [HG.out]; rfl, rfl⟩
  · have HG : Hid (Pl.getI l p = Pl.getS (l.drop p.toNat) 0 p 0) := by show _ = _; unfold Pl.getI; rw [if_neg hr]
    have hq0 : 0 ≤ p := by omega
    have hq1 : p ≤ (l.length : Int) := by omega
    clear hr
    obtain ⟨q, rfl⟩ := Int.eq_ofNat_of_zero_le hq0
    rw [Int.toNat_natCast] at HG
    have hq : q ≤ l.length := by omega
    by_cases hq2 : q = l.length
    · subst hq2
      have HG2 : Hid (Pl.getI l l.length = (0, 0, 8)) := by show _ = _; rw [HG.out]; simp [Pl.getS]
      have hz : l.length - l.length = 0 := by omega
      go_enter Try.func67, Try.ntmps67
      go_wp2
      all_goals
        refine wp_loop_rounds 1 ?_
        rw [rounds_succ]
        go_wp2
        go_ret3
        exact ⟨by rw [HG2.out]; rfl, rfl⟩
    · have hq3 : q < l.length := by omega
      have hcq : ¬ cap = q := by omega
      obtain ⟨b, off, rfl, hb, hc⟩ := seg_at (by omega) h3 h4
      clear h4 h3 hq2
      have hd1 : decide ((q : Int) < 0) = false := decide_eq_false (by omega)
      have hd2 : decide (l.length < q) = false := decide_eq_false (by omega)
      have hd3 : decide ((l.length : Int) < (q : Int)) = false := decide_eq_false (by omega)
      go_enter Try.func67, Try.ntmps67
      go_wp2
      go_loopw [7, 22] (fun n i wr => ∃ (k : Nat) (acc : Int), w = wr ∧ k ≤ l.length - q ∧ k ≤ 9 ∧ i = .int .i64 k ∧ n = .int .u64 acc ∧ 0 ≤ acc ∧ acc < Pl.sc k ∧ Hid (Pl.getI l q = Pl.getS (l.drop (q + k)) k (q + k) acc)) (fun _ i _ => l.length - q - (intOf i).toNat)
      case atStart => exact ⟨0, 0, rfl, Nat.zero_le _, by omega, rfl, rfl, by omega, by decide, by show _ = _; rw [HG.out]; simp⟩
      case round =>
        obtain ⟨k, acc, rfl, hk, hk9, rfl, rfl, ha0, ha1, HE⟩ := hrel
        by_cases hlt : k < l.length - q
        · have hck := hc (q + k) (by omega)
          have hox := ho (l.getD (q + k) 0) (getD_mem (by omega))
          have hdr : l.drop (q + k) = l.getD (q + k) 0 :: l.drop (q + (k + 1)) := by
            rw [List.drop_eq_getElem_cons (by omega), getD_at (by omega)]; rfl
          generalize hx : l.getD (q + k) 0 = c at *
          have HD : Hid (l.drop (q + k) = c :: l.drop (q + (k + 1))) := hdr
          clear hdr hx hc ho
          rw [← Nat.add_assoc] at hck
          obtain ⟨hc0, hc1⟩ := hox
          have hkb : (k : Int) ≤ 9 := by omega
          cases hmb : Pl.mayB k c
          · go_wp2_with (go_at_call 74; refine (mayStand_any k c _ hk9).mono ?_; rintro e w2 ⟨rfl, rfl⟩)
            go_ret3
            exact ⟨by rw [HE.out, HD.out]; simp [Pl.getS, hmb]; rfl, rfl⟩
          · have hor := Pl.or_step k acc c hk9 ha0 ha1 hmb
            by_cases h128 : c < 128
            · go_wp2_with (go_at_call 74; refine (mayStand_any k c _ hk9).mono ?_; rintro e w2 ⟨rfl, rfl⟩)
              go_ret3
              exact ⟨by rw [HE.out, HD.out]; simp only [Pl.getS]; rw [if_pos hmb, if_pos h128]; rfl, rfl⟩
            · have hk8 : k + 1 ≤ 9 := by
                by_cases h9 : k = 9
                · subst h9; have := Pl.mayB_nine hmb; omega
                · omega
              have hnx := Pl.acc_next k acc c ha0 ha1
              go_wp2_with (go_at_call 74; refine (mayStand_any k c _ hk9).mono ?_; rintro e w2 ⟨rfl, rfl⟩)
              go_roundw
              case rel =>
                have hR : Hid (Pl.getI l q = Pl.getS (l.drop (q + (k + 1))) (k + 1) (q + ((k + 1 : Nat) : Int)) (acc + c % 128 * Pl.sc k)) := by
                  show _ = _
                  rw [HE.out, HD.out]
                  simp only [Pl.getS]
                  rw [if_pos hmb, if_neg (by omega)]
                  congr 1
                exact ⟨k + 1, acc + c % 128 * Pl.sc k, by first | rfl | trivial, by omega, hk8, by go_num, rfl, hnx.1, hnx.2, hR⟩
              case measure => simp [intOf]; omega
        · have hke : q + k = l.length := by omega
          have HF : Hid (Pl.getI l q = (0, 0, 8)) := by show _ = _; rw [HE.out, List.drop_eq_nil_of_le (by omega)]; rfl
          clear hke
          go_wp2
          go_ret3
          exact ⟨by rw [HF.out]; rfl, rfl⟩
end Go.Proofs.Ytoadcaennlfadaa
