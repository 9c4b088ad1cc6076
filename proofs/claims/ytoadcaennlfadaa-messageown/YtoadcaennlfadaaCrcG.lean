/- The reference: run. -/
import Derived.Test.YtoadcaennlfadaaCrcC
namespace Go.Proofs.Ytoadcaennlfadaa
open Go.RowKit
set_option maxRecDepth 20000

theorem and1 (x : Nat) (hx : x < 4294967296) : bits .and .u32 (x : Int) 1 = ((x % 2 : Nat) : Int) := by
  rw [show (1 : Int) = ((1 : Nat) : Int) from rfl, u32_and_nat x 1 hx (by decide), nat_mask1]
theorem and1d (o k : Nat) (ho : o < 256) : bits .and .u32 ((o : Int) / 2 ^ k % 4294967296) 1 = ((o / 2 ^ k % 2 : Nat) : Int) := by
  have e : (o : Int) / 2 ^ k = ((o / 2 ^ k : Nat) : Int) := by rw [Int.natCast_ediv]; simp
  have hl : o / 2 ^ k < 256 := Nat.lt_of_le_of_lt (Nat.div_le_self _ _) ho
  have e2 : (o : Int) / 2 ^ k % 4294967296 = ((o / 2 ^ k : Nat) : Int) := by
    rw [e]
    generalize o / 2 ^ k = q at hl ⊢
    omega
  rw [e2, and1 _ (by omega)]

set_option maxHeartbeats 1000000 in
theorem rrun_any (c : Nat) (v : Value) (l : List Int) (w : World) (hx : c < 4294967296) (hs : Seg .u8 w v l) (ho : Pl.Octs l) :
    Calls Try.prog 70 #[.int .u32 c, v] w fun e w' => e = .returned (.int .u32 (Pl.run c l)) ∧ w = w' := by
  obtain ⟨a, cap, rfl, h1, h2, h3, h4⟩ := hs
  unfold maxLen at h2
  go_enter Try.func70, Try.ntmps70
  go_wp2
  go_loopw [0, 5] (fun a i wr => ∃ k : Nat, k ≤ l.length ∧ i = .int .i64 k ∧ a = .int .u32 (Pl.run c (l.take k)) ∧ w = wr) (fun _ i _ => l.length - (intOf i).toNat)
  case atStart => exact ⟨0, Nat.zero_le _, rfl, rfl, rfl⟩
  case round =>
    obtain ⟨k, hk, rfl, rfl, rfl⟩ := hrel
    by_cases hlt : k < l.length
    · obtain ⟨b, off, rfl, hb, hc⟩ := seg_at (by omega) h3 h4
      have hck := hc k hlt
      have hx1 := ho (l.getD k 0) (by simp [List.getD, hlt])
      have hrl : Pl.run c (l.take k) < 4294967296 := Pl.run_lt hx (fun z hz => ho z (List.mem_of_mem_take hz))
      obtain ⟨o, he⟩ : ∃ o : Nat, l.getD k 0 = o := ⟨_, (Int.toNat_of_nonneg hx1.1).symm⟩
      have HS : Hid (Pl.run c (l.take (k + 1)) = Pl.ro (Pl.run c (l.take k)) o 8) := by
        show _ = _
        rw [Pl.ro_eight _ _ (by omega), List.take_succ_eq_append_getElem hlt, Pl.run_snoc]
        have : l[k] = o := by rw [← he]; simp [List.getD, hlt]
        rw [this, Int.toNat_natCast]
      rw [he] at hck hx1
      have ho1 : o ≤ 255 := by omega
      generalize Pl.run c (l.take k) = r at *
      clear hc h4 h3 ho he
      go_wp2
      go_loopw [0, 6] (fun a i wr => ∃ j : Nat, j ≤ 8 ∧ i = .int .i64 j ∧ a = .int .u32 (Pl.ro r o j) ∧ w = wr) (fun _ i _ => 8 - (intOf i).toNat)
      case atStart => exact ⟨0, Nat.zero_le _, rfl, rfl, rfl⟩
      case round =>
        obtain ⟨j, hj, rfl, rfl, rfl⟩ := hrel
        have hjl : Pl.ro r o j < 4294967296 := Pl.ro_lt hrl
        by_cases hjt : j < 8
        · have hA := and1 _ hjl
          have hB := and1d o j (by omega)
          have HR : Hid (Pl.ro r o (j + 1) = Pl.rs (Pl.ro r o j) (o / 2 ^ j % 2)) := rfl
          generalize Pl.ro r o j = q at *
          generalize o / 2 ^ j % 2 = t at *
          have hxq : bits .xor .u32 ((q : Int) / 2) 3988292384 = ((q / 2 ^^^ 3988292384 : Nat) : Int) := u32x (q / 2) 3988292384 (by omega) (by decide)
          go_wp2
          · have hqt : ¬ q % 2 = t := by rename_i hh; simp at hh; omega
            go_roundw
            case rel => exact ⟨j + 1, by omega, by go_num, by rw [HR.out, Pl.rs, if_neg hqt], trivial⟩
            case measure => simp [intOf]; omega
          · have hqt : q % 2 = t := by rename_i hh; simp at hh; omega
            go_roundw
            case rel => exact ⟨j + 1, by omega, by go_num, by rw [HR.out, Pl.rs, if_pos hqt]; rfl, trivial⟩
            case measure => simp [intOf]; omega
        · obtain rfl : j = 8 := by omega
          go_wp2
          go_roundw
          case rel => exact ⟨k + 1, by omega, by go_num, by rw [HS.out], trivial⟩
          case measure => simp [intOf]; omega
    · have hke : k = l.length := by omega
      subst hke
      rw [List.take_length]
      go_wp2
      go_ret
      exact ⟨rfl, rfl⟩
end Go.Proofs.Ytoadcaennlfadaa
