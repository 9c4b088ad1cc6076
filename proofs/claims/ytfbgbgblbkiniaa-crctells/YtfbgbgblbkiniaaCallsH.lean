/- The reference: Sum, More, Back. -/
import Derived.Test.YtfbgbgblbkiniaaCallsG
namespace Go.Proofs.Ytfbgbgblbkiniaa
open Go.RowKit

set_option maxHeartbeats 400000 in
theorem rsum_any (v : Value) (l : List Int) (w : World) (hs : Seg .u8 w v l) (ho : Pl.Octs l) :
    Calls Try.prog 14 #[v] w fun e w' => e = .returned (.int .u32 (Pl.sumOf l)) ∧ w = w' := by
  have hsg : IntKind.u32.signed = false := rfl
  have hn := u32not _ (Pl.run_lt (c := 4294967295) (by decide) ho)
  obtain ⟨a, cap, rfl, k1, k2, k3, k4⟩ := id hs
  clear k1 k2 k3 k4
  go_enter Try.func14, Try.ntmps14
  go_wp2_with (go_at_call 26; refine (rrun_any 4294967295 _ l w (by decide) hs ho).mono ?_; rintro e w1 ⟨rfl, rfl⟩)
  go_ret
  exact ⟨rfl, rfl⟩

set_option maxHeartbeats 400000 in
theorem rmore_any (c : Nat) (v : Value) (l : List Int) (w : World) (hx : c < 4294967296) (hs : Seg .u8 w v l) (ho : Pl.Octs l) :
    Calls Try.prog 13 #[.int .u32 c, v] w fun e w' => e = .returned (.int .u32 (4294967295 ^^^ Pl.run (4294967295 ^^^ c) l : Nat)) ∧ w = w' := by
  have hsg : IntKind.u32.signed = false := rfl
  have hr : 4294967295 ^^^ c < 4294967296 := Pl.xlt (by decide) hx
  have hn0 := u32not _ hx
  have hn := u32not _ (Pl.run_lt hr ho)
  obtain ⟨a, cap, rfl, k1, k2, k3, k4⟩ := id hs
  clear k1 k2 k3 k4
  go_enter Try.func13, Try.ntmps13
  go_wp2_with (go_at_call 26; refine (rrun_any _ _ l w hr hs ho).mono ?_; rintro e w1 ⟨rfl, rfl⟩)
  go_ret
  exact ⟨rfl, rfl⟩

theorem and1u8 (o k : Nat) (ho : o < 256) : bits .and .u8 ((o : Int) / 2 ^ k) 1 = ((o / 2 ^ k % 2 : Nat) : Int) := by
  have e : (o : Int) / 2 ^ k = ((o / 2 ^ k : Nat) : Int) := by rw [Int.natCast_ediv]; simp
  have hl : o / 2 ^ k < 256 := Nat.lt_of_le_of_lt (Nat.div_le_self _ _) ho
  rw [e, show (1 : Int) = ((1 : Nat) : Int) from rfl, u8_and_nat _ 1 hl (by decide), nat_mask1]

theorem or1 (x : Nat) : bits .or .u32 ((x : Int) * 2 % 4294967296) 1 = ((x * 2 % 4294967296 + 1 : Nat) : Int) := by
  rw [show (x : Int) * 2 % 4294967296 = ((x * 2 % 4294967296 : Nat) : Int) by omega, show (1 : Int) = ((1 : Nat) : Int) from rfl, u32_or_nat _ _ (by omega) (by decide), nat_join 1 _ _ (by omega) (by decide)]

set_option maxHeartbeats 1000000 in
theorem rback_any (c : Nat) (v : Value) (l : List Int) (w : World) (hx : c < 4294967296) (hs : Seg .u8 w v l) (ho : Pl.Octs l) :
    Calls Try.prog 17 #[.int .u32 c, v] w fun e w' => e = .returned (.int .u32 (4294967295 ^^^ Pl.nur (4294967295 ^^^ c) l : Nat)) ∧ w = w' := by
  have hsg : IntKind.u32.signed = false := rfl
  have hr : 4294967295 ^^^ c < 4294967296 := Pl.xlt (by decide) hx
  have hn0 := u32not _ hx
  obtain ⟨a, cap, rfl, h1, h2, h3, h4⟩ := hs
  unfold maxLen at h2
  go_enter Try.func17, Try.ntmps17
  go_wp2
  clear hn0
  go_loopw [0, 5] (fun a i wr => ∃ (m : Nat) (z : Int), m ≤ l.length ∧ z + 1 = m ∧ i = .int .i64 z ∧ a = .int .u32 (Pl.nur (4294967295 ^^^ c) (l.drop m)) ∧ w = wr) (fun _ i _ => (intOf i + 1).toNat)
  case atStart => exact ⟨l.length, (l.length : Int) - 1, Nat.le_refl _, by omega, rfl, by rw [List.drop_length]; rfl, rfl⟩
  case round =>
    obtain ⟨m, z, hm, hz, rfl, rfl, rfl⟩ := hrel
    cases m with
    | zero =>
      have hz1 : z = -1 := by omega
      subst hz1
      rw [List.drop_zero]
      have hn := u32not _ (Pl.nur_lt hr ho)
      go_wp2
      go_ret
      exact ⟨rfl, rfl⟩
    | succ k =>
      have hz1 : z = (k : Int) := by omega
      subst hz1
      have hlt : k < l.length := by omega
      obtain ⟨b, off, rfl, hb, hc⟩ := seg_at (by omega) h3 h4
      have hck := hc k hlt
      have hx1 := ho (l.getD k 0) (by simp [List.getD, hlt])
      have hrl : Pl.nur (4294967295 ^^^ c) (l.drop (k + 1)) < 4294967296 := Pl.nur_lt hr (fun z hz => ho z (List.mem_of_mem_drop hz))
      obtain ⟨o, he⟩ : ∃ o : Nat, l.getD k 0 = o := ⟨_, (Int.toNat_of_nonneg hx1.1).symm⟩
      rw [he] at hck hx1
      have ho1 : o ≤ 255 := by omega
      have HS : Hid (Pl.nur (4294967295 ^^^ c) (l.drop k) = Pl.rbo (Pl.nur (4294967295 ^^^ c) (l.drop (k + 1))) o 8) := by
        show _ = _
        rw [Pl.rbo_eight' hrl (by omega), List.drop_eq_getElem_cons hlt, Pl.nur_cons]
        have : l[k] = o := by rw [← he]; simp [List.getD, hlt]
        rw [this, Int.toNat_natCast]
      generalize Pl.nur (4294967295 ^^^ c) (l.drop (k + 1)) = r at *
      clear hc h4 h3 ho he
      go_wp2
      go_loopw [0, 6] (fun a i wr => ∃ (j : Nat) (z : Int), j ≤ 8 ∧ z + j = 7 ∧ i = .int .i64 z ∧ a = .int .u32 (Pl.rbo r o j) ∧ w = wr) (fun _ i _ => (intOf i + 1).toNat)
      case atStart => exact ⟨0, 7, Nat.zero_le _, rfl, rfl, rfl, rfl⟩
      case round =>
        obtain ⟨j, z, hj, hz7, rfl, rfl, rfl⟩ := hrel
        have hjl : Pl.rbo r o j < 4294967296 := Pl.rbo_lt hrl
        by_cases hjt : j < 8
        · obtain ⟨t, ht⟩ : ∃ t : Nat, z = t := ⟨z.toNat, by omega⟩
          subst ht
          have hB := and1u8 o t (by omega)
          have HR : Hid (Pl.rbo r o (j + 1) = Pl.rb (Pl.rbo r o j) (o / 2 ^ t % 2)) := by
            have : 7 - j = t := by omega
            show _ = _
            rw [Pl.rbo, this]
          generalize Pl.rbo r o j = q at *
          have hu1 : o / 2 ^ t % 2 ≤ 1 := by omega
          generalize o / 2 ^ t % 2 = u at *
          have hxq : bits .xor .u32 (q : Int) 3988292384 = ((q ^^^ 3988292384 : Nat) : Int) := u32x q 3988292384 hjl (by decide)
          have hor : ∀ x : Nat, bits .or .u32 ((x : Int) * 2 % 4294967296) 1 = ((x * 2 % 4294967296 + 1 : Nat) : Int) := or1
          have hq2 : q / 2147483648 = 0 ∨ q / 2147483648 = 1 := by omega
          have hu2 : u = 0 ∨ u = 1 := by omega
          rcases hq2 with hd | hd
          · have hdb : ((q : Int) / 2147483648 == 1) = false := by simp; omega
            have hw1 : Hid (Pl.rw1 q = q) := by show _ = _; unfold Pl.rw1; rw [if_neg (by omega)]
            have hd0 : Hid (q / 2147483648 = 0) := hd
            have horq := hor q
            clear hd hor hxq
            rcases hu2 with rfl | rfl
            · go_wp2
              go_roundw
              case rel => exact ⟨j + 1, (t : Int) - 1, by omega, by omega, rfl, by rw [HR.out, Pl.rb, hw1.out, hd0.out, if_pos rfl]; rfl, trivial⟩
              case measure => simp [intOf]
            · go_wp2
              go_roundw
              case rel => exact ⟨j + 1, (t : Int) - 1, by omega, by omega, rfl, by rw [HR.out, Pl.rb, hw1.out, hd0.out, if_neg (by decide)]; rfl, trivial⟩
              case measure => simp [intOf]
          · have hdb : ((q : Int) / 2147483648 == 1) = true := by simp; omega
            have hw1 : Hid (Pl.rw1 q = q ^^^ 3988292384) := by show _ = _; unfold Pl.rw1; rw [if_pos hd]
            have hd0 : Hid (q / 2147483648 = 1) := hd
            have horq := hor (q ^^^ 3988292384)
            generalize q ^^^ 3988292384 = y at *
            clear hd hor
            rcases hu2 with rfl | rfl
            · go_wp2
              go_roundw
              case rel => exact ⟨j + 1, (t : Int) - 1, by omega, by omega, rfl, by rw [HR.out, Pl.rb, hw1.out, hd0.out, if_neg (by decide)]; rfl, trivial⟩
              case measure => simp [intOf]
            · go_wp2
              go_roundw
              case rel => exact ⟨j + 1, (t : Int) - 1, by omega, by omega, rfl, by rw [HR.out, Pl.rb, hw1.out, hd0.out, if_pos rfl]; rfl, trivial⟩
              case measure => simp [intOf]
        · obtain rfl : j = 8 := by omega
          go_wp2
          go_roundw
          case rel => exact ⟨k, (k : Int) - 1, by omega, by omega, rfl, by rw [HS.out], trivial⟩
          case measure => simp [intOf]
end Go.Proofs.Ytfbgbgblbkiniaa
