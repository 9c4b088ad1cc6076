/- Contracts of step, stepBack and More. -/
import Derived.Test.YtoadcaennlfadaaBase
import Derived.Laws.BitsAllLaws
namespace Go.Proofs.Ytoadcaennlfadaa
open Go.RowKit
set_option maxRecDepth 20000

theorem u32x (a b : Nat) (ha : a < 4294967296) (hb : b < 4294967296) : bits .xor .u32 (a : Int) (b : Int) = ((a ^^^ b : Nat) : Int) := u32_xor_nat a b ha hb
theorem u32not (b : Nat) (hb : b < 4294967296) : bits .xor .u32 IntKind.u32.max (b : Int) = ((4294967295 ^^^ b : Nat) : Int) := u32_xor_nat 4294967295 b (by decide) hb

set_option maxHeartbeats 400000 in
theorem step_any (x : Nat) (w : World) (hx : x < 4294967296) :
    Calls Try.prog 76 #[.int .u32 x] w fun e w' => e = .returned (.int .u32 (Pl.st x)) ∧ w = w' := by
  go_enter Try.func76, Try.ntmps76
  go_wp2
  go_ret
  refine ⟨ret_int ?_, rfl⟩
  have e1 : bits .and .u32 (x : Int) 1 = ((x % 2 : Nat) : Int) := by rw [show (1 : Int) = ((1 : Nat) : Int) from rfl, u32_and_nat x 1 hx (by decide), nat_mask1]
  have e2 : 3988292384 * ((x % 2 : Nat) : Int) % 4294967296 = ((3988292384 * (x % 2) : Nat) : Int) := by omega
  rw [e1, e2, show (x : Int) / 2 = ((x / 2 : Nat) : Int) by omega, u32x _ _ (by omega) (by omega)]
  rfl
set_option maxHeartbeats 400000 in
theorem more_any (c : Nat) (v : Value) (l : List Int) (w : World) (hx : c < 4294967296) (hs : Seg .u8 w v l) (ho : Pl.Octs l) :
    Calls Try.prog 75 #[.int .u32 c, v] w fun e w' => e = .returned (.int .u32 (4294967295 ^^^ Pl.run (4294967295 ^^^ c) l : Nat)) ∧ w = w' := by
  obtain ⟨a, cap, rfl, h1, h2, h3, h4⟩ := hs
  unfold maxLen at h2
  have hsg : IntKind.u32.signed = false := rfl
  have hnc := u32not c hx
  go_enter Try.func75, Try.ntmps75
  go_wp2
  go_loopw [5, 12] (fun a i wr => ∃ k : Nat, k ≤ l.length ∧ i = .int .i64 k ∧ a = .int .u32 (Pl.run (4294967295 ^^^ c) (l.take k)) ∧ w = wr) (fun _ i _ => l.length - (intOf i).toNat)
  case atStart => exact ⟨0, Nat.zero_le _, rfl, rfl, rfl⟩
  case round =>
    obtain ⟨k, hk, rfl, rfl, rfl⟩ := hrel
    clear hnc
    by_cases hlt : k < l.length
    · obtain ⟨b, off, rfl, hb, hc⟩ := seg_at (by omega) h3 h4
      have hck := hc k hlt
      have hx1 := ho (l.getD k 0) (by simp [List.getD, hlt])
      have hrl : Pl.run (4294967295 ^^^ c) (l.take k) < 4294967296 := Pl.run_lt (Pl.xlt (by decide) hx) (fun z hz => ho z (List.mem_of_mem_take hz))
      have HS : Hid (Pl.run (4294967295 ^^^ c) (l.take (k + 1)) = Pl.it 8 (Pl.run (4294967295 ^^^ c) (l.take k) ^^^ (l.getD k 0).toNat)) := by
        show _ = _
        rw [List.take_succ_eq_append_getElem hlt, Pl.run_snoc]
        simp [List.getD, hlt]
      obtain ⟨o, he⟩ : ∃ o : Nat, l.getD k 0 = o := ⟨_, (Int.toNat_of_nonneg hx1.1).symm⟩
      rw [he] at hck hx1 HS
      simp only [Int.toNat_natCast] at HS
      have ho1 : o ≤ 255 := by omega
      generalize Pl.run (4294967295 ^^^ c) (l.take k) = r at *
      have hxo := u32x r o hrl (by omega)
      have hro := Pl.xlt hrl (show o < 4294967296 by omega)
      clear hc h4 h3 ho he
      go_wp2
      go_loopw [5, 20] (fun a i wr => ∃ j : Nat, j ≤ 8 ∧ i = .int .i64 j ∧ a = .int .u32 (Pl.it j (r ^^^ o)) ∧ w = wr) (fun _ i _ => 8 - (intOf i).toNat)
      case atStart => exact ⟨0, Nat.zero_le _, rfl, rfl, rfl⟩
      case round =>
        obtain ⟨j, hj, rfl, rfl, rfl⟩ := hrel
        by_cases hjt : j < 8
        · go_wp2_with (go_at_call 76; refine (step_any _ w (Pl.it_lt hro)).mono ?_; rintro e w1 ⟨rfl, rfl⟩)
          go_roundw
          case rel => exact ⟨j + 1, by omega, by go_num, by rw [Pl.it_succ], trivial⟩
          case measure => simp [intOf]; omega
        · have hj8 : j = 8 := by omega
          subst hj8
          go_wp2
          go_roundw
          case rel => exact ⟨k + 1, by omega, by go_num, by rw [HS.out], trivial⟩
          case measure => simp [intOf]; omega
    · have hke : k = l.length := by omega
      subst hke
      rw [List.take_length]
      have hrl : Pl.run (4294967295 ^^^ c) l < 4294967296 := Pl.run_lt (Pl.xlt (by decide) hx) ho
      have hnc := u32not _ hrl
      go_wp2
      go_ret
      exact ⟨rfl, rfl⟩
end Go.Proofs.Ytoadcaennlfadaa
