/- ring: comparisons. -/
import Derived.Test.YtcpcnajifdicmaaRP
import Derived.OwnWalk
import Derived.RegionTactic
import Derived.BigQuiet
import Derived.Deep.QuietTactic
namespace Go.Proofs.Ytcpcnajifdicmaa
open Go.RowKit
set_option maxRecDepth 20000

def Rp.cmpI (x y : Int) : Int := if x < y then -1 else if y < x then 1 else 0
def Rp.cf (x y : Rp.Pt) : Int := if Rp.cmpI x.1 y.1 ≠ 0 then Rp.cmpI x.1 y.1 else Rp.cmpI x.2 y.2
theorem Rp.cf_lt (x y : Rp.Pt) : decide (Rp.cf x y < 0) = Rp.lt x y := by
  rw [Bool.eq_iff_iff, decide_eq_true_iff, Rp.lt_iff]
  unfold Rp.cf Rp.cmpI
  split <;> split at * <;> (try split at *) <;> (try split) <;> (try split at *) <;> omega

theorem nanU (x : Int) (w : World) : Calls Try.prog 71 #[.int .u64 x] w fun e w' => e = .returned (.bool false) ∧ w = w' := by
  go_enter Try.func71, Try.ntmps71
  go_wp2
  go_ret
  exact ⟨rfl, rfl⟩
theorem nanI (x : Int) (w : World) : Calls Try.prog 44 #[.int .i64 x] w fun e w' => e = .returned (.bool false) ∧ w = w' := by
  go_enter Try.func44, Try.ntmps44
  go_wp2
  go_ret
  exact ⟨rfl, rfl⟩
theorem compareU (x y : Int) (w : World) : Calls Try.prog 69 #[.int .u64 x, .int .u64 y] w fun e w' => e = .returned (.int .i64 (Rp.cmpI x y)) ∧ w = w' := by
  by_cases h1 : x < y
  · have hr : Rp.cmpI x y = -1 := by simp [Rp.cmpI, h1]
    rw [hr]
    clear hr
    go_enter Try.func69, Try.ntmps69
    go_wp2_with (go_at_call 71; refine (nanU _ _).mono ?_; rintro e w' ⟨rfl, rfl⟩)
    go_ret
    exact ⟨rfl, rfl⟩
  · by_cases h2 : y < x
    · have hr : Rp.cmpI x y = 1 := by simp [Rp.cmpI, h1, h2]
      rw [hr]
      clear hr
      go_enter Try.func69, Try.ntmps69
      go_wp2_with (go_at_call 71; refine (nanU _ _).mono ?_; rintro e w' ⟨rfl, rfl⟩)
      go_ret
      exact ⟨rfl, rfl⟩
    · have hr : Rp.cmpI x y = 0 := by simp [Rp.cmpI, h1, h2]
      rw [hr]
      clear hr
      go_enter Try.func69, Try.ntmps69
      go_wp2_with (go_at_call 71; refine (nanU _ _).mono ?_; rintro e w' ⟨rfl, rfl⟩)
      go_ret
      exact ⟨rfl, rfl⟩
theorem compareI (x y : Int) (w : World) : Calls Try.prog 29 #[.int .i64 x, .int .i64 y] w fun e w' => e = .returned (.int .i64 (Rp.cmpI x y)) ∧ w = w' := by
  by_cases h1 : x < y
  · have hr : Rp.cmpI x y = -1 := by simp [Rp.cmpI, h1]
    rw [hr]
    clear hr
    go_enter Try.func29, Try.ntmps29
    go_wp2_with (go_at_call 44; refine (nanI _ _).mono ?_; rintro e w' ⟨rfl, rfl⟩)
    go_ret
    exact ⟨rfl, rfl⟩
  · by_cases h2 : y < x
    · have hr : Rp.cmpI x y = 1 := by simp [Rp.cmpI, h1, h2]
      rw [hr]
      clear hr
      go_enter Try.func29, Try.ntmps29
      go_wp2_with (go_at_call 44; refine (nanI _ _).mono ?_; rintro e w' ⟨rfl, rfl⟩)
      go_ret
      exact ⟨rfl, rfl⟩
    · have hr : Rp.cmpI x y = 0 := by simp [Rp.cmpI, h1, h2]
      rw [hr]
      clear hr
      go_enter Try.func29, Try.ntmps29
      go_wp2_with (go_at_call 44; refine (nanI _ _).mono ?_; rintro e w' ⟨rfl, rfl⟩)
      go_ret
      exact ⟨rfl, rfl⟩

theorem hidD {p : Prop} (h : p) : Hid p := h
theorem belowD_drew {B : Nat} {w w' : World} (h : Below B w w') : Below B w w'.drew := ⟨h.os, h.tape, h.output, h.size, h.block⟩

theorem or2 (b : Nat) (x y : Int) (w : World) (h0 : w.cell? ⟨b, 0, none⟩ = some (.int .i64 x)) (h1 : w.cell? ⟨b, 1, none⟩ = some (.int .i64 y)) :
    Calls Try.prog 68 #[.slice (some ⟨b, 0, none⟩) 2 2] w fun e w' => e = .returned (.int .i64 (if x ≠ 0 then x else y)) ∧ w = w' := by
  obtain ⟨r, hr⟩ : ∃ r, r = (if x ≠ 0 then x else y) := ⟨_, rfl⟩
  rw [← hr]
  have HR := hidD hr
  clear hr
  go_enter Try.func68, Try.ntmps68
  go_wp2_with fail
  go_loopw [8] (fun i wr => ∃ k : Nat, k ≤ 2 ∧ i = .int .i64 k ∧ Hid ((1 ≤ k → x = 0) ∧ (2 ≤ k → y = 0)) ∧ w = wr) (fun i _ => 2 - (intOf i).toNat)
  case atStart => exact ⟨0, by omega, rfl, hidD ⟨by omega, by omega⟩, rfl⟩
  case round =>
    obtain ⟨k, hk, rfl, hx, rfl⟩ := hrel
    by_cases hk0 : k = 0
    · subst hk0
      by_cases hz : x = 0
      · subst hz
        go_wp2
        exact ⟨⟨1, by omega, by go_num, hidD ⟨fun _ => (by first | rfl | trivial), by omega⟩, (by first | rfl | trivial)⟩, by simp [intOf]⟩
      · have hb : (x != 0) = true := by simpa using hz
        go_wp2
        go_ret
        exact ⟨by rw [show r = x from HR.out.trans (if_pos hz)]; rfl, rfl⟩
    · by_cases hk1 : k = 1
      · subst hk1
        obtain rfl := hx.out.1 (by omega)
        by_cases hz : y = 0
        · subst hz
          go_wp2
          exact ⟨⟨2, by omega, by go_num, hidD ⟨fun _ => (by first | rfl | trivial), fun _ => (by first | rfl | trivial)⟩, (by first | rfl | trivial)⟩, by simp [intOf]⟩
        · have hb : (y != 0) = true := by simpa using hz
          go_wp2
          go_ret
          exact ⟨by rw [HR.out]; rfl, rfl⟩
      · obtain rfl : k = 2 := by omega
        obtain rfl := hx.out.1 (by omega)
        obtain rfl := hx.out.2 (by omega)
        go_wp2
        go_ret
        exact ⟨by rw [HR.out]; rfl, rfl⟩
end Go.Proofs.Ytcpcnajifdicmaa
