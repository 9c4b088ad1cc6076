/- Texts mixed: octets and Of; the reference's Mix, Unmix, Ints and Of. -/
import Derived.Test.YtcpcnajifdicmaaHE
namespace Go.Proofs.Ytcpcnajifdicmaa
open Go.RowKit
set_option maxRecDepth 20000

def bl (s : ByteArray) : List Nat := s.data.toList.map UInt8.toNat
theorem bl_length (s : ByteArray) : (bl s).length = s.size := by unfold bl; rw [List.length_map]; rfl
def Hp.oct (h : Nat) (z : Nat) : Nat := Hp.mT (h ^^^ z)
theorem Hp.oct_is (h : Nat) (z : Nat) : Hp.oct h z = Hp.mT (h ^^^ z) := rfl
theorem Hp.oct_lt (h : Nat) (z : Nat) : Hp.oct h z < 18446744073709551616 := Hp.mT_lt _
def Hp.text (h : Nat) (l : List Nat) : Nat := l.foldl Hp.oct h
theorem Hp.foldn_lt {f : Nat → Nat → Nat} {M : Nat} (hf : ∀ s z, f s z < M) : ∀ (l : List Nat) (s : Nat), s < M → l.foldl f s < M := by
  intro l
  induction l with
  | nil => intro s hs; exact hs
  | cons z l ih => intro s hs; exact ih _ (hf s z)
theorem Hp.foldn_snoc {f : Nat → Nat → Nat} (s : Nat) (l : List Nat) (z : Nat) : (l ++ [z]).foldl f s = f (l.foldl f s) z := by
  rw [List.foldl_append, List.foldl_cons, List.foldl_nil]
theorem Hp.text_lt {s : Nat} (hs : s < 18446744073709551616) (l : List Nat) : Hp.text s l < 18446744073709551616 := Hp.foldn_lt Hp.oct_lt l s hs
theorem Hp.text_snoc (s : Nat) (l : List Nat) (z : Nat) : Hp.text s (l ++ [z]) = Hp.oct (Hp.text s l) z := Hp.foldn_snoc s l z
theorem mulT (x : Nat) : IntKind.u64.wrap ((x : Int) * 1099511628211) = (Hp.mT x : Nat) := by
  rw [wrapU, Hp.mT]; omega
theorem bl_take {s : ByteArray} {k : Nat} (h : k < s.size) : (bl s).take (k + 1) = (bl s).take k ++ [s[k].toNat] := by
  have h' : k < (bl s).length := by rw [bl_length]; exact h
  rw [List.take_succ_eq_append_getElem h']
  congr 2
  simp [bl]
  rfl
theorem octW {m z : Nat} (hm : m < 18446744073709551616) (hz : z < 256) : IntKind.u64.wrap (bits .xor .u64 (m : Int) (z : Int) * 1099511628211) = (Hp.oct m z : Nat) := by
  rw [u64x _ _ hm (by omega), mulT, Hp.oct_is]

theorem timesA (x : Nat) (w : World) : Calls Try.prog 57 #[.int .u64 x, .int .u64 18397679294719823053] w fun e w' => e = .returned (.int .u64 (Hp.mA x : Nat)) ∧ w = w' := times_any x 18397679294719823053 w (by decide)
theorem timesB (x : Nat) (w : World) : Calls Try.prog 57 #[.int .u64 x, .int .u64 14181476777654086739] w fun e w' => e = .returned (.int .u64 (Hp.mB x : Nat)) ∧ w = w' := times_any x 14181476777654086739 w (by decide)
theorem timesT (x : Nat) (w : World) : Calls Try.prog 57 #[.int .u64 x, .int .u64 1099511628211] w fun e w' => e = .returned (.int .u64 (Hp.mT x : Nat)) ∧ w = w' := times_any x 1099511628211 w (by decide)
set_option maxHeartbeats 400000 in
theorem rmix_any (x : Nat) (w : World) (hx : x < 18446744073709551616) :
    Calls Try.prog 50 #[.int .u64 x] w fun e w' => e = .returned (.int .u64 (Hp.mix x : Nat)) ∧ w = w' := by
  have h1 := u64fold hx
  have h2 := u64fold (Hp.mA_lt (Hp.fold x))
  have h3 := u64fold (Hp.mB_lt (Hp.fold (Hp.mA (Hp.fold x))))
  have c1 := timesA (Hp.fold x) w
  have c2 := timesB (Hp.fold (Hp.mA (Hp.fold x))) w
  unfold Hp.mix
  generalize Hp.fold x = a1 at *
  generalize Hp.mA a1 = a2 at *
  generalize Hp.fold a2 = a3 at *
  generalize Hp.mB a3 = a4 at *
  generalize Hp.fold a4 = a5 at *
  go_enter Try.func50, Try.ntmps50
  go_wp2_with (go_at_call 57; (first | (with_reducible refine c1.mono ?_) | (with_reducible refine c2.mono ?_)); rintro e w1 ⟨rfl, rfl⟩)
  go_ret
  exact ⟨rfl, rfl⟩
set_option maxHeartbeats 400000 in
theorem rints_any (s : Nat) (v : Value) (l : List Int) (w : World) (hx : s < 18446744073709551616) (hs : Seg .i64 w v l) :
    Calls Try.prog 42 #[.int .u64 s, v] w fun e w' => e = .returned (.int .u64 (Hp.ints s l : Nat)) ∧ w = w' := by
  obtain ⟨a, cap, rfl, h1, h2, h3, h4⟩ := hs
  unfold maxLen at h2
  go_enter Try.func42, Try.ntmps42
  go_wp2
  go_loopw [0, 5] (fun a i wr => ∃ k : Nat, k ≤ l.length ∧ i = .int .i64 k ∧ a = .int .u64 (Hp.ints s (l.take k) : Nat) ∧ w = wr) (fun _ i _ => l.length - (intOf i).toNat)
  case atStart => exact ⟨0, Nat.zero_le _, rfl, rfl, rfl⟩
  case round =>
    obtain ⟨k, hk, rfl, rfl, rfl⟩ := hrel
    by_cases hlt : k < l.length
    · obtain ⟨b, off, rfl, hb, hc⟩ := seg_at (by omega) h3 h4
      have hck := hc k hlt
      have HS : Hid (Hp.ints s (l.take (k + 1)) = Hp.stepI (Hp.ints s (l.take k)) (l.getD k 0)) := by
        show _ = _
        rw [List.take_succ_eq_append_getElem hlt, Hp.ints_snoc]
        simp [List.getD, hlt]
      have hrl : Hp.ints s (l.take k) < 18446744073709551616 := Hp.ints_lt hx _
      have c1 := rmix_any _ w (Hp.add_lt (Hp.ints s (l.take k)) (l.getD k 0))
      rw [← Hp.stepI_is] at c1
      have hz := addU (Hp.ints s (l.take k)) (l.getD k 0)
      generalize Hp.ints s (l.take k) = r at *
      generalize l.getD k 0 = z at *
      generalize Hp.stepI r z = mz at *
      generalize Hp.add r z = az at *
      clear hc h4 h3
      go_wp2_with (go_at_call 50; (try rw [hz]); with_reducible refine c1.mono ?_; rintro e w1 ⟨rfl, rfl⟩)
      go_roundw
      case rel => exact ⟨k + 1, by omega, by go_num, by rw [HS.out], trivial⟩
      case measure => simp [intOf]; omega
    · have hke : k = l.length := by omega
      subst hke
      rw [List.take_length]
      go_wp2
      go_ret
      exact ⟨rfl, rfl⟩
end Go.Proofs.Ytcpcnajifdicmaa
