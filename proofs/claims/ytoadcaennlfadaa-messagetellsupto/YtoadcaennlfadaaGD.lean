/- Contracts of step, stepBack and More. Contracts of Sum and alive. The contract of Unlike. The reference: run. The reference: Sum, More, Back. -/
import Derived.Test.YtoadcaennlfadaaBase
import Derived.Laws.BitsAllLaws
import Derived.Lib.SlBytesConst
import Derived.Laws.ShiftsVarLaws
namespace Go.Proofs.Ytoadcaennlfadaa
open Go.RowKit
set_option maxRecDepth 20000

theorem u32x (a b : Nat) (ha : a < 4294967296) (hb : b < 4294967296) : bits .xor .u32 (a : Int) (b : Int) = ((a ^^^ b : Nat) : Int) := u32_xor_nat a b ha hb
theorem u32not (b : Nat) (hb : b < 4294967296) : bits .xor .u32 IntKind.u32.max (b : Int) = ((4294967295 ^^^ b : Nat) : Int) := u32_xor_nat 4294967295 b (by decide) hb

set_option maxHeartbeats 400000 in
theorem step_any (x : Nat) (w : World) (hx : x < 4294967296) :
    Calls Try.prog 76 #[.int .u32 x] w fun e w' => e = .returned (.int .u32 (Pl.st x)) ∧ w = w' := by
  go_enter Try.func76, Try.ntmps76
  go_wp2
  go_ret
  refine ⟨ret_int ?_, rfl⟩
  have e1 : bits .and .u32 (x : Int) 1 = ((x % 2 : Nat) : Int) := by rw [show (1 : Int) = ((1 : Nat) : Int) from rfl, u32_and_nat x 1 hx (by decide), nat_mask1]
  have e2 : 3988292384 * ((x % 2 : Nat) : Int) % 4294967296 = ((3988292384 * (x % 2) : Nat) : Int) := by omega
  rw [e1, e2, show (x : Int) / 2 = ((x / 2 : Nat) : Int) by omega, u32x _ _ (by omega) (by omega)]
  rfl
set_option maxHeartbeats 400000 in
theorem more_any (c : Nat) (v : Value) (l : List Int) (w : World) (hx : c < 4294967296) (hs : Seg .u8 w v l) (ho : Pl.Octs l) :
    Calls Try.prog 75 #[.int .u32 c, v] w fun e w' => e = .returned (.int .u32 (4294967295 ^^^ Pl.run (4294967295 ^^^ c) l : Nat)) ∧ w = w' := by
  obtain ⟨a, cap, rfl, h1, h2, h3, h4⟩ := hs
  unfold maxLen at h2
  have hsg : IntKind.u32.signed = false := rfl
  have hnc := u32not c hx
  go_enter Try.func75, Try.ntmps75
  go_wp2
  go_loopw [5, 12] (fun a i wr => ∃ k : Nat, k ≤ l.length ∧ i = .int .i64 k ∧ a = .int .u32 (Pl.run (4294967295 ^^^ c) (l.take k)) ∧ w = wr) (fun _ i _ => l.length - (intOf i).toNat)
  case atStart => exact ⟨0, Nat.zero_le _, rfl, rfl, rfl⟩
  case round =>
    obtain ⟨k, hk, rfl, rfl, rfl⟩ := hrel
    clear hnc
    by_cases hlt : k < l.length
    · obtain ⟨b, off, rfl, hb, hc⟩ := seg_at (by omega) h3 h4
      have hck := hc k hlt
      have hx1 := ho (l.getD k 0) (by simp [List.getD, hlt])
      have hrl : Pl.run (4294967295 ^^^ c) (l.take k) < 4294967296 := Pl.run_lt (Pl.xlt (by decide) hx) (fun z hz => ho z (List.mem_of_mem_take hz))
      have HS : Hid (Pl.run (4294967295 ^^^ c) (l.take (k + 1)) = Pl.it 8 (Pl.run (4294967295 ^^^ c) (l.take k) ^^^ (l.getD k 0).toNat)) := by
        show _ = _
        rw [List.take_succ_eq_append_getElem hlt, Pl.run_snoc]
        simp [List.getD, hlt]
      obtain ⟨o, he⟩ : ∃ o : Nat, l.getD k 0 = o := ⟨_, (Int.toNat_of_nonneg hx1.1).symm⟩
      rw [he] at hck hx1 HS
      simp only [Int.toNat_natCast] at HS
      have ho1 : o ≤ 255 := by omega
      generalize Pl.run (4294967295 ^^^ c) (l.take k) = r at *
      have hxo := u32x r o hrl (by omega)
      have hro := Pl.xlt hrl (show o < 4294967296 by omega)
      clear hc h4 h3 ho he
      go_wp2
      go_loopw [5, 20] (fun a i wr => ∃ j : Nat, j ≤ 8 ∧ i = .int .i64 j ∧ a = .int .u32 (Pl.it j (r ^^^ o)) ∧ w = wr) (fun _ i _ => 8 - (intOf i).toNat)
      case atStart => exact ⟨0, Nat.zero_le _, rfl, rfl, rfl⟩
      case round =>
        obtain ⟨j, hj, rfl, rfl, rfl⟩ := hrel
        by_cases hjt : j < 8
        · go_wp2_with (go_at_call 76; refine (step_any _ w (Pl.it_lt hro)).mono ?_; rintro e w1 ⟨rfl, rfl⟩)
          go_roundw
          case rel => exact ⟨j + 1, by omega, by go_num, by rw [Pl.it_succ], trivial⟩
          case measure => simp [intOf]; omega
        · have hj8 : j = 8 := by omega
          subst hj8
          go_wp2
          go_roundw
          case rel => exact ⟨k + 1, by omega, by go_num, by rw [HS.out], trivial⟩
          case measure => simp [intOf]; omega
    · have hke : k = l.length := by omega
      subst hke
      rw [List.take_length]
      have hrl : Pl.run (4294967295 ^^^ c) l < 4294967296 := Pl.run_lt (Pl.xlt (by decide) hx) ho
      have hnc := u32not _ hrl
      go_wp2
      go_ret
      exact ⟨rfl, rfl⟩
end Go.Proofs.Ytoadcaennlfadaa

namespace Go.Proofs.Ytoadcaennlfadaa
open Go.RowKit
set_option maxRecDepth 20000

def Pl.sumOf (l : List Int) : Nat := 4294967295 ^^^ Pl.run 4294967295 l
def Pl.moreOf (c : Nat) (l : List Int) : Nat := 4294967295 ^^^ Pl.run (4294967295 ^^^ c) l
theorem Pl.moreOf_lt {c : Nat} {l : List Int} (hc : c < 4294967296) (h : Pl.Octs l) : Pl.moreOf c l < 4294967296 := Pl.xlt (by decide) (Pl.run_lt (Pl.xlt (by decide) hc) h)
theorem Pl.sumOf_lt {l : List Int} (h : Pl.Octs l) : Pl.sumOf l < 4294967296 := Pl.xlt (by decide) (Pl.run_lt (by decide) h)
theorem Pl.sumOf_nil : Pl.sumOf [] = 0 := by decide
theorem Pl.moreOf_sum (l m : List Int) : Pl.moreOf (Pl.sumOf l) m = Pl.sumOf (l ++ m) := by
  unfold Pl.moreOf Pl.sumOf
  rw [Pl.xx, Pl.run_app]

/-- A slice of texts. -/
def Segs (w : World) (v : Value) (ls : List (List Int)) : Prop :=
  ∃ (b off cap : Nat), v = .slice (some ⟨b, off, none⟩) ls.length cap ∧ ls.length ≤ cap ∧ cap ≤ maxLen ∧
    ∀ i, i < ls.length → ∃ u, w.cell? ⟨b, off + i, none⟩ = some u ∧ Seg .u8 w u (ls.getD i [])

theorem Segs.one {w : World} {v : Value} {l : List Int} (e : TypeId) (h : Seg .u8 w v l) : Segs (w.alloc (.cells #[v] e)) (.slice (some ⟨w.heap.size, 0, none⟩) 1 1) [l] := by
  refine ⟨w.heap.size, 0, 1, rfl, Nat.le_refl _, by unfold maxLen; omega, fun i hi => ⟨v, ?_, ?_⟩⟩
  · simp at hi
    subst hi
    simp
  · simp at hi
    subst hi
    exact h.below ((Below.refl _ _).alloc (Nat.le_refl _) _)
theorem Segs.two {w : World} {v u : Value} {l m : List Int} (e : TypeId) (h : Seg .u8 w v l) (k : Seg .u8 w u m) : Segs (w.alloc (.cells #[v, u] e)) (.slice (some ⟨w.heap.size, 0, none⟩) 2 2) [l, m] := by
  have hb : Below w.heap.size w (w.alloc (.cells #[v, u] e)) := (Below.refl _ _).alloc (Nat.le_refl _) _
  refine ⟨w.heap.size, 0, 2, rfl, Nat.le_refl _, by unfold maxLen; omega, fun i hi => ?_⟩
  simp at hi
  match i, hi with
  | 0, _ => exact ⟨v, by simp, h.below hb⟩
  | 1, _ => exact ⟨u, by simp, k.below hb⟩

set_option maxHeartbeats 400000 in
theorem sum_any (v : Value) (ls : List (List Int)) (w : World) (hs : Segs w v ls) (ho : ∀ l ∈ ls, Pl.Octs l) :
    Calls Try.prog 69 #[v] w fun e w' => e = .returned (.int .u32 (Pl.sumOf ls.flatten)) ∧ w = w' := by
  obtain ⟨b, off, cap, rfl, h1, h2, h4⟩ := hs
  unfold maxLen at h2
  go_enter Try.func69, Try.ntmps69
  go_wp2
  go_loopw [3, 8] (fun a i wr => ∃ k : Nat, k ≤ ls.length ∧ i = .int .i64 k ∧ a = .int .u32 (Pl.sumOf (ls.take k).flatten) ∧ w = wr) (fun _ i _ => ls.length - (intOf i).toNat)
  case atStart => exact ⟨0, Nat.zero_le _, rfl, by rw [List.take_zero, List.flatten_nil, Pl.sumOf_nil]; rfl, rfl⟩
  case round =>
    obtain ⟨k, hk, rfl, rfl, rfl⟩ := hrel
    by_cases hlt : k < ls.length
    · obtain ⟨u, hcu, hsu⟩ := h4 k hlt
      have hok := ho (ls.getD k []) (by simp [List.getD, hlt])
      have hot : Pl.Octs (ls.take k).flatten := by
        intro z hz
        obtain ⟨m, hm, hzm⟩ := List.mem_flatten.1 hz
        exact ho m (List.mem_of_mem_take hm) z hzm
      have hl := Pl.sumOf_lt hot
      have HS : Hid (Pl.sumOf (ls.take (k + 1)).flatten = Pl.moreOf (Pl.sumOf (ls.take k).flatten) (ls.getD k [])) := by
        show _ = _
        rw [Pl.moreOf_sum, List.take_succ_eq_append_getElem hlt, List.flatten_append]
        simp [List.getD, hlt]
      generalize Pl.sumOf (ls.take k).flatten = r at *
      generalize ls.getD k [] = m at *
      clear h4 ho
      obtain ⟨au, capu, rfl, g1, g2, g3, g4⟩ := id hsu
      go_wp2_with (go_at_call 75; refine (more_any r _ m w hl hsu hok).mono ?_; rintro e w1 ⟨rfl, rfl⟩)
      go_roundw
      case rel => exact ⟨k + 1, by omega, by go_num, by rw [HS.out]; rfl, trivial⟩
      case measure => simp [intOf]; omega
    · have hke : k = ls.length := by omega
      subst hke
      rw [List.take_length]
      go_wp2
      go_ret
      exact ⟨rfl, rfl⟩

/-- The sum of one text, and of two, as they are handed over. -/
theorem sum_one {w : World} {v : Value} {l : List Int} (n : Nat) (hn : w.heap.size = n) (h : Seg .u8 w v l) (ho : Pl.Octs l) :
    Calls Try.prog 69 #[.slice (some ⟨n, 0, none⟩) 1 1] (w.alloc (.cells #[v] 22)) fun e w' => e = .returned (.int .u32 (Pl.sumOf l)) ∧ w.alloc (.cells #[v] 22) = w' := by
  subst hn
  have := sum_any _ [l] _ (Segs.one 22 h) (by intro m hm; simp at hm; subst hm; exact ho)
  rw [show [l].flatten = l by simp] at this
  exact this
theorem sum_two {w : World} {v u : Value} {l m : List Int} (n : Nat) (hn : w.heap.size = n) (h : Seg .u8 w v l) (k : Seg .u8 w u m) (ho : Pl.Octs l) (hm : Pl.Octs m) :
    Calls Try.prog 69 #[.slice (some ⟨n, 0, none⟩) 2 2] (w.alloc (.cells #[v, u] 22)) fun e w' => e = .returned (.int .u32 (Pl.sumOf (l ++ m))) ∧ w.alloc (.cells #[v, u] 22) = w' := by
  subst hn
  have := sum_any _ [l, m] _ (Segs.two 22 h k) (by intro z hz; simp at hz; rcases hz with rfl | rfl <;> assumption)
  rw [show [l, m].flatten = l ++ m by simp] at this
  exact this

theorem seg_new {w : World} {l : List Int} (e : TypeId) (f : Nat × Nat) (hl : l.length ≤ 65536) : Seg .u8 (w.alloc (.cells (u8s l).toArray e f)) (.slice (some ⟨w.heap.size, 0, none⟩) l.length l.length) l := by
  refine ⟨some ⟨w.heap.size, 0, none⟩, l.length, rfl, Nat.le_refl _, by unfold maxLen; omega, fun h => (by cases h), fun x hx i hi => ?_⟩
  cases hx
  rw [add_plain]
  unfold World.cell? World.alloc
  simp [hi]

def nine : List Int := [49, 50, 51, 52, 53, 54, 55, 56, 57]
theorem octs_nine : Pl.Octs nine := by
  intro z hz
  simp [nine] at hz
  omega
theorem sum_nine : Pl.sumOf nine = 3421780262 := by decide +kernel

end Go.Proofs.Ytoadcaennlfadaa

namespace Go.Proofs.Ytoadcaennlfadaa
open Go.RowKit
set_option maxRecDepth 20000

theorem bit_test (t i : Nat) (ht : t < 4294967296) : (bits .and .u32 ((t : Int) / 2 ^ i) 1 == 1) = (t / 2 ^ i % 2 == 1) := by
  have e : (t : Int) / 2 ^ i = ((t / 2 ^ i : Nat) : Int) := by rw [Int.natCast_ediv]; simp
  have hl : t / 2 ^ i < 4294967296 := Nat.lt_of_le_of_lt (Nat.div_le_self _ _) ht
  rw [e, show (1 : Int) = ((1 : Nat) : Int) from rfl, u32_and_nat _ 1 hl (by decide), nat_mask1]
  rcases Nat.mod_two_eq_zero_or_one (t / 2 ^ i) with h | h <;> rw [h] <;> rfl

theorem ownsRow_drew {w : World} {B : Nat} {e : TypeId} {size : Nat} {v : Value} {n : Nat} {xs : List Value} (h : w.ownsRow B e size v n xs) : w.drew.ownsRow B e size v n xs :=
  h.kept (row := none) ⟨rfl, rfl, rfl, Nat.le_refl _, fun _ _ _ => rfl⟩ (by cases hv : v.ownBlock <;> simp)
theorem below_drew {B : Nat} {w w' : World} (h : Below B w w') : Below B w w'.drew := ⟨h.os, h.tape, h.output, h.size, h.block⟩
theorem ownsRow_lower {w : World} {B C : Nat} {e : TypeId} {size : Nat} {v : Value} {n : Nat} {xs : List Value} (h : w.ownsRow B e size v n xs) (hc : C ≤ B) : w.ownsRow C e size v n xs := by
  refine ⟨h.1, ?_⟩
  rcases h.2 with h | ⟨g, cap, cur, hv, hb, r⟩
  · exact .inl h
  · exact .inr ⟨g, cap, cur, hv, Nat.le_trans hc hb, r⟩

theorem flip_val {m : List Int} (ho : Pl.Octs m) (i j : Nat) (hi : i < m.length) : bits .xor .u8 (m[i]'hi) (2 ^ (j % 8) % 256) = (((m.getD i 0).toNat ^^^ 2 ^ (j % 8) : Nat) : Int) := by
  have hm : m.getD i 0 = m[i] := by simp [List.getD, hi]
  rw [hm]
  have h1 := ho m[i] (by simp)
  have h2 : 2 ^ (j % 8) < 2 ^ 8 := Nat.pow_lt_pow_right (by decide) (by omega)
  have e2 : (2 : Int) ^ (j % 8) % 256 = ((2 ^ (j % 8) : Nat) : Int) := by
    have : ((2 ^ (j % 8) : Nat) : Int) = (2 : Int) ^ (j % 8) := by simp
    rw [← this]
    clear this
    generalize 2 ^ (j % 8) = q at h2 ⊢
    omega
  obtain ⟨o, he⟩ : ∃ o : Nat, m[i] = o := ⟨_, (Int.toNat_of_nonneg h1.1).symm⟩
  rw [he] at h1 ⊢
  rw [e2, u8_xor_nat _ _ (by omega) (by omega)]
  simp
theorem ownsRow_flip {w : World} {B g cap n j : Nat} {m : List Int} {z : Int} (HV : Hid (z = (((m.getD (j / 8) 0).toNat ^^^ 2 ^ (j % 8) : Nat) : Int))) (h : w.ownsRow B 5 1 (.slice (some ⟨g, 0, none⟩) n cap) n ((u8s m).set (j / 8) (.int .u8 z))) :
    w.ownsRow B 5 1 (.slice (some ⟨g, 0, none⟩) n cap) n (u8s (Pl.flip m j)) := by
  rw [HV.out] at h
  unfold Pl.flip u8s
  rw [List.map_set]
  exact h

end Go.Proofs.Ytoadcaennlfadaa

namespace Go.Proofs.Ytoadcaennlfadaa
open Go.RowKit
set_option maxRecDepth 20000

theorem and1 (x : Nat) (hx : x < 4294967296) : bits .and .u32 (x : Int) 1 = ((x % 2 : Nat) : Int) := by
  rw [show (1 : Int) = ((1 : Nat) : Int) from rfl, u32_and_nat x 1 hx (by decide), nat_mask1]
theorem and1d (o k : Nat) (ho : o < 256) : bits .and .u32 ((o : Int) / 2 ^ k % 4294967296) 1 = ((o / 2 ^ k % 2 : Nat) : Int) := by
  have e : (o : Int) / 2 ^ k = ((o / 2 ^ k : Nat) : Int) := by rw [Int.natCast_ediv]; simp
  have hl : o / 2 ^ k < 256 := Nat.lt_of_le_of_lt (Nat.div_le_self _ _) ho
  have e2 : (o : Int) / 2 ^ k % 4294967296 = ((o / 2 ^ k : Nat) : Int) := by
    rw [e]
    generalize o / 2 ^ k = q at hl ⊢
    omega
  rw [e2, and1 _ (by omega)]

set_option maxHeartbeats 1000000 in
theorem rrun_any (c : Nat) (v : Value) (l : List Int) (w : World) (hx : c < 4294967296) (hs : Seg .u8 w v l) (ho : Pl.Octs l) :
    Calls Try.prog 70 #[.int .u32 c, v] w fun e w' => e = .returned (.int .u32 (Pl.run c l)) ∧ w = w' := by
  obtain ⟨a, cap, rfl, h1, h2, h3, h4⟩ := hs
  unfold maxLen at h2
  go_enter Try.func70, Try.ntmps70
  go_wp2
  go_loopw [0, 5] (fun a i wr => ∃ k : Nat, k ≤ l.length ∧ i = .int .i64 k ∧ a = .int .u32 (Pl.run c (l.take k)) ∧ w = wr) (fun _ i _ => l.length - (intOf i).toNat)
  case atStart => exact ⟨0, Nat.zero_le _, rfl, rfl, rfl⟩
  case round =>
    obtain ⟨k, hk, rfl, rfl, rfl⟩ := hrel
    by_cases hlt : k < l.length
    · obtain ⟨b, off, rfl, hb, hc⟩ := seg_at (by omega) h3 h4
      have hck := hc k hlt
      have hx1 := ho (l.getD k 0) (by simp [List.getD, hlt])
      have hrl : Pl.run c (l.take k) < 4294967296 := Pl.run_lt hx (fun z hz => ho z (List.mem_of_mem_take hz))
      obtain ⟨o, he⟩ : ∃ o : Nat, l.getD k 0 = o := ⟨_, (Int.toNat_of_nonneg hx1.1).symm⟩
      have HS : Hid (Pl.run c (l.take (k + 1)) = Pl.ro (Pl.run c (l.take k)) o 8) := by
        show _ = _
        rw [Pl.ro_eight _ _ (by omega), List.take_succ_eq_append_getElem hlt, Pl.run_snoc]
        have : l[k] = o := by rw [← he]; simp [List.getD, hlt]
        rw [this, Int.toNat_natCast]
      rw [he] at hck hx1
      have ho1 : o ≤ 255 := by omega
      generalize Pl.run c (l.take k) = r at *
      clear hc h4 h3 ho he
      go_wp2
      go_loopw [0, 6] (fun a i wr => ∃ j : Nat, j ≤ 8 ∧ i = .int .i64 j ∧ a = .int .u32 (Pl.ro r o j) ∧ w = wr) (fun _ i _ => 8 - (intOf i).toNat)
      case atStart => exact ⟨0, Nat.zero_le _, rfl, rfl, rfl⟩
      case round =>
        obtain ⟨j, hj, rfl, rfl, rfl⟩ := hrel
        have hjl : Pl.ro r o j < 4294967296 := Pl.ro_lt hrl
        by_cases hjt : j < 8
        · have hA := and1 _ hjl
          have hB := and1d o j (by omega)
          have HR : Hid (Pl.ro r o (j + 1) = Pl.rs (Pl.ro r o j) (o / 2 ^ j % 2)) := rfl
          generalize Pl.ro r o j = q at *
          generalize o / 2 ^ j % 2 = t at *
          have hxq : bits .xor .u32 ((q : Int) / 2) 3988292384 = ((q / 2 ^^^ 3988292384 : Nat) : Int) := u32x (q / 2) 3988292384 (by omega) (by decide)
          go_wp2
          · have hqt : ¬ q % 2 = t := by rename_i hh; simp at hh; omega
            go_roundw
            case rel => exact ⟨j + 1, by omega, by go_num, by rw [HR.out, Pl.rs, if_neg hqt], trivial⟩
            case measure => simp [intOf]; omega
          · have hqt : q % 2 = t := by rename_i hh; simp at hh; omega
            go_roundw
            case rel => exact ⟨j + 1, by omega, by go_num, by rw [HR.out, Pl.rs, if_pos hqt]; rfl, trivial⟩
            case measure => simp [intOf]; omega
        · obtain rfl : j = 8 := by omega
          go_wp2
          go_roundw
          case rel => exact ⟨k + 1, by omega, by go_num, by rw [HS.out], trivial⟩
          case measure => simp [intOf]; omega
    · have hke : k = l.length := by omega
      subst hke
      rw [List.take_length]
      go_wp2
      go_ret
      exact ⟨rfl, rfl⟩
end Go.Proofs.Ytoadcaennlfadaa

namespace Go.Proofs.Ytoadcaennlfadaa
open Go.RowKit
set_option maxRecDepth 20000

set_option maxHeartbeats 400000 in
theorem rsum_any (v : Value) (l : List Int) (w : World) (hs : Seg .u8 w v l) (ho : Pl.Octs l) :
    Calls Try.prog 59 #[v] w fun e w' => e = .returned (.int .u32 (Pl.sumOf l)) ∧ w = w' := by
  have hsg : IntKind.u32.signed = false := rfl
  have hn := u32not _ (Pl.run_lt (c := 4294967295) (by decide) ho)
  obtain ⟨a, cap, rfl, k1, k2, k3, k4⟩ := id hs
  clear k1 k2 k3 k4
  go_enter Try.func59, Try.ntmps59
  go_wp2_with (go_at_call 70; refine (rrun_any 4294967295 _ l w (by decide) hs ho).mono ?_; rintro e w1 ⟨rfl, rfl⟩)
  go_ret
  exact ⟨rfl, rfl⟩

theorem and1u8 (o k : Nat) (ho : o < 256) : bits .and .u8 ((o : Int) / 2 ^ k) 1 = ((o / 2 ^ k % 2 : Nat) : Int) := by
  have e : (o : Int) / 2 ^ k = ((o / 2 ^ k : Nat) : Int) := by rw [Int.natCast_ediv]; simp
  have hl : o / 2 ^ k < 256 := Nat.lt_of_le_of_lt (Nat.div_le_self _ _) ho
  rw [e, show (1 : Int) = ((1 : Nat) : Int) from rfl, u8_and_nat _ 1 hl (by decide), nat_mask1]

theorem or1 (x : Nat) : bits .or .u32 ((x : Int) * 2 % 4294967296) 1 = ((x * 2 % 4294967296 + 1 : Nat) : Int) := by
  rw [show (x : Int) * 2 % 4294967296 = ((x * 2 % 4294967296 : Nat) : Int) by omega, show (1 : Int) = ((1 : Nat) : Int) from rfl, u32_or_nat _ _ (by omega) (by decide), nat_join 1 _ _ (by omega) (by decide)]

end Go.Proofs.Ytoadcaennlfadaa

