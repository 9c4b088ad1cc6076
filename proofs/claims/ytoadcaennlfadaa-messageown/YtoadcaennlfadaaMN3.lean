/- message: alive. -/
import Derived.Test.YtoadcaennlfadaaMN2
namespace Go.Proofs.Ytoadcaennlfadaa
open Go.RowKit
set_option maxRecDepth 20000

def mgA : Mg := ⟨8, 2, 3, 0, 0, 0, 0, 4, 0, 0, 0⟩
theorem ck_A : ckM mgA [] = 0 := by decide
theorem enc_A : encM mgA [] = [8, 3, 2, 4] := by decide
theorem dcm_A : dcm [8, 3, 2, 4] = (mgA, [], 0) := by kernel_rfl

set_option maxHeartbeats 2000000 in
theorem malive_any (w : World) : Calls Try.prog 26 #[] w fun e w' => e = .returned (.bool true) ∧ Below w.heap.size w w' := by
  have h1 := mEncode_ok mgA (.slice none 0 0) [] w (Seg.nil _ _) ck_A
  rw [enc_A] at h1
  have h2 := fun bv w hs => mDecode_any bv [8, 3, 2, 4] w hs (by decide) (by decide)
  rw [dcm_A] at h2
  simp only [Mg.val, mgA] at h1 h2
  go_enter Try.func26, Try.ntmps26
  go_wp2_with fail
  refine h1.mono ?_
  rintro e w1 ⟨v, rfl, ho, hb⟩
  have hs1 : Seg .u8 w1 v [8, 3, 2, 4] := Seg.own ho
  have h3 := h2 v w1 hs1
  have HS1 := hid hs1
  clear h1 h2 ho
  go_wp2_with fail
  refine h3.mono ?_
  rintro e w2 ⟨tv, rfl, ho2, hb2⟩
  obtain ⟨a5, c5, rfl⟩ := own_shape8 ho2
  have hs2 := HS1.out.below hb2
  have hb02 := hb.trans (hb2.mono hb.size)
  have hbf := hb02.alloc hb02.size (.cells ⟨mgA.cells (.slice a5 0 c5)⟩ 24)
  have hst := seg_string (hs2.below ((Below.refl _ w2).alloc (Nat.le_refl _) (.cells ⟨mgA.cells (.slice a5 0 c5)⟩ 24)))
  have e1 : strOf [8, 3, 2, 4] = ⟨#[8, 3, 2, 4]⟩ := rfl
  rw [e1] at hst
  obtain ⟨a, cap, hv, _⟩ := hs1
  simp only [List.length_cons, List.length_nil] at hv
  subst hv
  simp only [mgA, Mg.cells] at hst hbf
  clear h3 HS1 hs2 ho2 e1 hb hb2 hb02
  go_wp2_with (go_at_call 19; refine (num_any _ _).mono ?_; rintro e w3 ⟨rfl, rfl⟩)
  go_ret
  exact ⟨rfl, hbf⟩

theorem mEncode_any (x : Mg) (v : Value) (d : List Int) (w : World) (hs : Seg .u8 w v d) :
    Calls Try.prog 10 #[x.val v] w fun e w' => ∃ a n c, e = .returned (.tuple #[.slice a n c, .int .i64 (ckM x d)]) ∧ (ckM x d ≠ 0 → n = 0) ∧ Below w.heap.size w w' := by
  by_cases h : ckM x d = 0
  · refine (mEncode_ok x v d w hs h).mono ?_
    rintro e w' ⟨v', rfl, ho, hb⟩
    obtain ⟨a, c, rfl⟩ := own_shape8 ho
    exact ⟨a, _, c, by rw [h], fun hx => absurd h hx, hb⟩
  · refine (mEncode_bad x v d w hs h).mono ?_
    rintro e w' ⟨rfl, hb⟩
    exact ⟨none, 0, 0, rfl, fun _ => rfl, hb⟩

def sameM (x y : Mg) (d e : List Int) : Bool := (d == e) && (x.k == y.k) && (x.c == y.c) && (x.b == y.b) && (x.i == y.i) && (x.s == y.s) && (x.q == y.q) && (x.m == y.m) && (x.n == y.n) && (x.l == y.l) && (x.o == y.o) && (x.p == y.p)

end Go.Proofs.Ytoadcaennlfadaa
