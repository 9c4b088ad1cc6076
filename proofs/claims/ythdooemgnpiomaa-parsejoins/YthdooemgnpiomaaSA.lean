/- Are types one? -/
import Derived.Test.YthdooemgnpiomaaRD
namespace Go.Proofs.Ythdooemgnpiomaa
open Go.RowKit

/-- A slice of one type, or of none. -/
def OfC (B : Nat) (w : World) (v : Value) (t : Option Pl.Ty) : Prop :=
  match t with
  | none => ∃ cap, v = .slice none 0 cap
  | some t => ∃ g x y z, v = .slice (some ⟨g, 0, none⟩) 1 1 ∧ Bx w g [x, y, z] 46 ∧ TyC B t w x y z

def inner : Pl.Ty → Option Pl.Ty
  | .plain _ => none
  | .named _ => none
  | .list t => some t
  | .opt t => some t
def kindOf : Pl.Ty → Int
  | .plain k => (k : Int)
  | .named _ => 8
  | .list _ => 6
  | .opt _ => 7
def nameOf : Pl.Ty → List Nat
  | .plain _ => []
  | .named n => n
  | .list _ => []
  | .opt _ => []

theorem TyC.parts {B : Nat} {t : Pl.Ty} {w : World} {a b c : Value} (h : TyC B t w a b c) : a = .int .i64 (kindOf t) ∧ (∃ s, b = .string s ∧ bl s = nameOf t) ∧ OfC B w c (inner t) := by
  cases t with
  | plain k => obtain ⟨rfl, rfl, rfl⟩ := h; exact ⟨rfl, ⟨_, rfl, rfl⟩, 0, rfl⟩
  | named x => obtain ⟨rfl, ⟨s, rfl, hs⟩, rfl⟩ := h; exact ⟨rfl, ⟨s, rfl, hs⟩, 0, rfl⟩
  | list t => obtain ⟨rfl, rfl, g, x, y, z, rfl, _, h4, h5⟩ := h; exact ⟨rfl, ⟨_, rfl, rfl⟩, g, x, y, z, rfl, h4, h5⟩
  | opt t => obtain ⟨rfl, rfl, g, x, y, z, rfl, _, h4, h5⟩ := h; exact ⟨rfl, ⟨_, rfl, rfl⟩, g, x, y, z, rfl, h4, h5⟩
theorem TyC.below {B : Nat} {t : Pl.Ty} {w w' : World} {a b c : Value} (h : TyC B t w a b c) (hb : Below w.heap.size w w') : TyC B t w' a b c :=
  TyC.ch (X := fun _ _ => False) (Ch.below hb) (fun _ _ h => h) _ _ _ _ h
theorem OfC.below {B : Nat} {w w' : World} {v : Value} {t : Option Pl.Ty} (h : OfC B w v t) (hb : Below w.heap.size w w') : OfC B w' v t := by
  cases t with
  | none => exact h
  | some t =>
    obtain ⟨g, x, y, z, h1, h2, h3⟩ := h
    exact ⟨g, x, y, z, h1, h2.below hb, h3.below hb⟩

set_option maxHeartbeats 1000000 in
theorem sameTypes_none (ca cb : Nat) (w : World) : Calls Try.prog 36 #[.slice none 0 ca, .slice none 0 cb] w fun e w' => e = .returned (.bool true) ∧ Below w.heap.size w w' := by
  go_enter Try.func36, Try.ntmps36
  go_wp2_with fail
  go_rounds 1
  go_ret
  exact ⟨rfl, Below.refl _ _⟩

set_option maxHeartbeats 16000000 in
set_option maxRecDepth 4000 in
theorem sameTypes_one (ga gb ca cb : Nat) (k : Int) (s : ByteArray) (oa ob : Value) (w : World) (ha : Bx w ga [.int .i64 k, .string s, oa] 46) (hb : Bx w gb [.int .i64 k, .string s, ob] 46) (sha : ∃ ad m cp, oa = .slice ad m cp) (shb : ∃ ad m cp, ob = .slice ad m cp)
    (hrec : ∀ W, Below w.heap.size w W → Calls Try.prog 36 #[oa, ob] W fun e w' => e = .returned (.bool true) ∧ Below W.heap.size W w') :
    Calls Try.prog 36 #[.slice (some ⟨ga, 0, none⟩) 1 ca, .slice (some ⟨gb, 0, none⟩) 1 cb] w fun e w' => e = .returned (.bool true) ∧ Below w.heap.size w w' := by
  have hga := ha.lt
  have hgb := hb.lt
  have a0 := ha.cell 0 rfl
  have a1 := ha.cell 1 rfl
  have a2 := ha.cell 2 rfl
  have b0 := hb.cell 0 rfl
  have b1 := hb.cell 1 rfl
  have b2 := hb.cell 2 rfl
  obtain ⟨ad, ma, cpa, rfl⟩ := sha
  obtain ⟨bd, mb, cpb, rfl⟩ := shb
  generalize hoa : Value.slice ad ma cpa = oa at *
  generalize hob : Value.slice bd mb cpb = ob at *
  clear ha hb
  go_enter Try.func36, Try.ntmps36
  go_wp2_with fail
  go_loopw [5] (fun i wr => (i = .int .i64 0 ∨ i = .int .i64 1) ∧ Below w.heap.size w wr) (fun i _ => 2 - (intOf i).toNat)
  case atStart => exact ⟨.inl rfl, Below.refl _ _⟩
  case round =>
    obtain ⟨hi, hbw⟩ := hrel
    rcases hi with rfl | rfl
    · go_wp2_with fail
      obtain ⟨val, hval⟩ : ∃ val : Nat → Value, val = fun jx => match jx with | 0 => .slice (some ⟨ga, 0, none⟩) 1 ca | 1 => .int .i64 (0 : Int) | 2 => .pointer (some ⟨ga, 0, none⟩) | 3 => .pointer (some ⟨ga, 0, none⟩) | 4 => .int .i64 k | 5 => .slice (some ⟨gb, 0, none⟩) 1 cb | 6 => .int .i64 (0 : Int) | 7 => .pointer (some ⟨gb, 0, none⟩) | 8 => .pointer (some ⟨gb, 0, none⟩) | 9 => .int .i64 k | 10 => .bool false | 11 => .bool false | 12 => .slice (some ⟨ga, 0, none⟩) 1 ca | 13 => .int .i64 (0 : Int) | 14 => .pointer (some ⟨ga, 0, none⟩) | 15 => .pointer (some ⟨ga, 1, none⟩) | 16 => .string s | 17 => .slice (some ⟨gb, 0, none⟩) 1 cb | 18 => .int .i64 (0 : Int) | 19 => .pointer (some ⟨gb, 0, none⟩) | 20 => .pointer (some ⟨gb, 1, none⟩) | 21 => .string s | 22 => .bool false | 23 => .bool false | 24 => .bool false | 25 => .slice (some ⟨ga, 0, none⟩) 1 ca | 26 => .int .i64 (0 : Int) | 27 => .pointer (some ⟨ga, 0, none⟩) | 28 => .pointer (some ⟨ga, 2, none⟩) | 29 => oa | 30 => .slice (some ⟨gb, 0, none⟩) 1 cb | 31 => .int .i64 (0 : Int) | 32 => .pointer (some ⟨gb, 0, none⟩) | 33 => .pointer (some ⟨gb, 2, none⟩) | 34 => ob | 35 => .bool true | 36 => .bool false | 37 => .bool false | _ => undef := ⟨_, rfl⟩
      refine wp_region_fixed (R := fun W => Below w.heap.size w W) val (by kernel_rfl) (by kernel_rfl) (by kernel_rfl) hbw.drew ?step ?done
      case step =>
        subst hval
        intro ix o ho A W hsz hdf hfr hdep hR
        rcases ix with _ | _ | _ | _ | _ | _ | _ | _ | _ | _ | _ | _ | _ | _ | _ | _ | _ | _ | _ | _ | _ | _ | _ | _ | _ | _ | _ | _ | _ | _ | _ | _ | _ | _ | _ | _ | _ | _ | ix
        · injection ho with ho
          subst ho
          have e0 : A.eval (.tmp 0) = .slice (some ⟨ga, 0, none⟩) 1 ca := (hfr 0 (noDst_spec (by kernel_rfl))).trans rfl
          exact gOp_mv rfl (wanted_plain rfl) (.inl rfl) e0 ⟨_, rfl, rfl, Below.refl _ _, hR⟩
        · injection ho with ho
          subst ho
          have e5 : A.eval (.tmp 5) = .int .i64 (0 : Int) := (hfr 5 (noDst_spec (by kernel_rfl))).trans rfl
          exact gOp_mv rfl (wanted_plain rfl) (.inl rfl) e5 ⟨_, rfl, rfl, Below.refl _ _, hR⟩
        · injection ho with ho
          subst ho
          have e17 : A.eval (.tmp 17) = .slice (some ⟨ga, 0, none⟩) 1 ca := hdep ⟨0, .data⟩ (by simp) rfl _ _ rfl rfl
          have e18 : A.eval (.tmp 18) = .int .i64 (0 : Int) := hdep ⟨1, .data⟩ (by simp) rfl _ _ rfl rfl
          exact gOp_ix (v := .pointer (some ⟨ga, 0, none⟩)) rfl (wanted_plain rfl) rfl e17 e18 (by go_simp) ⟨_, rfl, rfl, Below.refl _ _, hR⟩
        · injection ho with ho
          subst ho
          have e19 : A.eval (.tmp 19) = .pointer (some ⟨ga, 0, none⟩) := hdep ⟨2, .data⟩ (by simp) rfl _ _ rfl rfl
          exact gOp_fld (v := .pointer (some ⟨ga, 0, none⟩)) rfl (wanted_plain rfl) rfl e19 (by go_simp) ⟨_, rfl, rfl, Below.refl _ _, hR⟩
        · injection ho with ho
          subst ho
          have e20 : A.eval (.tmp 20) = .pointer (some ⟨ga, 0, none⟩) := hdep ⟨3, .data⟩ (by simp) rfl _ _ rfl rfl
          have x0 := (hR.cell hga).trans a0
          exact gOp_ld (v := .int .i64 k) rfl (wanted_plain rfl) rfl e20 (by go_simp) ⟨_, rfl, rfl, Below.refl _ _, hR⟩
        · injection ho with ho
          subst ho
          have e1 : A.eval (.tmp 1) = .slice (some ⟨gb, 0, none⟩) 1 cb := (hfr 1 (noDst_spec (by kernel_rfl))).trans rfl
          exact gOp_mv rfl (wanted_plain rfl) (.inl rfl) e1 ⟨_, rfl, rfl, Below.refl _ _, hR⟩
        · injection ho with ho
          subst ho
          have e5 : A.eval (.tmp 5) = .int .i64 (0 : Int) := (hfr 5 (noDst_spec (by kernel_rfl))).trans rfl
          exact gOp_mv rfl (wanted_plain rfl) (.inl rfl) e5 ⟨_, rfl, rfl, Below.refl _ _, hR⟩
        · injection ho with ho
          subst ho
          have e22 : A.eval (.tmp 22) = .slice (some ⟨gb, 0, none⟩) 1 cb := hdep ⟨5, .data⟩ (by simp) rfl _ _ rfl rfl
          have e23 : A.eval (.tmp 23) = .int .i64 (0 : Int) := hdep ⟨6, .data⟩ (by simp) rfl _ _ rfl rfl
          exact gOp_ix (v := .pointer (some ⟨gb, 0, none⟩)) rfl (wanted_plain rfl) rfl e22 e23 (by go_simp) ⟨_, rfl, rfl, Below.refl _ _, hR⟩
        · injection ho with ho
          subst ho
          have e24 : A.eval (.tmp 24) = .pointer (some ⟨gb, 0, none⟩) := hdep ⟨7, .data⟩ (by simp) rfl _ _ rfl rfl
          exact gOp_fld (v := .pointer (some ⟨gb, 0, none⟩)) rfl (wanted_plain rfl) rfl e24 (by go_simp) ⟨_, rfl, rfl, Below.refl _ _, hR⟩
        · injection ho with ho
          subst ho
          have e25 : A.eval (.tmp 25) = .pointer (some ⟨gb, 0, none⟩) := hdep ⟨8, .data⟩ (by simp) rfl _ _ rfl rfl
          have x0 := (hR.cell hgb).trans b0
          exact gOp_ld (v := .int .i64 k) rfl (wanted_plain rfl) rfl e25 (by go_simp) ⟨_, rfl, rfl, Below.refl _ _, hR⟩
        · injection ho with ho
          subst ho
          have e21 : A.eval (.tmp 21) = .int .i64 k := hdep ⟨4, .data⟩ (by simp) rfl _ _ rfl rfl
          have e26 : A.eval (.tmp 26) = .int .i64 k := hdep ⟨9, .data⟩ (by simp) rfl _ _ rfl rfl
          exact gOp_ok (v := .bool false) rfl (wanted_plain rfl) (run_bin rfl e21 e26 (by go_simp) (by go_simp)) ⟨_, rfl, rfl, Below.refl _ _, hR⟩
        · injection ho with ho
          subst ho
          have e27 : A.eval (.tmp 27) = .bool false := hdep ⟨10, .data⟩ (by simp) rfl _ _ rfl rfl
          exact gOp_mv rfl (wanted_plain rfl) (.inl rfl) e27 ⟨_, rfl, rfl, Below.refl _ _, hR⟩
        · injection ho with ho
          subst ho
          have e0 : A.eval (.tmp 0) = .slice (some ⟨ga, 0, none⟩) 1 ca := (hfr 0 (noDst_spec (by kernel_rfl))).trans rfl
          exact gOp_mv rfl (wanted_on false 11 28 _ rfl rfl rfl (hdep ⟨11, .guard⟩ (by simp) rfl _ _ rfl rfl)) (.inl rfl) e0 ⟨_, rfl, rfl, Below.refl _ _, hR⟩
        · injection ho with ho
          subst ho
          have e5 : A.eval (.tmp 5) = .int .i64 (0 : Int) := (hfr 5 (noDst_spec (by kernel_rfl))).trans rfl
          exact gOp_mv rfl (wanted_on false 11 28 _ rfl rfl rfl (hdep ⟨11, .guard⟩ (by simp) rfl _ _ rfl rfl)) (.inl rfl) e5 ⟨_, rfl, rfl, Below.refl _ _, hR⟩
        · injection ho with ho
          subst ho
          have e29 : A.eval (.tmp 29) = .slice (some ⟨ga, 0, none⟩) 1 ca := hdep ⟨12, .data⟩ (by simp) rfl _ _ rfl rfl
          have e30 : A.eval (.tmp 30) = .int .i64 (0 : Int) := hdep ⟨13, .data⟩ (by simp) rfl _ _ rfl rfl
          exact gOp_ix (v := .pointer (some ⟨ga, 0, none⟩)) rfl (wanted_on false 11 28 _ rfl rfl rfl (hdep ⟨11, .guard⟩ (by simp) rfl _ _ rfl rfl)) rfl e29 e30 (by go_simp) ⟨_, rfl, rfl, Below.refl _ _, hR⟩
        · injection ho with ho
          subst ho
          have e31 : A.eval (.tmp 31) = .pointer (some ⟨ga, 0, none⟩) := hdep ⟨14, .data⟩ (by simp) rfl _ _ rfl rfl
          exact gOp_fld (v := .pointer (some ⟨ga, 1, none⟩)) rfl (wanted_on false 11 28 _ rfl rfl rfl (hdep ⟨11, .guard⟩ (by simp) rfl _ _ rfl rfl)) rfl e31 (by go_simp) ⟨_, rfl, rfl, Below.refl _ _, hR⟩
        · injection ho with ho
          subst ho
          have e32 : A.eval (.tmp 32) = .pointer (some ⟨ga, 1, none⟩) := hdep ⟨15, .data⟩ (by simp) rfl _ _ rfl rfl
          have x0 := (hR.cell hga).trans a1
          exact gOp_ld (v := .string s) rfl (wanted_on false 11 28 _ rfl rfl rfl (hdep ⟨11, .guard⟩ (by simp) rfl _ _ rfl rfl)) rfl e32 (by go_simp) ⟨_, rfl, rfl, Below.refl _ _, hR⟩
        · injection ho with ho
          subst ho
          have e1 : A.eval (.tmp 1) = .slice (some ⟨gb, 0, none⟩) 1 cb := (hfr 1 (noDst_spec (by kernel_rfl))).trans rfl
          exact gOp_mv rfl (wanted_on false 11 28 _ rfl rfl rfl (hdep ⟨11, .guard⟩ (by simp) rfl _ _ rfl rfl)) (.inl rfl) e1 ⟨_, rfl, rfl, Below.refl _ _, hR⟩
        · injection ho with ho
          subst ho
          have e5 : A.eval (.tmp 5) = .int .i64 (0 : Int) := (hfr 5 (noDst_spec (by kernel_rfl))).trans rfl
          exact gOp_mv rfl (wanted_on false 11 28 _ rfl rfl rfl (hdep ⟨11, .guard⟩ (by simp) rfl _ _ rfl rfl)) (.inl rfl) e5 ⟨_, rfl, rfl, Below.refl _ _, hR⟩
        · injection ho with ho
          subst ho
          have e34 : A.eval (.tmp 34) = .slice (some ⟨gb, 0, none⟩) 1 cb := hdep ⟨17, .data⟩ (by simp) rfl _ _ rfl rfl
          have e35 : A.eval (.tmp 35) = .int .i64 (0 : Int) := hdep ⟨18, .data⟩ (by simp) rfl _ _ rfl rfl
          exact gOp_ix (v := .pointer (some ⟨gb, 0, none⟩)) rfl (wanted_on false 11 28 _ rfl rfl rfl (hdep ⟨11, .guard⟩ (by simp) rfl _ _ rfl rfl)) rfl e34 e35 (by go_simp) ⟨_, rfl, rfl, Below.refl _ _, hR⟩
        · injection ho with ho
          subst ho
          have e36 : A.eval (.tmp 36) = .pointer (some ⟨gb, 0, none⟩) := hdep ⟨19, .data⟩ (by simp) rfl _ _ rfl rfl
          exact gOp_fld (v := .pointer (some ⟨gb, 1, none⟩)) rfl (wanted_on false 11 28 _ rfl rfl rfl (hdep ⟨11, .guard⟩ (by simp) rfl _ _ rfl rfl)) rfl e36 (by go_simp) ⟨_, rfl, rfl, Below.refl _ _, hR⟩
        · injection ho with ho
          subst ho
          have e37 : A.eval (.tmp 37) = .pointer (some ⟨gb, 1, none⟩) := hdep ⟨20, .data⟩ (by simp) rfl _ _ rfl rfl
          have x0 := (hR.cell hgb).trans b1
          exact gOp_ld (v := .string s) rfl (wanted_on false 11 28 _ rfl rfl rfl (hdep ⟨11, .guard⟩ (by simp) rfl _ _ rfl rfl)) rfl e37 (by go_simp) ⟨_, rfl, rfl, Below.refl _ _, hR⟩
        · injection ho with ho
          subst ho
          have e33 : A.eval (.tmp 33) = .string s := hdep ⟨16, .data⟩ (by simp) rfl _ _ rfl rfl
          have e38 : A.eval (.tmp 38) = .string s := hdep ⟨21, .data⟩ (by simp) rfl _ _ rfl rfl
          exact gOp_ok (v := .bool false) rfl (wanted_on false 11 28 _ rfl rfl rfl (hdep ⟨11, .guard⟩ (by simp) rfl _ _ rfl rfl)) (run_bin rfl e33 e38 (by go_simp) (by go_simp)) ⟨_, rfl, rfl, Below.refl _ _, hR⟩
        · injection ho with ho
          subst ho
          have e28 : A.eval (.tmp 28) = .bool false := hdep ⟨11, .data⟩ (by simp) rfl _ _ rfl rfl
          have e39 : A.eval (.tmp 39) = .bool false := hdep ⟨22, .data⟩ (by simp) rfl _ _ rfl rfl
          exact gOp_pk (v := .bool false) rfl (wanted_plain rfl) rfl e28 (by first | exact e39 | rfl) ⟨_, rfl, rfl, Below.refl _ _, hR⟩
        · injection ho with ho
          subst ho
          have e40 : A.eval (.tmp 40) = .bool false := hdep ⟨23, .data⟩ (by simp) rfl _ _ rfl rfl
          exact gOp_mv rfl (wanted_plain rfl) (.inl rfl) e40 ⟨_, rfl, rfl, Below.refl _ _, hR⟩
        · injection ho with ho
          subst ho
          have e0 : A.eval (.tmp 0) = .slice (some ⟨ga, 0, none⟩) 1 ca := (hfr 0 (noDst_spec (by kernel_rfl))).trans rfl
          exact gOp_mv rfl (wanted_on false 24 41 _ rfl rfl rfl (hdep ⟨24, .guard⟩ (by simp) rfl _ _ rfl rfl)) (.inl rfl) e0 ⟨_, rfl, rfl, Below.refl _ _, hR⟩
        · injection ho with ho
          subst ho
          have e5 : A.eval (.tmp 5) = .int .i64 (0 : Int) := (hfr 5 (noDst_spec (by kernel_rfl))).trans rfl
          exact gOp_mv rfl (wanted_on false 24 41 _ rfl rfl rfl (hdep ⟨24, .guard⟩ (by simp) rfl _ _ rfl rfl)) (.inl rfl) e5 ⟨_, rfl, rfl, Below.refl _ _, hR⟩
        · injection ho with ho
          subst ho
          have e42 : A.eval (.tmp 42) = .slice (some ⟨ga, 0, none⟩) 1 ca := hdep ⟨25, .data⟩ (by simp) rfl _ _ rfl rfl
          have e43 : A.eval (.tmp 43) = .int .i64 (0 : Int) := hdep ⟨26, .data⟩ (by simp) rfl _ _ rfl rfl
          exact gOp_ix (v := .pointer (some ⟨ga, 0, none⟩)) rfl (wanted_on false 24 41 _ rfl rfl rfl (hdep ⟨24, .guard⟩ (by simp) rfl _ _ rfl rfl)) rfl e42 e43 (by go_simp) ⟨_, rfl, rfl, Below.refl _ _, hR⟩
        · injection ho with ho
          subst ho
          have e44 : A.eval (.tmp 44) = .pointer (some ⟨ga, 0, none⟩) := hdep ⟨27, .data⟩ (by simp) rfl _ _ rfl rfl
          exact gOp_fld (v := .pointer (some ⟨ga, 2, none⟩)) rfl (wanted_on false 24 41 _ rfl rfl rfl (hdep ⟨24, .guard⟩ (by simp) rfl _ _ rfl rfl)) rfl e44 (by go_simp) ⟨_, rfl, rfl, Below.refl _ _, hR⟩
        · injection ho with ho
          subst ho
          have e45 : A.eval (.tmp 45) = .pointer (some ⟨ga, 2, none⟩) := hdep ⟨28, .data⟩ (by simp) rfl _ _ rfl rfl
          have x0 := (hR.cell hga).trans a2
          exact gOp_ld (v := oa) rfl (wanted_on false 24 41 _ rfl rfl rfl (hdep ⟨24, .guard⟩ (by simp) rfl _ _ rfl rfl)) rfl e45 (by go_simp) ⟨_, rfl, rfl, Below.refl _ _, hR⟩
        · injection ho with ho
          subst ho
          have e1 : A.eval (.tmp 1) = .slice (some ⟨gb, 0, none⟩) 1 cb := (hfr 1 (noDst_spec (by kernel_rfl))).trans rfl
          exact gOp_mv rfl (wanted_on false 24 41 _ rfl rfl rfl (hdep ⟨24, .guard⟩ (by simp) rfl _ _ rfl rfl)) (.inl rfl) e1 ⟨_, rfl, rfl, Below.refl _ _, hR⟩
        · injection ho with ho
          subst ho
          have e5 : A.eval (.tmp 5) = .int .i64 (0 : Int) := (hfr 5 (noDst_spec (by kernel_rfl))).trans rfl
          exact gOp_mv rfl (wanted_on false 24 41 _ rfl rfl rfl (hdep ⟨24, .guard⟩ (by simp) rfl _ _ rfl rfl)) (.inl rfl) e5 ⟨_, rfl, rfl, Below.refl _ _, hR⟩
        · injection ho with ho
          subst ho
          have e47 : A.eval (.tmp 47) = .slice (some ⟨gb, 0, none⟩) 1 cb := hdep ⟨30, .data⟩ (by simp) rfl _ _ rfl rfl
          have e48 : A.eval (.tmp 48) = .int .i64 (0 : Int) := hdep ⟨31, .data⟩ (by simp) rfl _ _ rfl rfl
          exact gOp_ix (v := .pointer (some ⟨gb, 0, none⟩)) rfl (wanted_on false 24 41 _ rfl rfl rfl (hdep ⟨24, .guard⟩ (by simp) rfl _ _ rfl rfl)) rfl e47 e48 (by go_simp) ⟨_, rfl, rfl, Below.refl _ _, hR⟩
        · injection ho with ho
          subst ho
          have e49 : A.eval (.tmp 49) = .pointer (some ⟨gb, 0, none⟩) := hdep ⟨32, .data⟩ (by simp) rfl _ _ rfl rfl
          exact gOp_fld (v := .pointer (some ⟨gb, 2, none⟩)) rfl (wanted_on false 24 41 _ rfl rfl rfl (hdep ⟨24, .guard⟩ (by simp) rfl _ _ rfl rfl)) rfl e49 (by go_simp) ⟨_, rfl, rfl, Below.refl _ _, hR⟩
        · injection ho with ho
          subst ho
          have e50 : A.eval (.tmp 50) = .pointer (some ⟨gb, 2, none⟩) := hdep ⟨33, .data⟩ (by simp) rfl _ _ rfl rfl
          have x0 := (hR.cell hgb).trans b2
          exact gOp_ld (v := ob) rfl (wanted_on false 24 41 _ rfl rfl rfl (hdep ⟨24, .guard⟩ (by simp) rfl _ _ rfl rfl)) rfl e50 (by go_simp) ⟨_, rfl, rfl, Below.refl _ _, hR⟩
        · injection ho with ho
          subst ho
          have e46 : A.eval (.tmp 46) = oa := hdep ⟨29, .data⟩ (by simp) rfl _ _ rfl rfl
          have e51 : A.eval (.tmp 51) = ob := hdep ⟨34, .data⟩ (by simp) rfl _ _ rfl rfl
          refine gOp_enter rfl (wanted_on false 24 41 _ rfl rfl rfl (hdep ⟨24, .guard⟩ (by simp) rfl _ _ rfl rfl)) 36 #[oa, ob] (run_call _ (fun _ _ => rfl) _ _ rfl _ (by simp [e46, e51])) ?_
          refine (hrec W hR).mono ?_
          rintro e w' ⟨rfl, hb'⟩
          exact ⟨_, rfl, _, rfl, rfl, hb', hR.trans (hb'.mono hR.size)⟩
        · injection ho with ho
          subst ho
          have e52 : A.eval (.tmp 52) = .bool true := hdep ⟨35, .data⟩ (by simp) rfl _ _ rfl rfl
          exact gOp_not rfl (wanted_on false 24 41 _ rfl rfl rfl (hdep ⟨24, .guard⟩ (by simp) rfl _ _ rfl rfl)) rfl e52 ⟨_, rfl, rfl, Below.refl _ _, hR⟩
        · injection ho with ho
          subst ho
          have e41 : A.eval (.tmp 41) = .bool false := hdep ⟨24, .data⟩ (by simp) rfl _ _ rfl rfl
          have e53 : A.eval (.tmp 53) = .bool false := hdep ⟨36, .data⟩ (by simp) rfl _ _ rfl rfl
          exact gOp_pk (v := .bool false) rfl (wanted_plain rfl) rfl e41 (by first | exact e53 | rfl) ⟨_, rfl, rfl, Below.refl _ _, hR⟩
        · simp at ho
      case done =>
        intro W hR
        subst hval
        simp only [putL, Act.put, List.setIfInBounds_toArray, List.set_cons_zero, List.set_cons_succ]
        go_wp2
        exact ⟨⟨.inr rfl, hR⟩, by simp [intOf]⟩
    · go_wp2
      go_ret
      exact ⟨rfl, hbw⟩
end Go.Proofs.Ythdooemgnpiomaa
