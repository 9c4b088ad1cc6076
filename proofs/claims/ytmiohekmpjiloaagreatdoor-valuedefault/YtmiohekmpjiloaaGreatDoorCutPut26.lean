/- value: compare, Compare, Same. value: Compare, Same of any values. The reference: digit, letter, part, sign, word. The reference: word. The reference: Tokens. The reference's names: plain, Name. The reference's types, of those that may be: deep, Deep, shape, Shape, typed. The reference's writer, while nothing is wrong: decimal, need. The reference's writer, while nothing is wrong: decimal, need, name, number, kind. The reference's reader, while nothing is wrong: peek, take. The reference: Check and Number of tokens that may be; number. The reference's reader: plain, kind. -/
import Derived.Test.YtmiohekmpjiloaaGreatDoorCutPut25
import Derived.Test.YtmiohekmpjiloaaGreatDoorCutPut16
import Derived.Deep.RegionWith
import Derived.Test.YtmiohekmpjiloaaGreatDoorCutPut09
import Derived.Test.YtmiohekmpjiloaaGreatDoorCutPut15
import Derived.Test.YtmiohekmpjiloaaGreatDoorCutPut22
import Derived.Test.YtmiohekmpjiloaaGreatDoorCutPut13
import Derived.Test.YtmiohekmpjiloaaGreatDoorCutPut18
namespace Go.Proofs.YtmiohekmpjiloaaGreatDoor
open Go.RowKit
set_option maxRecDepth 20000

set_option maxHeartbeats 1000000 in
theorem nanInt (a : Int) (w : World) : Calls Tryz.prog 87 #[.int .i64 a] w fun e w' => e = .returned (.bool false) ∧ w' = w := by
  go_enter Tryz.func87, Tryz.ntmps87
  go_wp2
  go_ret
  exact ⟨by simp, rfl⟩
set_option maxHeartbeats 1000000 in
theorem nanU64 (a : Int) (w : World) : Calls Tryz.prog 88 #[.int .u64 a] w fun e w' => e = .returned (.bool false) ∧ w' = w := by
  go_enter Tryz.func88, Tryz.ntmps88
  go_wp2
  go_ret
  exact ⟨by simp, rfl⟩
set_option maxHeartbeats 2000000 in
theorem cmpInt_any (a b : Int) (w : World) : Calls Tryz.prog 63 #[.int .i64 a, .int .i64 b] w fun e w' => e = .returned (.int .i64 (cmpI a b)) ∧ w' = w := by
  have ha := nanInt a w
  have hb := nanInt b w
  unfold cmpI
  by_cases h1 : a < b
  · rw [if_pos h1]
    go_enter Tryz.func63, Tryz.ntmps63
    go_wp2_with fail
    refine ha.mono ?_
    rintro e w1 ⟨rfl, rfl⟩
    go_wp2_with fail
    refine hb.mono ?_
    rintro e w1 ⟨rfl, rfl⟩
    go_wp2
    go_ret
    exact ⟨rfl, rfl⟩
  · rw [if_neg h1]
    by_cases h2 : b < a
    · rw [if_pos h2]
      go_enter Tryz.func63, Tryz.ntmps63
      go_wp2_with fail
      refine ha.mono ?_
      rintro e w1 ⟨rfl, rfl⟩
      go_wp2_with fail
      refine hb.mono ?_
      rintro e w1 ⟨rfl, rfl⟩
      go_wp2
      go_ret
      exact ⟨rfl, rfl⟩
    · rw [if_neg h2]
      go_enter Tryz.func63, Tryz.ntmps63
      go_wp2_with fail
      refine ha.mono ?_
      rintro e w1 ⟨rfl, rfl⟩
      go_wp2_with fail
      refine hb.mono ?_
      rintro e w1 ⟨rfl, rfl⟩
      go_wp2
      go_ret
      exact ⟨rfl, rfl⟩
set_option maxHeartbeats 2000000 in
theorem cmpU64_any (a b : Int) (w : World) : Calls Tryz.prog 64 #[.int .u64 a, .int .u64 b] w fun e w' => e = .returned (.int .i64 (cmpI a b)) ∧ w' = w := by
  have ha := nanU64 a w
  have hb := nanU64 b w
  unfold cmpI
  by_cases h1 : a < b
  · rw [if_pos h1]
    go_enter Tryz.func64, Tryz.ntmps64
    go_wp2_with fail
    refine ha.mono ?_
    rintro e w1 ⟨rfl, rfl⟩
    go_wp2_with fail
    refine hb.mono ?_
    rintro e w1 ⟨rfl, rfl⟩
    go_wp2
    go_ret
    exact ⟨rfl, rfl⟩
  · rw [if_neg h1]
    by_cases h2 : b < a
    · rw [if_pos h2]
      go_enter Tryz.func64, Tryz.ntmps64
      go_wp2_with fail
      refine ha.mono ?_
      rintro e w1 ⟨rfl, rfl⟩
      go_wp2_with fail
      refine hb.mono ?_
      rintro e w1 ⟨rfl, rfl⟩
      go_wp2
      go_ret
      exact ⟨rfl, rfl⟩
    · rw [if_neg h2]
      go_enter Tryz.func64, Tryz.ntmps64
      go_wp2_with fail
      refine ha.mono ?_
      rintro e w1 ⟨rfl, rfl⟩
      go_wp2_with fail
      refine hb.mono ?_
      rintro e w1 ⟨rfl, rfl⟩
      go_wp2
      go_ret
      exact ⟨rfl, rfl⟩
set_option maxHeartbeats 1000000 in
set_option maxRecDepth 100000 in
theorem cmpStr0 (a b : ByteArray) (w : World) : Calls Tryz.prog 89 #[.string a, .string b] w fun e w' => e = .returned (.int .i64 (cmpT a b)) ∧ w' = w := by
  unfold cmpT
  go_enter Tryz.func89, Tryz.ntmps89
  go_wp2
  rw [run_callFunc_extern Tryz.func126 (by kernel_rfl) (by kernel_rfl) (by kernel_rfl) (e := Extern.BytealgCompare.compare) (by kernel_rfl), Lib.run_compareString]
  simp only [Result.andThen]
  rw [Oper.upon_value]
  go_wp2
  go_ret
  exact ⟨rfl, rfl⟩
set_option maxHeartbeats 1000000 in
theorem cmpStr_any (a b : ByteArray) (w : World) : Calls Tryz.prog 65 #[.string a, .string b] w fun e w' => e = .returned (.int .i64 (cmpT a b)) ∧ w' = w := by
  have h := cmpStr0 a b w
  generalize cmpT a b = R at *
  go_enter Tryz.func65, Tryz.ntmps65
  go_wp2_with fail
  refine h.mono ?_
  rintro e w1 ⟨rfl, rfl⟩
  go_wp2
  go_ret
  exact ⟨rfl, rfl⟩

/-- The first of three that is not 0. -/
def or3 (a b c : Int) : Int := if a = 0 then (if b = 0 then c else b) else a
set_option maxHeartbeats 4000000 in
theorem cmpOr_three (a b c : Int) (q : Nat) (w : World) (h0 : w.cell? ⟨q, 0, none⟩ = some (.int .i64 a)) (h1 : w.cell? ⟨q, 1, none⟩ = some (.int .i64 b)) (h2 : w.cell? ⟨q, 2, none⟩ = some (.int .i64 c)) : Calls Tryz.prog 62 #[.slice (some ⟨q, 0, none⟩) 3 3] w fun e w' => e = .returned (.int .i64 (or3 a b c)) ∧ w' = w := by
  unfold or3
  by_cases ha : a = 0
  · subst ha
    rw [if_pos rfl]
    by_cases hb : b = 0
    · subst hb
      rw [if_pos rfl]
      by_cases hc : c = 0
      · subst hc
        go_enter Tryz.func62, Tryz.ntmps62
        go_wp2_with fail
        go_rounds 4
        go_ret
        exact ⟨rfl, rfl⟩
      · have hq : (c == 0) = false := by simp [hc]
        go_enter Tryz.func62, Tryz.ntmps62
        go_wp2_with fail
        go_rounds 3
        go_ret
        exact ⟨rfl, rfl⟩
    · rw [if_neg hb]
      have hq : (b == 0) = false := by simp [hb]
      go_enter Tryz.func62, Tryz.ntmps62
      go_wp2_with fail
      go_rounds 2
      go_ret
      exact ⟨rfl, rfl⟩
  · rw [if_neg ha]
    have hq : (a == 0) = false := by simp [ha]
    go_enter Tryz.func62, Tryz.ntmps62
    go_wp2_with fail
    go_rounds 1
    go_ret
    exact ⟨rfl, rfl⟩
theorem or3_key (a b : Pl.GV) : or3 (cmpI a.i b.i) (cmpI a.u b.u) (cmpT a.t b.t) = keyV a b := rfl

theorem act_lit (a : Array Value) (n : Nat) (h : a.size = n) : a = ((List.range n).map fun i => a.getD i undef).toArray := by
  subst h
  apply Array.ext
  · simp
  · intro i h1 h2
    simp [Array.getD, h1]

set_option maxHeartbeats 8000000 in
/-- compare, by what CompareFunc tells of the parts. -/
theorem compare_step (M R : Int) (g h : Pl.GV) (a1 a2 : Option Addr) (m1 c1 m2 c2 : Nat) (w : World)
    (hrec : M ≠ 0 → ∀ W, Below w.heap.size w W → Bx W w.heap.size [.int .i64 M] 3 → Calls Tryz.prog 66 #[.slice a1 m1 c1, .slice a2 m2 c2, .func (.func 67) #[] #[.pointer (some ⟨w.heap.size, 0, none⟩)]] W fun e w' => e = .returned (.int .i64 R) ∧ Below W.heap.size W w') :
    Calls Tryz.prog 40 #[.int .i64 M, gvA g (.slice a1 m1 c1), gvA h (.slice a2 m2 c2)] w fun e w' => e = .returned (.int .i64 (if keyV g h = 0 then (if M = 0 then 0 else R) else keyV g h)) ∧ Below w.heap.size w w' := by
  have H1 := hid fun W => cmpInt_any g.i h.i W
  have H2 := hid fun W => cmpU64_any g.u h.u W
  have H3 := hid fun W => cmpStr_any g.t h.t W
  rw [← or3_key]
  unfold gvA
  generalize cmpI g.i h.i = x1 at *
  generalize cmpI g.u h.u = x2 at *
  generalize cmpT g.t h.t = x3 at *
  have H4 := hid fun W q h0 h1 h2 => cmpOr_three x1 x2 x3 q W h0 h1 h2
  obtain ⟨RES, hRES⟩ : ∃ r, r = if or3 x1 x2 x3 = 0 then (if M = 0 then 0 else R) else or3 x1 x2 x3 := ⟨_, rfl⟩
  rw [← hRES]
  have HRES := hid hRES
  clear hRES
  have hbs : ∀ (a b c : Int) (w : World), (Instr.buildSlice 138 3 #[(0, .int .i64 a), (1, .int .i64 b), (2, .int .i64 c)]).run Tryz.prog w = .ok (.slice (some ⟨w.heap.size, 0, none⟩) 3 3) (w.alloc (.cells #[.int .i64 a, .int .i64 b, .int .i64 c] 3)) := fun a b c w => by kernel_rfl
  obtain ⟨w3, hw3⟩ : ∃ w3, w3 = ((w.alloc (.cells #[.int .i64 M] 3)).alloc (.cells #[.int .i64 g.i, .int .u64 g.u, .string g.t, .slice a1 m1 c1] 33)).alloc (.cells #[.int .i64 h.i, .int .u64 h.u, .string h.t, .slice a2 m2 c2] 33) := ⟨_, rfl⟩
  have hz1 : (w.alloc (.cells #[.int .i64 M] 3)).heap.size = w.heap.size + 1 := by simp
  have hz2 : ((w.alloc (.cells #[.int .i64 M] 3)).alloc (.cells #[.int .i64 g.i, .int .u64 g.u, .string g.t, .slice a1 m1 c1] 33)).heap.size = w.heap.size + 1 + 1 := by simp
  have hb3 : Below w.heap.size w w3 := by rw [hw3]; exact below_next (below_next (below_alloc w _) (below_alloc _ _)) (below_alloc _ _)
  have hB0 : Bx w3 w.heap.size [.int .i64 M] 3 := by rw [hw3]; exact ((Bx.new w _ _).below (below_alloc _ _)).below (below_alloc _ _)
  have hB1 : Bx w3 (w.heap.size + 1) [.int .i64 g.i, .int .u64 g.u, .string g.t, .slice a1 m1 c1] 33 := by rw [hw3]; exact (Bx.newAt hz1.symm _ _).below (below_alloc _ _)
  have hB2 : Bx w3 (w.heap.size + 1 + 1) [.int .i64 h.i, .int .u64 h.u, .string h.t, .slice a2 m2 c2] 33 := by rw [hw3]; exact Bx.newAt hz2.symm _ _
  have a0 := hB1.cell 0 rfl
  have a1' := hB1.cell 1 rfl
  have a2' := hB1.cell 2 rfl
  have b0 := hB2.cell 0 rfl
  have b1 := hB2.cell 1 rfl
  have b2 := hB2.cell 2 rfl
  have hlt1 := hB1.lt
  have hlt2 := hB2.lt
  have HB0 := hid hB0
  have HB1 := hid hB1
  have HB2 := hid hB2
  have HB3 := hid hb3
  have HW3 := hid hw3
  have HREC := hid hrec
  have hmf : ∀ (fn : Fn) (first cap : Array Value) (w : World), (Instr.makeFunc fn first cap).run Tryz.prog w = .ok (.func fn first cap) w := fun _ _ _ _ => rfl
  clear hw3 hb3 hB0 hB1 hB2 hz1 hz2 hrec
  go_enter Tryz.func40, Tryz.ntmps40
  go_wp2_with fail
  rw [← HW3.out]
  refine wp_region_drawn (pred := fun jx v W => match jx with | 0 => v = .pointer (some ⟨w.heap.size + 1, 0, none⟩) | 1 => v = .int .i64 g.i | 2 => v = .pointer (some ⟨w.heap.size + 1 + 1, 0, none⟩) | 3 => v = .int .i64 h.i | 4 => v = .int .i64 x1 | 5 => v = .pointer (some ⟨w.heap.size + 1, 1, none⟩) | 6 => v = .int .u64 g.u | 7 => v = .pointer (some ⟨w.heap.size + 1 + 1, 1, none⟩) | 8 => v = .int .u64 h.u | 9 => v = .int .i64 x2 | 10 => v = .pointer (some ⟨w.heap.size + 1, 2, none⟩) | 11 => v = .string g.t | 12 => v = .pointer (some ⟨w.heap.size + 1 + 1, 2, none⟩) | 13 => v = .string h.t | 14 => v = .int .i64 x3 | 15 => ∃ q, v = .slice (some ⟨q, 0, none⟩) 3 3 ∧ Bx W q [.int .i64 x1, .int .i64 x2, .int .i64 x3] 3 | 16 => v = .int .i64 (or3 x1 x2 x3) | 17 => v = .int .i64 (or3 x1 x2 x3) | _ => True) (R := fun W => Below w3.heap.size w3 W) (by kernel_rfl) (by kernel_rfl) (by kernel_rfl) (fun i v W W' h hb => ?mono) (Below.drew (Below.refl _ _)) ?step ?done
  case mono =>
    rcases i with _ | _ | _ | _ | _ | _ | _ | _ | _ | _ | _ | _ | _ | _ | _ | _ | _ | _ | i
    · exact h
    · exact h
    · exact h
    · exact h
    · exact h
    · exact h
    · exact h
    · exact h
    · exact h
    · exact h
    · exact h
    · exact h
    · exact h
    · exact h
    · exact h
    · obtain ⟨q, h1, h2⟩ := h
      exact ⟨q, h1, h2.below hb⟩
    · exact h
    · exact h
    · exact trivial
  case step =>
    intro ix o ho A W hsz hdf hfr hdep hR
    rcases ix with _ | _ | _ | _ | _ | _ | _ | _ | _ | _ | _ | _ | _ | _ | _ | _ | _ | _ | ix
    · injection ho with ho
      subst ho
      have e4 : A.eval (.tmp 4) = .pointer (some ⟨w.heap.size + 1, 0, none⟩) := (hfr 4 (noDst_spec (by kernel_rfl))).trans rfl
      exact gOp_fld (v := .pointer (some ⟨w.heap.size + 1, 0, none⟩)) rfl (wanted_plain rfl) rfl e4 (by go_simp) ⟨_, rfl, rfl, Below.refl _ _, hR⟩
    · injection ho with ho
      subst ho
      have e8 : A.eval (.tmp 8) = .pointer (some ⟨w.heap.size + 1, 0, none⟩) := hdep ⟨0, .data⟩ (by simp) rfl _ _ rfl rfl
      have x0 := (hR.cell hlt1).trans a0
      exact gOp_ld (v := .int .i64 g.i) rfl (wanted_plain rfl) rfl e8 (by go_simp) ⟨_, rfl, rfl, Below.refl _ _, hR⟩
    · injection ho with ho
      subst ho
      have e5 : A.eval (.tmp 5) = .pointer (some ⟨w.heap.size + 1 + 1, 0, none⟩) := (hfr 5 (noDst_spec (by kernel_rfl))).trans rfl
      exact gOp_fld (v := .pointer (some ⟨w.heap.size + 1 + 1, 0, none⟩)) rfl (wanted_plain rfl) rfl e5 (by go_simp) ⟨_, rfl, rfl, Below.refl _ _, hR⟩
    · injection ho with ho
      subst ho
      have e10 : A.eval (.tmp 10) = .pointer (some ⟨w.heap.size + 1 + 1, 0, none⟩) := hdep ⟨2, .data⟩ (by simp) rfl _ _ rfl rfl
      have x0 := (hR.cell hlt2).trans b0
      exact gOp_ld (v := .int .i64 h.i) rfl (wanted_plain rfl) rfl e10 (by go_simp) ⟨_, rfl, rfl, Below.refl _ _, hR⟩
    · injection ho with ho
      subst ho
      have e9 : A.eval (.tmp 9) = .int .i64 g.i := hdep ⟨1, .data⟩ (by simp) rfl _ _ rfl rfl
      have e11 : A.eval (.tmp 11) = .int .i64 h.i := hdep ⟨3, .data⟩ (by simp) rfl _ _ rfl rfl
      refine gOp_enter rfl (wanted_plain rfl) 63 #[.int .i64 g.i, .int .i64 h.i] (run_call _ (fun _ _ => rfl) _ _ rfl _ (by simp [e9, e11])) ?_
      refine (H1.out W).mono ?_
      rintro e w' ⟨rfl, rfl⟩
      exact ⟨_, rfl, _, rfl, rfl, Below.refl _ _, hR⟩
    · injection ho with ho
      subst ho
      have e4 : A.eval (.tmp 4) = .pointer (some ⟨w.heap.size + 1, 0, none⟩) := (hfr 4 (noDst_spec (by kernel_rfl))).trans rfl
      exact gOp_fld (v := .pointer (some ⟨w.heap.size + 1, 1, none⟩)) rfl (wanted_plain rfl) rfl e4 (by go_simp) ⟨_, rfl, rfl, Below.refl _ _, hR⟩
    · injection ho with ho
      subst ho
      have e13 : A.eval (.tmp 13) = .pointer (some ⟨w.heap.size + 1, 1, none⟩) := hdep ⟨5, .data⟩ (by simp) rfl _ _ rfl rfl
      have x0 := (hR.cell hlt1).trans a1'
      exact gOp_ld (v := .int .u64 g.u) rfl (wanted_plain rfl) rfl e13 (by go_simp) ⟨_, rfl, rfl, Below.refl _ _, hR⟩
    · injection ho with ho
      subst ho
      have e5 : A.eval (.tmp 5) = .pointer (some ⟨w.heap.size + 1 + 1, 0, none⟩) := (hfr 5 (noDst_spec (by kernel_rfl))).trans rfl
      exact gOp_fld (v := .pointer (some ⟨w.heap.size + 1 + 1, 1, none⟩)) rfl (wanted_plain rfl) rfl e5 (by go_simp) ⟨_, rfl, rfl, Below.refl _ _, hR⟩
    · injection ho with ho
      subst ho
      have e15 : A.eval (.tmp 15) = .pointer (some ⟨w.heap.size + 1 + 1, 1, none⟩) := hdep ⟨7, .data⟩ (by simp) rfl _ _ rfl rfl
      have x0 := (hR.cell hlt2).trans b1
      exact gOp_ld (v := .int .u64 h.u) rfl (wanted_plain rfl) rfl e15 (by go_simp) ⟨_, rfl, rfl, Below.refl _ _, hR⟩
    · injection ho with ho
      subst ho
      have e14 : A.eval (.tmp 14) = .int .u64 g.u := hdep ⟨6, .data⟩ (by simp) rfl _ _ rfl rfl
      have e16 : A.eval (.tmp 16) = .int .u64 h.u := hdep ⟨8, .data⟩ (by simp) rfl _ _ rfl rfl
      refine gOp_enter rfl (wanted_plain rfl) 64 #[.int .u64 g.u, .int .u64 h.u] (run_call _ (fun _ _ => rfl) _ _ rfl _ (by simp [e14, e16])) ?_
      refine (H2.out W).mono ?_
      rintro e w' ⟨rfl, rfl⟩
      exact ⟨_, rfl, _, rfl, rfl, Below.refl _ _, hR⟩
    · injection ho with ho
      subst ho
      have e4 : A.eval (.tmp 4) = .pointer (some ⟨w.heap.size + 1, 0, none⟩) := (hfr 4 (noDst_spec (by kernel_rfl))).trans rfl
      exact gOp_fld (v := .pointer (some ⟨w.heap.size + 1, 2, none⟩)) rfl (wanted_plain rfl) rfl e4 (by go_simp) ⟨_, rfl, rfl, Below.refl _ _, hR⟩
    · injection ho with ho
      subst ho
      have e18 : A.eval (.tmp 18) = .pointer (some ⟨w.heap.size + 1, 2, none⟩) := hdep ⟨10, .data⟩ (by simp) rfl _ _ rfl rfl
      have x0 := (hR.cell hlt1).trans a2'
      exact gOp_ld (v := .string g.t) rfl (wanted_plain rfl) rfl e18 (by go_simp) ⟨_, rfl, rfl, Below.refl _ _, hR⟩
    · injection ho with ho
      subst ho
      have e5 : A.eval (.tmp 5) = .pointer (some ⟨w.heap.size + 1 + 1, 0, none⟩) := (hfr 5 (noDst_spec (by kernel_rfl))).trans rfl
      exact gOp_fld (v := .pointer (some ⟨w.heap.size + 1 + 1, 2, none⟩)) rfl (wanted_plain rfl) rfl e5 (by go_simp) ⟨_, rfl, rfl, Below.refl _ _, hR⟩
    · injection ho with ho
      subst ho
      have e20 : A.eval (.tmp 20) = .pointer (some ⟨w.heap.size + 1 + 1, 2, none⟩) := hdep ⟨12, .data⟩ (by simp) rfl _ _ rfl rfl
      have x0 := (hR.cell hlt2).trans b2
      exact gOp_ld (v := .string h.t) rfl (wanted_plain rfl) rfl e20 (by go_simp) ⟨_, rfl, rfl, Below.refl _ _, hR⟩
    · injection ho with ho
      subst ho
      have e19 : A.eval (.tmp 19) = .string g.t := hdep ⟨11, .data⟩ (by simp) rfl _ _ rfl rfl
      have e21 : A.eval (.tmp 21) = .string h.t := hdep ⟨13, .data⟩ (by simp) rfl _ _ rfl rfl
      refine gOp_enter rfl (wanted_plain rfl) 65 #[.string g.t, .string h.t] (run_call _ (fun _ _ => rfl) _ _ rfl _ (by simp [e19, e21])) ?_
      refine (H3.out W).mono ?_
      rintro e w' ⟨rfl, rfl⟩
      exact ⟨_, rfl, _, rfl, rfl, Below.refl _ _, hR⟩
    · injection ho with ho
      subst ho
      have e12 : A.eval (.tmp 12) = .int .i64 x1 := hdep ⟨4, .data⟩ (by simp) rfl _ _ rfl rfl
      have e17 : A.eval (.tmp 17) = .int .i64 x2 := hdep ⟨9, .data⟩ (by simp) rfl _ _ rfl rfl
      have e22 : A.eval (.tmp 22) = .int .i64 x3 := hdep ⟨14, .data⟩ (by simp) rfl _ _ rfl rfl
      refine gOp_ok (v := .slice (some ⟨W.heap.size, 0, none⟩) 3 3) rfl (wanted_plain rfl) (run_bslice rfl (by simp only [List.map_toArray, List.map_cons, List.map_nil, e12, e17, e22]; exact hbs _ _ _ W)) ?_
      exact ⟨_, rfl, ⟨_, rfl, Bx.new W _ _⟩, below_alloc W _, below_next hR (below_alloc W _)⟩
    · injection ho with ho
      subst ho
      obtain ⟨q, e23, hx23⟩ : ∃ q, A.eval (.tmp 23) = .slice (some ⟨q, 0, none⟩) 3 3 ∧ Bx W q [.int .i64 x1, .int .i64 x2, .int .i64 x3] 3 := hdep ⟨15, .data⟩ (by simp) rfl _ _ rfl rfl
      refine gOp_enter rfl (wanted_plain rfl) 62 #[.slice (some ⟨q, 0, none⟩) 3 3] (run_call _ (fun _ _ => rfl) _ _ rfl _ (by simp [e23])) ?_
      refine (H4.out W q (hx23.cell 0 rfl) (hx23.cell 1 rfl) (hx23.cell 2 rfl)).mono ?_
      rintro e w' ⟨rfl, rfl⟩
      exact ⟨_, rfl, _, rfl, rfl, Below.refl _ _, hR⟩
    · injection ho with ho
      subst ho
      have e24 : A.eval (.tmp 24) = .int .i64 (or3 x1 x2 x3) := hdep ⟨16, .data⟩ (by simp) rfl _ _ rfl rfl
      exact gOp_mv rfl (wanted_plain rfl) (.inr rfl) e24 ⟨_, rfl, rfl, Below.refl _ _, hR⟩
    · simp at ho
  case done =>
    intro A W hsz hdf hfr hpred hR
    have y0 := (HB0.out.below hR).cell 0 rfl
    have y1 := (HB1.out.below hR).cell 3 rfl
    have y2 := (HB2.out.below hR).cell 3 rfl
    have HRB := hid (below_next HB3.out hR)
    have HBM := hid (HB0.out.below hR)
    clear a0 a1' a2' b0 b1 b2
    have hA : A = ⟨#[A.tmps.getD 0 undef, A.tmps.getD 1 undef, A.tmps.getD 2 undef, A.tmps.getD 3 undef, A.tmps.getD 4 undef, A.tmps.getD 5 undef, A.tmps.getD 6 undef, A.tmps.getD 7 undef, A.tmps.getD 8 undef, A.tmps.getD 9 undef, A.tmps.getD 10 undef, A.tmps.getD 11 undef, A.tmps.getD 12 undef, A.tmps.getD 13 undef, A.tmps.getD 14 undef, A.tmps.getD 15 undef, A.tmps.getD 16 undef, A.tmps.getD 17 undef, A.tmps.getD 18 undef, A.tmps.getD 19 undef, A.tmps.getD 20 undef, A.tmps.getD 21 undef, A.tmps.getD 22 undef, A.tmps.getD 23 undef, A.tmps.getD 24 undef, A.tmps.getD 25 undef, A.tmps.getD 26 undef, A.tmps.getD 27 undef, A.tmps.getD 28 undef, A.tmps.getD 29 undef, A.tmps.getD 30 undef, A.tmps.getD 31 undef, A.tmps.getD 32 undef, A.tmps.getD 33 undef, A.tmps.getD 34 undef, A.tmps.getD 35 undef, A.tmps.getD 36 undef, A.tmps.getD 37 undef], A.defers⟩ := by
      have h1 := act_lit A.tmps 38 hsz
      obtain ⟨t, d⟩ := A
      exact congrArg (fun x => (⟨x, d⟩ : Act)) h1
    have f7 := (show A.tmps.getD 7 undef = .int .i64 (or3 x1 x2 x3) from hpred 17 _ 7 rfl rfl)
    have f3 := (show A.tmps.getD 3 undef = .pointer (some ⟨w.heap.size, 0, none⟩) from (hfr 3 (noDst_spec (by kernel_rfl))).trans rfl)
    have f4 := (show A.tmps.getD 4 undef = .pointer (some ⟨w.heap.size + 1, 0, none⟩) from (hfr 4 (noDst_spec (by kernel_rfl))).trans rfl)
    have f5 := (show A.tmps.getD 5 undef = .pointer (some ⟨w.heap.size + 1 + 1, 0, none⟩) from (hfr 5 (noDst_spec (by kernel_rfl))).trans rfl)
    rw [hA, f7, f3, f4, f5, hdf]
    clear hA hfr hpred f7 f3 f4 f5
    dsimp only
    clear hR
    generalize or3 x1 x2 x3 = K at *
    by_cases hK : K = 0
    · by_cases hM : M = 0
      · obtain rfl : RES = 0 := by rw [HRES.out, if_pos hK, if_pos hM]
        subst hM hK
        clear HRES
        go_wp2
        go_ret
        exact ⟨rfl, HRB.out⟩
      · obtain rfl : RES = R := by rw [HRES.out, if_pos hK, if_neg hM]
        subst hK
        have hq : (M == 0) = false := by simp [hM]
        have HC := hid (HREC.out hM W HRB.out HBM.out)
        clear hM HRES
        go_wp2_with fail
        refine HC.out.mono ?_
        rintro e w5 ⟨rfl, hb5⟩
        have HL := hid (below_next HRB.out hb5)
        clear hb5
        go_wp2
        go_ret
        exact ⟨rfl, HL.out⟩
    · obtain rfl : RES = K := by rw [HRES.out, if_neg hK]
      have hq : (RES == 0) = false := by simp [hK]
      clear HRES hK
      go_wp2
      go_ret
      exact ⟨rfl, HRB.out⟩
end Go.Proofs.YtmiohekmpjiloaaGreatDoor

namespace Go.Proofs.YtmiohekmpjiloaaGreatDoor
open Go.RowKit
set_option maxRecDepth 20000

theorem VyS.cells {B n : Nat} {l : List Pl.GV} {w : World} {ad : Option Addr} {m cp : Nat} (h : VyS B (n + 1) l w (.slice ad m cp)) {i : Nat} {g : Pl.GV} (hg : l[i]? = some g) : ∃ blk off a o1 o2, ad = some ⟨blk, off, none⟩ ∧ blk < B ∧
      w.cell? ⟨blk, off + i * 4, none⟩ = some (.int .i64 g.i) ∧ w.cell? ⟨blk, off + i * 4 + 1, none⟩ = some (.int .u64 g.u) ∧ w.cell? ⟨blk, off + i * 4 + 2, none⟩ = some (.string g.t) ∧ w.cell? ⟨blk, off + i * 4 + 3, none⟩ = some (.slice a o1 o2) ∧ VyS B n g.l w (.slice a o1 o2) := by
  obtain ⟨ad', cp', h1, h2, h3⟩ := h
  injection h1 with e1 e2 e3
  obtain ⟨blk, off, o, q1, q2, q3, q4, q5, q6, q7⟩ := h3 i g hg
  obtain ⟨a, o1, o2, rfl⟩ := q7.shape
  exact ⟨blk, off, a, o1, o2, e1.trans q1, q2, q3, q4, q5, q6, q7⟩
theorem VyS.len {B n : Nat} {l : List Pl.GV} {w : World} {ad : Option Addr} {m cp : Nat} (h : VyS B (n + 1) l w (.slice ad m cp)) : m = l.length ∧ m ≤ 9223372036854775807 := by
  obtain ⟨ad', cp', h1, h2, h3⟩ := h
  injection h1 with e1 e2 e3
  exact ⟨e2, by omega⟩

set_option maxHeartbeats 8000000 in
theorem cmpFunc_any (ft : Nat) (cv : Value) (hen : ∀ (args : Array Value) (w' : World), (callFunc ft args).run Tryz.prog w' = .ok (.enter ft args) w') (B n : Nat) (c : Pl.GV → Pl.GV → Int) (l l' : List Pl.GV) (ad ad' : Option Addr) (m m' cp cp' : Nat) (w : World) (h : VyS B (n + 1) l w (.slice ad m cp)) (h' : VyS B (n + 1) l' w (.slice ad' m' cp')) (hB : B ≤ w.heap.size)
    (ht : ∀ x ∈ l, ∀ y ∈ l', ∀ a1 m1 c1 a2 m2 c2 W, VyS B n x.l w (.slice a1 m1 c1) → VyS B n y.l w (.slice a2 m2 c2) → Below w.heap.size w W → Calls Tryz.prog ft #[gvA x (.slice a1 m1 c1), gvA y (.slice a2 m2 c2), cv] W fun e w' => e = .returned (.int .i64 (c x y)) ∧ Below W.heap.size W w') :
    Calls Tryz.prog 66 #[.slice ad m cp, .slice ad' m' cp', .func (.func ft) #[] #[cv]] w fun e w' => e = .returned (.int .i64 (cmpL c l l')) ∧ Below w.heap.size w w' := by
  obtain ⟨R, hR⟩ : ∃ R, R = cmpL c l l' := ⟨_, rfl⟩
  rw [← hR]
  have HR := hid hR
  obtain ⟨hm, hm1⟩ := h.len
  obtain ⟨hm', hm1'⟩ := h'.len
  have HV := hid h
  have HV' := hid h'
  have HM := hid hm
  have HM' := hid hm'
  have HT := hid ht
  clear h h' hm hm' ht hR
  go_enter Tryz.func66, Tryz.ntmps66
  go_wp2_with fail
  go_loopw [13] (fun i wr => ∃ k : Nat, k ≤ m ∧ k ≤ m' ∧ i = .int .i64 k ∧ Hid (cmpL c (l.drop k) (l'.drop k) = R) ∧ Below w.heap.size w wr) (fun i _ => m - (intOf i).toNat)
  case atStart => exact ⟨0, Nat.zero_le _, Nat.zero_le _, rfl, HR.out.symm, Below.refl _ _⟩
  case round =>
    obtain ⟨k, hk, hk', rfl, HJ, hbw⟩ := hrel
    by_cases hlt : k < m
    · obtain ⟨x, hx⟩ : ∃ x, l[k]? = some x := ⟨l[k]'(by rw [← HM.out]; exact hlt), by simp⟩
      obtain ⟨blk, off, xa, xm, xc, rfl, hblk, q0, q1, q2, q3, q4⟩ := HV.out.cells hx
      have hblk' := Nat.lt_of_lt_of_le hblk hB
      have d0 := (hbw.cell hblk').trans q0
      have d1 := (hbw.cell hblk').trans q1
      have d2 := (hbw.cell hblk').trans q2
      have d3 := (hbw.cell hblk').trans q3
      have hdr : l.drop k = x :: l.drop (k + 1) := by
        rw [List.drop_eq_getElem_cons (by rw [← HM.out]; exact hlt)]
        congr 1
        exact (List.getElem?_eq_some_iff.1 hx).2
      have hj := HJ.out
      rw [hdr] at hj
      by_cases hlt' : k < m'
      · obtain ⟨y, hy⟩ : ∃ y, l'[k]? = some y := ⟨l'[k]'(by rw [← HM'.out]; exact hlt'), by simp⟩
        obtain ⟨blk', off', ya, ym, yc, rfl, hblk2, r0, r1, r2, r3, r4⟩ := HV'.out.cells hy
        have hblk2' := Nat.lt_of_lt_of_le hblk2 hB
        have hdr' : l'.drop k = y :: l'.drop (k + 1) := by
          rw [List.drop_eq_getElem_cons (by rw [← HM'.out]; exact hlt')]
          congr 1
          exact (List.getElem?_eq_some_iff.1 hy).2
        rw [hdr', cmpL] at hj
        have hb1 := below_alloc wr (.cells #[.int .i64 x.i, .int .u64 x.u, .string x.t, .slice xa xm xc] 33)
        have hbn := below_next hbw hb1
        have HB2 := hid (below_next hbn (below_alloc _ (.cells #[.int .i64 y.i, .int .u64 y.u, .string y.t, .slice ya ym yc] 33)))
        have f0 := (hbn.cell hblk2').trans r0
        have f1 := (hbn.cell hblk2').trans r1
        have f2 := (hbn.cell hblk2').trans r2
        have f3 := (hbn.cell hblk2').trans r3
        have HJJ := hid hj
        have hge : ¬ m' ≤ k := by omega
        have hgeI : ¬ (m' : Int) ≤ (k : Int) := by omega
        have HCALL := hid (fun W (hW : Below w.heap.size w W) => HT.out x (List.mem_of_getElem? hx) y (List.mem_of_getElem? hy) _ _ _ _ _ _ W q4 r4 hW)
        have HCALL2 := hid (HCALL.out _ HB2.out)
        clear q0 q1 q2 q3 q4 r0 r1 r2 r3 r4 hx hy hdr hdr' hj hb1 hbn hbw HJ HCALL
        go_wp2_with fail
        refine HCALL2.out.mono ?_
        rintro e w5 ⟨rfl, hb5⟩
        have HB5 := hid (below_next HB2.out hb5)
        have hjj := HJJ.out
        clear hb5 HCALL2 d0 d1 d2 d3 f0 f1 f2 f3
        generalize c x y = cxy at *
        by_cases hz : cxy = 0
        · rw [if_pos hz] at hjj
          have HJ2 := hid hjj
          subst hz
          clear hjj
          go_wp2
          exact ⟨⟨k + 1, by omega, by omega, by go_num, HJ2.out, HB5.out⟩, by simp [intOf]; omega⟩
        · rw [if_neg hz] at hjj
          subst hjj
          have hq : (cxy == 0) = false := by simp [hz]
          clear hz
          go_wp2
          go_ret
          exact ⟨rfl, HB5.out⟩
      · have hge : m' ≤ k := by omega
        have hgeI : (m' : Int) ≤ (k : Int) := by omega
        rw [List.drop_of_length_le (l := l') (by rw [← HM'.out]; omega), cmpL] at hj
        subst hj
        have HB2 := hid (below_next hbw (below_alloc wr (.cells #[.int .i64 x.i, .int .u64 x.u, .string x.t, .slice xa xm xc] 33)))
        clear q0 q1 q2 q3 q4 hx hdr hbw HJ
        go_wp2
        go_ret
        exact ⟨rfl, HB2.out⟩
    · have hj := HJ.out
      have hkI : ¬ (k : Int) < (m : Int) := by omega
      rw [List.drop_of_length_le (l := l) (by rw [← HM.out]; omega)] at hj
      have HBW := hid hbw
      clear hbw HJ
      by_cases hmm : m < m'
      · have hne : l'.drop k ≠ [] := by
          intro h0
          have := congrArg List.length h0
          rw [List.length_drop, ← HM'.out] at this
          simp at this
          omega
        obtain ⟨y, ys, hys⟩ := List.exists_cons_of_ne_nil hne
        rw [hys, cmpL] at hj
        subst hj
        have hmI : (m : Int) < (m' : Int) := by omega
        clear hys hne
        go_wp2
        go_ret
        exact ⟨rfl, HBW.out⟩
      · rw [List.drop_of_length_le (l := l') (by rw [← HM'.out]; omega), cmpL] at hj
        subst hj
        have hmI : ¬ (m : Int) < (m' : Int) := by omega
        go_wp2
        go_ret
        exact ⟨rfl, HBW.out⟩

set_option maxHeartbeats 4000000 in
theorem cmpClo_any (M R : Int) (q : Nat) (g h : Pl.GV) (a1 a2 : Option Addr) (m1 c1 m2 c2 : Nat) (w : World) (hq : Bx w q [.int .i64 (M + 1)] 3) (hM : 0 ≤ M ∧ M ≤ 100000)
    (hrec : ∀ W, Below w.heap.size w W → Calls Tryz.prog 40 #[.int .i64 M, gvA g (.slice a1 m1 c1), gvA h (.slice a2 m2 c2)] W fun e w' => e = .returned (.int .i64 R) ∧ Below W.heap.size W w') :
    Calls Tryz.prog 67 #[gvA g (.slice a1 m1 c1), gvA h (.slice a2 m2 c2), .pointer (some ⟨q, 0, none⟩)] w fun e w' => e = .returned (.int .i64 R) ∧ Below w.heap.size w w' := by
  unfold gvA at *
  have hb2 := below_next (below_alloc w (.cells #[.int .i64 g.i, .int .u64 g.u, .string g.t, .slice a1 m1 c1] 33)) (below_alloc _ (.cells #[.int .i64 h.i, .int .u64 h.u, .string h.t, .slice a2 m2 c2] 33))
  have c0 := (hq.below hb2).cell 0 rfl
  have HC := hid (hrec _ hb2)
  have HB2 := hid hb2
  clear hb2 hrec hq
  go_enter Tryz.func67, Tryz.ntmps67
  go_wp2_with fail
  refine HC.out.mono ?_
  rintro e w5 ⟨rfl, hb5⟩
  have HL := hid (below_next HB2.out hb5)
  clear hb5
  go_wp2
  go_ret
  exact ⟨rfl, HL.out⟩

theorem compare_any (n : Nat) : ∀ (B : Nat) (g h : Pl.GV) (a1 a2 : Option Addr) (m1 c1 m2 c2 : Nat) (w : World), n ≤ 65536 → VyS B n g.l w (.slice a1 m1 c1) → VyS B n h.l w (.slice a2 m2 c2) → B ≤ w.heap.size →
    Calls Tryz.prog 40 #[.int .i64 n, gvA g (.slice a1 m1 c1), gvA h (.slice a2 m2 c2)] w fun e w' => e = .returned (.int .i64 (cmpV n g h)) ∧ Below w.heap.size w w' := by
  induction n with
  | zero =>
    intro B g h a1 a2 m1 c1 m2 c2 w _ _ _ _
    refine (compare_step 0 0 g h a1 a2 m1 c1 m2 c2 w (fun h => absurd rfl h)).mono ?_
    rintro e w' ⟨rfl, hb⟩
    refine ⟨?_, hb⟩
    rw [if_pos rfl, cmpV]
    split
    · rename_i h0
      rw [h0]
    · rfl
  | succ n ih =>
    intro B g h a1 a2 m1 c1 m2 c2 w hn hg hh hB
    refine (compare_step ((n + 1 : Nat) : Int) (cmpL (cmpV n) g.l h.l) g h a1 a2 m1 c1 m2 c2 w (fun _ W hW hBx => ?_)).mono ?_
    · refine (cmpFunc_any 67 (.pointer (some ⟨w.heap.size, 0, none⟩)) (fun _ _ => rfl) B n (cmpV n) g.l h.l a1 a2 m1 m2 c1 c2 W (VyS.bel (hW.mono hB) _ _ _ hg) (VyS.bel (hW.mono hB) _ _ _ hh) (Nat.le_trans hB hW.size) ?_)
      intro x _ y _ b1 k1 d1 b2 k2 d2 W' hx hy hW'
      refine cmpClo_any (n : Int) _ w.heap.size x y b1 b2 k1 d1 k2 d2 W' (hBx.below hW') ⟨by omega, by omega⟩ (fun W2 hW2 => ?_)
      have hb2 : Below W.heap.size W W2 := below_next hW' hW2
      exact ih B x y b1 b2 k1 d1 k2 d2 W2 (by omega) (VyS.bel (hb2.mono (Nat.le_trans hB hW.size)) _ _ _ hx) (VyS.bel (hb2.mono (Nat.le_trans hB hW.size)) _ _ _ hy) (Nat.le_trans hB (Nat.le_trans hW.size hb2.size))
    · rintro e w' ⟨rfl, hb⟩
      refine ⟨?_, hb⟩
      rw [if_neg (show ¬ ((n + 1 : Nat) : Int) = 0 by omega)]
      rfl

set_option maxHeartbeats 2000000 in
theorem Compare_any (B : Nat) (g h : Pl.GV) (o o' : Value) (w : World) (hg : VyS B 65536 g.l w o) (hh : VyS B 65536 h.l w o') (hB : B ≤ w.heap.size) :
    Calls Tryz.prog 22 #[gvA g o, gvA h o'] w fun e w' => e = .returned (.int .i64 (cmpV 65536 g h)) ∧ Below w.heap.size w w' := by
  obtain ⟨a1, m1, c1, rfl⟩ := hg.shape
  obtain ⟨a2, m2, c2, rfl⟩ := hh.shape
  have hb2 := below_next (below_alloc w (.cells #[.int .i64 g.i, .int .u64 g.u, .string g.t, .slice a1 m1 c1] 33)) (below_alloc _ (.cells #[.int .i64 h.i, .int .u64 h.u, .string h.t, .slice a2 m2 c2] 33))
  have HC := hid (compare_any 65536 B g h a1 a2 m1 c1 m2 c2 _ (Nat.le_refl _) (VyS.bel (hb2.mono hB) _ _ _ hg) (VyS.bel (hb2.mono hB) _ _ _ hh) (Nat.le_trans hB hb2.size))
  have HB2 := hid hb2
  generalize cmpV 65536 g h = R at *
  unfold gvA at *
  clear hb2 hg hh
  go_enter Tryz.func22, Tryz.ntmps22
  go_wp2_with fail
  refine HC.out.mono ?_
  rintro e w5 ⟨rfl, hb5⟩
  have HL := hid (below_next HB2.out hb5)
  clear hb5
  go_wp2
  go_ret
  exact ⟨rfl, HL.out⟩
set_option maxHeartbeats 2000000 in
theorem Same_any (B : Nat) (g h : Pl.GV) (o o' : Value) (w : World) (hg : VyS B 65536 g.l w o) (hh : VyS B 65536 h.l w o') (hB : B ≤ w.heap.size) :
    Calls Tryz.prog 15 #[gvA g o, gvA h o'] w fun e w' => e = .returned (.bool (cmpV 65536 g h == 0)) ∧ Below w.heap.size w w' := by
  obtain ⟨a1, m1, c1, rfl⟩ := hg.shape
  obtain ⟨a2, m2, c2, rfl⟩ := hh.shape
  have hb2 := below_next (below_alloc w (.cells #[.int .i64 g.i, .int .u64 g.u, .string g.t, .slice a1 m1 c1] 33)) (below_alloc _ (.cells #[.int .i64 h.i, .int .u64 h.u, .string h.t, .slice a2 m2 c2] 33))
  have HC := hid (Compare_any B g h _ _ _ (VyS.bel (hb2.mono hB) _ _ _ hg) (VyS.bel (hb2.mono hB) _ _ _ hh) (Nat.le_trans hB hb2.size))
  have HB2 := hid hb2
  generalize cmpV 65536 g h = R at *
  unfold gvA at *
  clear hb2 hg hh
  go_enter Tryz.func15, Tryz.ntmps15
  go_wp2_with fail
  refine HC.out.mono ?_
  rintro e w5 ⟨rfl, hb5⟩
  have HL := hid (below_next HB2.out hb5)
  clear hb5
  go_wp2
  go_ret
  exact ⟨rfl, HL.out⟩
end Go.Proofs.YtmiohekmpjiloaaGreatDoor

namespace Go.Proofs.YtmiohekmpjiloaaGreatDoor
open Go.RowKit
set_option maxRecDepth 20000

theorem rdigit_any (c : Nat) (w : World) : Calls Tryz.prog 171 #[.int .u8 (c : Int)] w fun e w' => e = .returned (.bool (Pl.isDigit c)) ∧ w' = w := by
  rcases (show (48 ≤ c ∧ c ≤ 57) ∨ c < 48 ∨ 57 < c by omega) with h | h | h
  · rw [digit_eq c true (by simp; omega)]
    go_enter Tryz.func171, Tryz.ntmps171
    go_wp2
    go_ret
    first | exact ⟨rfl, rfl⟩ | (refine ⟨?_, rfl⟩; simp <;> omega)
  all_goals
    rw [digit_eq c false (by simp; omega)]
    go_enter Tryz.func171, Tryz.ntmps171
    go_wp2
    go_ret
    first | exact ⟨rfl, rfl⟩ | (refine ⟨?_, rfl⟩; simp <;> omega)

set_option maxHeartbeats 1000000 in
theorem rletter_any (c : Nat) (w : World) : Calls Tryz.prog 172 #[.int .u8 (c : Int)] w fun e w' => e = .returned (.bool (Pl.isLetter c)) ∧ w' = w := by
  rcases (show (97 ≤ c ∧ c ≤ 122) ∨ (65 ≤ c ∧ c ≤ 90) ∨ c < 65 ∨ (90 < c ∧ c < 97) ∨ 122 < c by omega) with h | h | h | h | h
  · rw [letter_eq c true (by simp; omega)]
    go_enter Tryz.func172, Tryz.ntmps172
    go_wp2
    go_ret
    first | exact ⟨rfl, rfl⟩ | (refine ⟨?_, rfl⟩; simp <;> omega)
  · rw [letter_eq c true (by simp; omega)]
    go_enter Tryz.func172, Tryz.ntmps172
    go_wp2
    go_ret
    first | exact ⟨rfl, rfl⟩ | (refine ⟨?_, rfl⟩; simp <;> omega)
  all_goals
    rw [letter_eq c false (by simp; omega)]
    go_enter Tryz.func172, Tryz.ntmps172
    go_wp2
    go_ret
    first | exact ⟨rfl, rfl⟩ | (refine ⟨?_, rfl⟩; simp <;> omega)

theorem rpart_any (c : Nat) (w : World) : Calls Tryz.prog 154 #[.int .u8 (c : Int)] w fun e w' => e = .returned (.bool (Pl.isPart c)) ∧ w' = w := by
  have hd := rdigit_any c w
  have hl := rletter_any c w
  unfold Pl.isPart
  cases hb : Pl.isDigit c with
  | true =>
    rw [hb] at hd
    go_enter Tryz.func154, Tryz.ntmps154
    go_wp2_with (go_at_call 171; refine hd.mono ?_; rintro e w2 ⟨rfl, rfl⟩)
    go_ret
    exact ⟨rfl, rfl⟩
  | false =>
    rw [hb] at hd
    cases hb2 : Pl.isLetter c with
    | true =>
      rw [hb2] at hl
      go_enter Tryz.func154, Tryz.ntmps154
      go_wp2_with (first | (go_at_call 171; refine hd.mono ?_; rintro e w2 ⟨rfl, rfl⟩) | (go_at_call 172; refine hl.mono ?_; rintro e w2 ⟨rfl, rfl⟩))
      go_ret
      exact ⟨rfl, rfl⟩
    | false =>
      rw [hb2] at hl
      go_enter Tryz.func154, Tryz.ntmps154
      go_wp2_with (first | (go_at_call 171; refine hd.mono ?_; rintro e w2 ⟨rfl, rfl⟩) | (go_at_call 172; refine hl.mono ?_; rintro e w2 ⟨rfl, rfl⟩))
      go_ret
      refine ⟨?_, rfl⟩
      congr 2
      by_cases h : c = 95
      · subst h; rfl
      · have h1 : ((c : Int) == 95) = false := by simp; omega
        have h2 : (c == 95) = false := by simp; omega
        simp [h1, h2]

theorem take_at (s : ByteArray) (k : Nat) (h : k < s.size) : (bl s).take (k + 1) = (bl s).take k ++ [s[k].toNat] := by
  have hl : k < (bl s).length := by rw [bl_length]; exact h
  rw [List.take_succ_eq_append_getElem hl]
  congr 2
  simp only [bl, List.getElem_map, Array.getElem_toList]
  rfl
def signsB : ByteArray := { data := #[123, 125, 40, 41, 91, 93, 59, 58, 44, 61, 63] }
set_option maxHeartbeats 1000000 in
theorem rsign_any (c : Nat) (w : World) : Calls Tryz.prog 153 #[.int .u8 (c : Int)] w fun e w' => e = .returned (.bool (Pl.isSign c)) ∧ w' = w := by
  have hs : Pl.isSign c = (bl signsB).contains c := rfl
  rw [hs]
  go_enter Tryz.func153, Tryz.ntmps153
  go_wp2_with fail
  go_loopw [3] (fun i wr => ∃ (k : Nat), k ≤ 11 ∧ i = .int .i64 k ∧ ((bl signsB).take k).contains c = false ∧ w = wr) (fun i _ => 11 - (intOf i).toNat)
  case atStart => exact ⟨0, Nat.zero_le _, rfl, rfl, rfl⟩
  case round =>
    obtain ⟨k, hk, rfl, hc, rfl⟩ := hrel
    by_cases hlt : k < 11
    · have ht := take_at signsB k hlt
      have hmem : signsB[k].toNat ∈ bl signsB := by
        rw [← List.take_append_drop (k + 1) (bl signsB), ht]
        simp
      cases hq : (((({ data := #[123, 125, 40, 41, 91, 93, 59, 58, 44, 61, 63] } : ByteArray)[k]'hlt).toNat : Int) == (c : Int)) with
      | true =>
        have HH : Hid ((bl signsB).contains c = true) := by
          have h1 : signsB[k].toNat = c := by have := eq_of_beq hq; exact Int.ofNat.inj this
          rw [h1] at hmem
          show (bl signsB).contains c = true
          simpa using hmem
        clear ht hmem
        go_wp2
        go_ret
        rw [HH.out]
        exact ⟨rfl, rfl⟩
      | false =>
        have HH : Hid (((bl signsB).take (k + 1)).contains c = false) := by
          have h1 : signsB[k].toNat ≠ c := by
            intro h
            have : (((({ data := #[123, 125, 40, 41, 91, 93, 59, 58, 44, 61, 63] } : ByteArray)[k]'hlt).toNat : Int) == (c : Int)) = true := by
              show ((signsB[k].toNat : Int) == (c : Int)) = true
              rw [h]
              simp
            rw [this] at hq
            cases hq
          show ((bl signsB).take (k + 1)).contains c = false
          rw [ht, List.contains_append, hc]
          simp only [List.contains_cons, List.contains_nil, Bool.or_false, Bool.false_or]
          simpa using fun h => h1 h.symm
        clear ht hmem
        go_wp2
        exact ⟨⟨k + 1, by omega, by go_num, HH.out, trivial⟩, by simp [intOf]; omega⟩
    · have hke : k = 11 := by omega
      subst hke
      have hc2 : (bl signsB).contains c = false := hc
      go_wp2
      go_ret
      rw [hc2]
      exact ⟨rfl, rfl⟩
end Go.Proofs.YtmiohekmpjiloaaGreatDoor

namespace Go.Proofs.YtmiohekmpjiloaaGreatDoor
open Go.RowKit
set_option maxRecDepth 20000

theorem head_bl (x : ByteArray) (h : 0 < x.size) : bl x = x[0].toNat :: (bl x).drop 1 := by
  have := drop_at x 0 h
  simpa using this

set_option maxHeartbeats 2000000 in
set_option maxRecDepth 4000 in
theorem rword_any (x : ByteArray) (w : World) (h0 : 0 < x.size) (hsz : x.size ≤ 70000) : Calls Tryz.prog 155 #[.string x] w fun e w' => e = .returned (.tuple #[.int .i64 ((Pl.wordE (bl x)).1 : Int), .int .i64 (Pl.wordE (bl x)).2]) ∧ w' = w := by
  have hh := head_bl x h0
  have hlen := bl_length x
  have hl := rletter_any (x[0].toNat) w
  have hd := rdigit_any (x[0].toNat) w
  have hx1 : (0 : Int) ≤ 0 ∧ (0 : Int) < (x.size : Int) := ⟨Int.le_refl _, by omega⟩
  have hW : Pl.wordE (bl x) = if Pl.isLetter x[0].toNat then (if 32 < x.size then ((1, 31) : Nat × Int) else (1, 0)) else if !Pl.isDigit x[0].toNat then (0, 32) else if !(bl x).all Pl.isDigit then (2, 4) else if 9 < x.size ∨ (x[0].toNat = 48 ∧ 1 < x.size) then (2, 4) else (2, 0) := by
    rw [← hlen]
    generalize (bl x).drop 1 = r at hh
    rw [hh]
    rfl
  generalize hW2 : Pl.wordE (bl x) = W at hW ⊢
  clear hW2
  cases hbl : Pl.isLetter x[0].toNat with
  | true =>
    rw [hbl] at hl hW
    by_cases h32 : 32 < x.size
    · rw [if_pos rfl, if_pos h32] at hW
      have h32' : (32 : Int) < (x.size : Int) := by omega
      subst hW
      clear hh
      go_enter Tryz.func155, Tryz.ntmps155
      go_wp2_with (go_at_call 172; refine hl.mono ?_; rintro e w2 ⟨rfl, hw2⟩; subst w2)
      go_returns
      exact ⟨rfl, rfl⟩
    · rw [if_pos rfl, if_neg h32] at hW
      have h32' : ¬ (32 : Int) < (x.size : Int) := by omega
      subst hW
      clear hh
      go_enter Tryz.func155, Tryz.ntmps155
      go_wp2_with (go_at_call 172; refine hl.mono ?_; rintro e w2 ⟨rfl, hw2⟩; subst w2)
      go_returns
      exact ⟨rfl, rfl⟩
  | false =>
    rw [hbl] at hl hW
    rw [if_neg (by simp)] at hW
    cases hbd : Pl.isDigit x[0].toNat with
    | false =>
      rw [hbd] at hd hW
      rw [if_pos (by rfl)] at hW
      subst hW
      clear hh
      go_enter Tryz.func155, Tryz.ntmps155
      go_wp2_with (first | (go_at_call 172; refine hl.mono ?_; rintro e w2 ⟨rfl, hw2⟩; subst w2) | (go_at_call 171; refine hd.mono ?_; rintro e w2 ⟨rfl, hw2⟩; subst w2))
      go_returns
      exact ⟨rfl, rfl⟩
    | true =>
      rw [hbd] at hd hW
      rw [if_neg (by simp)] at hW
      clear hh
      have HW : Hid (W = if (!(bl x).all Pl.isDigit) = true then ((2, 4) : Nat × Int) else if 9 < x.size ∨ (x[0].toNat = 48 ∧ 1 < x.size) then (2, 4) else (2, 0)) := hW
      clear hW
      go_enter Tryz.func155, Tryz.ntmps155
      go_wp2_with (first | (go_at_call 172; refine hl.mono ?_; rintro e w2 ⟨rfl, hw2⟩; subst w2) | (go_at_call 171; refine hd.mono ?_; rintro e w2 ⟨rfl, hw2⟩; subst w2))
      go_loopw [4] (fun i wr => ∃ (k : Nat), k ≤ x.size ∧ i = .int .i64 k ∧ ((bl x).take k).all Pl.isDigit = true ∧ w = wr) (fun i _ => x.size - (intOf i).toNat)
      case atStart => exact ⟨0, Nat.zero_le _, rfl, rfl, rfl⟩
      case round =>
        obtain ⟨k, hk, rfl, hc, rfl⟩ := hrel
        by_cases hlt : k < x.size
        · have ht := take_at x k hlt
          have hdk := rdigit_any (x[k].toNat) w
          cases hbk : Pl.isDigit x[k].toNat with
          | true =>
            have HH : Hid (((bl x).take (k + 1)).all Pl.isDigit = true) := by
              show ((bl x).take (k + 1)).all Pl.isDigit = true
              rw [ht, List.all_append, hc]
              simp [hbk]
            rw [hbk] at hdk
            clear ht
            go_wp2_with (go_at_call 171; refine hdk.mono ?_; rintro e w2 ⟨rfl, hw2⟩; subst w2)
            exact ⟨⟨k + 1, by omega, by go_num, HH.out, by first | rfl | trivial⟩, by simp [intOf]; omega⟩
          | false =>
            have HH : Hid ((bl x).all Pl.isDigit = false) := by
              show (bl x).all Pl.isDigit = false
              rw [← List.take_append_drop (k + 1) (bl x), ht, List.all_append, List.all_append]
              simp [hbk]
            rw [hbk] at hdk
            clear ht
            go_wp2_with (go_at_call 171; refine hdk.mono ?_; rintro e w2 ⟨rfl, hw2⟩; subst w2)
            go_returns
            rw [HW.out, HH.out, if_pos (by rfl)]
            exact ⟨rfl, rfl⟩
        · have hke : k = x.size := by omega
          rw [hke, List.take_of_length_le (by rw [bl_length]; exact Nat.le_refl _)] at hc
          have HV : Hid (W = if 9 < x.size ∨ (x[0].toNat = 48 ∧ 1 < x.size) then ((2, 4) : Nat × Int) else (2, 0)) := by
            show W = _
            rw [HW.out, hc]
            rfl
          clear HW hc
          by_cases h9 : 9 < x.size
          · have h9' : (9 : Int) < (x.size : Int) := by omega
            go_wp2
            go_returns
            rw [HV.out, if_pos (.inl h9)]
            exact ⟨rfl, rfl⟩
          · have h9' : ¬ (9 : Int) < (x.size : Int) := by omega
            by_cases h48 : x[0].toNat = 48
            · have hq : ((x[0].toNat : Int) == 48) = true := by rw [h48]; rfl
              have H48 : Hid (x[0].toNat = 48) := h48
              clear h48
              by_cases h1 : 1 < x.size
              · have h1' : (1 : Int) < (x.size : Int) := by omega
                go_wp2
                go_returns
                rw [HV.out, if_pos (.inr ⟨H48.out, h1⟩)]
                exact ⟨rfl, rfl⟩
              · have h1' : ¬ (1 : Int) < (x.size : Int) := by omega
                go_wp2
                go_returns
                rw [HV.out, if_neg (by omega)]
                exact ⟨rfl, rfl⟩
            · have hq : ((x[0].toNat : Int) == 48) = false := by simp; omega
              have H48 : Hid (¬ x[0].toNat = 48) := h48
              clear h48
              go_wp2
              go_returns
              rw [HV.out, if_neg (by rintro (h | h); exact h9 h; exact H48.out h.1)]
              exact ⟨rfl, rfl⟩
end Go.Proofs.YtmiohekmpjiloaaGreatDoor

namespace Go.Proofs.YtmiohekmpjiloaaGreatDoor
open Go.RowKit
set_option maxRecDepth 20000

/-- One more token behind those of the row. -/
theorem toks_app {B : Nat} {w wr w5 : World} {g cap k ln : Nat} {x : ByteArray} {tv : Value} {tl : List T3} {o : Obj} (hb : Below B w wr) (hBw : B ≤ wr.heap.size) (hT : Toks B wr tv tl)
    (hown5 : w5.ownsRow B 183 3 (.slice (some ⟨g, 0, none⟩) (tl.length + 1) cap) (tl.length + 1) (rowT tl ++ tcells (k, x, ln))) (hgr5 : (wr.alloc o).grownBy w5 tv.ownBlock) :
    Toks B w5 (.slice (some ⟨g, 0, none⟩) (tl.length + 1) cap) (tl ++ [(k, x, ln)]) ∧ Below B w w5 :=
  ⟨Toks.more hown5 rfl, below_grown (hb.alloc hBw o) hgr5 (by simp; omega) hT.since⟩

theorem tok_stop (s : ByteArray) (k ln : Nat) (h : k < s.size) (h35 : s[k].toNat = 35) : Pl.tok ((bl s).drop k) ln = Pl.tok ((bl s).drop (endOf notNl s k)) ln := by
  rw [drop_endOf, drop_at s k h, h35, Pl.tok_remark, List.dropWhile_cons, if_pos (by rfl)]
  rfl

set_option maxHeartbeats 4000000 in
set_option maxRecDepth 4000 in
theorem rtokens_any (s : ByteArray) (w : World) :
    Calls Tryz.prog 127 #[.string s] w fun e w' => ∃ v tl, e = .returned (.tuple #[v, .int .i64 ((tokA s).2.1 : Int), .int .i64 (tokA s).2.2]) ∧ Toks w.heap.size w' v tl ∧ tl.map asTok = (tokA s).1 ∧ Below w.heap.size w w' := by
  by_cases hbig : 65536 < s.size
  · have hA : tokA s = ([], 0, 5) := by unfold tokA; rw [if_pos hbig]
    have hbi : (65536 : Int) < (s.size : Int) := by omega
    rw [hA]
    go_enter Tryz.func127, Tryz.ntmps127
    go_wp2
    go_returns
    exact ⟨_, [], rfl, ⟨rfl, .inl ⟨rfl, rfl⟩⟩, rfl, Below.refl _ _⟩
  have hA : tokA s = Pl.tok (bl s) 1 := by unfold tokA; rw [if_neg hbig]
  have hbi : ¬ (65536 : Int) < (s.size : Int) := by omega
  rw [hA]
  clear hA
  have hsz : s.size ≤ 65536 := by omega
  generalize hR : Pl.tok (bl s) 1 = R
  obtain ⟨B, hB⟩ : ∃ B, B = w.heap.size := ⟨_, rfl⟩
  rw [← hB]
  obtain ⟨i0, hi, hz0, hz1, hz2⟩ := info_parts Tryz.info183
  go_enter Tryz.func127, Tryz.ntmps127
  go_wp2_with fail
  go_loopw [5, 6, 7] (fun tv l i wr => ∃ (k ln : Nat) (tl : List T3), k ≤ s.size ∧ tl.length ≤ k ∧ ln ≤ 1 + k ∧ i = .int .i64 k ∧ l = .int .i64 ln ∧ R = Pl.preT (tl.map asTok) (Pl.tok ((bl s).drop k) ln) ∧ Toks B wr tv tl ∧ Below B w wr) (fun _ _ i _ => s.size - (intOf i).toNat)
  case atStart => exact ⟨0, 1, [], Nat.zero_le _, Nat.le_refl _, by omega, rfl, rfl, by rw [List.drop_zero, List.map_nil, Pl.preT_nil]; exact hR.symm, ⟨rfl, .inl ⟨rfl, rfl⟩⟩, Below.refl _ _⟩
  case round =>
    obtain ⟨k, ln, tl, hk, htl, hln, rfl, rfl, hRk, hT, hb⟩ := hrel
    by_cases hlt : k < s.size
    · have hd := drop_at s k hlt
      have hsg := rsign_any s[k].toNat wr
      have hpt := rpart_any s[k].toNat wr
      by_cases h10 : s[k].toNat = 10
      · have hq : ((s[k].toNat : Int) == 10) = true := by rw [h10]; rfl
        have hRn : Hid (R = Pl.preT (tl.map asTok) (Pl.tok ((bl s).drop (k + 1)) (ln + 1))) := by
          show R = _
          rw [hRk, hd, h10, Pl.tok_nl]
        clear hRk hR hd h10 hsg hpt
        go_wp2
        exact ⟨⟨k + 1, ln + 1, tl, by omega, by omega, by omega, by go_num, by go_num, hRn.out, hT, hb⟩, by simp [intOf]; omega⟩
      have hq10 : ((s[k].toNat : Int) == 10) = false := by simp; omega
      cases hbl : Pl.isBlank s[k].toNat with
      | true =>
        have hRn : Hid (R = Pl.preT (tl.map asTok) (Pl.tok ((bl s).drop (k + 1)) ln)) := by
          show R = _
          rw [hRk, hd, Pl.tok_blank _ _ _ hbl]
        have fin : (∃ (k' ln' : Nat) (tl' : List T3), k' ≤ s.size ∧ tl'.length ≤ k' ∧ ln' ≤ 1 + k' ∧ Value.int .i64 ((k : Int) + 1) = .int .i64 k' ∧ Value.int .i64 (ln : Int) = .int .i64 ln' ∧ R = Pl.preT (tl'.map asTok) (Pl.tok ((bl s).drop k') ln') ∧ Toks B wr u5 tl' ∧ Below B w wr) ∧ s.size - (intOf (.int .i64 ((k : Int) + 1))).toNat < s.size - (intOf (.int .i64 (k : Int))).toNat :=
          ⟨⟨k + 1, ln, tl, by omega, by omega, by omega, by go_num, rfl, hRn.out, hT, hb⟩, by simp [intOf]; omega⟩
        have hor : s[k].toNat = 32 ∨ s[k].toNat = 9 ∨ s[k].toNat = 13 := by
          simp [Pl.isBlank] at hbl
          omega
        clear hRk hR hd h10 hsg hpt hbl
        rcases hor with h | h | h
        · have e1 : ((s[k].toNat : Int) == 32) = true := by rw [h]; rfl
          clear h
          go_wp2
          exact fin
        · have e1 : ((s[k].toNat : Int) == 32) = false := by rw [h]; rfl
          have e2 : ((s[k].toNat : Int) == 9) = true := by rw [h]; rfl
          clear h
          go_wp2
          exact fin
        · have e1 : ((s[k].toNat : Int) == 32) = false := by rw [h]; rfl
          have e2 : ((s[k].toNat : Int) == 9) = false := by rw [h]; rfl
          have e3 : ((s[k].toNat : Int) == 13) = true := by rw [h]; rfl
          clear h
          go_wp2
          exact fin
      | false =>
        obtain ⟨e1, e2, e3⟩ : ((s[k].toNat : Int) == 32) = false ∧ ((s[k].toNat : Int) == 9) = false ∧ ((s[k].toNat : Int) == 13) = false := by
          simp [Pl.isBlank] at hbl
          refine ⟨?_, ?_, ?_⟩ <;> simp <;> omega
        by_cases h35 : s[k].toNat = 35
        · have e4 : ((s[k].toNat : Int) == 35) = true := by rw [h35]; rfl
          have hRn : Hid (R = Pl.preT (tl.map asTok) (Pl.tok ((bl s).drop (endOf notNl s k)) ln)) := by
            show R = _
            rw [hRk, tok_stop s k ln hlt h35]
          have hE1 := endOf_le notNl s k hk
          have hE2 := endOf_ge notNl s k
          have hE3 : k < endOf notNl s k := by
            have := (endOf_step notNl s k (by rw [hd]; simp [seesB, notNl, h10])).2
            have := endOf_ge notNl s (k + 1)
            omega
          have hEE : Hid (endOf notNl s k = endOf notNl s k) := rfl
          generalize hE : endOf notNl s k = E at hRn hE1 hE2 hE3
          have HE : Hid (endOf notNl s k = E) := hE
          clear hRk hR hd h10 hsg hpt hbl h35 hE hEE
          go_wp2_with fail
          go_loopw [7] (fun i wr' => ∃ (j : Nat), k ≤ j ∧ j ≤ s.size ∧ i = .int .i64 j ∧ Hid (endOf notNl s j = E) ∧ wr = wr') (fun i _ => s.size - (intOf i).toNat)
          case atStart => exact ⟨k, Nat.le_refl _, hk, rfl, HE, rfl⟩
          case round =>
            obtain ⟨j, hj1, hj2, rfl, HJ, rfl⟩ := hrel
            by_cases hjl : j < s.size
            · have hdj := drop_at s j hjl
              by_cases hj10 : s[j].toNat = 10
              · have q1 : ((s[j].toNat : Int) != 10) = false := by rw [hj10]; rfl
                have hjE : j = E := by
                  have := endOf_stop notNl s j (by rw [hdj, hj10]; rfl)
                  rw [← HJ.out]
                  exact this.symm
                subst hjE
                clear hdj hj10
                go_wp2
                exact ⟨⟨j, ln, tl, by omega, by omega, by omega, rfl, rfl, hRn.out, hT, hb⟩, by simp [intOf]; omega⟩
              · have q1 : ((s[j].toNat : Int) != 10) = true := by simp; omega
                have HJ2 : Hid (endOf notNl s (j + 1) = E) := by
                  have := (endOf_step notNl s j (by rw [hdj]; simp [seesB, notNl, hj10])).2
                  show _ = E
                  rw [this]
                  exact HJ.out
                clear hdj hj10
                go_wp2
                exact ⟨⟨j + 1, by omega, by omega, by go_num, HJ2, by first | rfl | trivial⟩, by simp [intOf]; omega⟩
            · have hjs : j = s.size := by omega
              have hjE : j = E := by
                have := endOf_ge notNl s j
                have h2 := HJ.out
                omega
              subst hjE
              clear hjs
              go_wp2
              exact ⟨⟨j, ln, tl, by omega, by omega, by omega, rfl, rfl, hRn.out, hT, hb⟩, by simp [intOf]; omega⟩
        · have e4 : ((s[k].toNat : Int) == 35) = false := by simp; omega
          have hidx : ∀ x, bl x = bl x → True := fun _ _ => trivial
          clear hidx
          cases hsb : Pl.isSign s[k].toNat with
          | true =>
            rw [hsb] at hsg
            have hRn : Hid (R = Pl.preT ((tl ++ [(3, s.extract k (k + 1), ln)]).map asTok) (Pl.tok ((bl s).drop (k + 1)) ln)) := by
              show R = _
              rw [hRk, hd, Pl.tok_sign _ _ _ hsb, Pl.preT_cons, List.map_append]
              simp only [List.map_cons, List.map_nil, asTok]
              rw [bl_extract s k 1 (by omega), hd]
              rfl
            clear hRk hR hd hpt hbl h10 h35 hsb
            obtain ⟨ad, cp, rfl⟩ := hT.shape
            have hBw : B ≤ wr.heap.size := by have := hb.size; omega
            have hT3 := hT.below ((Below.refl _ wr).alloc (Nat.le_refl _) (.cells #[.int .i64 3, .string (s.extract k (k + 1)), .int .i64 (ln : Int)] 183))
            go_wp2_with (first | (go_at_call 153; refine hsg.mono ?_; rintro e w2 ⟨rfl, hw2⟩; subst w2) | (at_builtin; refine wpList_append_lies _ rfl (.tmp 61) (.tmp 69) 178 rfl B 183 i0 _ 3 32 Tryz.underlying178 hi hz0 hz1 hz2 rfl (by decide) (.slice ad tl.length cp) tl.length (rowT tl) rfl hT3 ⟨wr.heap.size, 0, none⟩ 1 1 (tcells (3, s.extract k (k + 1), ln)) rfl rfl (World.news_of_block (heap_alloc_new wr _)) (fun u hu => by simp [tcells] at hu; rcases hu with rfl | rfl | rfl <;> rfl) (by decide) (by unfold maxLen; omega) (by omega) (by simp; omega) _ rfl ?_; intro g cap w5 hown5 hgr5 hat5 hlt5))
            obtain ⟨hT5, hb5⟩ := toks_app hb hBw hT hown5 hgr5
            exact ⟨⟨k + 1, ln, tl ++ [(3, s.extract k (k + 1), ln)], by omega, by simp; omega, by omega, by go_num, rfl, hRn.out, hT5, hb5⟩, by simp [intOf]; omega⟩
          | false =>
            rw [hsb] at hsg
            have hst : Stop ((bl s).drop k) := by rw [hd]; exact ⟨h10, hbl, h35⟩
            cases hpb : Pl.isPart s[k].toNat with
            | false =>
              rw [hpb] at hpt
              have hRn : Hid (R = ([], ln, 32)) := by
                show R = _
                rw [hRk, hd, Pl.tok_else _ _ _ h10 hbl h35 hsb hpb]
                simp [Pl.preT]
              clear hRk hR hd hbl h10 h35 hsb hpb hst
              go_wp2_with (first | (go_at_call 153; refine hsg.mono ?_; rintro e w2 ⟨rfl, hw2⟩; subst w2) | (go_at_call 154; refine hpt.mono ?_; rintro e w2 ⟨rfl, hw2⟩; subst w2))
              go_returns
              rw [hRn.out]
              exact ⟨_, [], rfl, ⟨rfl, .inl ⟨rfl, rfl⟩⟩, rfl, hb⟩
            | true =>
              rw [hpb] at hpt
              have hE1 := endOf_le Pl.isPart s k hk
              have hE2 := endOf_ge Pl.isPart s k
              have hE3 : k < endOf Pl.isPart s k := by
                have := (endOf_step Pl.isPart s k (by rw [hd]; exact hpb)).2
                have := endOf_ge Pl.isPart s (k + 1)
                omega
              obtain ⟨W1, W2, hWE⟩ : ∃ W1 W2, Pl.wordE (((bl s).drop k).takeWhile Pl.isPart) = (W1, W2) := ⟨_, _, rfl⟩
              have hbx : bl (s.extract k (endOf Pl.isPart s k)) = ((bl s).drop k).takeWhile Pl.isPart := by
                have h1 := bl_extract s k (((bl s).drop k).takeWhile Pl.isPart).length hE1
                rw [Pl.take_while] at h1
                exact h1
              have hwd : Calls Tryz.prog 155 #[.string (s.extract k (endOf Pl.isPart s k))] wr fun e w' => e = .returned (.tuple #[.int .i64 (W1 : Int), .int .i64 W2]) ∧ w' = wr := by
                have hxs := extract_size s k _ hE2 hE1
                have h := rword_any (s.extract k (endOf Pl.isPart s k)) wr (by omega) (by omega)
                rw [hbx, hWE] at h
                exact h
              have hdr := drop_endOf Pl.isPart s k
              have hR0 : Hid (W2 = 0 → R = Pl.preT ((tl ++ [(W1, s.extract k (endOf Pl.isPart s k), ln)]).map asTok) (Pl.tok ((bl s).drop (endOf Pl.isPart s k)) ln)) := by
                intro hw
                rw [hRk, List.map_append]
                simp only [List.map_cons, List.map_nil, asTok]
                rw [hbx, hdr, ← Pl.preT_cons]
                rw [hd] at hWE ⊢
                rw [Pl.tok_part _ _ _ hpb, hWE]
                simp only [hw, if_true]
              have hR1 : Hid (W2 ≠ 0 → R = ([], ln, W2)) := by
                intro hw
                rw [hRk]
                rw [hd] at hWE ⊢
                rw [Pl.tok_part _ _ _ hpb, hWE]
                simp [hw, Pl.preT]
              generalize hE : endOf Pl.isPart s k = E at hE1 hE2 hE3 hwd hR0
              have HE : Hid (endOf Pl.isPart s k = E) := hE
              clear hRk hR hd hbl h10 h35 hsb hpb hst hE hdr hbx hWE
              obtain ⟨ad, cp, rfl⟩ := hT.shape
              have hBw : B ≤ wr.heap.size := by have := hb.size; omega
              go_wp2_with (first | (go_at_call 153; refine hsg.mono ?_; rintro e w2 ⟨rfl, hw2⟩; subst w2) | (go_at_call 154; refine hpt.mono ?_; rintro e w2 ⟨rfl, hw2⟩; subst w2))
              clear hsg hpt
              go_loopw [9] (fun i wr' => ∃ (j : Nat), k ≤ j ∧ j ≤ s.size ∧ i = .int .i64 j ∧ Hid (endOf Pl.isPart s j = E) ∧ wr = wr') (fun i _ => s.size - (intOf i).toNat)
              case atStart => exact ⟨k, Nat.le_refl _, hk, rfl, HE, rfl⟩
              case round =>
                obtain ⟨j, hj1, hj2, rfl, HJ, rfl⟩ := hrel
                by_cases hjl : j < s.size
                · have hdj := drop_at s j hjl
                  have hpj := rpart_any s[j].toNat wr
                  cases hpb : Pl.isPart s[j].toNat with
                  | true =>
                    rw [hpb] at hpj
                    have HJ2 : Hid (endOf Pl.isPart s (j + 1) = E) := by
                      have := (endOf_step Pl.isPart s j (by rw [hdj]; exact hpb)).2
                      show _ = E
                      rw [this]
                      exact HJ.out
                    clear hdj
                    go_wp2_with (go_at_call 154; refine hpj.mono ?_; rintro e w2 ⟨rfl, hw2⟩; subst w2)
                    exact ⟨⟨j + 1, by omega, by omega, by go_num, HJ2, by first | rfl | trivial⟩, by simp [intOf]; omega⟩
                  | false =>
                    rw [hpb] at hpj
                    have hjE : j = E := by
                      have := endOf_stop Pl.isPart s j (by rw [hdj]; exact hpb)
                      rw [← HJ.out]
                      exact this.symm
                    subst hjE
                    clear hdj
                    go_wp2_with fail
                    refine hpj.mono ?_
                    rintro e w2 ⟨rfl, hw2⟩
                    subst w2
                    go_wp2_with fail
                    refine hwd.mono ?_
                    rintro e w2 ⟨rfl, hw2⟩
                    subst w2
                    by_cases hw0 : W2 = 0
                    · subst hw0
                      have hT3 := hT.below ((Below.refl _ wr).alloc (Nat.le_refl _) (.cells #[.int .i64 (W1 : Int), .string (s.extract k j), .int .i64 (ln : Int)] 183))
                      go_wp2_with (at_builtin; refine wpList_append_lies _ rfl (.tmp 101) (.tmp 109) 178 rfl B 183 i0 _ 3 32 Tryz.underlying178 hi hz0 hz1 hz2 rfl (by decide) (.slice ad tl.length cp) tl.length (rowT tl) rfl hT3 ⟨wr.heap.size, 0, none⟩ 1 1 (tcells (W1, (s.extract k j), ln)) rfl rfl (World.news_of_block (heap_alloc_new wr _)) (fun u hu => by simp [tcells] at hu; rcases hu with rfl | rfl | rfl <;> rfl) (by decide) (by unfold maxLen; omega) (by omega) (by simp; omega) _ rfl ?_; intro g cap w5 hown5 hgr5 hat5 hlt5)
                      obtain ⟨hT5, hb5⟩ := toks_app hb hBw hT hown5 hgr5
                      exact ⟨⟨j, ln, tl ++ [(W1, (s.extract k j), ln)], by omega, by simp; omega, by omega, rfl, rfl, hR0.out trivial, hT5, hb5⟩, by simp [intOf]; omega⟩
                    · have hne : (W2 != 0) = true := by simp; exact hw0
                      go_wp2
                      go_returns
                      rw [hR1.out hw0]
                      exact ⟨_, [], rfl, ⟨rfl, .inl ⟨rfl, rfl⟩⟩, rfl, hb⟩
                · have hjs : j = s.size := by omega
                  have hjE : j = E := by
                    have := endOf_ge Pl.isPart s j
                    have h2 := HJ.out
                    omega
                  subst hjE
                  clear hjs
                  go_wp2_with fail
                  refine hwd.mono ?_
                  rintro e w2 ⟨rfl, hw2⟩
                  subst w2
                  by_cases hw0 : W2 = 0
                  · subst hw0
                    have hT3 := hT.below ((Below.refl _ wr).alloc (Nat.le_refl _) (.cells #[.int .i64 (W1 : Int), .string (s.extract k j), .int .i64 (ln : Int)] 183))
                    go_wp2_with (at_builtin; refine wpList_append_lies _ rfl (.tmp 101) (.tmp 109) 178 rfl B 183 i0 _ 3 32 Tryz.underlying178 hi hz0 hz1 hz2 rfl (by decide) (.slice ad tl.length cp) tl.length (rowT tl) rfl hT3 ⟨wr.heap.size, 0, none⟩ 1 1 (tcells (W1, (s.extract k j), ln)) rfl rfl (World.news_of_block (heap_alloc_new wr _)) (fun u hu => by simp [tcells] at hu; rcases hu with rfl | rfl | rfl <;> rfl) (by decide) (by unfold maxLen; omega) (by omega) (by simp; omega) _ rfl ?_; intro g cap w5 hown5 hgr5 hat5 hlt5)
                    obtain ⟨hT5, hb5⟩ := toks_app hb hBw hT hown5 hgr5
                    exact ⟨⟨j, ln, tl ++ [(W1, (s.extract k j), ln)], by omega, by simp; omega, by omega, rfl, rfl, hR0.out trivial, hT5, hb5⟩, by simp [intOf]; omega⟩
                  · have hne : (W2 != 0) = true := by simp; exact hw0
                    go_wp2
                    go_returns
                    rw [hR1.out hw0]
                    exact ⟨_, [], rfl, ⟨rfl, .inl ⟨rfl, rfl⟩⟩, rfl, hb⟩
    · have hke : k = s.size := by omega
      have hRe : Hid (R = (tl.map asTok, 0, 0)) := by
        show R = _
        rw [hRk, hke, drop_end, Pl.tok_nil]
        simp [Pl.preT]
      clear hRk hR
      obtain ⟨ad, cp, rfl⟩ := hT.shape
      go_wp2
      go_returns
      rw [hRe.out]
      exact ⟨_, tl, rfl, hT, rfl, hb⟩
end Go.Proofs.YtmiohekmpjiloaaGreatDoor

namespace Go.Proofs.YtmiohekmpjiloaaGreatDoor
open Go.RowKit
set_option maxRecDepth 20000

theorem tw_all (t : List Nat) (h : ∀ d ∈ t, Pl.isPart d = true) : t.takeWhile Pl.isPart = t ∧ t.dropWhile Pl.isPart = [] := by
  induction t with
  | nil => exact ⟨rfl, rfl⟩
  | cons d t ih =>
    have h1 := ih (fun e he => h e (by simp [he]))
    have h2 := h d (by simp)
    simp [h2, h1.1, h1.2]
theorem tok_word (n : List Nat) (h : Pl.okKt (1, n)) (ln : Nat) : Pl.tok n ln = ([⟨1, n, ln⟩], 0, 0) := by
  rcases h with ⟨h1, _⟩ | ⟨h1, h2, h3⟩
  · simp at h1
  · simp only at h1 h2 h3
    cases n with
    | nil => exact absurd rfl h1
    | cons c r =>
      obtain ⟨s1, s2⟩ := tw_all (c :: r) h2
      rw [Pl.tok_part c r ln (h2 c (by simp)), s1, s2, h3, Pl.tok_nil]
      simp [Pl.tokCons]
theorem name_tok (s : ByteArray) (h : Pl.okName (bl s)) : tokA s = ([⟨1, bl s, 1⟩], 0, 0) := by
  have hl := Pl.name_len h
  rw [bl_length] at hl
  unfold tokA
  rw [if_neg (by omega), tok_word _ h.1]
theorem name_plain {n : List Nat} (h : Pl.okName n) : Pl.plainK n = 0 ∧ Pl.isGram n = false := by
  have h2 := h.2
  simp only [Pl.nameT, Bool.and_eq_true, decide_eq_true_eq, Bool.not_eq_true'] at h2
  exact ⟨h2.1.2, h2.2⟩
theorem name_words (s : ByteArray) (h : Pl.okName (bl s)) : (s ≠ sBool ∧ s ≠ sInt ∧ s ≠ sUint ∧ s ≠ sText ∧ s ≠ sBytes) ∧ s ≠ sStruct ∧ s ≠ sEnum ∧ s ≠ sService ∧ s ≠ sOnce ∧ s ≠ sRead := by
  obtain ⟨h1, h2⟩ := name_plain h
  refine ⟨⟨?_, ?_, ?_, ?_, ?_⟩, ?_, ?_, ?_, ?_, ?_⟩ <;> intro e <;> subst e
  · exact absurd h1 (by decide)
  · exact absurd h1 (by decide)
  · exact absurd h1 (by decide)
  · exact absurd h1 (by decide)
  · exact absurd h1 (by decide)
  · exact absurd h2 (by decide)
  · exact absurd h2 (by decide)
  · exact absurd h2 (by decide)
  · exact absurd h2 (by decide)
  · exact absurd h2 (by decide)

theorem lit_list (l : List UInt8) : (ByteArray.toList ⟨⟨l⟩⟩) = l := by rw [ByteArray.toList_eq]
theorem lit_no {x : ByteArray} {l : List UInt8} (h : x ≠ ⟨⟨l⟩⟩) : (l == x.toList) = false ∧ (x.toList == l) = false ∧ ¬ x.toList = l ∧ ¬ l = x.toList := by
  have h1 : ¬ x.toList = l := fun e => h (toList_inj (e.trans (lit_list l).symm))
  have h2 : ¬ l = x.toList := fun e => h1 e.symm
  exact ⟨by rw [beq_eq_false_iff_ne]; exact h2, by rw [beq_eq_false_iff_ne]; exact h1, h1, h2⟩

set_option maxHeartbeats 4000000 in
theorem rplain_none (x : ByteArray) (h : x ≠ sBool ∧ x ≠ sInt ∧ x ≠ sUint ∧ x ≠ sText ∧ x ≠ sBytes) (w : World) : Calls Tryz.prog 129 #[.string x] w fun e w' => e = .returned (.int .i64 0) ∧ Below w.heap.size w w' := by
  obtain ⟨h1, h2, h3, h4, h5⟩ := h
  obtain ⟨e1, _, _, f1⟩ := lit_no (l := [98, 111, 111, 108]) h1
  obtain ⟨e2, _, _, f2⟩ := lit_no (l := [105, 110, 116]) h2
  obtain ⟨e3, _, _, f3⟩ := lit_no (l := [117, 105, 110, 116]) h3
  obtain ⟨e4, _, _, f4⟩ := lit_no (l := [116, 101, 120, 116]) h4
  obtain ⟨e5, _, _, f5⟩ := lit_no (l := [98, 121, 116, 101, 115]) h5
  clear h1 h2 h3 h4 h5
  have HB := hid (below_alloc w (.cells #[.string ⟨#[98, 111, 111, 108]⟩, .string ⟨#[105, 110, 116]⟩, .string ⟨#[117, 105, 110, 116]⟩, .string ⟨#[116, 101, 120, 116]⟩, .string ⟨#[98, 121, 116, 101, 115]⟩] 9))
  go_enter Tryz.func129, Tryz.ntmps129
  go_wp2_with fail
  go_rounds 6
  go_ret
  exact ⟨rfl, HB.out⟩

set_option maxHeartbeats 4000000 in
theorem rname_ok (x : ByteArray) (h : Pl.okName (bl x)) (w : World) : Calls Tryz.prog 91 #[.string x] w fun e w' => e = .returned (.bool true) ∧ Below w.heap.size w w' := by
  have ht := rtokens_any x w
  rw [name_tok x h] at ht
  obtain ⟨hp, g1, g2, g3, g4, g5⟩ := name_words x h
  have HP := hid hp
  obtain ⟨_, e1, f1, _⟩ := lit_no (l := [115, 116, 114, 117, 99, 116]) g1
  obtain ⟨_, e2, f2, _⟩ := lit_no (l := [101, 110, 117, 109]) g2
  obtain ⟨_, e3, f3, _⟩ := lit_no (l := [115, 101, 114, 118, 105, 99, 101]) g3
  obtain ⟨_, e4, f4, _⟩ := lit_no (l := [111, 110, 99, 101]) g4
  obtain ⟨_, e5, f5, _⟩ := lit_no (l := [114, 101, 97, 100]) g5
  clear hp g1 g2 g3 g4 g5
  go_enter Tryz.func91, Tryz.ntmps91
  go_wp2_with fail
  refine ht.mono ?_
  rintro e w1 ⟨v, tl, rfl, hT, htl, hb⟩
  obtain ⟨a, cap, rfl, h1, h2, h3, h4⟩ := hT.seg
  rcases tl with _ | ⟨t0, _ | ⟨t1, tl⟩⟩ <;> simp at htl
  obtain ⟨k0, x0, l0⟩ := t0
  simp only [asTok, Pl.Tok.mk.injEq] at htl
  obtain ⟨rfl, hx, rfl⟩ := htl
  obtain rfl : x0 = x := bl_inj hx
  rcases a with _ | ⟨g, off, ar⟩
  · simp at h3
  obtain ⟨rfl, hlt, hc⟩ := h4 g off ar rfl (by simp)
  obtain ⟨q1, q2, q3⟩ := hc 0 _ rfl
  simp only [toZ, Nat.zero_mul, Nat.add_zero] at q1 q2 q3
  have hpl := rplain_none x0 HP.out w1
  have HB := hid hb
  clear hc h3 h4 hT hb ht
  simp only [List.map_cons, List.map_nil, List.length_cons, List.length_nil] at h1 h2 ⊢
  go_wp2_with fail
  refine hpl.mono ?_
  rintro e w2 ⟨rfl, hb2⟩
  have HB2 := hid (below_next HB.out hb2)
  clear hb2
  go_wp2
  go_ret
  exact ⟨rfl, HB2.out⟩
end Go.Proofs.YtmiohekmpjiloaaGreatDoor

namespace Go.Proofs.YtmiohekmpjiloaaGreatDoor
open Go.RowKit
set_option maxRecDepth 20000

theorem tyD_pos (t : Pl.Ty) : 1 ≤ Pl.tyD t := by cases t <;> simp only [Pl.tyD] <;> omega

set_option maxHeartbeats 4000000 in
theorem rdeep_none (k : Int) (s : Value) (ad : Option Addr) (cp : Nat) (left : Int) (w : World) : Calls Tryz.prog 123 #[.agg #[.int .i64 k, s, .slice ad 0 cp], .int .i64 left] w fun e w' => e = .returned (.int .i64 1) ∧ Below w.heap.size w w' := by
  have HB := hid (below_alloc w (.cells #[.int .i64 k, s, .slice ad 0 cp] 29))
  go_enter Tryz.func123, Tryz.ntmps123
  go_wp2_with fail
  go_rounds 1
  go_ret
  exact ⟨rfl, HB.out⟩

set_option maxHeartbeats 8000000 in
theorem rdeep_one (k : Int) (hk : k = 6 ∨ k = 7) (s : ByteArray) (g off cp : Nat) (x y z : Value) (left : Int) (h1 : 1 < left) (h2 : left ≤ 1000) (d : Nat) (hd : d ≤ 1000) (w : World) (hg : g < w.heap.size) (c0 : w.cell? ⟨g, off, none⟩ = some x) (c1 : w.cell? ⟨g, off + 1, none⟩ = some y) (c2 : w.cell? ⟨g, off + 2, none⟩ = some z)
    (hrec : ∀ W, Below w.heap.size w W → Calls Tryz.prog 123 #[.agg #[x, y, z], .int .i64 (left - 1)] W fun e w' => e = .returned (.int .i64 (d : Int)) ∧ Below W.heap.size W w') :
    Calls Tryz.prog 123 #[.agg #[.int .i64 k, .string s, .slice (some ⟨g, off, none⟩) 1 cp], .int .i64 left] w fun e w' => e = .returned (.int .i64 (1 + (d : Int))) ∧ Below w.heap.size w w' := by
  obtain ⟨w1, hw1⟩ : ∃ w1, w1 = w.alloc (.cells #[.int .i64 k, .string s, .slice (some ⟨g, off, none⟩) 1 cp] 29) := ⟨_, rfl⟩
  have hb1 : Below w.heap.size w w1 := by rw [hw1]; exact below_alloc w _
  have hB1 : Bx w1 w.heap.size [.int .i64 k, .string s, .slice (some ⟨g, off, none⟩) 1 cp] 29 := by rw [hw1]; exact Bx.new w _ _
  have HR := hid hrec
  have HW1 := hid hw1
  have HB1 := hid hB1
  have Hb1 := hid hb1
  have C0 := hid c0
  have C1 := hid c1
  have C2 := hid c2
  clear hrec hw1 hB1 hb1 c0 c1 c2
  go_enter Tryz.func123, Tryz.ntmps123
  go_wp2_with fail
  rw [← HW1.out]
  go_loopw [5, 6] (fun m i wr => ((m = .int .i64 0 ∧ i = .int .i64 0) ∨ (m = .int .i64 (d : Int) ∧ i = .int .i64 1)) ∧ Below w1.heap.size w1 wr) (fun _ i _ => 2 - (intOf i).toNat)
  case atStart => exact ⟨.inl ⟨rfl, rfl⟩, Below.refl _ _⟩
  case round =>
    obtain ⟨hi, hbw⟩ := hrel
    have hB := HB1.out.below hbw
    have y0 := hB.cell 0 rfl
    have y1 := hB.cell 1 rfl
    have y2 := hB.cell 2 rfl
    have hbn := below_next Hb1.out hbw
    have d0 := (hbn.cell hg).trans C0.out
    have d1 := (hbn.cell hg).trans C1.out
    have d2 := (hbn.cell hg).trans C2.out
    have hgr : g < wr.heap.size := Nat.lt_of_lt_of_le hg hbn.size
    have hr := HR.out wr hbn
    have HBW := hid hbw
    have HBN := hid hbn
    clear hB hbw hbn
    rcases hi with ⟨rfl, rfl⟩ | ⟨rfl, rfl⟩
    · rcases hk with rfl | rfl
      all_goals
        go_wp2_with fail
        refine hr.mono ?_
        rintro e w2 ⟨rfl, hb2⟩
        have HB2 := hid (below_next HBW.out hb2)
        clear hb2
        go_wp2
        exact ⟨⟨.inr ⟨by congr 1, by go_num⟩, HB2.out⟩, by simp [intOf]⟩
    · go_wp2
      go_ret
      exact ⟨rfl, HBN.out⟩

theorem rdeep_any (t : Pl.Ty) : ∀ (left : Nat) (w : World) (a b c : Value), TyG w t a b c → Pl.tyD t ≤ left → left ≤ 1000 →
    Calls Tryz.prog 123 #[.agg #[a, b, c], .int .i64 (left : Int)] w fun e w' => e = .returned (.int .i64 (Pl.tyD t : Int)) ∧ Below w.heap.size w w' := by
  induction t with
  | plain k =>
    rintro left w a b c ⟨rfl, ⟨s, rfl, _⟩, ad, cp, rfl⟩ _ _
    exact rdeep_none _ _ _ _ _ w
  | named x =>
    rintro left w a b c ⟨rfl, ⟨s, rfl, _⟩, ad, cp, rfl⟩ _ _
    exact rdeep_none _ _ _ _ _ w
  | list t ih =>
    rintro left w a b c ⟨rfl, ⟨s, rfl, _⟩, g, off, cp, x, y, z, rfl, h4, h5, h6, h7, h8⟩ hd hl
    simp only [Pl.tyD] at hd ⊢
    have := tyD_pos t
    obtain ⟨l', rfl⟩ : ∃ l', left = l' + 1 := ⟨left - 1, by omega⟩
    refine (rdeep_one 6 (.inl rfl) s g off cp x y z _ (by omega) (by omega) (Pl.tyD t) (by omega) w h4 h5 h6 h7 (fun W hW => ?_)).mono ?_
    · have := ih l' W x y z (TyG.below hW _ _ _ _ h8) (by omega) (by omega)
      rw [show ((l' + 1 : Nat) : Int) - 1 = (l' : Int) by omega]
      exact this
    · rintro e w' ⟨rfl, hb⟩
      exact ⟨by congr 2; omega, hb⟩
  | opt t ih =>
    rintro left w a b c ⟨rfl, ⟨s, rfl, _⟩, g, off, cp, x, y, z, rfl, h4, h5, h6, h7, h8⟩ hd hl
    simp only [Pl.tyD] at hd ⊢
    have := tyD_pos t
    obtain ⟨l', rfl⟩ : ∃ l', left = l' + 1 := ⟨left - 1, by omega⟩
    refine (rdeep_one 7 (.inr rfl) s g off cp x y z _ (by omega) (by omega) (Pl.tyD t) (by omega) w h4 h5 h6 h7 (fun W hW => ?_)).mono ?_
    · have := ih l' W x y z (TyG.below hW _ _ _ _ h8) (by omega) (by omega)
      rw [show ((l' + 1 : Nat) : Int) - 1 = (l' : Int) by omega]
      exact this
    · rintro e w' ⟨rfl, hb⟩
      exact ⟨by congr 2; omega, hb⟩

set_option maxHeartbeats 4000000 in
theorem rshape_plain (k : Nat) (hk : 1 ≤ k ∧ k ≤ 5) (ad : Option Addr) (cp : Nat) (w : World) : Calls Tryz.prog 80 #[.agg #[.int .i64 (k : Int), .string ⟨#[]⟩, .slice ad 0 cp]] w fun e w' => e = .returned (.int .i64 0) ∧ Below w.heap.size w w' := by
  have HB := hid (below_alloc w (.cells #[.int .i64 (k : Int), .string ⟨#[]⟩, .slice ad 0 cp] 29))
  have q1 : ¬ ((k : Int) < 1) := by omega
  have q2 : ¬ ((8 : Int) < (k : Int)) := by omega
  have q3 : ((k : Int) == 8) = false := by simp; omega
  have q4 : ((k : Int) == 6) = false := by simp; omega
  have q5 : ((k : Int) == 7) = false := by simp; omega
  clear hk
  go_enter Tryz.func80, Tryz.ntmps80
  go_wp2
  go_ret
  exact ⟨rfl, HB.out⟩

set_option maxHeartbeats 4000000 in
theorem rshape_named (x : ByteArray) (h : Pl.okName (bl x)) (ad : Option Addr) (cp : Nat) (w : World) : Calls Tryz.prog 80 #[.agg #[.int .i64 8, .string x, .slice ad 0 cp]] w fun e w' => e = .returned (.int .i64 0) ∧ Below w.heap.size w w' := by
  obtain ⟨w1, hw1⟩ : ∃ w1, w1 = w.alloc (.cells #[.int .i64 8, .string x, .slice ad 0 cp] 29) := ⟨_, rfl⟩
  have hb1 : Below w.heap.size w w1 := by rw [hw1]; exact below_alloc w _
  have hB1 : Bx w1 w.heap.size [.int .i64 8, .string x, .slice ad 0 cp] 29 := by rw [hw1]; exact Bx.new w _ _
  have hne : ¬ x.toList = [] := by
    intro e
    have h2 : x = ⟨#[]⟩ := toList_inj (e.trans (by rw [ByteArray.toList_eq]))
    subst h2
    rcases h.1 with ⟨h1, _⟩ | ⟨h1, _⟩
    · simp at h1
    · exact h1 rfl
  have hem : x.toList.isEmpty = false := by
    cases hx : x.toList with
    | nil => exact absurd hx hne
    | cons a r => rfl
  have hnm := rname_ok x h w1
  have HNM := hid hnm
  have HW1 := hid hw1
  have Hb1 := hid hb1
  have HB1 := hid hB1
  have y0 := hB1.cell 0 rfl
  have y1 := hB1.cell 1 rfl
  have y2 := hB1.cell 2 rfl
  clear hnm hw1 hb1 hB1 h
  go_enter Tryz.func80, Tryz.ntmps80
  go_wp2_with fail
  rw [← HW1.out]
  go_wp2_with fail
  refine HNM.out.mono ?_
  rintro e w2 ⟨rfl, hb2⟩
  have hB2 := HB1.out.below hb2
  have z0 := hB2.cell 0 rfl
  have z1 := hB2.cell 1 rfl
  have z2 := hB2.cell 2 rfl
  have HB2 := hid (below_next Hb1.out hb2)
  clear hB2 hb2 y0 y1 y2
  go_wp2
  go_ret
  exact ⟨rfl, HB2.out⟩

set_option maxHeartbeats 8000000 in
theorem rshape_one (k : Int) (hk : k = 6 ∨ k = 7) (g off cp : Nat) (x y z : Value) (w : World) (hg : g < w.heap.size) (c0 : w.cell? ⟨g, off, none⟩ = some x) (c1 : w.cell? ⟨g, off + 1, none⟩ = some y) (c2 : w.cell? ⟨g, off + 2, none⟩ = some z)
    (hrec : ∀ W, Below w.heap.size w W → Calls Tryz.prog 80 #[.agg #[x, y, z]] W fun e w' => e = .returned (.int .i64 0) ∧ Below W.heap.size W w') :
    Calls Tryz.prog 80 #[.agg #[.int .i64 k, .string ⟨#[]⟩, .slice (some ⟨g, off, none⟩) 1 cp]] w fun e w' => e = .returned (.int .i64 0) ∧ Below w.heap.size w w' := by
  have hb1 := below_alloc w (.cells #[.int .i64 k, .string ⟨#[]⟩, .slice (some ⟨g, off, none⟩) 1 cp] 29)
  have d0 := (hb1.cell hg).trans c0
  have d1 := (hb1.cell hg).trans c1
  have d2 := (hb1.cell hg).trans c2
  have hgr : g < (w.alloc (.cells #[.int .i64 k, .string ⟨#[]⟩, .slice (some ⟨g, off, none⟩) 1 cp] 29)).heap.size := Nat.lt_of_lt_of_le hg hb1.size
  have hr := hrec _ hb1
  have Hb1 := hid hb1
  clear hrec hb1 c0 c1 c2
  rcases hk with rfl | rfl
  all_goals
    go_enter Tryz.func80, Tryz.ntmps80
    go_wp2_with fail
    refine hr.mono ?_
    rintro e w2 ⟨rfl, hb2⟩
    have HB2 := hid (below_next Hb1.out hb2)
    clear hb2
    go_wp2
    go_ret
    exact ⟨rfl, HB2.out⟩

theorem ba_empty {s : ByteArray} (h : bl s = []) : s = ⟨#[]⟩ := bl_inj (h.trans rfl)
theorem rshape_ok (t : Pl.Ty) : ∀ (w : World) (a b c : Value), TyG w t a b c → Pl.okTy t →
    Calls Tryz.prog 80 #[.agg #[a, b, c]] w fun e w' => e = .returned (.int .i64 0) ∧ Below w.heap.size w w' := by
  induction t with
  | plain k =>
    rintro w a b c ⟨rfl, ⟨s, rfl, hs⟩, ad, cp, rfl⟩ hok
    rw [ba_empty hs]
    exact rshape_plain k hok ad cp w
  | named x =>
    rintro w a b c ⟨rfl, ⟨s, rfl, hs⟩, ad, cp, rfl⟩ hok
    exact rshape_named s (by rw [hs]; exact hok) ad cp w
  | list t ih =>
    rintro w a b c ⟨rfl, ⟨s, rfl, hs⟩, g, off, cp, x, y, z, rfl, h4, h5, h6, h7, h8⟩ hok
    rw [ba_empty hs]
    exact rshape_one 6 (.inl rfl) g off cp x y z w h4 h5 h6 h7 fun W hW => ih W x y z (TyG.below hW _ _ _ _ h8) hok
  | opt t ih =>
    rintro w a b c ⟨rfl, ⟨s, rfl, hs⟩, g, off, cp, x, y, z, rfl, h4, h5, h6, h7, h8⟩ hok
    rw [ba_empty hs]
    exact rshape_one 7 (.inr rfl) g off cp x y z w h4 h5 h6 h7 fun W hW => ih W x y z (TyG.below hW _ _ _ _ h8) hok

set_option maxHeartbeats 4000000 in
theorem rDeep_any (t : Pl.Ty) (ht : Pl.tyD t ≤ 8) (w : World) (a b c : Value) (h : TyG w t a b c) : Calls Tryz.prog 79 #[.agg #[a, b, c]] w fun e w' => e = .returned (.int .i64 (Pl.tyD t : Int)) ∧ Below w.heap.size w w' := by
  have hb1 := below_alloc w (.cells #[a, b, c] 29)
  have hd := rdeep_any t 100 _ a b c (TyG.below hb1 _ _ _ _ h) (by omega) (by omega)
  obtain ⟨k, s, ad, m, cp, rfl, rfl, rfl⟩ := h.shape
  have Hb1 := hid hb1
  clear hb1 h
  generalize Pl.tyD t = D at *
  go_enter Tryz.func79, Tryz.ntmps79
  go_wp2_with fail
  refine hd.mono ?_
  rintro e w2 ⟨rfl, hb2⟩
  have HB2 := hid (below_next Hb1.out hb2)
  clear hb2
  go_wp2
  go_ret
  exact ⟨rfl, HB2.out⟩

set_option maxHeartbeats 4000000 in
theorem rShape_ok (t : Pl.Ty) (ht : Pl.tyD t ≤ 8) (hok : Pl.okTy t) (w : World) (a b c : Value) (h : TyG w t a b c) : Calls Tryz.prog 54 #[.agg #[a, b, c]] w fun e w' => e = .returned (.int .i64 0) ∧ Below w.heap.size w w' := by
  obtain ⟨w1, hw1⟩ : ∃ w1, w1 = w.alloc (.cells #[a, b, c] 29) := ⟨_, rfl⟩
  have hb1 : Below w.heap.size w w1 := by rw [hw1]; exact below_alloc w _
  have hB1 : Bx w1 w.heap.size [a, b, c] 29 := by rw [hw1]; exact Bx.new w _ _
  have hd := rDeep_any t ht w1 a b c (TyG.below hb1 _ _ _ _ h)
  have hs := fun W (hW : Below w.heap.size w W) => rshape_ok t W a b c (TyG.below hW _ _ _ _ h) hok
  obtain ⟨k, s, ad, m, cp, rfl, rfl, rfl⟩ := h.shape
  have HW1 := hid hw1
  have Hb1 := hid hb1
  have HB1 := hid hB1
  have HD := hid hd
  have HS := hid hs
  clear hb1 h hB1 hw1 hd hs hok
  generalize Pl.tyD t = D at *
  have hD : ¬ (8 : Int) < (D : Int) := by omega
  go_enter Tryz.func54, Tryz.ntmps54
  go_wp2_with fail
  rw [← HW1.out]
  refine HD.out.mono ?_
  rintro e w2 ⟨rfl, hb2⟩
  have hB2 := HB1.out.below hb2
  have y0 := hB2.cell 0 rfl
  have y1 := hB2.cell 1 rfl
  have y2 := hB2.cell 2 rfl
  have hbn := below_next Hb1.out hb2
  have hs2 := HS.out w2 hbn
  have HBN := hid hbn
  clear hb2 hB2 hbn
  go_wp2_with fail
  refine hs2.mono ?_
  rintro e w3 ⟨rfl, hb3⟩
  have HB3 := hid (below_next HBN.out hb3)
  clear hb3
  go_wp2
  go_ret
  exact ⟨rfl, HB3.out⟩

set_option maxHeartbeats 4000000 in
theorem rtyped_plain (k : Nat) (hk : 1 ≤ k ∧ k ≤ 5) (x : ByteArray) (ad : Option Addr) (m cp : Nat) (w : World) : Calls Tryz.prog 93 #[.agg #[.int .i64 (k : Int), .string x, .slice ad m cp]] w fun e w' => ∃ s, e = .returned (.string s) ∧ bl s = Pl.plainW k ∧ Below w.heap.size w w' := by
  have h1 : k = 1 ∨ k = 2 ∨ k = 3 ∨ k = 4 ∨ k = 5 := by omega
  have HB := hid (below_next (below_alloc w (.cells #[.int .i64 (k : Int), .string x, .slice ad m cp] 29)) (below_alloc _ (.cells #[.string ⟨#[98, 111, 111, 108]⟩, .string ⟨#[105, 110, 116]⟩, .string ⟨#[117, 105, 110, 116]⟩, .string ⟨#[116, 101, 120, 116]⟩, .string ⟨#[98, 121, 116, 101, 115]⟩] 9)))
  clear hk
  rcases h1 with rfl | rfl | rfl | rfl | rfl <;>
  · go_enter Tryz.func93, Tryz.ntmps93
    go_wp2
    go_ret
    exact ⟨_, rfl, by decide, HB.out⟩

set_option maxHeartbeats 4000000 in
theorem rtyped_any (t : Pl.Ty) : ∀ (w : World) (k s o : Value), TyG w t k s o → Pl.tyD t ≤ 20 → Pl.okTy t →
    Calls Tryz.prog 93 #[.agg #[k, s, o]] w fun e w' => ∃ x, e = .returned (.string x) ∧ bl x = Pl.tyX t ∧ Below w.heap.size w w' := by
  induction t with
  | plain q =>
    rintro w k s o ⟨rfl, ⟨x, rfl, _⟩, ad, cp, rfl⟩ h20 hok
    exact rtyped_plain q hok x ad 0 cp w
  | named y =>
    rintro w k s o ⟨rfl, ⟨x, rfl, hx⟩, ad, cp, rfl⟩ h20 hok
    have hbw := below_alloc w (.cells #[.int .i64 8, .string x, .slice ad 0 cp] 29)
    have HX := hid hx
    clear hx
    go_enter Tryz.func93, Tryz.ntmps93
    go_wp2
    go_ret
    exact ⟨x, rfl, HX.out, hbw⟩
  | list t ih =>
    rintro w k s o ⟨rfl, ⟨x, rfl, _⟩, blk, off, cp, k', s', o', rfl, hBs, q3, q4, q5, hly⟩ h20 hok
    simp only [Pl.tyD] at h20
    have hbw := below_alloc w (.cells #[.int .i64 6, .string x, .slice (some ⟨blk, off, none⟩) 1 cp] 29)
    have hI := ih _ k' s' o' (TyG.below hbw _ _ _ _ hly) (by omega) hok
    have hsz := Pl.ty_len t hok
    have c0 := (hbw.cell hBs).trans q3
    have c1 := (hbw.cell hBs).trans q4
    have c2 := (hbw.cell hBs).trans q5
    have hb1' : blk < (w.alloc (.cells #[.int .i64 6, .string x, .slice (some ⟨blk, off, none⟩) 1 cp] 29)).heap.size := Nat.lt_of_lt_of_le hBs hbw.size
    clear hly q3 q4 q5 ih
    rw [Pl.tyX]
    generalize Pl.tyX t = X at *
    go_enter Tryz.func93, Tryz.ntmps93
    go_wp2_with fail
    refine hI.mono ?_
    rintro e w2 ⟨y, rfl, rfl, hb2⟩
    rw [bl_length] at hsz
    have HW := hid (below_next hbw hb2)
    go_wp2
    go_ret
    refine ⟨_, rfl, ?_, HW.out⟩
    rw [bl_append, bl_append]
    rfl
  | opt t ih =>
    rintro w k s o ⟨rfl, ⟨x, rfl, _⟩, blk, off, cp, k', s', o', rfl, hBs, q3, q4, q5, hly⟩ h20 hok
    simp only [Pl.tyD] at h20
    have hbw := below_alloc w (.cells #[.int .i64 7, .string x, .slice (some ⟨blk, off, none⟩) 1 cp] 29)
    have hI := ih _ k' s' o' (TyG.below hbw _ _ _ _ hly) (by omega) hok
    have hsz := Pl.ty_len t hok
    have c0 := (hbw.cell hBs).trans q3
    have c1 := (hbw.cell hBs).trans q4
    have c2 := (hbw.cell hBs).trans q5
    have hb1' : blk < (w.alloc (.cells #[.int .i64 7, .string x, .slice (some ⟨blk, off, none⟩) 1 cp] 29)).heap.size := Nat.lt_of_lt_of_le hBs hbw.size
    clear hly q3 q4 q5 ih
    rw [Pl.tyX]
    generalize Pl.tyX t = X at *
    go_enter Tryz.func93, Tryz.ntmps93
    go_wp2_with fail
    refine hI.mono ?_
    rintro e w2 ⟨y, rfl, rfl, hb2⟩
    rw [bl_length] at hsz
    have HW := hid (below_next hbw hb2)
    go_wp2
    go_ret
    refine ⟨_, rfl, ?_, HW.out⟩
    rw [bl_append]
    rfl
end Go.Proofs.YtmiohekmpjiloaaGreatDoor

namespace Go.Proofs.YtmiohekmpjiloaaGreatDoor
open Go.RowKit
set_option maxRecDepth 20000

theorem dig_conv (z : Int) (w : World) : (convert 134 9 (.slice (some ⟨w.heap.size, 0, none⟩) 1 1)).run Tryz.prog (w.alloc (.cells #[.int .u8 z] 5)) = .ok (.string (strOf [z])) (w.alloc (.cells #[.int .u8 z] 5)) := by
  refine seg_string ⟨_, 1, rfl, Nat.le_refl _, by unfold maxLen; omega, (fun h => by cases h), ?_⟩
  intro x hx i hi
  cases hx
  have h0 : i = 0 := by simp at hi; omega
  subst h0
  exact (Bx.new w [.int .u8 z] 5).cell 0 rfl

set_option maxHeartbeats 4000000 in
theorem rdec_one (n : Nat) (h : n < 10) (w : World) : Calls Tryz.prog 92 #[.int .i64 (n : Int)] w fun e w' => ∃ s, e = .returned (.string s) ∧ bl s = [48 + n] ∧ Below w.heap.size w w' := by
  have h1 : n = 0 ∨ n = 1 ∨ n = 2 ∨ n = 3 ∨ n = 4 ∨ n = 5 ∨ n = 6 ∨ n = 7 ∨ n = 8 ∨ n = 9 := by omega
  have HB := hid (fun z => below_alloc w (.cells #[.int .u8 z] 5))
  have hc := fun z => dig_conv z w
  clear h
  rcases h1 with rfl | rfl | rfl | rfl | rfl | rfl | rfl | rfl | rfl | rfl
  all_goals
    go_enter Tryz.func92, Tryz.ntmps92
    go_wp2
    go_ret
    exact ⟨_, rfl, by decide, HB.out _⟩
end Go.Proofs.YtmiohekmpjiloaaGreatDoor

namespace Go.Proofs.YtmiohekmpjiloaaGreatDoor
open Go.RowKit
set_option maxRecDepth 20000

set_option maxHeartbeats 4000000 in
theorem rdecimal_any (f : Nat) : ∀ (n : Nat), n < 10 ^ (f + 1) → n ≤ 999999999 → ∀ (w : World), Calls Tryz.prog 92 #[.int .i64 (n : Int)] w fun e w' => ∃ s, e = .returned (.string s) ∧ bl s = Pl.decS (f + 1) n ∧ Below w.heap.size w w' := by
  induction f with
  | zero =>
    intro n h _ w
    have h10 : n < 10 := by simpa using h
    refine (rdec_one n h10 w).mono ?_
    rintro e w' ⟨s, rfl, hs, hb⟩
    exact ⟨s, rfl, by rw [hs, Pl.decS, if_pos h10], hb⟩
  | succ f ih =>
    intro n h h9 w
    by_cases h10 : n < 10
    · refine (rdec_one n h10 w).mono ?_
      rintro e w' ⟨s, rfl, hs, hb⟩
      exact ⟨s, rfl, by rw [hs, Pl.decS, if_pos h10], hb⟩
    · have hq : n / 10 < 10 ^ (f + 1) := by
        rw [Nat.pow_succ] at h
        exact Nat.div_lt_of_lt_mul (by rw [Nat.mul_comm]; exact h)
      have h1 := ih (n / 10) hq (by omega) w
      have h2 := fun W => rdec_one (n % 10) (by omega) W
      have hl := Pl.decS_len (f + 1) (n / 10) 9 (by omega) (by omega)
      have hR : Pl.decS (f + 1 + 1) n = Pl.decS (f + 1) (n / 10) ++ [48 + n % 10] := by rw [Pl.decS, if_neg h10]
      rw [hR]
      have hlt : ¬ (n : Int) < 10 := by omega
      have e1 : (n : Int).tdiv 10 = ((n / 10 : Nat) : Int) := by rw [Int.tdiv_eq_ediv_of_nonneg (by omega)]; omega
      have e2 : (n : Int).tmod 10 = ((n % 10 : Nat) : Int) := by rw [Int.tmod_eq_emod_of_nonneg (by omega)]; omega
      have hb1 : n / 10 ≤ 99999999 := by omega
      have hb2 : n % 10 < 10 := by omega
      clear hR h hq ih
      generalize Pl.decS (f + 1) (n / 10) = D at *
      generalize hq1 : n / 10 = q1 at *
      generalize hq2 : n % 10 = q2 at *
      clear hq1 hq2
      go_enter Tryz.func92, Tryz.ntmps92
      go_wp2_with fail
      refine h1.mono ?_
      rintro e w1 ⟨s1, rfl, rfl, hb1⟩
      have HB1 := hid hb1
      have hr := h2 w1
      rw [bl_length] at hl
      clear h1 hb1 h2
      go_wp2_with fail
      refine hr.mono ?_
      rintro e w2 ⟨s2, rfl, hs2, hb2⟩
      have HB2 := hid (below_next HB1.out hb2)
      have hl2 : s2.size = 1 := by rw [← bl_length, hs2]; rfl
      have HS2 := hid hs2
      clear hb2 hs2 hr
      go_wp2
      go_ret
      refine ⟨_, rfl, ?_, HB2.out⟩
      rw [bl_append, HS2.out]

/-- The writer's box: nothing is wrong, and so much is told. -/
def WSt (b : Nat) (acc : List Nat) (w : World) : Prop := ∃ s : ByteArray, Bx w b [.string s, .int .i64 0] 117 ∧ bl s = acc
def Xo (b : Nat) (g : Nat) (_ : TypeId) : Prop := g = b
theorem Xo.bel {b B : Nat} {w w' : World} (h : Ch (Xo b) w w') (hB : B ≤ b) (hw : B ≤ w.heap.size) : Below B w w' :=
  ⟨h.os, h.tape, h.output, h.size, fun k hk => by
    have ho : w.heap[k]? = some (w.heap[k]'(by omega)) := by simp
    rw [ho]
    refine h.block k _ ho (fun cs T r _ hx => ?_)
    have : k = b := hx
    omega⟩
theorem WSt.below {b : Nat} {acc : List Nat} {w w' : World} (h : WSt b acc w) (hb : Below w.heap.size w w') : WSt b acc w' := by
  obtain ⟨s, h1, h2⟩ := h
  exact ⟨s, h1.below hb, h2⟩
theorem WSt.lt {b : Nat} {acc : List Nat} {w : World} (h : WSt b acc w) : b < w.heap.size := by
  obtain ⟨s, h1, h2⟩ := h
  exact h1.lt
theorem WSt.set {b : Nat} {w : World} {s t : ByteArray} {v : Value} {T : TypeId} (h : Bx w b [.string s, v] T) : Bx (w.setCell ⟨b, 0, none⟩ (.string t)) b [.string t, v] T := h.set 0 (.string t)
theorem WSt.ch {b : Nat} {w : World} {cs : List Value} {T : TypeId} (h : Bx w b cs T) (t : Value) : Ch (Xo b) w (w.setCell ⟨b, 0, none⟩ t) := Ch.set h rfl t

set_option maxHeartbeats 2000000 in
theorem rneed_true (b : Nat) (e : Int) (w : World) : Calls Tryz.prog 69 #[.pointer (some ⟨b, 0, none⟩), .bool true, .int .i64 e] w fun r w' => r = .returned (.tuple #[]) ∧ w' = w := by
  go_enter Tryz.func69, Tryz.ntmps69
  go_wp2
  go_end0
  exact ⟨rfl, rfl⟩

def WrG (b : Nat) (acc : List Nat) (w : World) (e : Ending) (w' : World) : Prop := e = .returned (.tuple #[]) ∧ WSt b acc w' ∧ Ch (Xo b) w w'

set_option maxHeartbeats 4000000 in
theorem rwname_ok (b : Nat) (acc : List Nat) (x : ByteArray) (hx : Pl.okName (bl x)) (w : World) (h : WSt b acc w) (hl : acc.length ≤ 1000000000) :
    Calls Tryz.prog 70 #[.pointer (some ⟨b, 0, none⟩), .string x] w (WrG b (acc ++ bl x) w) := by
  obtain ⟨s, hB, rfl⟩ := h
  have hn := rname_ok x hx w
  have hsz := Pl.name_len hx
  rw [bl_length] at hsz hl
  have HN := hid hn
  have HB := hid hB
  clear hn hB hx
  go_enter Tryz.func70, Tryz.ntmps70
  go_wp2_with fail
  refine HN.out.mono ?_
  rintro e w1 ⟨rfl, hb1⟩
  have hB1 := HB.out.below hb1
  have Hb1 := hid hb1
  go_wp2_with fail
  refine (rneed_true b 31 w1).mono ?_
  rintro e w2 ⟨rfl, hw2⟩
  subst w2
  have y0 := hB1.cell 0 rfl
  have y1 := hB1.cell 1 rfl
  have hf := hB1.frozen
  have HS := hid (WSt.set (t := s ++ x) hB1)
  have HC := hid ((Ch.below hb1).trans (WSt.ch hB1 (.string (s ++ x))))
  clear hb1 hB1
  go_wp2
  go_end0
  exact ⟨rfl, ⟨_, HS.out, bl_append _ _⟩, HC.out⟩
set_option maxHeartbeats 8000000 in
theorem rwnumber_ok (b : Nat) (acc : List Nat) (n : Nat) (hn : n ≤ 999999999) (w : World) (h : WSt b acc w) (hl : acc.length ≤ 1000000000) :
    Calls Tryz.prog 71 #[.pointer (some ⟨b, 0, none⟩), .int .i64 (n : Int)] w (WrG b (acc ++ Pl.dec n) w) := by
  obtain ⟨s, hB, rfl⟩ := h
  have hd := fun W => rdecimal_any 19 n (by omega) hn W
  have hsz : (Pl.dec n).length ≤ 9 := Pl.decS_len 20 n 9 (by omega) (by omega)
  change ∀ W, Calls Tryz.prog _ _ W (fun e w' => ∃ s, e = .returned (.string s) ∧ bl s = Pl.dec n ∧ Below W.heap.size W w') at hd
  rw [bl_length] at hl
  have HD := hid hd
  have HB := hid hB
  have y0 := hB.cell 0 rfl
  have y1 := hB.cell 1 rfl
  have h0 : (0 : Int) ≤ (n : Int) := by omega
  have h9 : (n : Int) ≤ 999999999 := by omega
  clear hd hB hn
  generalize Pl.dec n = D at *
  go_enter Tryz.func71, Tryz.ntmps71
  go_wp2_with fail
  refine (rneed_true b 4 w).mono ?_
  rintro e w2 ⟨rfl, hw2⟩
  subst w2
  go_wp2_with fail
  go_region_with (go_at_call 92; refine (HD.out _).mono ?_; rintro e w3 ⟨t, rfl, ht, hb3⟩; have hb33 := (below_next (Below.drew (Below.refl _ _)) hb3); have hB3 := HB.out.below hb33; have z0 := hB3.cell 0 rfl; have z1 := hB3.cell 1 rfl; have zf := hB3.frozen; have hts : t.size ≤ 9 := (by rw [← bl_length, ht]; exact hsz); have HS := hid (WSt.set (t := s ++ t) hB3); have HC := hid ((Ch.below hb33).trans (WSt.ch hB3 (.string (s ++ t)))); have HT := hid ht; clear ht hb3 hb33 hB3)
  all_goals
    go_wp2
    go_end0
    refine ⟨rfl, ⟨_, HS.out, ?_⟩, HC.out⟩
    rw [bl_append, HT.out]
set_option maxHeartbeats 8000000 in
theorem rwkind_ok (b : Nat) (acc : List Nat) (t : Pl.Ty) (hd : Pl.tyD t ≤ 8) (hok : Pl.okTy t) (x y z : Value) (w : World) (hT : TyG w t x y z) (h : WSt b acc w) (hl : acc.length ≤ 1000000000) :
    Calls Tryz.prog 72 #[.pointer (some ⟨b, 0, none⟩), .agg #[x, y, z]] w (WrG b (acc ++ Pl.tyX t) w) := by
  obtain ⟨s, hB, rfl⟩ := h
  obtain ⟨w1, hw1⟩ : ∃ w1, w1 = w.alloc (.cells #[x, y, z] 29) := ⟨_, rfl⟩
  have hb1 : Below w.heap.size w w1 := by rw [hw1]; exact below_alloc w _
  have hB1 : Bx w1 w.heap.size [x, y, z] 29 := by rw [hw1]; exact Bx.new w _ _
  have hsh := rShape_ok t hd hok w1 x y z (TyG.below hb1 _ _ _ _ hT)
  have hty := fun W (hW : Below w.heap.size w W) => rtyped_any t W x y z (TyG.below hW _ _ _ _ hT) (by omega) hok
  have hsz : (Pl.tyX t).length ≤ 48 := by have := Pl.ty_len t hok; omega
  obtain ⟨k, s0, ad, m, cp, rfl, rfl, rfl⟩ := hT.shape
  rw [bl_length] at hl
  have HSH := hid hsh
  have HTY := hid hty
  have HB := hid hB
  have HB1 := hid hB1
  have HW1 := hid hw1
  have Hb1 := hid hb1
  clear hsh hty hB hB1 hw1 hb1 hT hd hok
  generalize Pl.tyX t = X at *
  go_enter Tryz.func72, Tryz.ntmps72
  go_wp2_with fail
  rw [← HW1.out]
  refine HSH.out.mono ?_
  rintro e w2 ⟨rfl, hb2⟩
  have hbn := below_next Hb1.out hb2
  have hB2 := HB.out.below hbn
  have hC2 := HB1.out.below hb2
  have y0 := hB2.cell 0 rfl
  have y1 := hB2.cell 1 rfl
  have x0 := hC2.cell 0 rfl
  have x1 := hC2.cell 1 rfl
  have x2 := hC2.cell 2 rfl
  have HBN := hid hbn
  have HBB := hid hB2
  clear hbn hB2 hC2 hb2
  go_wp2_with fail
  refine (rneed_true b 0 w2).mono ?_
  rintro e w3 ⟨rfl, hw3⟩
  subst w3
  go_wp2_with fail
  go_region_with (go_at_call 93; refine (HTY.out _ (Below.drew HBN.out)).mono ?_; rintro e w4 ⟨u, rfl, hu, hb4⟩; have hb44 := (below_next (Below.drew (Below.refl _ _)) hb4); have hB4 := HBB.out.below hb44; have z0 := hB4.cell 0 rfl; have z1 := hB4.cell 1 rfl; have zf := hB4.frozen; have hts : u.size ≤ 48 := (by rw [← bl_length, hu]; exact hsz); have HS := hid (WSt.set (t := s ++ u) hB4); have HC := hid ((Ch.below (below_next HBN.out hb44)).trans (WSt.ch hB4 (.string (s ++ u)))); have HT := hid hu; clear hu hb4 hb44 hB4)
  all_goals
    go_wp2
    go_end0
    refine ⟨rfl, ⟨_, HS.out, ?_⟩, HC.out⟩
    rw [bl_append, HT.out]
end Go.Proofs.YtmiohekmpjiloaaGreatDoor

namespace Go.Proofs.YtmiohekmpjiloaaGreatDoor
open Go.RowKit
set_option maxRecDepth 20000

/-- The reader's box: its tokens, where it is, nothing wrong, what it has read. -/
structure Rd (b : Nat) (tv : Value) (tl : List Z3) (i : Nat) (s1 s2 s3 : Value) (w : World) : Prop where
  box : Bx w b [tv, .int .i64 (i : Int), .int .i64 0, s1, s2, s3] 209
  toks : TSeg w tv tl
  few : tl.length ≤ 70000
  old : ∀ g off n cap, tv = .slice (some ⟨g, off, none⟩) n cap → 0 < tl.length → g < b
theorem Rd.below {b : Nat} {tv : Value} {tl : List Z3} {i : Nat} {s1 s2 s3 : Value} {w w' : World} (h : Rd b tv tl i s1 s2 s3 w) (hb : Below w.heap.size w w') : Rd b tv tl i s1 s2 s3 w' := ⟨h.box.below hb, h.toks.below hb, h.few, h.old⟩
theorem Rd.tok {b : Nat} {tv : Value} {tl : List Z3} {i : Nat} {s1 s2 s3 : Value} {w : World} (h : Rd b tv tl i s1 s2 s3 w) {t : Z3} (ht : tl[i]? = some t) :
    ∃ g off cap, tv = .slice (some ⟨g, off, none⟩) tl.length cap ∧ g < w.heap.size ∧ i < tl.length ∧ w.cell? ⟨g, off + i * 3, none⟩ = some (.int .i64 t.1) ∧ w.cell? ⟨g, off + i * 3 + 1, none⟩ = some (.string t.2.1) ∧ w.cell? ⟨g, off + i * 3 + 2, none⟩ = some (.int .i64 t.2.2) := by
  obtain ⟨a, cap, h1, h2, h3, h4, h5⟩ := h.toks
  have hi : i < tl.length := (List.getElem?_eq_some_iff.1 ht).1
  rcases a with _ | ⟨g, off, ar⟩
  · have := (h4 rfl).1
    rw [this] at hi
    simp at hi
  · obtain ⟨rfl, q2, q3⟩ := h5 g off ar rfl (by omega)
    obtain ⟨c0, c1, c2⟩ := q3 i t ht
    exact ⟨g, off, cap, h1, q2, hi, c0, c1, c2⟩

theorem ret_peek {W : World} {tmps : Array Value} {b : Nat} {x y z : Value} (ht : tmps.getD 2 undef = .pointer (some ⟨b, 0, none⟩)) (h0 : W.cell? ⟨b, 0, none⟩ = some x) (h1 : W.cell? ⟨b, 1, none⟩ = some y) (h2 : W.cell? ⟨b, 2, none⟩ = some z) :
    (results Tryz.f157 tmps).run Tryz.prog W = .ok (.agg #[x, y, z]) W := by
  have ht' : tmps[2]?.getD undef = .pointer (some ⟨b, 0, none⟩) := by rw [← Array.getD_eq_getD_getElem?]; exact ht
  simp [results, Tryz.results157]
  go_simp

set_option maxHeartbeats 4000000 in
theorem rpeek_any (b : Nat) (tv : Value) (tl : List Z3) (i : Nat) (s1 s2 s3 : Value) (w : World) (h : Rd b tv tl i s1 s2 s3 w) (t : Z3) (ht : tl[i]? = some t) :
    Calls Tryz.prog 157 #[.pointer (some ⟨b, 0, none⟩)] w fun e w' => e = .returned (.agg #[.int .i64 t.1, .string t.2.1, .int .i64 t.2.2]) ∧ Below w.heap.size w w' := by
  obtain ⟨g, off, cap, rfl, hg, hi, c0, c1, c2⟩ := h.tok ht
  have hb1 := below_alloc w (.cells #[.int .i64 0, .string ⟨#[]⟩, .int .i64 0] 183)
  have hB := h.box.below hb1
  have y0 := hB.cell 0 rfl
  have y1 := hB.cell 1 rfl
  have d0 := (hb1.cell hg).trans c0
  have d1 := (hb1.cell hg).trans c1
  have d2 := (hb1.cell hg).trans c2
  have hiI : (i : Int) < (tl.length : Int) := by omega
  have hfew := h.few
  have hN := Bx.new w [.int .i64 0, .string ⟨#[]⟩, .int .i64 0] 183
  have x0 := hN.cell 0 rfl
  have x1 := hN.cell 1 rfl
  have x2 := hN.cell 2 rfl
  have xf := hN.frozen
  have HS := hid (Bx.new w [.int .i64 t.1, .string t.2.1, .int .i64 t.2.2] 183)
  have HB := hid ((below_alloc w (.cells #[.int .i64 t.1, .string t.2.1, .int .i64 t.2.2] 183)).drew.drew)
  clear h ht hb1 hB c0 c1 c2 hN
  generalize tl.length = M at *
  go_enter Tryz.func157, Tryz.ntmps157
  go_wp2_with fail
  go_region
  all_goals
    go_wp2_with fail
    go_region
    all_goals
      go_wp2_with fail
      exact bodyPost_ret (ret_peek rfl (HS.out.cell 0 rfl) (HS.out.cell 1 rfl) (HS.out.cell 2 rfl)) rfl ⟨rfl, HB.out⟩

theorem TSeg.belB {B : Nat} {w w' : World} {v : Value} {l : List Z3} (h : TSeg w v l) (hb : Below B w w') (hB : ∀ g off n cap, v = .slice (some ⟨g, off, none⟩) n cap → 0 < l.length → g < B) : TSeg w' v l := by
  obtain ⟨a, cap, h1, h2, h3, h4, h5⟩ := h
  refine ⟨a, cap, h1, h2, h3, h4, fun g off ar ha h0 => ?_⟩
  obtain ⟨rfl, k2, k3⟩ := h5 g off ar ha h0
  have hg : g < B := hB g off _ _ (by rw [h1, ha]) h0
  refine ⟨rfl, Nat.lt_of_lt_of_le k2 hb.size, fun i t ht => ?_⟩
  obtain ⟨q1, q2, q3⟩ := k3 i t ht
  exact ⟨(hb.cell hg).trans q1, (hb.cell hg).trans q2, (hb.cell hg).trans q3⟩
theorem Ch.drew {X : Nat → TypeId → Prop} {w w' : World} (h : Ch X w w') : Ch X w w'.drew := ⟨h.os, h.tape, h.output, h.size, h.block⟩
def Xr (b : Nat) (g : Nat) (T : TypeId) : Prop := g = b ∧ T = 209
theorem Xr.xo {b : Nat} {w w' : World} (h : Ch (Xr b) w w') : Ch (Xo b) w w' := h.mono fun _ _ hx => hx.1
theorem Rd.at {b : Nat} {tv : Value} {tl : List Z3} {i : Nat} {s1 s2 s3 : Value} {w w' : World} (h : Rd b tv tl i s1 s2 s3 w) (hc : Ch (Xr b) w w') {j : Nat} {u1 u2 u3 : Value} (hB : Bx w' b [tv, .int .i64 (j : Int), .int .i64 0, u1, u2, u3] 209) : Rd b tv tl j u1 u2 u3 w' :=
  ⟨hB, h.toks.belB (Xo.bel (Xr.xo hc) (Nat.le_refl _) (Nat.le_of_lt h.box.lt)) h.old, h.few, h.old⟩

/-- What a step of the reader leaves. -/
def RdG (b : Nat) (tv : Value) (tl : List Z3) (j : Nat) (s1 s2 s3 : Value) (w : World) (v : Value) (e : Ending) (w' : World) : Prop := e = .returned v ∧ Rd b tv tl j s1 s2 s3 w' ∧ Ch (Xr b) w w'

set_option maxHeartbeats 4000000 in
theorem rtake_ok (b : Nat) (tv : Value) (tl : List Z3) (i : Nat) (s1 s2 s3 : Value) (w : World) (h : Rd b tv tl i s1 s2 s3 w) (t : Z3) (ht : tl[i]? = some t) :
    Calls Tryz.prog 159 #[.pointer (some ⟨b, 0, none⟩), .bool true] w (RdG b tv tl (i + 1) s1 s2 s3 w (.string t.2.1)) := by
  obtain ⟨g, off, cap, rfl, hg, hi, c0, c1, c2⟩ := h.tok ht
  have hgb := h.old g off _ _ rfl (by omega)
  have y0 := h.box.cell 0 rfl
  have y1 := h.box.cell 1 rfl
  have y2 := h.box.cell 2 rfl
  have yf := h.box.frozen
  have hfew := h.few
  have hc : Ch (Xr b) w (w.setCell ⟨b, 1, none⟩ (.int .i64 ((i : Int) + 1))) := Ch.set h.box ⟨rfl, rfl⟩ _
  have hB := h.box.set 1 (.int .i64 ((i : Int) + 1))
  have hbl := Xo.bel (Xr.xo hc) (Nat.le_refl _) (Nat.le_of_lt h.box.lt)
  have z0 := hB.cell 0 rfl
  have z1 := hB.cell 1 rfl
  have d1 := (hbl.cell hgb).trans c1
  have HR := hid (h.at hc (j := i + 1) hB)
  have HC := hid hc
  have hne : ((i : Int) == (tl.length : Int)) = false := by simp; omega
  have hi2 : (i : Int) < (tl.length : Int) := by omega
  have hlt : g < w.heap.size := hg
  clear h ht hc hB hbl c0 c2
  generalize tl.length = M at *
  go_enter Tryz.func159, Tryz.ntmps159
  go_wp2_with fail
  go_region
  all_goals
    go_wp2_with fail
    go_region
    all_goals
      go_wp2_with fail
      go_ret
      exact ⟨rfl, HR.out.below ((Below.refl _ _).drew.drew), HC.out.drew.drew⟩

theorem tok_field (a b c : Value) (w : World) : (Instr.field 183 (.agg #[a, b, c]) 1).run Tryz.prog w = .ok b w := by kernel_rfl

set_option maxHeartbeats 4000000 in
theorem rsign_ok (b : Nat) (tv : Value) (tl : List Z3) (i : Nat) (s1 s2 s3 : Value) (w : World) (h : Rd b tv tl i s1 s2 s3 w) (t : Z3) (ht : tl[i]? = some t) :
    Calls Tryz.prog 174 #[.pointer (some ⟨b, 0, none⟩), .string t.2.1] w (RdG b tv tl (i + 1) s1 s2 s3 w (.tuple #[])) := by
  have hp := rpeek_any b tv tl i s1 s2 s3 w h t ht
  have hk := fun W (hW : Below w.heap.size w W) => rtake_ok b tv tl i s1 s2 s3 W (h.below hW) t ht
  have HP := hid hp
  have HK := hid hk
  clear hp hk h ht
  have htf := tok_field
  go_enter Tryz.func174, Tryz.ntmps174
  go_wp2_with fail
  refine HP.out.mono ?_
  rintro e w1 ⟨rfl, hb1⟩
  have HK1 := hid (HK.out w1 hb1)
  have HB1 := hid hb1
  clear hb1
  go_wp2_with fail
  refine HK1.out.mono ?_
  rintro e w2 ⟨rfl, hr, hc⟩
  have HR := hid hr
  have HC := hid ((Ch.below HB1.out).trans hc)
  clear hr hc
  go_wp2
  go_end0
  exact ⟨rfl, HR.out, HC.out⟩

set_option maxHeartbeats 4000000 in
theorem rrname_ok (b : Nat) (tv : Value) (tl : List Z3) (i : Nat) (s1 s2 s3 : Value) (w : World) (h : Rd b tv tl i s1 s2 s3 w) (t : Z3) (ht : tl[i]? = some t) (hn : Pl.okName (bl t.2.1)) :
    Calls Tryz.prog 173 #[.pointer (some ⟨b, 0, none⟩)] w (RdG b tv tl (i + 1) s1 s2 s3 w (.string t.2.1)) := by
  have hp := rpeek_any b tv tl i s1 s2 s3 w h t ht
  have hm := fun W => rname_ok t.2.1 hn W
  have hk := fun W (hW : Below w.heap.size w W) => rtake_ok b tv tl i s1 s2 s3 W (h.below hW) t ht
  have HP := hid hp
  have HM := hid hm
  have HK := hid hk
  clear hp hm hk h ht hn
  have htf := tok_field
  go_enter Tryz.func173, Tryz.ntmps173
  go_wp2_with fail
  refine HP.out.mono ?_
  rintro e w1 ⟨rfl, hb1⟩
  go_wp2_with fail
  refine (HM.out w1).mono ?_
  rintro e w2 ⟨rfl, hb2⟩
  have hb12 := below_next hb1 hb2
  have HK1 := hid (HK.out w2 hb12)
  have HB1 := hid hb12
  clear hb1 hb2 hb12
  go_wp2_with fail
  refine HK1.out.mono ?_
  rintro e w3 ⟨rfl, hr, hc⟩
  have HR := hid hr
  have HC := hid ((Ch.below HB1.out).trans hc)
  clear hr hc
  go_wp2
  go_ret
  exact ⟨rfl, HR.out, HC.out⟩

set_option maxHeartbeats 4000000 in
theorem rmore_no (b : Nat) (tv : Value) (tl : List Z3) (i : Nat) (s1 s2 s3 : Value) (n : Int) (w : World) (h : Rd b tv tl i s1 s2 s3 w) (t : Z3) (ht : tl[i]? = some t) (hx : t.2.1 = ⟨#[125]⟩) :
    Calls Tryz.prog 175 #[.pointer (some ⟨b, 0, none⟩), .int .i64 n] w fun e w' => e = .returned (.bool false) ∧ Below w.heap.size w w' := by
  have hp := rpeek_any b tv tl i s1 s2 s3 w h t ht
  rw [hx] at hp
  have y2 := h.box.cell 2 rfl
  have HP := hid hp
  clear hp h ht hx
  have htf := tok_field
  go_enter Tryz.func175, Tryz.ntmps175
  go_wp2_with fail
  refine HP.out.mono ?_
  rintro e w1 ⟨rfl, hb1⟩
  have HB1 := hid hb1
  clear hb1
  go_wp2
  go_ret
  exact ⟨rfl, HB1.out⟩

set_option maxHeartbeats 4000000 in
theorem rmore_yes (b : Nat) (tv : Value) (tl : List Z3) (i : Nat) (s1 s2 s3 : Value) (n : Nat) (hn : n < 32) (w : World) (h : Rd b tv tl i s1 s2 s3 w) (t : Z3) (ht : tl[i]? = some t) (hx : t.2.1 ≠ ⟨#[125]⟩) :
    Calls Tryz.prog 175 #[.pointer (some ⟨b, 0, none⟩), .int .i64 (n : Int)] w fun e w' => e = .returned (.bool true) ∧ Below w.heap.size w w' := by
  have hp := rpeek_any b tv tl i s1 s2 s3 w h t ht
  obtain ⟨g, off, cap, rfl, hg, hi, c0, c1, c2⟩ := h.tok ht
  have y2 := h.box.cell 2 rfl
  obtain ⟨_, e1, f1, _⟩ := lit_no (l := [125]) hx
  have HP := hid hp
  have HH := hid h
  have hfew := h.few
  have hi2 : (i : Int) < (tl.length : Int) := by omega
  have hn2 : ((n : Int) == 32) = false := by simp; omega
  clear hp h ht hx c0 c1 c2
  generalize tl.length = M at *
  have htf := tok_field
  go_enter Tryz.func175, Tryz.ntmps175
  go_wp2_with fail
  refine HP.out.mono ?_
  rintro e w1 ⟨rfl, hb1⟩
  have h1 := HH.out.below hb1
  have z0 := h1.box.cell 0 rfl
  have z1 := h1.box.cell 1 rfl
  have z2 := h1.box.cell 2 rfl
  have HB1 := hid hb1.drew
  clear hb1 h1
  go_wp2_with fail
  go_region
  all_goals
    go_wp2_with fail
    go_ret
    exact ⟨rfl, HB1.out⟩
end Go.Proofs.YtmiohekmpjiloaaGreatDoor

namespace Go.Proofs.YtmiohekmpjiloaaGreatDoor
open Go.RowKit
set_option maxRecDepth 20000

theorem tok_okt (k : Nat) (n : List Nat) (h : Pl.okKt (k, n)) (ln : Nat) : Pl.tok n ln = ([⟨k, n, ln⟩], 0, 0) := by
  rcases h with ⟨h1, c, h2, h3⟩ | ⟨h1, h2, h3⟩
  · simp only at h1 h2
    subst h1 h2
    rw [Pl.tok_sign c [] ln h3, Pl.tok_nil]
    simp [Pl.tokCons]
  · simp only at h1 h2 h3
    cases n with
    | nil => exact absurd rfl h1
    | cons c r =>
      obtain ⟨s1, s2⟩ := tw_all (c :: r) h2
      rw [Pl.tok_part c r ln (h2 c (by simp)), s1, s2, h3, Pl.tok_nil]
      simp [Pl.tokCons]
theorem okt_tok (k : Nat) (s : ByteArray) (h : Pl.okKt (k, bl s)) : tokA s = ([⟨k, bl s, 1⟩], 0, 0) ∧ 1 ≤ k ∧ k ≤ 3 ∧ s.size ≤ 32 := by
  obtain ⟨h1, h2, _, h4⟩ := Pl.ok_kind _ h
  simp only [bl_length] at h4
  refine ⟨?_, h1, h2, h4⟩
  unfold tokA
  rw [if_neg (by omega), tok_okt _ _ h]

set_option maxHeartbeats 4000000 in
theorem rcheck_ok (k : Nat) (x : ByteArray) (ln : Int) (h : Pl.okKt (k, bl x)) (hl : 1 ≤ ln) (w : World) : Calls Tryz.prog 156 #[.agg #[.int .i64 (k : Int), .string x, .int .i64 ln]] w fun e w' => e = .returned (.int .i64 0) ∧ Below w.heap.size w w' := by
  obtain ⟨hT, h1, h2, h3⟩ := okt_tok k x h
  obtain ⟨w1, hw1⟩ : ∃ w1, w1 = w.alloc (.cells #[.int .i64 (k : Int), .string x, .int .i64 ln] 183) := ⟨_, rfl⟩
  have hb1 : Below w.heap.size w w1 := by rw [hw1]; exact below_alloc w _
  have hB1 : Bx w1 w.heap.size [.int .i64 (k : Int), .string x, .int .i64 ln] 183 := by rw [hw1]; exact Bx.new w _ _
  have ht := rtokens_any x w1
  rw [hT] at ht
  have q1 : ¬ ((k : Int) < 1) := by omega
  have q2 : ¬ ((3 : Int) < (k : Int)) := by omega
  have q3 : ¬ (ln < 1) := by omega
  have HT := hid ht
  have HW1 := hid hw1
  have Hb1 := hid hb1
  have HB1 := hid hB1
  clear ht hw1 hb1 hB1 h hT
  go_enter Tryz.func156, Tryz.ntmps156
  go_wp2_with fail
  rw [← HW1.out]
  refine HT.out.mono ?_
  rintro e w2 ⟨v, tl, rfl, hT, htl, hb⟩
  obtain ⟨a, cap, rfl, g1, g2, g3, g4⟩ := hT.seg
  rcases tl with _ | ⟨t0, _ | ⟨t1, tl⟩⟩ <;> simp at htl
  obtain ⟨k0, x0, l0⟩ := t0
  simp only [asTok, Pl.Tok.mk.injEq] at htl
  obtain ⟨rfl, hx, rfl⟩ := htl
  obtain rfl : x0 = x := bl_inj hx
  rcases a with _ | ⟨g, off, ar⟩
  · simp at g3
  obtain ⟨rfl, hlt, hc⟩ := g4 g off ar rfl (by simp)
  obtain ⟨c0, c1, c2⟩ := hc 0 _ rfl
  simp only [toZ, Nat.zero_mul, Nat.add_zero] at c0 c1 c2
  have hB2 := HB1.out.below hb
  have y0 := hB2.cell 0 rfl
  have y1 := hB2.cell 1 rfl
  have y2 := hB2.cell 2 rfl
  have HB := hid (below_next Hb1.out hb)
  clear hc g3 g4 hT hb hB2
  simp only [List.map_cons, List.map_nil, List.length_cons, List.length_nil] at g1 g2 ⊢
  go_wp2_with fail
  go_quiet (fail)
  go_wp2
  go_ret
  exact ⟨rfl, below_drewN HB.out _⟩

theorem valN_next (x : ByteArray) (k : Nat) (h : k < x.size) : Pl.valN ((bl x).take (k + 1)) = Pl.valN ((bl x).take k) * 10 + (x[k].toNat - 48) := by
  rw [take_at x k h, Pl.valN_append]

set_option maxHeartbeats 8000000 in
theorem rNumber_ok (x : ByteArray) (ln : Int) (h : Pl.okKt (2, bl x)) (hl : 1 ≤ ln) (w : World) : Calls Tryz.prog 185 #[.agg #[.int .i64 2, .string x, .int .i64 ln]] w fun e w' => e = .returned (.tuple #[.int .i64 (Pl.valN (bl x) : Int), .int .i64 0]) ∧ Below w.heap.size w w' := by
  obtain ⟨w1, hw1⟩ : ∃ w1, w1 = w.alloc (.cells #[.int .i64 2, .string x, .int .i64 ln] 183) := ⟨_, rfl⟩
  have hb1 : Below w.heap.size w w1 := by rw [hw1]; exact below_alloc w _
  have hB1 : Bx w1 w.heap.size [.int .i64 2, .string x, .int .i64 ln] 183 := by rw [hw1]; exact Bx.new w _ _
  have hck := rcheck_ok 2 x ln h hl w1
  obtain ⟨hdig, hsz⟩ : (∀ c ∈ bl x, 48 ≤ c ∧ c ≤ 57) ∧ x.size ≤ 9 := by
    rcases h with ⟨h1, _⟩ | ⟨h1, h2, h3⟩
    · simp at h1
    · simp only at h1 h2 h3
      cases hbx : bl x with
      | nil => exact absurd hbx h1
      | cons c r =>
        rw [hbx] at h3
        simp only [Pl.wordE] at h3
        split at h3
        · split at h3 <;> simp at h3
        · split at h3
          · simp at h3
          · split at h3
            · simp at h3
            · rename_i hall
              split at h3
              · simp at h3
              · rename_i hlen
                have hall2 : (c :: r).all Pl.isDigit = true := by simpa using hall
                refine ⟨fun d hd => ?_, ?_⟩
                · have := List.all_eq_true.1 hall2 d hd
                  simpa [Pl.isDigit] using this
                · have : ¬ 9 < (c :: r).length := fun hh => hlen (.inl hh)
                  rw [← hbx, bl_length] at this
                  omega
  have hval : ∀ k, Pl.valN ((bl x).take k) ≤ 1000000000 := by
    intro k
    have h1 := Pl.val_lt ((bl x).take k) (fun c hc => by
      have := hdig c (List.mem_of_mem_take hc)
      simp [Pl.isDigit, this])
    have h2 : ((bl x).take k).length ≤ 9 := by rw [List.length_take, bl_length]; omega
    have h3 : 10 ^ ((bl x).take k).length ≤ 10 ^ 9 := Nat.pow_le_pow_right (by decide) h2
    omega
  have hmem : ∀ k (hk : k < x.size), 48 ≤ x[k].toNat ∧ x[k].toNat ≤ 57 := by
    intro k hk
    apply hdig
    rw [← List.take_append_drop (k + 1) (bl x), take_at x k hk]
    simp
  have HV := hid hval
  have HM := hid hmem
  have HCK := hid hck
  have HW1 := hid hw1
  have Hb1 := hid hb1
  have HB1 := hid hB1
  clear hval hmem hck hw1 hb1 hB1 hdig h hl
  go_enter Tryz.func185, Tryz.ntmps185
  go_wp2_with fail
  rw [← HW1.out]
  refine HCK.out.mono ?_
  rintro e w2 ⟨rfl, hb2⟩
  have hB2 := HB1.out.below hb2
  have y0 := hB2.cell 0 rfl
  have y1 := hB2.cell 1 rfl
  have HB := hid (below_next Hb1.out hb2)
  clear hB2 hb2
  go_wp2_with fail
  go_loopw [5, 6] (fun n i wr => ∃ k : Nat, k ≤ x.size ∧ n = .int .i64 (Pl.valN ((bl x).take k) : Int) ∧ i = .int .i64 k ∧ wr = w2) (fun _ i _ => x.size - (intOf i).toNat)
  case atStart => exact ⟨0, Nat.zero_le _, rfl, rfl, rfl⟩
  case round =>
    obtain ⟨k, hk, rfl, rfl, rfl⟩ := hrel
    have hvk := HV.out k
    by_cases hlt : k < x.size
    · obtain ⟨m1, m2⟩ := HM.out k hlt
      have hnx := hid (valN_next x k hlt)
      generalize Pl.valN ((bl x).take k) = V at *
      have hkI : (k : Int) < (x.size : Int) := by omega
      go_wp2_with fail
      refine ⟨⟨k + 1, by omega, ?_, by go_num, trivial⟩, by simp [intOf]; omega⟩
      rw [hnx.out]
      congr 1
      omega
    · have hke : k = x.size := by omega
      have hkI : ¬ (k : Int) < (x.size : Int) := by omega
      have HE := hid (show (bl x).take k = bl x from List.take_of_length_le (by rw [bl_length]; omega))
      rw [HE.out]
      clear hke
      go_wp2
      go_returns
      exact ⟨rfl, HB.out⟩

set_option maxHeartbeats 4000000 in
theorem rrnumber_ok (b : Nat) (tv : Value) (tl : List Z3) (i : Nat) (s1 s2 s3 : Value) (w : World) (h : Rd b tv tl i s1 s2 s3 w) (x : ByteArray) (ln : Int) (ht : tl[i]? = some (2, x, ln)) (hn : Pl.okKt (2, bl x)) (hl : 1 ≤ ln) :
    Calls Tryz.prog 176 #[.pointer (some ⟨b, 0, none⟩)] w (RdG b tv tl (i + 1) s1 s2 s3 w (.int .i64 (Pl.valN (bl x) : Int))) := by
  have HP := hid (rpeek_any b tv tl i s1 s2 s3 w h (2, x, ln) ht)
  have HM := hid (fun W => rNumber_ok x ln hn hl W)
  have HK := hid (fun W (hW : Below w.heap.size w W) => rtake_ok b tv tl i s1 s2 s3 W (h.below hW) (2, x, ln) ht)
  have hblt := h.box.lt
  clear h ht hn hl
  go_enter Tryz.func176, Tryz.ntmps176
  go_wp2_with fail
  refine HP.out.mono ?_
  rintro e w1 ⟨rfl, hb1⟩
  obtain ⟨w2, hw2⟩ : ∃ w2, w2 = w1.alloc (.cells #[.int .i64 2, .string x, .int .i64 ln] 183) := ⟨_, rfl⟩
  have hb2 : Below w1.heap.size w1 w2 := by rw [hw2]; exact below_alloc w1 _
  have hB2 : Bx w2 w1.heap.size [.int .i64 2, .string x, .int .i64 ln] 183 := by rw [hw2]; exact Bx.new w1 _ _
  have hbn := below_next hb1 hb2
  have HK2 := hid (HK.out w2 hbn)
  have HBN := hid hbn
  have HB2 := hid hB2
  have HW2 := hid hw2
  have hne : w1.heap.size ≠ b := by have := hb1.size; omega
  clear hb1 hb2 hB2 hbn hw2
  go_wp2_with fail
  rw [← HW2.out]
  refine HK2.out.mono ?_
  rintro e w3 ⟨rfl, hr, hc⟩
  have hB3 := HB2.out.ch hc (fun e => hne e.1)
  have y0 := hB3.cell 0 rfl
  have y1 := hB3.cell 1 rfl
  have y2 := hB3.cell 2 rfl
  have HR := hid hr
  have HC := hid ((Ch.below HBN.out).trans hc)
  clear hr hc hB3
  go_wp2_with fail
  refine (HM.out w3).mono ?_
  rintro e w4 ⟨rfl, hb4⟩
  have HR4 := hid (HR.out.below hb4)
  have HC4 := hid (HC.out.trans (Ch.below hb4))
  clear hb4 y0 y1 y2
  go_wp2
  go_ret
  exact ⟨rfl, HR4.out, HC4.out⟩
end Go.Proofs.YtmiohekmpjiloaaGreatDoor

namespace Go.Proofs.YtmiohekmpjiloaaGreatDoor
open Go.RowKit
set_option maxRecDepth 20000

set_option maxHeartbeats 8000000 in
theorem rplain_word (x : ByteArray) (k : Nat) (hk : 1 ≤ k ∧ k ≤ 5) (h : bl x = Pl.plainW k) (w : World) : Calls Tryz.prog 129 #[.string x] w fun e w' => e = .returned (.int .i64 (k : Int)) ∧ Below w.heap.size w w' := by
  have HB := hid (below_alloc w (.cells #[.string ⟨#[98, 111, 111, 108]⟩, .string ⟨#[105, 110, 116]⟩, .string ⟨#[117, 105, 110, 116]⟩, .string ⟨#[116, 101, 120, 116]⟩, .string ⟨#[98, 121, 116, 101, 115]⟩] 9))
  have h1 : k = 1 ∨ k = 2 ∨ k = 3 ∨ k = 4 ∨ k = 5 := by omega
  clear hk
  rcases h1 with rfl | rfl | rfl | rfl | rfl
  · obtain rfl : x = ⟨#[98, 111, 111, 108]⟩ := bl_inj h
    go_enter Tryz.func129, Tryz.ntmps129
    go_wp2_with fail
    go_rounds 1
    go_ret
    exact ⟨rfl, HB.out⟩
  · obtain rfl : x = ⟨#[105, 110, 116]⟩ := bl_inj h
    go_enter Tryz.func129, Tryz.ntmps129
    go_wp2_with fail
    go_rounds 2
    go_ret
    exact ⟨rfl, HB.out⟩
  · obtain rfl : x = ⟨#[117, 105, 110, 116]⟩ := bl_inj h
    go_enter Tryz.func129, Tryz.ntmps129
    go_wp2_with fail
    go_rounds 3
    go_ret
    exact ⟨rfl, HB.out⟩
  · obtain rfl : x = ⟨#[116, 101, 120, 116]⟩ := bl_inj h
    go_enter Tryz.func129, Tryz.ntmps129
    go_wp2_with fail
    go_rounds 4
    go_ret
    exact ⟨rfl, HB.out⟩
  · obtain rfl : x = ⟨#[98, 121, 116, 101, 115]⟩ := bl_inj h
    go_enter Tryz.func129, Tryz.ntmps129
    go_wp2_with fail
    go_rounds 5
    go_ret
    exact ⟨rfl, HB.out⟩

theorem ret_kind {W : World} {tmps : Array Value} {b : Nat} {x y z : Value} (ht : tmps.getD 4 undef = .pointer (some ⟨b, 0, none⟩)) (h0 : W.cell? ⟨b, 0, none⟩ = some x) (h1 : W.cell? ⟨b, 1, none⟩ = some y) (h2 : W.cell? ⟨b, 2, none⟩ = some z) :
    (results Tryz.f177 tmps).run Tryz.prog W = .ok (.agg #[x, y, z]) W := by
  have ht' : tmps[4]?.getD undef = .pointer (some ⟨b, 0, none⟩) := by rw [← Array.getD_eq_getD_getElem?]; exact ht
  simp [results, Tryz.results177]
  go_simp

theorem Rd.set {b : Nat} {tv : Value} {tl : List Z3} {i : Nat} {s1 s2 s3 : Value} {w : World} (h : Rd b tv tl i s1 s2 s3 w) {r : Nat} (hr : b < r) (k : Nat) (u : Value) : Rd b tv tl i s1 s2 s3 (w.setCell ⟨r, k, none⟩ u) :=
  ⟨Bx.other h.box (by omega) u, h.toks.belB ((Below.refl b w).setCell (p := ⟨r, k, none⟩) (Nat.le_of_lt hr) u) h.old, h.few, h.old⟩

/-- A type's tokens stand there. -/
def KtAt (tl : List Z3) (i : Nat) (l : List Pl.Kt) : Prop := ∀ (j k : Nat) (n : List Nat), l[j]? = some (k, n) → ∃ s ln, tl[i + j]? = some ((k : Int), s, ln) ∧ bl s = n
def KindR (b : Nat) (tv : Value) (tl : List Z3) (j : Nat) (s1 s2 s3 : Value) (t : Pl.Ty) (w : World) (e : Ending) (w' : World) : Prop :=
  ∃ x y z, e = .returned (.agg #[x, y, z]) ∧ TyC w.heap.size t w' x y z ∧ Rd b tv tl j s1 s2 s3 w' ∧ Ch (Xr b) w w'

set_option maxHeartbeats 8000000 in
theorem rkind_plain (b : Nat) (tv : Value) (tl : List Z3) (i : Nat) (s1 s2 s3 : Value) (k : Nat) (hk : 1 ≤ k ∧ k ≤ 5) (d : Int) (hd : d ≤ 8) (w : World) (h : Rd b tv tl i s1 s2 s3 w) (x : ByteArray) (kk ln : Int) (ht : tl[i]? = some (kk, x, ln)) (hx : bl x = Pl.plainW k) :
    Calls Tryz.prog 177 #[.pointer (some ⟨b, 0, none⟩), .int .i64 d] w (KindR b tv tl (i + 1) s1 s2 s3 (.plain k) w) := by
  obtain ⟨w1, hw1⟩ : ∃ w1, w1 = w.alloc (.cells #[.int .i64 0, .string ⟨#[]⟩, .slice none 0 0] 29) := ⟨_, rfl⟩
  have hb1 : Below w.heap.size w w1 := by rw [hw1]; exact below_alloc w _
  have hB1 : Bx w1 w.heap.size [.int .i64 0, .string ⟨#[]⟩, .slice none 0 0] 29 := by rw [hw1]; exact Bx.new w _ _
  have hR1 := h.below hb1
  have hblt := h.box.lt
  have hne0 : w.heap.size ≠ b := by omega
  have HPK := hid (rpeek_any b tv tl i s1 s2 s3 w1 hR1 _ ht)
  have HPL := hid (fun W => rplain_word x k hk hx W)
  have HTK := hid (fun W (hW : Below w1.heap.size w1 W) => rtake_ok b tv tl i s1 s2 s3 W (hR1.below hW) _ ht)
  obtain ⟨g, off, cap, rfl, hg, hi, -, -, -⟩ := h.tok ht
  have hiI : (i : Int) < (tl.length : Int) := by omega
  have hdI : ¬ (8 : Int) < d := by omega
  have hkI : (0 : Int) < (k : Int) := by omega
  have hfew := h.few
  have HR1 := hid hR1
  have HW1 := hid hw1
  have Hb1 := hid hb1
  have HB1 := hid hB1
  clear hw1 hb1 hB1 hR1 h ht hx
  generalize tl.length = M at *
  go_enter Tryz.func177, Tryz.ntmps177
  go_wp2_with fail
  rw [← HW1.out]
  refine HPK.out.mono ?_
  rintro e w2 ⟨rfl, hb2⟩
  obtain ⟨w3, hw3⟩ : ∃ w3, w3 = w2.alloc (.cells #[.int .i64 kk, .string x, .int .i64 ln] 183) := ⟨_, rfl⟩
  have hb3 : Below w2.heap.size w2 w3 := by rw [hw3]; exact below_alloc w2 _
  have hT3 : Bx w3 w2.heap.size [.int .i64 kk, .string x, .int .i64 ln] 183 := by rw [hw3]; exact Bx.new w2 _ _
  have hb13 := below_next hb2 hb3
  have hR3 := HR1.out.below hb13
  have HB3 := hid (HB1.out.below hb13)
  have hne1 : w2.heap.size ≠ b := by have := HR1.out.box.lt; have := hb2.size; omega
  have y0 := hR3.box.cell 0 rfl
  have y1 := hR3.box.cell 1 rfl
  have y2 := hR3.box.cell 2 rfl
  have z1 := hT3.cell 1 rfl
  have HT3 := hid hT3
  have HB13 := hid hb13
  have HR3 := hid hR3
  rw [hw3] at y0 y1 y2 z1
  have HW3 := hid hw3
  clear hb2 hb3 hT3 hb13 hR3 hw3
  go_wp2_with fail
  go_quiet (fail)
  go_wp2_with fail
  refine (HPL.out _).mono ?_
  rintro e w4 ⟨rfl, hb4⟩
  have hb34 : Below w3.heap.size w3 w4 := by rw [HW3.out]; exact below_next (below_drewN (Below.refl _ _) _) hb4
  have hb14 := below_next HB13.out hb34
  have HTK4 := hid (HTK.out w4 hb14)
  have HT4 := hid (HT3.out.below hb34)
  have HB4 := hid (HB3.out.below hb34)
  have Hb14 := hid hb14
  clear hb4 hb34 hb14 HTK y0 y1 y2 z1 HT3 HB3 HR3 HB13 HW3
  go_wp2_with fail
  refine HTK4.out.mono ?_
  rintro e w5 ⟨rfl, hr5, hc5⟩
  have hT5 := HT4.out.ch hc5 (fun e => hne1 e.1)
  have HB5 := hid (HB4.out.ch hc5 (fun e => hne0 e.1))
  have z1 := hT5.cell 1 rfl
  have HR5 := hid hr5
  have HC5 := hid ((Ch.below (below_next Hb1.out Hb14.out)).trans hc5)
  clear hr5 hc5 hT5 HT4 HB4 HTK4
  go_wp2_with fail
  refine (HPL.out _).mono ?_
  rintro e w6 ⟨rfl, hb6⟩
  have hB6 := HB5.out.below hb6
  have x0 := hB6.cell 0 rfl
  have x1 := hB6.cell 1 rfl
  have x2 := hB6.cell 2 rfl
  have xf := hB6.frozen
  have HS := hid (((hB6.set 0 (.int .i64 (k : Int))).set 1 (.string ⟨#[]⟩)).set 2 (.slice none 0 0))
  have hbr : b < w.heap.size := hblt
  have HR6 := hid ((((HR5.out.below hb6).set hbr 0 (.int .i64 (k : Int))).set hbr 1 (.string ⟨#[]⟩)).set hbr 2 (.slice none 0 0))
  have HC6 := hid ((((HC5.out.trans (Ch.below hb6)).new (k := 0) (Nat.le_refl _) (.int .i64 (k : Int))).new (k := 1) (Nat.le_refl _) (.string ⟨#[]⟩)).new (k := 2) (Nat.le_refl _) (.slice none 0 0))
  clear hb6 hB6 z1 HB5 HR5 HC5
  go_wp2_with fail
  exact bodyPost_ret (ret_kind rfl (HS.out.cell 0 rfl) (HS.out.cell 1 rfl) (HS.out.cell 2 rfl)) rfl ⟨_, _, _, rfl, ⟨rfl, rfl, rfl⟩, HR6.out, HC6.out⟩

theorem name_sign {x : ByteArray} (h : Pl.okName (bl x)) {c : UInt8} (hc : Pl.isPart c.toNat = false) : x ≠ ⟨⟨[c]⟩⟩ := by
  rintro rfl
  rcases h.1 with ⟨h1, _⟩ | ⟨_, h2, _⟩
  · simp at h1
  · have := h2 c.toNat (by simp [bl])
    rw [hc] at this
    cases this

set_option maxHeartbeats 8000000 in
theorem rkind_named (b : Nat) (tv : Value) (tl : List Z3) (i : Nat) (s1 s2 s3 : Value) (d : Int) (hd : d ≤ 8) (w : World) (h : Rd b tv tl i s1 s2 s3 w) (x : ByteArray) (kk ln : Int) (ht : tl[i]? = some (kk, x, ln)) (hx : Pl.okName (bl x)) :
    Calls Tryz.prog 177 #[.pointer (some ⟨b, 0, none⟩), .int .i64 d] w (KindR b tv tl (i + 1) s1 s2 s3 (.named (bl x)) w) := by
  obtain ⟨w1, hw1⟩ : ∃ w1, w1 = w.alloc (.cells #[.int .i64 0, .string ⟨#[]⟩, .slice none 0 0] 29) := ⟨_, rfl⟩
  have hb1 : Below w.heap.size w w1 := by rw [hw1]; exact below_alloc w _
  have hB1 : Bx w1 w.heap.size [.int .i64 0, .string ⟨#[]⟩, .slice none 0 0] 29 := by rw [hw1]; exact Bx.new w _ _
  have hR1 := h.below hb1
  have hblt := h.box.lt
  have hne0 : w.heap.size ≠ b := by omega
  have HPK := hid (rpeek_any b tv tl i s1 s2 s3 w1 hR1 _ ht)
  have HPL := hid (fun W => rplain_none x (name_words x hx).1 W)
  obtain ⟨_, e1, f1, _⟩ := lit_no (l := [91]) (x := x) (name_sign hx (by decide))
  obtain ⟨_, e2, f2, _⟩ := lit_no (l := [63]) (x := x) (name_sign hx (by decide))
  have HTK := hid (fun W (hW : Below w1.heap.size w1 W) => rrname_ok b tv tl i s1 s2 s3 W (hR1.below hW) _ ht hx)
  obtain ⟨g, off, cap, rfl, hg, hi, -, -, -⟩ := h.tok ht
  have hiI : (i : Int) < (tl.length : Int) := by omega
  have hdI : ¬ (8 : Int) < d := by omega
  have hfew := h.few
  have HR1 := hid hR1
  have HW1 := hid hw1
  have Hb1 := hid hb1
  have HB1 := hid hB1
  clear hw1 hb1 hB1 hR1 h ht hx
  generalize tl.length = M at *
  go_enter Tryz.func177, Tryz.ntmps177
  go_wp2_with fail
  rw [← HW1.out]
  refine HPK.out.mono ?_
  rintro e w2 ⟨rfl, hb2⟩
  obtain ⟨w3, hw3⟩ : ∃ w3, w3 = w2.alloc (.cells #[.int .i64 kk, .string x, .int .i64 ln] 183) := ⟨_, rfl⟩
  have hb3 : Below w2.heap.size w2 w3 := by rw [hw3]; exact below_alloc w2 _
  have hT3 : Bx w3 w2.heap.size [.int .i64 kk, .string x, .int .i64 ln] 183 := by rw [hw3]; exact Bx.new w2 _ _
  have hb13 := below_next hb2 hb3
  have hR3 := HR1.out.below hb13
  have HB3 := hid (HB1.out.below hb13)
  have hne1 : w2.heap.size ≠ b := by have := HR1.out.box.lt; have := hb2.size; omega
  have y0 := hR3.box.cell 0 rfl
  have y1 := hR3.box.cell 1 rfl
  have y2 := hR3.box.cell 2 rfl
  have z1 := hT3.cell 1 rfl
  have HT3 := hid hT3
  have HB13 := hid hb13
  have HR3 := hid hR3
  rw [hw3] at y0 y1 y2 z1
  have HW3 := hid hw3
  clear hb2 hb3 hT3 hb13 hR3 hw3
  go_wp2_with fail
  go_quiet (fail)
  go_wp2_with fail
  refine (HPL.out _).mono ?_
  rintro e w4 ⟨rfl, hb4⟩
  have hb34 : Below w3.heap.size w3 w4 := by rw [HW3.out]; exact below_next (below_drewN (Below.refl _ _) _) hb4
  have hb14 := below_next HB13.out hb34
  have HTK4 := hid (HTK.out w4 hb14)
  have HT4 := hid (HT3.out.below hb34)
  have hT4 := HT3.out.below hb34
  have HB4 := hid (HB3.out.below hb34)
  have Hb14 := hid hb14
  clear z1
  have z1 := hT4.cell 1 rfl
  clear hb4 hb34 hb14 HTK y0 y1 y2 HT3 HB3 HR3 HB13 HW3 hT4
  go_wp2_with fail
  refine HTK4.out.mono ?_
  rintro e w5 ⟨rfl, hr5, hc5⟩
  have hB6 := HB4.out.ch hc5 (fun e => hne0 e.1)
  have HR5 := hid hr5
  have HC5 := hid ((Ch.below (below_next Hb1.out Hb14.out)).trans hc5)
  have x0 := hB6.cell 0 rfl
  have x1 := hB6.cell 1 rfl
  have x2 := hB6.cell 2 rfl
  have xf := hB6.frozen
  have HS := hid (((hB6.set 0 (.int .i64 8)).set 1 (.string x)).set 2 (.slice none 0 0))
  have HR6 := hid (((HR5.out.set hblt 0 (.int .i64 8)).set hblt 1 (.string x)).set hblt 2 (.slice none 0 0))
  have HC6 := hid (((HC5.out.new (k := 0) (Nat.le_refl _) (.int .i64 8)).new (k := 1) (Nat.le_refl _) (.string x)).new (k := 2) (Nat.le_refl _) (.slice none 0 0))
  clear hr5 hc5 hB6 z1 HT4 HB4 HTK4 HR5 HC5
  go_wp2_with fail
  exact bodyPost_ret (ret_kind rfl (HS.out.cell 0 rfl) (HS.out.cell 1 rfl) (HS.out.cell 2 rfl)) rfl ⟨_, _, _, rfl, ⟨rfl, ⟨x, rfl, rfl⟩, rfl⟩, HR6.out, HC6.out⟩

set_option maxHeartbeats 16000000 in
theorem rkind_list (b : Nat) (tv : Value) (tl : List Z3) (i : Nat) (s1 s2 s3 : Value) (t : Pl.Ty) (n : Nat) (d : Int) (hd : d ≤ 8) (hd0 : 0 ≤ d) (w : World) (h : Rd b tv tl i s1 s2 s3 w) (kk ln : Int) (ht : tl[i]? = some (kk, ⟨#[91]⟩, ln)) (jj lj : Int) (hj : tl[i + 1 + n]? = some (jj, ⟨#[93]⟩, lj))
    (hrec : ∀ W, Rd b tv tl (i + 1) s1 s2 s3 W → Calls Tryz.prog 177 #[.pointer (some ⟨b, 0, none⟩), .int .i64 (d + 1)] W (KindR b tv tl (i + 1 + n) s1 s2 s3 t W)) :
    Calls Tryz.prog 177 #[.pointer (some ⟨b, 0, none⟩), .int .i64 d] w (KindR b tv tl (i + 1 + n + 1) s1 s2 s3 (.list t) w) := by
  have HREC := hid hrec
  clear hrec
  have HSG := hid (fun W (hW : Rd b tv tl (i + 1 + n) s1 s2 s3 W) => rsign_ok b tv tl (i + 1 + n) s1 s2 s3 W hW _ hj)
  clear hj
  obtain ⟨w1, hw1⟩ : ∃ w1, w1 = w.alloc (.cells #[.int .i64 0, .string ⟨#[]⟩, .slice none 0 0] 29) := ⟨_, rfl⟩
  have hb1 : Below w.heap.size w w1 := by rw [hw1]; exact below_alloc w _
  have hB1 : Bx w1 w.heap.size [.int .i64 0, .string ⟨#[]⟩, .slice none 0 0] 29 := by rw [hw1]; exact Bx.new w _ _
  have hR1 := h.below hb1
  have hblt := h.box.lt
  have hne0 : w.heap.size ≠ b := by omega
  have HPK := hid (rpeek_any b tv tl i s1 s2 s3 w1 hR1 _ ht)
  have HPL := hid (fun W => rplain_none ⟨#[91]⟩ (by decide) W)
  have HTK := hid (fun W (hW : Below w1.heap.size w1 W) => rtake_ok b tv tl i s1 s2 s3 W (hR1.below hW) _ ht)
  obtain ⟨g, off, cap, rfl, hg, hi, -, -, -⟩ := h.tok ht
  have hiI : (i : Int) < (tl.length : Int) := by omega
  have hdI : ¬ (8 : Int) < d := by omega
  have hfew := h.few
  have HR1 := hid hR1
  have HW1 := hid hw1
  have Hb1 := hid hb1
  have HB1 := hid hB1
  clear hw1 hb1 hB1 hR1 h ht
  generalize tl.length = M at *
  go_enter Tryz.func177, Tryz.ntmps177
  go_wp2_with fail
  rw [← HW1.out]
  refine HPK.out.mono ?_
  rintro e w2 ⟨rfl, hb2⟩
  obtain ⟨w3, hw3⟩ : ∃ w3, w3 = w2.alloc (.cells #[.int .i64 kk, .string ⟨#[91]⟩, .int .i64 ln] 183) := ⟨_, rfl⟩
  have hb3 : Below w2.heap.size w2 w3 := by rw [hw3]; exact below_alloc w2 _
  have hT3 : Bx w3 w2.heap.size [.int .i64 kk, .string ⟨#[91]⟩, .int .i64 ln] 183 := by rw [hw3]; exact Bx.new w2 _ _
  have hb13 := below_next hb2 hb3
  have hR3 := HR1.out.below hb13
  have HB3 := hid (HB1.out.below hb13)
  have hne1 : w2.heap.size ≠ b := by have := HR1.out.box.lt; have := hb2.size; omega
  have y0 := hR3.box.cell 0 rfl
  have y1 := hR3.box.cell 1 rfl
  have y2 := hR3.box.cell 2 rfl
  have z1 := hT3.cell 1 rfl
  have HT3 := hid hT3
  have HB13 := hid hb13
  have HR3 := hid hR3
  rw [hw3] at y0 y1 y2 z1
  have HW3 := hid hw3
  clear hb2 hb3 hT3 hb13 hR3 hw3
  go_wp2_with fail
  go_quiet (fail)
  go_wp2_with fail
  refine (HPL.out _).mono ?_
  rintro e w4 ⟨rfl, hb4⟩
  have hb34 : Below w3.heap.size w3 w4 := by rw [HW3.out]; exact below_next (below_drewN (Below.refl _ _) _) hb4
  have hb14 := below_next HB13.out hb34
  have HTK4 := hid (HTK.out w4 hb14)
  have hT4 := HT3.out.below hb34
  have HB4 := hid (HB3.out.below hb34)
  have Hb14 := hid hb14
  clear y0 y1 y2 z1
  have z1 := hT4.cell 1 rfl
  clear hb4 hb34 hb14 HTK HT3 HB3 HR3 HB13 HW3 hT4
  go_wp2_with fail
  refine HTK4.out.mono ?_
  rintro e w5 ⟨rfl, hr5, hc5⟩
  have HB5 := hid (HB4.out.ch hc5 (fun e => hne0 e.1))
  have HRC5 := hid (HREC.out w5 hr5)
  have hw5 : w.heap.size < w5.heap.size := HB5.out.lt
  have HC5 := hid ((Ch.below (below_next Hb1.out Hb14.out)).trans hc5)
  clear hr5 hc5 HB4 HTK4 z1
  go_wp2_with fail
  refine HRC5.out.mono ?_
  rintro e w6 ⟨x, y, z, rfl, hty6, hr6, hc6⟩
  obtain ⟨xk, xs, xa, xm, xc, rfl, rfl, rfl⟩ := TyC.shape t hty6
  have HB6 := hid (HB5.out.ch hc6 (fun e => hne0 e.1))
  have HC6 := hid (HC5.out.trans hc6)
  obtain ⟨w7, hw7⟩ : ∃ w7, w7 = w6.alloc (.cells #[.int .i64 xk, .string xs, .slice xa xm xc] 29) := ⟨_, rfl⟩
  have hb7 : Below w6.heap.size w6 w7 := by rw [hw7]; exact below_alloc w6 _
  have HX7 : Hid (Bx w7 w6.heap.size [.int .i64 xk, .string xs, .slice xa xm xc] 29) := by
    show Bx _ _ _ _
    rw [hw7]
    exact Bx.new w6 _ _
  have hne6 : w6.heap.size ≠ b := by have := hr6.box.lt; omega
  have HTY7 := hid (TyC.below hty6 hb7)
  have HSG7 := hid (HSG.out w7 (hr6.below hb7))
  have HB7 := hid (HB6.out.below hb7)
  have HC7 := hid (HC6.out.trans (Ch.below hb7))
  have HW7 := hid hw7
  clear hty6 hr6 hc6 hb7 hw7 HB6 HC6 HB5 HC5 HRC5
  go_wp2_with fail
  rw [← HW7.out]
  refine HSG7.out.mono ?_
  rintro e w8 ⟨rfl, hr8, hc8⟩
  have hX8 := HX7.out.ch hc8 (fun e => hne6 e.1)
  have HTY8 := hid (TyC.ch hc8 (fun g _ hx => by have := hx.2; revert this; decide) _ _ _ _ HTY7.out)
  have HB8 := hid (HB7.out.ch hc8 (fun e => hne0 e.1))
  have HC8 := hid (HC7.out.trans hc8)
  have HR8 := hid hr8
  have v0 := hX8.cell 0 rfl
  have v1 := hX8.cell 1 rfl
  have v2 := hX8.cell 2 rfl
  clear hX8 hr8 hc8 HX7 HTY7 HB7 HC7 HSG7
  have hlt8 : w.heap.size < w8.heap.size := HB8.out.lt
  have x0 := HB8.out.cell 0 rfl
  have x1 := HB8.out.cell 1 rfl
  have x2 := HB8.out.cell 2 rfl
  have xf := HB8.out.frozen
  have HS := hid ((((HB8.out.set 0 (.int .i64 6)).set 1 (.string ⟨#[]⟩)).set 2 (.slice (some ⟨w8.heap.size, 0, none⟩) 1 1)).alloc (.cells #[.int .i64 xk, .string xs, .slice xa xm xc] 29))
  obtain ⟨W', hW'⟩ : ∃ W', W' = ((w8.setCell ⟨w.heap.size, 0, none⟩ (.int .i64 6)).setCell ⟨w.heap.size, 1, none⟩ (.string ⟨#[]⟩)).setCell ⟨w.heap.size, 2, none⟩ (.slice (some ⟨w8.heap.size, 0, none⟩) 1 1) := ⟨_, rfl⟩
  have hz : w8.heap.size = W'.heap.size := by rw [hW']; simp
  have HYS := hid (Bx.newAt (w := W') hz [.int .i64 xk, .string xs, .slice xa xm xc] 29)
  have hbW := below_alloc W' (.cells #[.int .i64 xk, .string xs, .slice xa xm xc] 29)
  have htW : TyC w5.heap.size t W' (.int .i64 xk) (.string xs) (.slice xa xm xc) := by
    rw [hW']
    exact TyC.set (TyC.set (TyC.set HTY8.out hw5 _) hw5 _) hw5 _
  have hrW : Rd b (.slice (some ⟨g, off, none⟩) M cap) tl (i + 1 + n + 1) s1 s2 s3 W' := by
    rw [hW']
    exact ((HR8.out.set hblt 0 _).set hblt 1 _).set hblt 2 _
  have hcW : Ch (Xr b) w W' := by
    rw [hW']
    exact ((HC8.out.new (Nat.le_refl _) _).new (Nat.le_refl _) _).new (Nat.le_refl _) _
  have HTS := hid (TyC.mono (Nat.le_of_lt hw5) _ _ _ _ (TyC.below htW hbW))
  have HR9 := hid (hrW.below hbW)
  have HC9 := hid (hcW.trans (Ch.below hbW))
  rw [hW'] at HYS HTS HR9 HC9
  clear hbW htW hrW hcW hW' hz HTY8 HB8 HC8 HR8
  go_wp2_with fail
  exact bodyPost_ret (ret_kind rfl (HS.out.cell 0 rfl) (HS.out.cell 1 rfl) (HS.out.cell 2 rfl)) rfl ⟨_, _, _, rfl, ⟨rfl, rfl, _, _, _, _, rfl, Nat.le_of_lt hlt8, HYS.out, HTS.out⟩, HR9.out, HC9.out⟩

set_option maxHeartbeats 16000000 in
theorem rkind_opt (b : Nat) (tv : Value) (tl : List Z3) (i : Nat) (s1 s2 s3 : Value) (t : Pl.Ty) (n : Nat) (d : Int) (hd : d ≤ 8) (hd0 : 0 ≤ d) (w : World) (h : Rd b tv tl i s1 s2 s3 w) (kk ln : Int) (ht : tl[i]? = some (kk, ⟨#[63]⟩, ln))
    (hrec : ∀ W, Rd b tv tl (i + 1) s1 s2 s3 W → Calls Tryz.prog 177 #[.pointer (some ⟨b, 0, none⟩), .int .i64 (d + 1)] W (KindR b tv tl (i + 1 + n) s1 s2 s3 t W)) :
    Calls Tryz.prog 177 #[.pointer (some ⟨b, 0, none⟩), .int .i64 d] w (KindR b tv tl (i + 1 + n) s1 s2 s3 (.opt t) w) := by
  have HREC := hid hrec
  clear hrec
  obtain ⟨w1, hw1⟩ : ∃ w1, w1 = w.alloc (.cells #[.int .i64 0, .string ⟨#[]⟩, .slice none 0 0] 29) := ⟨_, rfl⟩
  have hb1 : Below w.heap.size w w1 := by rw [hw1]; exact below_alloc w _
  have hB1 : Bx w1 w.heap.size [.int .i64 0, .string ⟨#[]⟩, .slice none 0 0] 29 := by rw [hw1]; exact Bx.new w _ _
  have hR1 := h.below hb1
  have hblt := h.box.lt
  have hne0 : w.heap.size ≠ b := by omega
  have HPK := hid (rpeek_any b tv tl i s1 s2 s3 w1 hR1 _ ht)
  have HPL := hid (fun W => rplain_none ⟨#[63]⟩ (by decide) W)
  have HTK := hid (fun W (hW : Below w1.heap.size w1 W) => rtake_ok b tv tl i s1 s2 s3 W (hR1.below hW) _ ht)
  obtain ⟨g, off, cap, rfl, hg, hi, -, -, -⟩ := h.tok ht
  have hiI : (i : Int) < (tl.length : Int) := by omega
  have hdI : ¬ (8 : Int) < d := by omega
  have hfew := h.few
  have HR1 := hid hR1
  have HW1 := hid hw1
  have Hb1 := hid hb1
  have HB1 := hid hB1
  clear hw1 hb1 hB1 hR1 h ht
  generalize tl.length = M at *
  go_enter Tryz.func177, Tryz.ntmps177
  go_wp2_with fail
  rw [← HW1.out]
  refine HPK.out.mono ?_
  rintro e w2 ⟨rfl, hb2⟩
  obtain ⟨w3, hw3⟩ : ∃ w3, w3 = w2.alloc (.cells #[.int .i64 kk, .string ⟨#[63]⟩, .int .i64 ln] 183) := ⟨_, rfl⟩
  have hb3 : Below w2.heap.size w2 w3 := by rw [hw3]; exact below_alloc w2 _
  have hT3 : Bx w3 w2.heap.size [.int .i64 kk, .string ⟨#[63]⟩, .int .i64 ln] 183 := by rw [hw3]; exact Bx.new w2 _ _
  have hb13 := below_next hb2 hb3
  have hR3 := HR1.out.below hb13
  have HB3 := hid (HB1.out.below hb13)
  have hne1 : w2.heap.size ≠ b := by have := HR1.out.box.lt; have := hb2.size; omega
  have y0 := hR3.box.cell 0 rfl
  have y1 := hR3.box.cell 1 rfl
  have y2 := hR3.box.cell 2 rfl
  have z1 := hT3.cell 1 rfl
  have HT3 := hid hT3
  have HB13 := hid hb13
  have HR3 := hid hR3
  rw [hw3] at y0 y1 y2 z1
  have HW3 := hid hw3
  clear hb2 hb3 hT3 hb13 hR3 hw3
  go_wp2_with fail
  go_quiet (fail)
  go_wp2_with fail
  refine (HPL.out _).mono ?_
  rintro e w4 ⟨rfl, hb4⟩
  have hb34 : Below w3.heap.size w3 w4 := by rw [HW3.out]; exact below_next (below_drewN (Below.refl _ _) _) hb4
  have hb14 := below_next HB13.out hb34
  have HTK4 := hid (HTK.out w4 hb14)
  have hT4 := HT3.out.below hb34
  have HB4 := hid (HB3.out.below hb34)
  have Hb14 := hid hb14
  clear y0 y1 y2 z1
  have z1 := hT4.cell 1 rfl
  clear hb4 hb34 hb14 HTK HT3 HB3 HR3 HB13 HW3 hT4
  go_wp2_with fail
  refine HTK4.out.mono ?_
  rintro e w5 ⟨rfl, hr5, hc5⟩
  have HB5 := hid (HB4.out.ch hc5 (fun e => hne0 e.1))
  have HRC5 := hid (HREC.out w5 hr5)
  have hw5 : w.heap.size < w5.heap.size := HB5.out.lt
  have HC5 := hid ((Ch.below (below_next Hb1.out Hb14.out)).trans hc5)
  clear hr5 hc5 HB4 HTK4 z1
  go_wp2_with fail
  refine HRC5.out.mono ?_
  rintro e w6 ⟨x, y, z, rfl, hty6, hr6, hc6⟩
  obtain ⟨xk, xs, xa, xm, xc, rfl, rfl, rfl⟩ := TyC.shape t hty6
  have HB6 := hid (HB5.out.ch hc6 (fun e => hne0 e.1))
  have HC6 := hid (HC5.out.trans hc6)
  obtain ⟨w8, rfl⟩ : ∃ w8, w8 = w6 := ⟨_, rfl⟩
  have HTY8 := hid hty6
  have HB8 := hid HB6.out
  have HC8 := hid HC6.out
  have HR8 := hid hr6
  clear hty6 hr6 hc6 HB6 HC6 HB5 HC5 HRC5
  have hlt8 : w.heap.size < w8.heap.size := HB8.out.lt
  have x0 := HB8.out.cell 0 rfl
  have x1 := HB8.out.cell 1 rfl
  have x2 := HB8.out.cell 2 rfl
  have xf := HB8.out.frozen
  have HS := hid ((((HB8.out.set 0 (.int .i64 7)).set 1 (.string ⟨#[]⟩)).set 2 (.slice (some ⟨w8.heap.size, 0, none⟩) 1 1)).alloc (.cells #[.int .i64 xk, .string xs, .slice xa xm xc] 29))
  obtain ⟨W', hW'⟩ : ∃ W', W' = ((w8.setCell ⟨w.heap.size, 0, none⟩ (.int .i64 7)).setCell ⟨w.heap.size, 1, none⟩ (.string ⟨#[]⟩)).setCell ⟨w.heap.size, 2, none⟩ (.slice (some ⟨w8.heap.size, 0, none⟩) 1 1) := ⟨_, rfl⟩
  have hz : w8.heap.size = W'.heap.size := by rw [hW']; simp
  have HYS := hid (Bx.newAt (w := W') hz [.int .i64 xk, .string xs, .slice xa xm xc] 29)
  have hbW := below_alloc W' (.cells #[.int .i64 xk, .string xs, .slice xa xm xc] 29)
  have htW : TyC w5.heap.size t W' (.int .i64 xk) (.string xs) (.slice xa xm xc) := by
    rw [hW']
    exact TyC.set (TyC.set (TyC.set HTY8.out hw5 _) hw5 _) hw5 _
  have hrW : Rd b (.slice (some ⟨g, off, none⟩) M cap) tl (i + 1 + n) s1 s2 s3 W' := by
    rw [hW']
    exact ((HR8.out.set hblt 0 _).set hblt 1 _).set hblt 2 _
  have hcW : Ch (Xr b) w W' := by
    rw [hW']
    exact ((HC8.out.new (Nat.le_refl _) _).new (Nat.le_refl _) _).new (Nat.le_refl _) _
  have HTS := hid (TyC.mono (Nat.le_of_lt hw5) _ _ _ _ (TyC.below htW hbW))
  have HR9 := hid (hrW.below hbW)
  have HC9 := hid (hcW.trans (Ch.below hbW))
  rw [hW'] at HYS HTS HR9 HC9
  clear hbW htW hrW hcW hW' hz HTY8 HB8 HC8 HR8
  go_wp2_with fail
  exact bodyPost_ret (ret_kind rfl (HS.out.cell 0 rfl) (HS.out.cell 1 rfl) (HS.out.cell 2 rfl)) rfl ⟨_, _, _, rfl, ⟨rfl, rfl, _, _, _, _, rfl, Nat.le_of_lt hlt8, HYS.out, HTS.out⟩, HR9.out, HC9.out⟩

theorem KtAt.part {tl : List Z3} {i : Nat} {a b : List Pl.Kt} (h : KtAt tl i (a ++ b)) : KtAt tl i a ∧ KtAt tl (i + a.length) b := by
  refine ⟨fun j k n hj => h j k n ?_, fun j k n hj => ?_⟩
  · rw [List.getElem?_append_left (List.getElem?_eq_some_iff.1 hj).1]
    exact hj
  · have := h (a.length + j) k n (by rw [List.getElem?_append_right (by omega), Nat.add_sub_cancel_left]; exact hj)
    rw [← Nat.add_assoc] at this
    exact this
theorem KtAt.one {tl : List Z3} {i k : Nat} {n : List Nat} {r : List Pl.Kt} (h : KtAt tl i ((k, n) :: r)) : ∃ s ln, tl[i]? = some ((k : Int), s, ln) ∧ bl s = n := h 0 k n rfl

theorem rkind_any (b : Nat) (tv : Value) (tl : List Z3) (s1 s2 s3 : Value) (t : Pl.Ty) : ∀ (i : Nat) (d : Nat) (w : World), Rd b tv tl i s1 s2 s3 w → KtAt tl i (Pl.tyK t) → Pl.okTy t → d + Pl.tyD t ≤ 9 →
    Calls Tryz.prog 177 #[.pointer (some ⟨b, 0, none⟩), .int .i64 (d : Int)] w (KindR b tv tl (i + (Pl.tyK t).length) s1 s2 s3 t w) := by
  induction t with
  | plain k =>
    intro i d w h hk hok hd
    obtain ⟨s, ln, h1, h2⟩ := hk.one
    simp only [Pl.tyD] at hd
    exact rkind_plain b tv tl i s1 s2 s3 k hok d (by omega) w h s _ ln h1 h2
  | named n =>
    intro i d w h hk hok hd
    obtain ⟨s, ln, h1, h2⟩ := hk.one
    simp only [Pl.tyD] at hd
    subst h2
    exact rkind_named b tv tl i s1 s2 s3 d (by omega) w h s _ ln h1 hok
  | list t ih =>
    intro i d w h hk hok hd
    simp only [Pl.tyD] at hd
    have h91 : KtAt tl i ([((3 : Nat), [91])] ++ (Pl.tyK t ++ [(3, [93])])) := hk
    obtain ⟨p1, p2⟩ := h91.part
    obtain ⟨p3, p4⟩ := p2.part
    obtain ⟨s, ln, q1, q2⟩ := p1.one
    obtain ⟨s', ln', q3, q4⟩ := p4.one
    obtain rfl : s = ⟨#[91]⟩ := bl_inj q2
    obtain rfl : s' = ⟨#[93]⟩ := bl_inj q4
    have := rkind_list b tv tl i s1 s2 s3 t (Pl.tyK t).length d (by omega) (by omega) w h _ ln q1 _ ln' q3 (fun W hW => ih (i + 1) (d + 1) W hW p3 hok (by omega))
    have e : i + (Pl.tyK (.list t)).length = i + 1 + (Pl.tyK t).length + 1 := by simp [Pl.tyK]; omega
    rw [e]
    exact this
  | opt t ih =>
    intro i d w h hk hok hd
    simp only [Pl.tyD] at hd
    have h63 : KtAt tl i ([((3 : Nat), [63])] ++ Pl.tyK t) := hk
    obtain ⟨p1, p3⟩ := h63.part
    obtain ⟨s, ln, q1, q2⟩ := p1.one
    obtain rfl : s = ⟨#[63]⟩ := bl_inj q2
    have := rkind_opt b tv tl i s1 s2 s3 t (Pl.tyK t).length d (by omega) (by omega) w h _ ln q1 (fun W hW => ih (i + 1) (d + 1) W hW p3 hok (by omega))
    have e : i + (Pl.tyK (.opt t)).length = i + 1 + (Pl.tyK t).length := by simp [Pl.tyK]; omega
    rw [e]
    exact this
end Go.Proofs.YtmiohekmpjiloaaGreatDoor

