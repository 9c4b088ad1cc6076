/- timers: compare (the code's). -/
import Derived.Test.YtkamcjebihfdlaaTmB
import Derived.Test.YtkamcjebihfdlaaQP
import Derived.OwnWalk
import Derived.RegionTactic
import Derived.BigQuiet
import Derived.Deep.QuietTactic
import Derived.Shelf.SlSortCmp.InsertionK
namespace Go.Proofs.Ytkamcjebihfdlaa
open Go.RowKit Go.Sort
set_option linter.unusedVariables false
set_option maxRecDepth 20000

def Ti.cmpI (x y : Int) : Int := if x < y then -1 else if y < x then 1 else 0
def Ti.cf (x y : Ti.T) : Int := if Ti.cmpI x.at' y.at' ≠ 0 then Ti.cmpI x.at' y.at' else Ti.cmpI x.id' y.id'
theorem Ti.cf_lt (x y : Ti.T) : decide (Ti.cf x y < 0) = Ti.ah x y := by
  rw [Bool.eq_iff_iff, decide_eq_true_iff]
  unfold Ti.cf Ti.cmpI Ti.ah
  simp only [Bool.or_eq_true, Bool.and_eq_true, decide_eq_true_iff]
  split <;> split at * <;> (try split at *) <;> (try split) <;> (try split at *) <;> omega
theorem Ti.cf_gt (x y : Ti.T) : decide (0 < Ti.cf x y) = Ti.ah y x := by
  rw [Bool.eq_iff_iff, decide_eq_true_iff]
  unfold Ti.cf Ti.cmpI Ti.ah
  simp only [Bool.or_eq_true, Bool.and_eq_true, decide_eq_true_iff]
  split <;> split at * <;> (try split at *) <;> (try split) <;> (try split at *) <;> omega
theorem Ti.cf_wrap (x y : Ti.T) : IntKind.i64.wrap (Ti.cf x y) = Ti.cf x y := by
  have h : -1 ≤ Ti.cf x y ∧ Ti.cf x y ≤ 1 := by
    unfold Ti.cf Ti.cmpI
    split <;> split at * <;> (try split at *) <;> (try split) <;> (try split at *) <;> omega
  exact wrap_ok (by omega) (by omega)
theorem nanI (x : Int) (w : World) : Calls Try.prog 54 #[.int .i64 x] w fun e w' => e = .returned (.bool false) ∧ w = w' := by
  go_enter Try.func54, Try.ntmps54
  go_wp2
  go_ret
  exact ⟨rfl, rfl⟩
theorem compareI (x y : Int) (w : World) : Calls Try.prog 49 #[.int .i64 x, .int .i64 y] w fun e w' => e = .returned (.int .i64 (Ti.cmpI x y)) ∧ w = w' := by
  by_cases h1 : x < y
  · have hr : Ti.cmpI x y = -1 := by simp [Ti.cmpI, h1]
    rw [hr]
    clear hr
    go_enter Try.func49, Try.ntmps49
    go_wp2_with (go_at_call 54; refine (nanI _ _).mono ?_; rintro e w' ⟨rfl, rfl⟩)
    go_ret
    exact ⟨rfl, rfl⟩
  · by_cases h2 : y < x
    · have hr : Ti.cmpI x y = 1 := by simp [Ti.cmpI, h1, h2]
      rw [hr]
      clear hr
      go_enter Try.func49, Try.ntmps49
      go_wp2_with (go_at_call 54; refine (nanI _ _).mono ?_; rintro e w' ⟨rfl, rfl⟩)
      go_ret
      exact ⟨rfl, rfl⟩
    · have hr : Ti.cmpI x y = 0 := by simp [Ti.cmpI, h1, h2]
      rw [hr]
      clear hr
      go_enter Try.func49, Try.ntmps49
      go_wp2_with (go_at_call 54; refine (nanI _ _).mono ?_; rintro e w' ⟨rfl, rfl⟩)
      go_ret
      exact ⟨rfl, rfl⟩

theorem or2 (b : Nat) (x y : Int) (w : World) (h0 : w.cell? ⟨b, 0, none⟩ = some (.int .i64 x)) (h1 : w.cell? ⟨b, 1, none⟩ = some (.int .i64 y)) :
    Calls Try.prog 48 #[.slice (some ⟨b, 0, none⟩) 2 2] w fun e w' => e = .returned (.int .i64 (if x ≠ 0 then x else y)) ∧ w = w' := by
  obtain ⟨r, hr⟩ : ∃ r, r = (if x ≠ 0 then x else y) := ⟨_, rfl⟩
  rw [← hr]
  have HR := hidD hr
  clear hr
  go_enter Try.func48, Try.ntmps48
  go_wp2_with fail
  go_loopw [8] (fun i wr => ∃ k : Nat, k ≤ 2 ∧ i = .int .i64 k ∧ Hid ((1 ≤ k → x = 0) ∧ (2 ≤ k → y = 0)) ∧ w = wr) (fun i _ => 2 - (intOf i).toNat)
  case atStart => exact ⟨0, by omega, rfl, hidD ⟨by omega, by omega⟩, rfl⟩
  case round =>
    obtain ⟨k, hk, rfl, hx, rfl⟩ := hrel
    by_cases hk0 : k = 0
    · subst hk0
      by_cases hz : x = 0
      · subst hz
        go_wp2
        exact ⟨⟨1, by omega, by go_num, hidD ⟨fun _ => (by first | rfl | trivial), by omega⟩, (by first | rfl | trivial)⟩, by simp [intOf]⟩
      · have hb : (x != 0) = true := by simpa using hz
        go_wp2
        go_ret
        exact ⟨by rw [show r = x from HR.out.trans (if_pos hz)]; rfl, rfl⟩
    · by_cases hk1 : k = 1
      · subst hk1
        obtain rfl := hx.out.1 (by omega)
        by_cases hz : y = 0
        · subst hz
          go_wp2
          exact ⟨⟨2, by omega, by go_num, hidD ⟨fun _ => (by first | rfl | trivial), fun _ => (by first | rfl | trivial)⟩, (by first | rfl | trivial)⟩, by simp [intOf]⟩
        · have hb : (y != 0) = true := by simpa using hz
          go_wp2
          go_ret
          exact ⟨by rw [HR.out]; rfl, rfl⟩
      · obtain rfl : k = 2 := by omega
        obtain rfl := hx.out.1 (by omega)
        obtain rfl := hx.out.2 (by omega)
        go_wp2
        go_ret
        exact ⟨by rw [HR.out]; rfl, rfl⟩
/-- A world that has only grown (and drawn), where two boxes lie as they lay. -/
def RW (w : World) (x1 x2 y1 y2 : Int) (W : World) : Prop := (∃ q os', W = grow (w.drewN q) os') ∧ W.cell? ⟨w.heap.size, 0, none⟩ = some (.int .i64 x1) ∧ W.cell? ⟨w.heap.size, 1, none⟩ = some (.int .i64 x2) ∧ W.cell? ⟨w.heap.size + 1, 0, none⟩ = some (.int .i64 y1) ∧ W.cell? ⟨w.heap.size + 1, 1, none⟩ = some (.int .i64 y2)
theorem cell_lies {W : World} {p : Addr} {v : Value} (h : W.cell? p = some v) (o : Obj) : (W.alloc o).cell? p = some v := by
  rw [((Below.refl W.heap.size W).alloc (Nat.le_refl _) o).cell (World.block_lt_of_cell? W _ h), h]
theorem run_build2 (w : World) (a b : Int) : (Instr.buildSlice 23 2 #[(0, .int .i64 a), (1, .int .i64 b)]).run Try.prog w = .ok (.slice (some ⟨w.heap.size, 0, none⟩) 2 2) (w.alloc (.cells #[.int .i64 a, .int .i64 b] 3)) := by
  go_simp
theorem RW_alloc {w : World} {x1 x2 y1 y2 : Int} {W : World} (h : RW w x1 x2 y1 y2 W) (o : Obj) : RW w x1 x2 y1 y2 (W.alloc o) := by
  obtain ⟨⟨q, os', rfl⟩, h1, h2, h3, h4⟩ := h
  exact ⟨⟨q, os' ++ #[o], by rw [alloc_eq_grow, grow_grow]⟩, cell_lies h1 o, cell_lies h2 o, cell_lies h3 o, cell_lies h4 o⟩

theorem compare_v (x1 x2 y1 y2 a b r : Int) (w : World) (c1 : ∀ W : World, Calls Try.prog 49 #[.int .i64 x1, .int .i64 y1] W fun e w' => e = .returned (.int .i64 a) ∧ W = w')
    (c2 : ∀ W : World, Calls Try.prog 49 #[.int .i64 x2, .int .i64 y2] W fun e w' => e = .returned (.int .i64 b) ∧ W = w')
    (c3 : ∀ (g : Nat) (W : World), W.cell? ⟨g, 0, none⟩ = some (.int .i64 a) → W.cell? ⟨g, 1, none⟩ = some (.int .i64 b) → Calls Try.prog 48 #[.slice (some ⟨g, 0, none⟩) 2 2] W fun e w' => e = .returned (.int .i64 r) ∧ W = w') :
    Calls Try.prog 39 #[.agg #[.int .i64 x1, .int .i64 x2], .agg #[.int .i64 y1, .int .i64 y2]] w fun e w' => e = .returned (.int .i64 r) ∧ ∃ q os', w' = grow (w.drewN q) os' := by
  go_enter Try.func39, Try.ntmps39
  go_wp2_with fail
  refine wp_region_drawn (pred := fun jx v W => match jx with | 0 => v = .pointer (some ⟨w.heap.size, 0, none⟩) | 1 => v = .int .i64 x1 | 2 => v = .pointer (some ⟨w.heap.size + 1, 0, none⟩) | 3 => v = .int .i64 y1 | 4 => v = .int .i64 a | 5 => v = .pointer (some ⟨w.heap.size, 1, none⟩) | 6 => v = .int .i64 x2 | 7 => v = .pointer (some ⟨w.heap.size + 1, 1, none⟩) | 8 => v = .int .i64 y2 | 9 => v = .int .i64 b | 10 => ∃ g, v = .slice (some ⟨g, 0, none⟩) 2 2 ∧ (g < W.heap.size ∧ W.cell? ⟨g, 0, none⟩ = some (.int .i64 a) ∧ W.cell? ⟨g, 1, none⟩ = some (.int .i64 b)) | 11 => v = .int .i64 r | 12 => v = .int .i64 r | _ => True) (R := RW w x1 x2 y1 y2) (by kernel_rfl) (by kernel_rfl) (by kernel_rfl) ?mono ?start ?step ?done
  case mono =>
    intro ix v W W' h hb
    match ix, h with
    | 0, h => exact h
    | 1, h => exact h
    | 2, h => exact h
    | 3, h => exact h
    | 4, h => exact h
    | 5, h => exact h
    | 6, h => exact h
    | 7, h => exact h
    | 8, h => exact h
    | 9, h => exact h
    | 10, ⟨g, h1, h2, h3, h4⟩ => exact ⟨g, h1, Nat.lt_of_lt_of_le h2 hb.size, (hb.cell (p := ⟨g, 0, none⟩) h2).trans h3, (hb.cell (p := ⟨g, 1, none⟩) h2).trans h4⟩
    | 11, h => exact h
    | 12, h => exact h
    | _ + 13, _ => trivial
  case start =>
    refine ⟨⟨1, #[_, _], by rw [alloc_eq_grow, alloc_eq_grow, grow_grow]; rfl⟩, ?_, ?_, ?_, ?_⟩ <;> go_simp
  case step =>
    intro ix o ho A W hsz hdf hfr hdep hR
    rcases ix with _ | _ | _ | _ | _ | _ | _ | _ | _ | _ | _ | _ | _ | ix
    · injection ho with ho
      subst ho
      have e2 : A.eval (.tmp 2) = .pointer (some ⟨w.heap.size, 0, none⟩) := (hfr 2 (noDst_spec (by kernel_rfl))).trans rfl
      exact gOp_fld (v := .pointer (some ⟨w.heap.size, 0, none⟩)) rfl (wanted_plain rfl) rfl e2 (by go_simp) ⟨_, rfl, rfl, Below.refl _ _, hR⟩
    · injection ho with ho
      subst ho
      have e5 : A.eval (.tmp 5) = .pointer (some ⟨w.heap.size, 0, none⟩) := hdep ⟨0, .data⟩ (by simp) rfl _ _ rfl rfl
      have x0 := hR.2.1
      exact gOp_ld (v := .int .i64 x1) rfl (wanted_plain rfl) rfl e5 (by go_simp) ⟨_, rfl, rfl, Below.refl _ _, hR⟩
    · injection ho with ho
      subst ho
      have e3 : A.eval (.tmp 3) = .pointer (some ⟨w.heap.size + 1, 0, none⟩) := (hfr 3 (noDst_spec (by kernel_rfl))).trans rfl
      exact gOp_fld (v := .pointer (some ⟨w.heap.size + 1, 0, none⟩)) rfl (wanted_plain rfl) rfl e3 (by go_simp) ⟨_, rfl, rfl, Below.refl _ _, hR⟩
    · injection ho with ho
      subst ho
      have e7 : A.eval (.tmp 7) = .pointer (some ⟨w.heap.size + 1, 0, none⟩) := hdep ⟨2, .data⟩ (by simp) rfl _ _ rfl rfl
      have x0 := hR.2.2.2.1
      exact gOp_ld (v := .int .i64 y1) rfl (wanted_plain rfl) rfl e7 (by go_simp) ⟨_, rfl, rfl, Below.refl _ _, hR⟩
    · injection ho with ho
      subst ho
      have e6 : A.eval (.tmp 6) = .int .i64 x1 := hdep ⟨1, .data⟩ (by simp) rfl _ _ rfl rfl
      have e8 : A.eval (.tmp 8) = .int .i64 y1 := hdep ⟨3, .data⟩ (by simp) rfl _ _ rfl rfl
      refine gOp_enter rfl (wanted_plain rfl) 49 #[.int .i64 x1, .int .i64 y1] (run_call _ (fun _ _ => rfl) _ _ rfl _ (by simp [e6, e8])) ?_
      refine (c1 W).mono ?_
      rintro e w' ⟨rfl, rfl⟩
      exact ⟨_, rfl, _, rfl, rfl, Below.refl _ _, hR⟩
    · injection ho with ho
      subst ho
      have e2 : A.eval (.tmp 2) = .pointer (some ⟨w.heap.size, 0, none⟩) := (hfr 2 (noDst_spec (by kernel_rfl))).trans rfl
      exact gOp_fld (v := .pointer (some ⟨w.heap.size, 1, none⟩)) rfl (wanted_plain rfl) rfl e2 (by go_simp) ⟨_, rfl, rfl, Below.refl _ _, hR⟩
    · injection ho with ho
      subst ho
      have e10 : A.eval (.tmp 10) = .pointer (some ⟨w.heap.size, 1, none⟩) := hdep ⟨5, .data⟩ (by simp) rfl _ _ rfl rfl
      have x0 := hR.2.2.1
      exact gOp_ld (v := .int .i64 x2) rfl (wanted_plain rfl) rfl e10 (by go_simp) ⟨_, rfl, rfl, Below.refl _ _, hR⟩
    · injection ho with ho
      subst ho
      have e3 : A.eval (.tmp 3) = .pointer (some ⟨w.heap.size + 1, 0, none⟩) := (hfr 3 (noDst_spec (by kernel_rfl))).trans rfl
      exact gOp_fld (v := .pointer (some ⟨w.heap.size + 1, 1, none⟩)) rfl (wanted_plain rfl) rfl e3 (by go_simp) ⟨_, rfl, rfl, Below.refl _ _, hR⟩
    · injection ho with ho
      subst ho
      have e12 : A.eval (.tmp 12) = .pointer (some ⟨w.heap.size + 1, 1, none⟩) := hdep ⟨7, .data⟩ (by simp) rfl _ _ rfl rfl
      have x0 := hR.2.2.2.2
      exact gOp_ld (v := .int .i64 y2) rfl (wanted_plain rfl) rfl e12 (by go_simp) ⟨_, rfl, rfl, Below.refl _ _, hR⟩
    · injection ho with ho
      subst ho
      have e11 : A.eval (.tmp 11) = .int .i64 x2 := hdep ⟨6, .data⟩ (by simp) rfl _ _ rfl rfl
      have e13 : A.eval (.tmp 13) = .int .i64 y2 := hdep ⟨8, .data⟩ (by simp) rfl _ _ rfl rfl
      refine gOp_enter rfl (wanted_plain rfl) 49 #[.int .i64 x2, .int .i64 y2] (run_call _ (fun _ _ => rfl) _ _ rfl _ (by simp [e11, e13])) ?_
      refine (c2 W).mono ?_
      rintro e w' ⟨rfl, rfl⟩
      exact ⟨_, rfl, _, rfl, rfl, Below.refl _ _, hR⟩
    · injection ho with ho
      subst ho
      have e9 : A.eval (.tmp 9) = .int .i64 a := hdep ⟨4, .data⟩ (by simp) rfl _ _ rfl rfl
      have e14 : A.eval (.tmp 14) = .int .i64 b := hdep ⟨9, .data⟩ (by simp) rfl _ _ rfl rfl
      refine gOp_ok (v := .slice (some ⟨W.heap.size, 0, none⟩) 2 2) (w' := W.alloc (.cells #[.int .i64 a, .int .i64 b] 3)) rfl (wanted_plain rfl) (by simp [execOp, e9, e14, run_build2]) ?_
      exact ⟨_, rfl, ⟨W.heap.size, rfl, by simp, by simp, by simp⟩, (Below.refl _ _).alloc (Nat.le_refl _) _, RW_alloc hR _⟩
    · injection ho with ho
      subst ho
      obtain ⟨g, e15, hx15⟩ : ∃ g, A.eval (.tmp 15) = .slice (some ⟨g, 0, none⟩) 2 2 ∧ (g < W.heap.size ∧ W.cell? ⟨g, 0, none⟩ = some (.int .i64 a) ∧ W.cell? ⟨g, 1, none⟩ = some (.int .i64 b)) := hdep ⟨10, .data⟩ (by simp) rfl _ _ rfl rfl
      refine gOp_enter rfl (wanted_plain rfl) 48 #[.slice (some ⟨g, 0, none⟩) 2 2] (run_call _ (fun _ _ => rfl) _ _ rfl _ (by simp [e15])) ?_
      refine (c3 g W hx15.2.1 hx15.2.2).mono ?_
      rintro e w' ⟨rfl, rfl⟩
      exact ⟨_, rfl, _, rfl, rfl, Below.refl _ _, hR⟩
    · injection ho with ho
      subst ho
      have e16 : A.eval (.tmp 16) = .int .i64 r := hdep ⟨11, .data⟩ (by simp) rfl _ _ rfl rfl
      exact gOp_mv rfl (wanted_plain rfl) (.inr rfl) e16 ⟨_, rfl, rfl, Below.refl _ _, hR⟩
    · simp at ho
  case done =>
    intro A W _ hdf _ hcome hR
    have hdf2 : A.defers = [] := hdf
    have h4 := hcome 12 _ _ rfl rfl
    simp only at h4
    go_wp2
    refine bodyPost_ret (results_tmp rfl _ _ _) hdf2 ?_
    exact ⟨by rw [← h4], hR.1⟩

theorem compare_any (x y : Ti.T) (w : World) : Calls Try.prog 39 #[.agg #[.int .i64 x.at', .int .i64 x.id'], .agg #[.int .i64 y.at', .int .i64 y.id']] w fun e w' => e = .returned (.int .i64 (Ti.cf x y)) ∧ ∃ q os', w' = grow (w.drewN q) os' :=
  compare_v x.at' x.id' y.at' y.id' (Ti.cmpI x.at' y.at') (Ti.cmpI x.id' y.id') _ w (fun W => compareI _ _ W) (fun W => compareI _ _ W) (fun g W h1 h2 => or2 g _ _ W h1 h2)

theorem grow_below (w : World) (n : Nat) (os : Array Obj) : Below w.heap.size w (grow (w.drewN n) os) := by
  refine ⟨rfl, rfl, rfl, ?_, ?_⟩
  · simp [grow]
  · intro b hb
    simp only [grow, World.drewN]
    rw [Array.getElem?_append_left (by simpa using hb)]
theorem compareB (x y : Ti.T) (w : World) : Calls Try.prog 39 #[vT x, vT y] w fun e w' => e = .returned (.int .i64 (Ti.cf x y)) ∧ Below w.heap.size w w' :=
  (compare_any x y w).mono (by rintro e w' ⟨h, q, os, rfl⟩; exact ⟨h, grow_below w q os⟩)
set_option maxHeartbeats 1000000 in
theorem within_t (x : Ti.T) (w : World) : Calls Try.prog 29 #[vT x] w fun e w' => e = .returned (.bool (Ti.may x)) ∧ Below w.heap.size w w' := by
  obtain ⟨a, i⟩ := x
  have e : Ti.may ⟨a, i⟩ = (decide (0 ≤ a) && decide (a ≤ 1073741824) && decide (0 ≤ i) && decide (i ≤ 1073741824)) := rfl
  rw [e]
  clear e
  have HB := hidD ((Below.refl w.heap.size w).alloc (Nat.le_refl _) (.cells #[.int .i64 a, .int .i64 i] 31))
  by_cases h1 : 0 ≤ a
  case neg =>
    rw [decide_eq_false h1]
    go_enter Try.func29, Try.ntmps29
    go_wp2_with fail
    go_ret
    exact ⟨by first | rfl | simp, HB.out⟩
  by_cases h2 : a ≤ 1073741824
  case neg =>
    rw [decide_eq_true h1, decide_eq_false h2]
    go_enter Try.func29, Try.ntmps29
    go_wp2_with fail
    go_ret
    exact ⟨by first | rfl | simp, HB.out⟩
  by_cases h3 : 0 ≤ i
  case neg =>
    rw [decide_eq_true h1, decide_eq_true h2, decide_eq_false h3]
    go_enter Try.func29, Try.ntmps29
    go_wp2_with fail
    go_ret
    exact ⟨by first | rfl | simp, HB.out⟩
  rw [decide_eq_true h1, decide_eq_true h2, decide_eq_true h3]
  go_enter Try.func29, Try.ntmps29
  go_wp2_with fail
  go_ret
  exact ⟨by first | rfl | simp, HB.out⟩
theorem above_t (k : Nat) (hk : 0 < k) (hm : k ≤ 1099511627776) (w : World) : Calls Try.prog 42 #[.int .i64 (k : Int)] w fun e w' => e = .returned (.int .i64 (((k - 1) / 2 : Nat) : Int)) ∧ w = w' := by
  obtain ⟨d, hd⟩ : ∃ d, d = k - 1 := ⟨_, rfl⟩
  obtain ⟨p, hp⟩ : ∃ p, p = d / 2 := ⟨_, rfl⟩
  have e1 : IntKind.i64.wrap ((k : Int) - 1) = (d : Int) := by rw [show (k : Int) - 1 = (d : Int) by omega]; exact wrap_ok (by omega) (by omega)
  have e2 : Int.tdiv (d : Int) 2 = (p : Int) := by rw [show Int.tdiv (d : Int) 2 = ((d / 2 : Nat) : Int) from rfl, hp]
  have e3 : IntKind.i64.wrap (p : Int) = (p : Int) := wrap_ok (by omega) (by omega)
  rw [← hd, ← hp]
  replace hd := hidD hd
  replace hp := hidD hp
  go_enter Try.func42, Try.ntmps42
  go_wp2_with fail
  go_ret
  exact ⟨rfl, rfl⟩
theorem below_t (k : Nat) (hm : k ≤ 1099511627776) (w : World) : Calls Try.prog 50 #[.int .i64 (k : Int)] w fun e w' => e = .returned (.int .i64 ((2 * k + 1 : Nat) : Int)) ∧ w = w' := by
  obtain ⟨p, hp⟩ : ∃ p, p = 2 * k := ⟨_, rfl⟩
  obtain ⟨q, hq⟩ : ∃ q, q = p + 1 := ⟨_, rfl⟩
  have e1 : IntKind.i64.wrap (2 * (k : Int)) = (p : Int) := by rw [show 2 * (k : Int) = (p : Int) by omega]; exact wrap_ok (by omega) (by omega)
  have e2 : IntKind.i64.wrap ((p : Int) + 1) = (q : Int) := by rw [show (p : Int) + 1 = (q : Int) by omega]; exact wrap_ok (by omega) (by omega)
  rw [← hp, ← hq]
  replace hq := hidD hq
  replace hp := hidD hp
  go_enter Try.func50, Try.ntmps50
  go_wp2_with fail
  go_ret
  exact ⟨rfl, rfl⟩
theorem within1_t (x : Ti.T) (w : World) : Calls Try.prog 41 #[vT x] w fun e w' => e = .returned (.bool (!Ti.may x)) ∧ Below w.heap.size w w' := by
  have c := within_t x (w.alloc (.cells #[.int .i64 x.at', .int .i64 x.id'] 31))
  obtain ⟨a, i⟩ := x
  have HB := hidD ((Below.refl w.heap.size w).alloc (Nat.le_refl _) (.cells #[.int .i64 a, .int .i64 i] 31))
  have HS : Hid (w.heap.size ≤ (w.alloc (.cells #[.int .i64 a, .int .i64 i] 31)).heap.size) := hidD HB.out.size
  generalize Ti.may ⟨a, i⟩ = y at *
  dsimp only at c
  go_enter Try.func41, Try.ntmps41
  go_wp2_with fail
  with_reducible refine c.mono ?_
  rintro e w1 ⟨rfl, h1⟩
  have H1 := hidD (below_on HB.out HS.out h1)
  clear h1 c HB HS
  go_wp2_with fail
  go_ret
  exact ⟨rfl, H1.out⟩
end Go.Proofs.Ytkamcjebihfdlaa
