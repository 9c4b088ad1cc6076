/- ring: the order of points. -/
import Derived.Test.YtcpcnajifdicmaaRA
import Derived.Test.YtcpcnajifdicmaaQP
import Derived.Shelf.SlSortCmp.InsertionK
namespace Go.Proofs.Ytcpcnajifdicmaa
open Go.RowKit Go.Sort

/-- A world that has only grown (and drawn), where two boxes lie as they lay. -/
def RW (w : World) (x1 x2 y1 y2 : Int) (W : World) : Prop := (∃ q os', W = grow (w.drewN q) os') ∧ W.cell? ⟨w.heap.size, 0, none⟩ = some (.int .u64 x1) ∧ W.cell? ⟨w.heap.size, 1, none⟩ = some (.int .i64 x2) ∧ W.cell? ⟨w.heap.size + 1, 0, none⟩ = some (.int .u64 y1) ∧ W.cell? ⟨w.heap.size + 1, 1, none⟩ = some (.int .i64 y2)
theorem cell_lies {W : World} {p : Addr} {v : Value} (h : W.cell? p = some v) (o : Obj) : (W.alloc o).cell? p = some v := by
  rw [((Below.refl W.heap.size W).alloc (Nat.le_refl _) o).cell (World.block_lt_of_cell? W _ h), h]
theorem run_build2 (w : World) (a b : Int) : (Instr.buildSlice 55 2 #[(0, .int .i64 a), (1, .int .i64 b)]).run Try.prog w = .ok (.slice (some ⟨w.heap.size, 0, none⟩) 2 2) (w.alloc (.cells #[.int .i64 a, .int .i64 b] 3)) := by
  go_simp
theorem RW_alloc {w : World} {x1 x2 y1 y2 : Int} {W : World} (h : RW w x1 x2 y1 y2 W) (o : Obj) : RW w x1 x2 y1 y2 (W.alloc o) := by
  obtain ⟨⟨q, os', rfl⟩, h1, h2, h3, h4⟩ := h
  exact ⟨⟨q, os' ++ #[o], by rw [alloc_eq_grow, grow_grow]⟩, cell_lies h1 o, cell_lies h2 o, cell_lies h3 o, cell_lies h4 o⟩

theorem order_v (x1 x2 y1 y2 a b r : Int) (w : World) (c1 : ∀ W : World, Calls Try.prog 69 #[.int .u64 x1, .int .u64 y1] W fun e w' => e = .returned (.int .i64 a) ∧ W = w')
    (c2 : ∀ W : World, Calls Try.prog 29 #[.int .i64 x2, .int .i64 y2] W fun e w' => e = .returned (.int .i64 b) ∧ W = w')
    (c3 : ∀ (g : Nat) (W : World), W.cell? ⟨g, 0, none⟩ = some (.int .i64 a) → W.cell? ⟨g, 1, none⟩ = some (.int .i64 b) → Calls Try.prog 68 #[.slice (some ⟨g, 0, none⟩) 2 2] W fun e w' => e = .returned (.int .i64 r) ∧ W = w') :
    Calls Try.prog 63 #[.agg #[.int .u64 x1, .int .i64 x2], .agg #[.int .u64 y1, .int .i64 y2]] w fun e w' => e = .returned (.int .i64 r) ∧ ∃ q os', w' = grow (w.drewN q) os' := by
  go_enter Try.func63, Try.ntmps63
  go_wp2_with fail
  refine wp_region_drawn (pred := fun jx v W => match jx with | 0 => v = .pointer (some ⟨w.heap.size, 0, none⟩) | 1 => v = .int .u64 x1 | 2 => v = .pointer (some ⟨w.heap.size + 1, 0, none⟩) | 3 => v = .int .u64 y1 | 4 => v = .int .i64 a | 5 => v = .pointer (some ⟨w.heap.size, 1, none⟩) | 6 => v = .int .i64 x2 | 7 => v = .pointer (some ⟨w.heap.size + 1, 1, none⟩) | 8 => v = .int .i64 y2 | 9 => v = .int .i64 b | 10 => ∃ g, v = .slice (some ⟨g, 0, none⟩) 2 2 ∧ (g < W.heap.size ∧ W.cell? ⟨g, 0, none⟩ = some (.int .i64 a) ∧ W.cell? ⟨g, 1, none⟩ = some (.int .i64 b)) | 11 => v = .int .i64 r | 12 => v = .int .i64 r | _ => True) (R := RW w x1 x2 y1 y2) (by kernel_rfl) (by kernel_rfl) (by kernel_rfl) ?mono ?start ?step ?done
  case mono =>
    intro ix v W W' h hb
    match ix, h with
    | 0, h => exact h
    | 1, h => exact h
    | 2, h => exact h
    | 3, h => exact h
    | 4, h => exact h
    | 5, h => exact h
    | 6, h => exact h
    | 7, h => exact h
    | 8, h => exact h
    | 9, h => exact h
    | 10, ⟨g, h1, h2, h3, h4⟩ => exact ⟨g, h1, Nat.lt_of_lt_of_le h2 hb.size, (hb.cell (p := ⟨g, 0, none⟩) h2).trans h3, (hb.cell (p := ⟨g, 1, none⟩) h2).trans h4⟩
    | 11, h => exact h
    | 12, h => exact h
    | _ + 13, _ => trivial
  case start =>
    refine ⟨⟨1, #[_, _], by rw [alloc_eq_grow, alloc_eq_grow, grow_grow]; rfl⟩, ?_, ?_, ?_, ?_⟩ <;> go_simp
  case step =>
    intro ix o ho A W hsz hdf hfr hdep hR
    rcases ix with _ | _ | _ | _ | _ | _ | _ | _ | _ | _ | _ | _ | _ | ix
    · injection ho with ho
      subst ho
      have e2 : A.eval (.tmp 2) = .pointer (some ⟨w.heap.size, 0, none⟩) := (hfr 2 (noDst_spec (by kernel_rfl))).trans rfl
      exact gOp_fld (v := .pointer (some ⟨w.heap.size, 0, none⟩)) rfl (wanted_plain rfl) rfl e2 (by go_simp) ⟨_, rfl, rfl, Below.refl _ _, hR⟩
    · injection ho with ho
      subst ho
      have e5 : A.eval (.tmp 5) = .pointer (some ⟨w.heap.size, 0, none⟩) := hdep ⟨0, .data⟩ (by simp) rfl _ _ rfl rfl
      have x0 := hR.2.1
      exact gOp_ld (v := .int .u64 x1) rfl (wanted_plain rfl) rfl e5 (by go_simp) ⟨_, rfl, rfl, Below.refl _ _, hR⟩
    · injection ho with ho
      subst ho
      have e3 : A.eval (.tmp 3) = .pointer (some ⟨w.heap.size + 1, 0, none⟩) := (hfr 3 (noDst_spec (by kernel_rfl))).trans rfl
      exact gOp_fld (v := .pointer (some ⟨w.heap.size + 1, 0, none⟩)) rfl (wanted_plain rfl) rfl e3 (by go_simp) ⟨_, rfl, rfl, Below.refl _ _, hR⟩
    · injection ho with ho
      subst ho
      have e7 : A.eval (.tmp 7) = .pointer (some ⟨w.heap.size + 1, 0, none⟩) := hdep ⟨2, .data⟩ (by simp) rfl _ _ rfl rfl
      have x0 := hR.2.2.2.1
      exact gOp_ld (v := .int .u64 y1) rfl (wanted_plain rfl) rfl e7 (by go_simp) ⟨_, rfl, rfl, Below.refl _ _, hR⟩
    · injection ho with ho
      subst ho
      have e6 : A.eval (.tmp 6) = .int .u64 x1 := hdep ⟨1, .data⟩ (by simp) rfl _ _ rfl rfl
      have e8 : A.eval (.tmp 8) = .int .u64 y1 := hdep ⟨3, .data⟩ (by simp) rfl _ _ rfl rfl
      refine gOp_enter rfl (wanted_plain rfl) 69 #[.int .u64 x1, .int .u64 y1] (run_call _ (fun _ _ => rfl) _ _ rfl _ (by simp [e6, e8])) ?_
      refine (c1 W).mono ?_
      rintro e w' ⟨rfl, rfl⟩
      exact ⟨_, rfl, _, rfl, rfl, Below.refl _ _, hR⟩
    · injection ho with ho
      subst ho
      have e2 : A.eval (.tmp 2) = .pointer (some ⟨w.heap.size, 0, none⟩) := (hfr 2 (noDst_spec (by kernel_rfl))).trans rfl
      exact gOp_fld (v := .pointer (some ⟨w.heap.size, 1, none⟩)) rfl (wanted_plain rfl) rfl e2 (by go_simp) ⟨_, rfl, rfl, Below.refl _ _, hR⟩
    · injection ho with ho
      subst ho
      have e10 : A.eval (.tmp 10) = .pointer (some ⟨w.heap.size, 1, none⟩) := hdep ⟨5, .data⟩ (by simp) rfl _ _ rfl rfl
      have x0 := hR.2.2.1
      exact gOp_ld (v := .int .i64 x2) rfl (wanted_plain rfl) rfl e10 (by go_simp) ⟨_, rfl, rfl, Below.refl _ _, hR⟩
    · injection ho with ho
      subst ho
      have e3 : A.eval (.tmp 3) = .pointer (some ⟨w.heap.size + 1, 0, none⟩) := (hfr 3 (noDst_spec (by kernel_rfl))).trans rfl
      exact gOp_fld (v := .pointer (some ⟨w.heap.size + 1, 1, none⟩)) rfl (wanted_plain rfl) rfl e3 (by go_simp) ⟨_, rfl, rfl, Below.refl _ _, hR⟩
    · injection ho with ho
      subst ho
      have e12 : A.eval (.tmp 12) = .pointer (some ⟨w.heap.size + 1, 1, none⟩) := hdep ⟨7, .data⟩ (by simp) rfl _ _ rfl rfl
      have x0 := hR.2.2.2.2
      exact gOp_ld (v := .int .i64 y2) rfl (wanted_plain rfl) rfl e12 (by go_simp) ⟨_, rfl, rfl, Below.refl _ _, hR⟩
    · injection ho with ho
      subst ho
      have e11 : A.eval (.tmp 11) = .int .i64 x2 := hdep ⟨6, .data⟩ (by simp) rfl _ _ rfl rfl
      have e13 : A.eval (.tmp 13) = .int .i64 y2 := hdep ⟨8, .data⟩ (by simp) rfl _ _ rfl rfl
      refine gOp_enter rfl (wanted_plain rfl) 29 #[.int .i64 x2, .int .i64 y2] (run_call _ (fun _ _ => rfl) _ _ rfl _ (by simp [e11, e13])) ?_
      refine (c2 W).mono ?_
      rintro e w' ⟨rfl, rfl⟩
      exact ⟨_, rfl, _, rfl, rfl, Below.refl _ _, hR⟩
    · injection ho with ho
      subst ho
      have e9 : A.eval (.tmp 9) = .int .i64 a := hdep ⟨4, .data⟩ (by simp) rfl _ _ rfl rfl
      have e14 : A.eval (.tmp 14) = .int .i64 b := hdep ⟨9, .data⟩ (by simp) rfl _ _ rfl rfl
      refine gOp_ok (v := .slice (some ⟨W.heap.size, 0, none⟩) 2 2) (w' := W.alloc (.cells #[.int .i64 a, .int .i64 b] 3)) rfl (wanted_plain rfl) (by simp [execOp, e9, e14, run_build2]) ?_
      exact ⟨_, rfl, ⟨W.heap.size, rfl, by simp, by simp, by simp⟩, (Below.refl _ _).alloc (Nat.le_refl _) _, RW_alloc hR _⟩
    · injection ho with ho
      subst ho
      obtain ⟨g, e15, hx15⟩ : ∃ g, A.eval (.tmp 15) = .slice (some ⟨g, 0, none⟩) 2 2 ∧ (g < W.heap.size ∧ W.cell? ⟨g, 0, none⟩ = some (.int .i64 a) ∧ W.cell? ⟨g, 1, none⟩ = some (.int .i64 b)) := hdep ⟨10, .data⟩ (by simp) rfl _ _ rfl rfl
      refine gOp_enter rfl (wanted_plain rfl) 68 #[.slice (some ⟨g, 0, none⟩) 2 2] (run_call _ (fun _ _ => rfl) _ _ rfl _ (by simp [e15])) ?_
      refine (c3 g W hx15.2.1 hx15.2.2).mono ?_
      rintro e w' ⟨rfl, rfl⟩
      exact ⟨_, rfl, _, rfl, rfl, Below.refl _ _, hR⟩
    · injection ho with ho
      subst ho
      have e16 : A.eval (.tmp 16) = .int .i64 r := hdep ⟨11, .data⟩ (by simp) rfl _ _ rfl rfl
      exact gOp_mv rfl (wanted_plain rfl) (.inr rfl) e16 ⟨_, rfl, rfl, Below.refl _ _, hR⟩
    · simp at ho
  case done =>
    intro A W _ hdf _ hcome hR
    have hdf2 : A.defers = [] := hdf
    have h4 := hcome 12 _ _ rfl rfl
    simp only at h4
    go_wp2
    refine bodyPost_ret (results_tmp rfl _ _ _) hdf2 ?_
    exact ⟨by rw [← h4], hR.1⟩

theorem order_any (x y : Rp.Pt) (w : World) : Calls Try.prog 63 #[.agg #[.int .u64 x.1, .int .i64 x.2], .agg #[.int .u64 y.1, .int .i64 y.2]] w fun e w' => e = .returned (.int .i64 (Rp.cf x y)) ∧ ∃ q os', w' = grow (w.drewN q) os' :=
  order_v x.1 x.2 y.1 y.2 (Rp.cmpI x.1 y.1) (Rp.cmpI x.2 y.2) _ w (fun W => compareU _ _ W) (fun W => compareI _ _ W) (fun g W h1 h2 => or2 g _ _ W h1 h2)
end Go.Proofs.Ytcpcnajifdicmaa
