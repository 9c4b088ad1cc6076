/- The contract of Back. -/
import Derived.Test.YtfbgbgblbkiniaaCallsD
namespace Go.Proofs.Ytfbgbgblbkiniaa
open Go.RowKit Go.Shelf

attribute [local go_sem] Oper.semAt_some

theorem kept_set {n₀ B Bs : Nat} {W : World} (v : Value) (h : n₀ ≤ B) (hne : B ≠ Bs) : Kept n₀ Bs W (W.setCell ⟨B, 0, none⟩ v) :=
  ⟨(Below.refl n₀ W).setCell (p := ⟨B, 0, none⟩) h _, World.cell?_setCell_other _ _ _ _ (fun e => hne (congrArg Addr.block e))⟩

set_option maxRecDepth 100000 in
set_option maxHeartbeats 4000000 in
theorem back_any (c : Nat) (v : Value) (zs : List Int) (w : World) (hx : c < 4294967296) (hs : Seg .u8 w v zs) (ho : Pl.Octs zs) (hlen : zs.length ≤ 140737488355328) :
    Calls Try.prog 16 #[.int .u32 c, v] w fun e w' => e = .returned (.int .u32 (4294967295 ^^^ Pl.nur (4294967295 ^^^ c) zs : Nat)) ∧ Below w.heap.size w w' := by
  refine (callsIn_wide (n := 7)).1 ?_
  have hro : Fence.wide.round = none := rfl
  have hsg : IntKind.u32.signed = false := rfl
  have hnc := u32not c hx
  have hr : 4294967295 ^^^ c < 4294967296 := Pl.xlt (by decide) hx
  obtain ⟨a, cap, rfl, k1, k2, k3, k4⟩ := id hs
  clear k1 k2 k3 k4
  refine callsIn_of_wp_marks Try.func16 rfl trivial ?_ hro
  simp only [Try.ntmps16, List.size_toArray, List.length_cons, List.length_nil, Nat.reduceAdd, Nat.reduceSub, Array.replicate_succ, Array.replicate_zero, List.push_toArray, List.append_toArray, List.nil_append, List.cons_append]
  gi_wp2_with (refine ⟨trivial, ?_⟩; gi_at_call 28; refine (backward_in Fence.wide 6 trivial hro _ _ _ _).mono ?_; rintro e w' ⟨rfl, rfl⟩)
  generalize hre : 4294967295 ^^^ c = r at *
  have bS := Boxed.new w 23 (.int .u32 r)
  have bN := Boxed.new (w.alloc (.cells #[.int .u32 r] 23)) 22 (.slice a zs.length cap)
  rw [World.size_alloc] at bN
  have hB0 : Below w.heap.size w ((w.alloc (.cells #[.int .u32 r] 23)).alloc (.cells #[.slice a zs.length cap] 22)) := ((Below.refl _ w).alloc (Nat.le_refl _) _).alloc (by simp) _
  refine wpIn_rangeFunc_ownG hro (by decide) (gf := 30) (lb := #[.pointer (some ⟨w.heap.size + 1, 0, none⟩)]) rfl trivial (enters_of Try.func30 (by kernel_rfl) rfl)
    (backward_stops Fence.wide 6 trivial hro (by decide) (w.heap.size + 1) w.heap.size _ zs hlen _ w (by simp) hB0 rfl bN.cell hs) kept_t (kept_b (by simp; omega) (by simp)) (Below.refl _ _) (fun _ => rfl)
    (fun pre W => (W.cell? ⟨w.heap.size, 0, none⟩ = some (.int .u32 (gone zs r pre)) ∧ W.frozen? ⟨w.heap.size, 0, none⟩ = false) ∧ Below w.heap.size w W)
    (fun _ _ _ => False)
    (OwnFrom.and (Own.from (fun s A B row hs hg hr => ⟨cell_kept hs.1 hg hr, (frozen_kept hs.1 hg hr).trans hs.2⟩) _) (ownFrom_below (Nat.le_refl _) (by simp; omega)))
    (fun _ _ _ _ _ hs _ _ => hs)
    ⟨⟨(bS.alloc _).cell, (bS.alloc _).frozen⟩, hB0⟩
    (fun x => { tmps := #[.int .u32 c, .slice a zs.length cap, undef, undef, .int .u32 0, .pointer (some ⟨w.heap.size, 0, none⟩), undef, .int .u8 (zs[x]?.getD 0), .int .u32 c, .int .u32 r, .slice a zs.length cap, .func (.func 30) #[] #[.pointer (some ⟨w.heap.size + 1, 0, none⟩)], .int .i64 (x : Int), .int .u8 (zs[x]?.getD 0), undef, undef, undef, undef, undef, undef, undef, undef, undef, undef, undef], defers := [] }) ?assign ?body ?done ?stop
  case assign =>
    intro l x W K hK
    gi_wp2
    exact hK
  case body =>
    rintro l pre x W ⟨⟨hc, hf⟩, hB⟩ _
    have hg := gone_lt ho hr pre
    have hoc := oct_at ho x
    obtain ⟨o, hoe⟩ : ∃ o : Nat, zs[x]?.getD 0 = o := ⟨_, (Int.toNat_of_nonneg hoc.1).symm⟩
    have HG : Hid (gone zs r (pre ++ [x]) = Pl.bt 8 (gone zs r pre) ^^^ o) := by show _ = _; rw [gone_snoc, hoe]; rfl
    rw [hoe] at hoc
    simp only [hoe]
    generalize gone zs r pre = g at *
    gi_wp2
    gi_loopw [14] (fun i wr => ∃ j : Nat, j ≤ 8 ∧ i = .int .i64 j ∧ wr.cell? ⟨w.heap.size, 0, none⟩ = some (.int .u32 (Pl.bt j g)) ∧ wr.frozen? ⟨w.heap.size, 0, none⟩ = false ∧ KeepsFrom ((w.alloc (.cells #[.int .u32 r] 23)).alloc (.cells #[.slice a zs.length cap] 22)).heap.size W wr ∧ Kept w.heap.size (w.heap.size + 1) W wr ∧ Below w.heap.size w wr) (fun i _ => 8 - (intOf i).toNat)
    case atStart => exact ⟨0, Nat.zero_le _, rfl, hc, hf, KeepsFrom.refl _ _, Kept.refl _ _ _, hB⟩
    case round =>
      obtain ⟨j, hj, rfl, hcj, hfj, hkf, hkp, hBj⟩ := hrel
      have hbl := Pl.bt_lt (n := j) hg
      by_cases hjt : j < 8
      · gi_wp2_with (refine ⟨trivial, ?_⟩; gi_at_call 29; refine (CallsIn.inRound l (callsIn_wide.2 (stepBack_any _ wr hbl))).mono ?_; rintro e w1 ⟨rfl, rfl⟩)
        go_roundw
        case rel => exact ⟨j + 1, by omega, by go_num, by rw [Pl.bt_succ]; exact World.cell?_setCell_same' _ _ _ (by rw [hcj]; rfl), by rw [World.frozen?_setCell]; exact hfj, hkf.trans ((KeepsOthers.setCell _ _ _).from _), hkp.trans (kept_set _ (Nat.le_refl _) (by omega)), hBj.setCell (p := ⟨w.heap.size, 0, none⟩) (Nat.le_refl _) _⟩
        case measure => simp [intOf]; omega
      · obtain rfl : j = 8 := by omega
        have hxo := u32x _ o hbl (by omega)
        gi_wp2
        exact ⟨hkf.trans ((KeepsOthers.setCell _ _ _).from _), hkp.trans (kept_set _ (Nat.le_refl _) (by omega)), ⟨by rw [HG.out]; exact World.cell?_setCell_same' _ _ _ (by rw [hcj]; rfl), by rw [World.frozen?_setCell]; exact hfj⟩, hBj.setCell (p := ⟨w.heap.size, 0, none⟩) (Nat.le_refl _) _⟩
  case done =>
    rintro D ys W hD rfl ⟨⟨hc, _⟩, hB⟩ hK
    rw [gone_all] at hc
    have hnl := Pl.nur_lt hr ho
    have hn2 := u32not _ hnl
    gi_wp2
    refine ⟨by simp, .inl ⟨_, _, rfl, run_takeDeferred hK, ?_⟩⟩
    exact ⟨_, results_tmp rfl _ _ _, by rw [hre]; rfl, hB.trans (belowK_b (w := w) (Nat.le_refl _) W D _ _ (by simp at hD; omega) hK rfl rfl)⟩
  case stop =>
    rintro D c pre W _ _ h _
    exact h.elim
end Go.Proofs.Ytfbgbgblbkiniaa
