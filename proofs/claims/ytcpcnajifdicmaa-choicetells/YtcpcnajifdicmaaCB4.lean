/- choice: Ring. -/
import Derived.Test.YtcpcnajifdicmaaCB3
namespace Go.Proofs.Ytcpcnajifdicmaa
open Go.RowKit Go.Sort
set_option linter.unusedVariables false
set_option maxRecDepth 20000

theorem Lo.ringE_bad1 {r : List Rp.Pt} {h : Int} {l : List Rp.Pt} (hc : Lo.checkE l ≠ 0) : Lo.ringE r h l = Lo.checkE l ∧ Lo.ringI r h l = 0 := by
  have e : Lo.ringE r h l = Lo.checkE l := by unfold Lo.ringE; rw [if_pos hc]
  refine ⟨e, ?_⟩
  unfold Lo.ringI
  rw [if_neg (by rw [e]; exact hc)]
theorem Lo.ringE_bad2 {r : List Rp.Pt} {h : Int} {l : List Rp.Pt} (hc : Lo.checkE l = 0) (hp : Rp.peopledE r ≠ 0) : Lo.ringE r h l = Rp.peopledE r ∧ Lo.ringI r h l = 0 := by
  have hw : Rp.walkL r h = [] := by unfold Rp.walkL; rw [if_neg hp]
  have e : Lo.ringE r h l = Rp.peopledE r := by
    by_cases h1 : Rp.wholeE r = 0
    · have h2 : r.length = 0 := by
        unfold Rp.peopledE at hp
        rw [if_neg (fun h => h h1)] at hp
        by_cases h3 : r.length = 0
        · exact h3
        · rw [if_neg h3] at hp; exact absurd rfl hp
      have hpe : Rp.peopledE r = 71 := by unfold Rp.peopledE; rw [if_neg (fun h => h h1), if_pos h2]
      have hfn : Lo.first r h l = none := by unfold Lo.first; rw [hw]; rfl
      rw [hpe]
      unfold Lo.ringE
      rw [if_neg (fun h => h hc), if_neg (fun h => h h1), hfn]
      rfl
    · have hpe : Rp.peopledE r = Rp.wholeE r := by unfold Rp.peopledE; rw [if_pos h1]
      rw [hpe]
      unfold Lo.ringE
      rw [if_neg (fun h => h hc), if_pos h1]
  refine ⟨e, ?_⟩
  unfold Lo.ringI
  rw [if_neg (by rw [e]; exact hp)]
theorem Rp.people_whole {r : List Rp.Pt} (hp : Rp.peopledE r = 0) : Rp.wholeE r = 0 := by
  unfold Rp.peopledE at hp
  by_cases h1 : Rp.wholeE r = 0
  · exact h1
  · rw [if_pos h1] at hp; exact hp
theorem Lo.ringE_none {r : List Rp.Pt} {h : Int} {l : List Rp.Pt} (hc : Lo.checkE l = 0) (hp : Rp.wholeE r = 0) (hf : Lo.first r h l = none) : Lo.ringE r h l = 71 ∧ Lo.ringI r h l = 0 := by
  have e : Lo.ringE r h l = 71 := by
    unfold Lo.ringE
    rw [if_neg (by simp [hc]), if_neg (by simp [hp]), hf]
    rfl
  refine ⟨e, ?_⟩
  unfold Lo.ringI
  rw [if_neg (by rw [e]; decide)]
theorem Lo.ringE_some {r : List Rp.Pt} {h : Int} {l : List Rp.Pt} {x : Int} (hc : Lo.checkE l = 0) (hp : Rp.wholeE r = 0) (hf : Lo.first r h l = some x) : Lo.ringE r h l = 0 ∧ Lo.ringI r h l = x := by
  have e : Lo.ringE r h l = 0 := by
    unfold Lo.ringE
    rw [if_neg (by simp [hc]), if_neg (by simp [hp]), hf]
    rfl
  refine ⟨e, ?_⟩
  unfold Lo.ringI
  rw [if_pos e, hf]
  rfl

set_option maxHeartbeats 2000000 in
theorem lring_bad1 (vr : Value) (r : List Rp.Pt) (h : Int) (v : Value) (l : List Rp.Pt) (w : World) (hr : PSeg .u64 w vr r) (hv : PSeg .i64 w v l) (hE : Lo.checkE l ≠ 0) :
    Calls Try.prog 14 #[vr, .int .u64 h, v] w fun e w' => e = .returned (.tuple #[.int .i64 0, .int .i64 (Lo.checkE l)]) ∧ Below w.heap.size w w' := by
  have hA : Below w.heap.size w (w.alloc (.cells #[v] 23)) := (Below.refl _ _).alloc (Nat.le_refl _) _
  have c := lcheck_any v l _ (hv.below hA)
  have hbox := lalloc_box w v 23
  obtain ⟨a, cap, rfl, h1, h2, h3, h4⟩ := id hv
  obtain ⟨a2, cap2, rfl, g1, g2, g3, g4⟩ := id hr
  clear hv hr h3 h4 g3 g4
  generalize Lo.checkE l = E at *
  have hb0 : (E == 0) = false := by simp [hE]
  go_enter Try.func14, Try.ntmps14
  go_wp2_with fail
  with_reducible refine c.mono ?_
  rintro e w' ⟨rfl, b1⟩
  go_wp2
  go_ret2
  exact ⟨rfl, Below.step hA b1⟩
set_option maxHeartbeats 2000000 in
theorem lring_bad2 (vr : Value) (r : List Rp.Pt) (h : Int) (v : Value) (l : List Rp.Pt) (w : World) (hr : PSeg .u64 w vr r) (hwf : ∀ p ∈ r, (Lit.int .i64 p.2).wf = true) (hv : PSeg .i64 w v l) (hE : Lo.checkE l = 0) (hp : Rp.peopledE r ≠ 0) :
    Calls Try.prog 14 #[vr, .int .u64 h, v] w fun e w' => e = .returned (.tuple #[.int .i64 0, .int .i64 (Rp.peopledE r)]) ∧ Below w.heap.size w w' := by
  have hA : Below w.heap.size w (w.alloc (.cells #[v] 23)) := (Below.refl _ _).alloc (Nat.le_refl _) _
  have c := lcheck_any v l _ (hv.below hA)
  rw [hE] at c
  have c2 := fun W (hW : Below w.heap.size w W) => walk_any vr r h W (hr.below hW) hwf
  have hbox := lalloc_box w v 23
  obtain ⟨a, cap, rfl, h1, h2, h3, h4⟩ := id hv
  obtain ⟨a2, cap2, rfl, g1, g2, g3, g4⟩ := id hr
  clear hv hr h3 h4 g3 g4 hE
  generalize Rp.peopledE r = E at *
  have hb0 : (E == 0) = false := by simp [hp]
  go_enter Try.func14, Try.ntmps14
  go_wp2_with fail
  with_reducible refine c.mono ?_
  rintro e w1 ⟨rfl, b1⟩
  have B1 := Below.step hA b1
  have c3 := c2 w1 B1
  clear c2 c b1
  go_wp2_with fail
  with_reducible refine c3.mono ?_
  rintro e w2 ⟨v', rfl, _, _, b2⟩
  clear c3
  go_wp2
  go_ret2
  exact ⟨rfl, Below.step B1 b2⟩
set_option maxHeartbeats 4000000 in
theorem lring_good (vr : Value) (r : List Rp.Pt) (h : Int) (v : Value) (l : List Rp.Pt) (w : World) (hr : PSeg .u64 w vr r) (hwf : ∀ p ∈ r, (Lit.int .i64 p.2).wf = true) (hv : PSeg .i64 w v l) (hE : Lo.checkE l = 0) (hp : Rp.peopledE r = 0) :
    Calls Try.prog 14 #[vr, .int .u64 h, v] w fun e w' => e = .returned (.tuple #[.int .i64 (Lo.ringI r h l), .int .i64 (Lo.ringE r h l)]) ∧ Below w.heap.size w w' := by
  have hA : Below w.heap.size w (w.alloc (.cells #[v] 23)) := (Below.refl _ _).alloc (Nat.le_refl _) _
  have c := lcheck_any v l _ (hv.below hA)
  rw [hE] at c
  have c2 := fun W (hW : Below w.heap.size w W) => walk_any vr r h W (hr.below hW) hwf
  rw [hp] at c2
  have hbox := lalloc_box w v 23
  have hsz : (w.alloc (.cells #[v] 23)).heap.size = w.heap.size + 1 := by simp
  have HF1 := hidD (fun hf => Lo.ringE_none (h := h) hE (Rp.people_whole hp) hf)
  have HF2 := hidD (fun x hf => Lo.ringE_some (h := h) (x := x) hE (Rp.people_whole hp) hf)
  have HFI : Hid (Lo.first r h l = (Rp.walkL r h).find? (Lo.has l)) := hidD rfl
  have HV := hidD hv
  obtain ⟨a, cap, rfl, h1, h2, h3, h4⟩ := id hv
  obtain ⟨a2, cap2, rfl, g1, g2, g3, g4⟩ := id hr
  clear hv hr h3 h4 g3 g4 hE hp
  generalize Rp.walkL r h = ids at *
  generalize Lo.ringE r h l = RE at *
  generalize Lo.ringI r h l = RI at *
  generalize Lo.first r h l = FI at *
  go_enter Try.func14, Try.ntmps14
  go_wp2_with fail
  with_reducible refine c.mono ?_
  rintro e w1 ⟨rfl, b1⟩
  have B1 := Below.step hA b1
  have hbx : w1.cell? ⟨w.heap.size, 0, none⟩ = some (.slice a l.length cap) := (b1.cell (p := ⟨w.heap.size, 0, none⟩) (by show w.heap.size < _; omega)).trans hbox
  have c3 := c2 w1 B1
  clear c2 c b1 hbox hsz
  go_wp2_with fail
  with_reducible refine c3.mono ?_
  rintro e w2 ⟨v', rfl, _, row, b2⟩
  have hbx2 : w2.cell? ⟨w.heap.size, 0, none⟩ = some (.slice a l.length cap) := (b2.cell (p := ⟨w.heap.size, 0, none⟩) (World.block_lt_of_cell? w1 _ hbx)).trans hbx
  have B2 := Below.step B1 b2
  have c4 := indexI1 33 ⟨w.heap.size, 0, none⟩ (fun _ _ => rfl) (Lo.has l) _ v' ids w2 row (fun x W hW => lloaded_any w.heap.size _ l x W ((hW.cell (p := ⟨w.heap.size, 0, none⟩) (World.block_lt_of_cell? w2 _ hbx2)).trans hbx2) ((HV.out.below B2).below hW))
  have HROW := hidD row
  obtain ⟨a3, cap3, rfl, q3⟩ : ∃ a cap, v' = .slice a ids.length cap ∧ ids.length ≤ maxLen := by
    rcases row.2 with ⟨rfl, h0⟩ | ⟨gg, cc, cur, rfl, _, _, h1, h2, _⟩
    · exact ⟨none, 0, by rw [h0], by rw [h0]; exact Nat.zero_le _⟩
    · exact ⟨_, _, rfl, Nat.le_trans h1 h2⟩
  unfold maxLen at q3
  clear c3 B1 b2 hbx row
  go_wp2_with fail
  with_reducible refine c4.mono ?_
  rintro e w3 ⟨j, rfl, hj, b3⟩
  have B3 := Below.step B2 b3
  clear c4 B2
  rcases hj with ⟨rfl, hf⟩ | ⟨J, rfl, hJ, hf⟩
  · rw [← HFI.out] at hf
    obtain ⟨e1, e2⟩ := HF1.out hf
    subst e1 e2
    clear HF1 HF2
    go_wp2
    go_ret2
    exact ⟨rfl, B3⟩
  · rw [← HFI.out] at hf
    obtain ⟨e1, e2⟩ := HF2.out _ hf
    obtain ⟨g, c', e3, _, _, hg, hcell⟩ := irow_cell HROW.out (by omega)
    cases e3
    have Q1 := (b3.cell (p := ⟨g, J, none⟩) hg).trans (hcell J hJ)
    have HE1 := hidD e1
    have HE2 := hidD e2
    clear HF1 HF2 e1 e2 hcell hf
    generalize ids.getD J 0 = x at *
    generalize ids.length = M at *
    have i1 : (J : Int) < (M : Int) := by omega
    go_wp2
    go_ret2
    exact ⟨(by rw [HE1.out, HE2.out]; rfl), B3⟩
theorem lring_any (vr : Value) (r : List Rp.Pt) (h : Int) (v : Value) (l : List Rp.Pt) (w : World) (hr : PSeg .u64 w vr r) (hwf : ∀ p ∈ r, (Lit.int .i64 p.2).wf = true) (hv : PSeg .i64 w v l) :
    Calls Try.prog 14 #[vr, .int .u64 h, v] w fun e w' => e = .returned (.tuple #[.int .i64 (Lo.ringI r h l), .int .i64 (Lo.ringE r h l)]) ∧ Below w.heap.size w w' := by
  by_cases hE : Lo.checkE l = 0
  · by_cases hp : Rp.peopledE r = 0
    · exact lring_good vr r h v l w hr hwf hv hE hp
    · obtain ⟨e1, e2⟩ := Lo.ringE_bad2 (h := h) hE hp
      rw [e1, e2]
      exact lring_bad2 vr r h v l w hr hwf hv hE hp
  · obtain ⟨e1, e2⟩ := Lo.ringE_bad1 (r := r) (h := h) hE
    rw [e1, e2]
    exact lring_bad1 vr r h v l w hr hv hE
end Go.Proofs.Ytcpcnajifdicmaa
