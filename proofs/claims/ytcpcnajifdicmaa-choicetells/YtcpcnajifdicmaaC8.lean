/- choice: Spread, where all may be. -/
import Derived.Test.YtcpcnajifdicmaaC7
namespace Go.Proofs.Ytcpcnajifdicmaa
open Go.RowKit Go.Sort
set_option linter.unusedVariables false
set_option maxRecDepth 20000

theorem lrow_slice {W : World} {B : Nat} {e : TypeId} {s : Nat} {v : Value} {n : Nat} {xs : List Value} (h : W.ownsRow B e s v n xs) (hn : 0 < n) : ∃ g c, v = .slice (some ⟨g, 0, none⟩) n c ∧ n ≤ c ∧ c ≤ maxLen ∧ B ≤ g := by
  rcases h.2 with ⟨rfl, h0⟩ | ⟨g, c, cur, rfl, hB, _, h1, h2, _⟩
  · omega
  · exact ⟨g, c, rfl, h1, h2, hB⟩

theorem lrow_lower {w : World} {B C : Nat} {e : TypeId} {size : Nat} {v : Value} {n : Nat} {xs : List Value} (h : w.ownsRow B e size v n xs) (hc : C ≤ B) : w.ownsRow C e size v n xs := by
  refine ⟨h.1, ?_⟩
  rcases h.2 with h0 | ⟨g, cap, cur, h1, h2, h3⟩
  · exact .inl h0
  · exact .inr ⟨g, cap, cur, h1, Nat.le_trans hc h2, h3⟩

set_option maxHeartbeats 4000000 in
theorem lspread_good (s : Nat) (n : Int) (v : Value) (l : List Rp.Pt) (w : World) (hv : PSeg .i64 w v l) (hS : Lo.spreadE n l = 0) :
    Calls Try.prog 16 #[.int .u64 s, .int .i64 n, v] w fun e w' => ∃ v', e = .returned (.tuple #[v', .int .i64 0]) ∧ w'.ownsRow w.heap.size 49 2 v' l.length (rowL (Lo.run s l n.toNat).2) ∧ Below w.heap.size w w' := by
  obtain ⟨hE, hn0, hn1, hbu⟩ := Lo.spread_ok hS
  obtain ⟨hc0, h0⟩ := Lo.people_ok hE
  have h32 := (Lo.check_ok hc0).1
  have ha : l.any (fun x => decide (1048576 - n < x.2)) = false := by
    rw [← Bool.not_eq_true, List.any_eq_true]
    rintro ⟨x, hx, hd⟩
    obtain ⟨j, hj, rfl⟩ := List.mem_iff_getElem.1 hx
    have := hbu j hj
    unfold Lo.bu at this
    rw [pgetD_at hj] at this
    have := of_decide_eq_true hd
    omega
  have hA : Below w.heap.size w (w.alloc (.cells #[.int .i64 n] 3)) := (Below.refl _ _).alloc (Nat.le_refl _) _
  have c := lpeopled_any v l _ (hv.below hA)
  rw [hE] at c
  have hbox := lalloc_box w (.int .i64 n) 3
  have hsz : (w.alloc (.cells #[.int .i64 n] 3)).heap.size = w.heap.size + 1 := by simp
  have c2 := fun W (h : Below w.heap.size w W) (hb : W.cell? ⟨w.heap.size, 0, none⟩ = some (.int .i64 n)) => containsL1 38 ⟨w.heap.size, 0, none⟩ (fun _ _ => rfl) (fun x => decide (1048576 - n < x.2)) v l W (hv.below h) (fun x y W2 hW2 => lfull_any w.heap.size n x y W2 ((hW2.cell (p := ⟨w.heap.size, 0, none⟩) (World.block_lt_of_cell? W _ hb)).trans hb) hn0 hn1)
  rw [ha] at c2
  have c4 := fun W (h : Below w.heap.size w W) => lclone_any v l W (hv.below h) h0 (by omega)
  have HRUN0 : Hid (Lo.run s l 0 = (s, l)) := hidD rfl
  have HBU := hidD hbu
  have HCK := hidD hc0
  obtain ⟨a, cap, rfl, h1, h2, h3, h4⟩ := id hv
  clear hv h3 h4 hE ha hbu hS hc0
  obtain ⟨N, hN⟩ : ∃ N, N = l.length := ⟨_, rfl⟩
  rw [← hN] at h0 h32 h1 c c2 c4 ⊢
  have HN := hidD hN
  obtain ⟨M, hM⟩ := Int.eq_ofNat_of_zero_le hn0
  subst hM
  rw [Int.toNat_natCast]
  clear hN
  go_enter Try.func16, Try.ntmps16
  go_wp2_with fail
  with_reducible refine c.mono ?_
  rintro e w' ⟨rfl, b1⟩
  have hbx : w'.cell? ⟨w.heap.size, 0, none⟩ = some (.int .i64 M) := (b1.cell (p := ⟨w.heap.size, 0, none⟩) (by show w.heap.size < _; omega)).trans hbox
  have B1 := Below.step hA b1
  have c3 := c2 w' B1 hbx
  clear c2 c b1
  have d1 : decide ((M : Int) < 0) = false := decide_eq_false (by omega)
  have d2 : decide (4096 < (M : Int)) = false := decide_eq_false (by omega)
  have d3 : decide (4096 < M) = false := decide_eq_false (by omega)
  go_wp2_with (go_at_call 34; with_reducible refine c3.mono ?_; rintro e w2 ⟨rfl, b2⟩)
  have hbx2 : w2.cell? ⟨w.heap.size, 0, none⟩ = some (.int .i64 M) := (b2.cell (p := ⟨w.heap.size, 0, none⟩) (World.block_lt_of_cell? w' _ hbx)).trans hbx
  have B2 := Below.step B1 b2
  have c5 := c4 w2 B2
  clear c4 c3 B1 b2 hbx
  with_reducible refine c5.mono ?_
  rintro e w3 ⟨v3, rfl, row3, b3⟩
  have hbx3 : w3.cell? ⟨w.heap.size, 0, none⟩ = some (.int .i64 M) := (b3.cell (p := ⟨w.heap.size, 0, none⟩) (World.block_lt_of_cell? w2 _ hbx2)).trans hbx2
  have B3 := Below.step B2 b3
  have row4 := lrow_lower row3 B2.size
  obtain ⟨g, cp, rfl, k1, k2, k3⟩ := lrow_slice row4 h0
  unfold maxLen at k2
  clear c5 B2 b3 hbx2 row3
  have HR := hidD row4
  clear row4 hbox hsz hA
  go_wp2_with fail
  go_loopw [0, 32] (fun st i wr => ∃ k : Nat, k ≤ M ∧ i = .int .i64 k ∧ st = .int .u64 ((Lo.run s l k).1 : Nat) ∧ wr.ownsRow w.heap.size 49 2 (.slice (some ⟨g, 0, none⟩) N cp) N (rowL (Lo.run s l k).2) ∧ Below w.heap.size w wr) (fun _ i _ => M - (intOf i).toNat)
  case atStart => exact ⟨0, Nat.zero_le _, rfl, by rw [HRUN0.out], by rw [HRUN0.out]; exact HR.out, B3⟩
  case round =>
    clear B3 HR
    obtain ⟨k, hk, rfl, rfl, hrow, hbl⟩ := hrel
    by_cases hlt : k < M
    · have hrl : (Lo.run s l k).2.length = N := by rw [Lo.run_length]; exact HN.out.symm
      have hp := pseg_of_rowL (d := (Lo.run s l k).2) (by rw [hrl]; exact hrow)
      have cp := lpick_any (Lo.run s l k).1 _ _ wr hp (by omega) (by omega)
      have hPP : Lo.pickP (Lo.run s l k).1 (Lo.run s l k).2 < N := by have := Lo.run_pick s (l := l) (by have := HN.out; omega) k; have := HN.out; omega
      have HSU := hidD (Lo.run_succ s l k)
      have hbd : 0 ≤ Lo.bu (Lo.run s l k).2 (Lo.pickP (Lo.run s l k).1 (Lo.run s l k).2) ∧ Lo.bu (Lo.run s l k).2 (Lo.pickP (Lo.run s l k).1 (Lo.run s l k).2) ≤ 2000000 := by
        have e := HN.out
        have h1 := Lo.at_ok HCK.out (i := Lo.pickP (Lo.run s l k).1 (Lo.run s l k).2) (by omega)
        have h2 := Lo.run_bu s (l := l) (by omega) k (Lo.pickP (Lo.run s l k).1 (Lo.run s l k).2)
        omega
      have HST := hidD (rowL_set2 (Lo.run s l k).2 (Lo.pickP (Lo.run s l k).1 (Lo.run s l k).2) (Lo.bu (Lo.run s l k).2 (Lo.pickP (Lo.run s l k).1 (Lo.run s l k).2) + 1) (by omega))
      have HGT := hidD (rowL_get (Lo.run s l k).2 (Lo.pickP (Lo.run s l k).1 (Lo.run s l k).2) (by omega)).2
      have HNX : Hid (rowL (Lo.run s l (k + 1)).2 = (rowL (Lo.run s l k).2).set (Lo.pickP (Lo.run s l k).1 (Lo.run s l k).2 * 2 + 1) (.int .i64 (Lo.bu (Lo.run s l k).2 (Lo.pickP (Lo.run s l k).1 (Lo.run s l k).2) + 1))) := hidD (by rw [HSU.out]; exact HST.out)
      have HNS : Hid ((Lo.run s l (k + 1)).1 = Lo.pickS (Lo.run s l k).1 (Lo.run s l k).2) := hidD (by rw [HSU.out])
      have HGT2 : Hid ((rowL (Lo.run s l k).2)[Lo.pickP (Lo.run s l k).1 (Lo.run s l k).2 * 2 + 1]? = some (.int .i64 (Lo.bu (Lo.run s l k).2 (Lo.pickP (Lo.run s l k).1 (Lo.run s l k).2)))) := hidD HGT.out
      clear HST HGT HSU hp hrl
      generalize Lo.bu (Lo.run s l k).2 (Lo.pickP (Lo.run s l k).1 (Lo.run s l k).2) = b at *
      generalize Lo.pickP (Lo.run s l k).1 (Lo.run s l k).2 = PP at *
      generalize Lo.pickS (Lo.run s l k).1 (Lo.run s l k).2 = SS at *
      generalize rowL (Lo.run s l k).2 = XS at *
      generalize (Lo.run s l k).1 = S0 at *
      have HROW := hidD hrow
      have HBL := hidD hbl
      clear hrow hbl
      go_wp2_with fail
      with_reducible refine cp.mono ?_
      rintro e w5 ⟨rfl, q, rfl⟩
      have row5 := lown_below HROW.out (lbelow_drewN wr q)
      have b5 := Below.step HBL.out (lbelow_drewN wr q)
      have C1 : (wr.drewN q).cell? ⟨g, PP * 2 + 1, none⟩ = some (.int .i64 b) := by rw [row5.cellAt (PP * 2 + 1) (by omega)]; exact HGT2.out
      have F1 := row5.frozenAt (PP * 2 + 1)
      have st := (row5.stored (PP * 2 + 1) (.int .i64 (b + 1))).1
      rw [← HNX.out] at st
      have HST := hidD st
      have HB5 := hidD (b5.setCell (p := ⟨g, PP * 2 + 1, none⟩) k3 (.int .i64 (b + 1)))
      clear cp row5 b5 st HROW HBL HGT2
      generalize wr.drewN q = w6 at *
      have i1 : (PP : Int) < (N : Int) := by omega
      go_wp2
      exact ⟨⟨k + 1, by omega, by go_num, by rw [HNS.out], HST.out, HB5.out⟩, by simp [intOf]; omega⟩
    · obtain rfl : k = M := by omega
      have HROW := hidD hrow
      have HBL := hidD hbl
      clear hrow hbl
      go_wp2
      go_ret2
      exact ⟨_, rfl, HROW.out, HBL.out⟩

theorem lspread_any (s : Nat) (n : Int) (v : Value) (l : List Rp.Pt) (w : World) (hv : PSeg .i64 w v l) :
    Calls Try.prog 16 #[.int .u64 s, .int .i64 n, v] w fun e w' => ∃ v', e = .returned (.tuple #[v', .int .i64 (Lo.spreadE n l)]) ∧ w'.ownsRow w.heap.size 49 2 v' (Lo.spread s n l).length (rowL (Lo.spread s n l)) ∧ Below w.heap.size w w' := by
  have bad : ∀ E : Int, E ≠ 0 → Lo.spreadE n l = E → Calls Try.prog 16 #[.int .u64 s, .int .i64 n, v] w (fun e w' => e = .returned (.tuple #[.slice none 0 0, .int .i64 E]) ∧ Below w.heap.size w w') →
      Calls Try.prog 16 #[.int .u64 s, .int .i64 n, v] w fun e w' => ∃ v', e = .returned (.tuple #[v', .int .i64 (Lo.spreadE n l)]) ∧ w'.ownsRow w.heap.size 49 2 v' (Lo.spread s n l).length (rowL (Lo.spread s n l)) ∧ Below w.heap.size w w' := by
    intro E h0 hE c
    refine c.mono ?_
    rintro e w' ⟨rfl, b⟩
    refine ⟨_, by rw [hE], ?_, b⟩
    unfold Lo.spread
    rw [if_neg (by rw [hE]; exact h0)]
    exact World.ownsRow_nil _ _ _ _
  by_cases hp : Lo.peopledE l = 0
  · by_cases hn : n < 0 ∨ 4096 < n
    · exact bad 4 (by decide) (Lo.spread_bad2 hp hn) (lspread_bad2 s n v l w hv hp hn)
    · cases ha : l.any (fun x => decide (1048576 - n < x.2)) with
      | true => exact bad 4 (by decide) (Lo.spread_bad3 hp hn ha) (lspread_bad3 s n v l w hv hp (by omega) (by omega) ha)
      | false =>
        have hE := Lo.spread_good hp hn ha
        refine (lspread_good s n v l w hv hE).mono ?_
        rintro e w' ⟨v', rfl, row, b⟩
        refine ⟨v', by rw [hE], ?_, b⟩
        unfold Lo.spread
        rw [if_pos hE, Lo.run_length]
        exact row
  · exact bad _ hp (Lo.spread_bad1 hp) (lspread_bad1 s n v l w hv hp)
end Go.Proofs.Ytcpcnajifdicmaa
