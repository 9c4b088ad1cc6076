/- choice: the reference's Spread. -/
import Derived.Test.YtcpcnajifdicmaaC9
namespace Go.Proofs.Ytcpcnajifdicmaa
open Go.RowKit Go.Sort
set_option linter.unusedVariables false
set_option maxRecDepth 20000

theorem lcells_two (X : World) (a b : Value) (t : TypeId) : ∀ j u, [a, b][j]? = some u → (X.alloc (.cells #[a, b] t)).cell? ((⟨X.heap.size, 0, none⟩ : Addr).add j) = some u := by
  intro j u hj
  have e : (X.alloc (.cells #[a, b] t)).cell? ((⟨X.heap.size, 0, none⟩ : Addr).add j) = #[a, b][j]? := by
    rw [Addr.add_lit, Nat.zero_add, World.cell?_alloc_at _ _ _ _ rfl]
  rw [e]
  simpa using hj

theorem lrspread_bad1 (s : Nat) (n : Int) (v : Value) (l : List Rp.Pt) (w : World) (hv : PSeg .i64 w v l) (hE : Lo.peopledE l ≠ 0) :
    Calls Try.prog 17 #[.int .u64 s, .int .i64 n, v] w fun e w' => e = .returned (.tuple #[.slice none 0 0, .int .i64 (Lo.peopledE l)]) ∧ Below w.heap.size w w' := by
  have c := lrcheck_any v l w hv
  obtain ⟨a, cap, rfl, h1, h2, h3, h4⟩ := id hv
  clear hv h3 h4
  by_cases hc : Lo.checkE l = 0
  · have h0 : l.length = 0 := by
      unfold Lo.peopledE at hE
      rw [if_neg (by simp [hc])] at hE
      by_cases h : l.length = 0
      · exact h
      · rw [if_neg h] at hE; exact absurd rfl hE
    have hE2 : Lo.peopledE l = 71 := by unfold Lo.peopledE; rw [if_neg (by simp [hc]), if_pos h0]
    rw [hE2, h0]
    rw [hc, h0] at c
    clear hE hE2 hc
    go_enter Try.func17, Try.ntmps17
    go_wp2_with fail
    with_reducible refine c.mono ?_
    rintro e w' ⟨rfl, b1⟩
    go_wp2
    go_ret2
    exact ⟨rfl, b1⟩
  · have hE2 : Lo.peopledE l = Lo.checkE l := by unfold Lo.peopledE; rw [if_pos hc]
    rw [hE2]
    clear hE2 hE
    generalize Lo.checkE l = E at *
    have hb0 : (E == 0) = false := by simp [hc]
    go_enter Try.func17, Try.ntmps17
    go_wp2_with fail
    with_reducible refine c.mono ?_
    rintro e w' ⟨rfl, b1⟩
    go_wp2
    go_ret2
    exact ⟨rfl, b1⟩
theorem lrspread_bad2 (s : Nat) (n : Int) (v : Value) (l : List Rp.Pt) (w : World) (hv : PSeg .i64 w v l) (hE : Lo.peopledE l = 0) (hn : n < 0 ∨ 4096 < n) :
    Calls Try.prog 17 #[.int .u64 s, .int .i64 n, v] w fun e w' => e = .returned (.tuple #[.slice none 0 0, .int .i64 4]) ∧ Below w.heap.size w w' := by
  have c := lrcheck_any v l w hv
  obtain ⟨hc, h0⟩ := Lo.people_ok hE
  rw [hc] at c
  obtain ⟨a, cap, rfl, h1, h2, h3, h4⟩ := id hv
  clear hv h3 h4 hE hc
  generalize l.length = N at *
  have hb0 : ((N : Int) == 0) = false := by simp; omega
  rcases Int.lt_or_le n 0 with hn0 | hn0
  · go_enter Try.func17, Try.ntmps17
    go_wp2_with fail
    with_reducible refine c.mono ?_
    rintro e w' ⟨rfl, b1⟩
    go_wp2
    go_ret2
    exact ⟨rfl, b1⟩
  · have hn1 : 4096 < n := by omega
    have d1 : decide (n < 0) = false := decide_eq_false (by omega)
    go_enter Try.func17, Try.ntmps17
    go_wp2_with fail
    with_reducible refine c.mono ?_
    rintro e w' ⟨rfl, b1⟩
    go_wp2
    go_ret2
    exact ⟨rfl, b1⟩

/-- So many choices on a row of one's own: one step of the reference's inner loop. -/
def Lo.upto (l : List Rp.Pt) (P k : Nat) : List Rp.Pt := if P < k then Lo.bump l P else l

set_option maxHeartbeats 16000000 in
theorem lrspread_in (s : Nat) (n : Int) (v : Value) (l : List Rp.Pt) (w : World) (hv : PSeg .i64 w v l) (hE : Lo.peopledE l = 0) (hn0 : 0 ≤ n) (hn1 : n ≤ 4096) :
    Calls Try.prog 17 #[.int .u64 s, .int .i64 n, v] w fun e w' => ∃ v', e = .returned (.tuple #[v', .int .i64 (Lo.spreadE n l)]) ∧ w'.ownsRow w.heap.size 49 2 v' (Lo.spread s n l).length (rowL (Lo.spread s n l)) ∧ Below w.heap.size w w' := by
  have c := lrcheck_any v l w hv
  obtain ⟨hc0, h0⟩ := Lo.people_ok hE
  rw [hc0] at c
  have h32 := (Lo.check_ok hc0).1
  have HPE := hidD hE
  have HCK := hidD hc0
  have HV := hidD hv
  obtain ⟨a, cap, rfl, h1, h2, h3, h4⟩ := id hv
  unfold maxLen at h2
  obtain ⟨N, hN⟩ : ∃ N, N = l.length := ⟨_, rfl⟩
  rw [← hN] at h0 h32 h1 c ⊢
  have HN := hidD hN
  clear hv h3 h4 hE hc0 hN
  have hb0 : ((N : Int) == 0) = false := by simp; omega
  have d1 : decide (n < 0) = false := decide_eq_false (by omega)
  have d2 : decide (4096 < n) = false := decide_eq_false (by omega)
  obtain ⟨i0, hi, hz0, hz1, hz2⟩ := info_parts Try.infoL
  have hw : IntKind.i64.wrap (1048576 - n) = 1048576 - n := by rw [IntKind.wrap_i64]; omega
  go_enter Try.func17, Try.ntmps17
  go_wp2_with fail
  with_reducible refine c.mono ?_
  rintro e w1 ⟨rfl, b1⟩
  clear c
  go_wp2_with fail
  go_loopw [9, 10] (fun o i wr => ∃ k : Nat, k ≤ N ∧ i = .int .i64 k ∧ Hid ((l.take k).any (fun x => decide (1048576 - n < x.2)) = false) ∧ wr.ownsRow w.heap.size 49 2 o k (rowL (l.take k)) ∧ Below w.heap.size w wr) (fun _ i _ => N - (intOf i).toNat)
  case atStart => exact ⟨0, Nat.zero_le _, rfl, hidD rfl, World.ownsRow_nil _ _ _ _, b1⟩
  case round =>
    clear b1
    obtain ⟨k, hk, rfl, hc, hrow, hbl⟩ := hrel
    by_cases hlt : k < N
    · obtain ⟨a', cap', e1, _, _, h3, h4⟩ := HV.out.below hbl
      rw [← HN.out] at e1
      cases e1
      obtain ⟨g, off, rfl, hg, hcell⟩ := pseg_at (l := l) (by have := HN.out; omega) h3 h4
      obtain ⟨Q1, Q2⟩ := hcell k (by have := HN.out; omega)
      have HT := hidD (pany_take (fun x => decide (1048576 - n < x.2)) l k (by have := HN.out; omega))
      have HA := hidD (pany_at (fun x => decide (1048576 - n < x.2)) l k (by have := HN.out; omega))
      have HTK : Hid (rowL (l.take (k + 1)) = rowL (l.take k) ++ [.int .i64 (l.getD k (0, 0)).1, .int .i64 (l.getD k (0, 0)).2]) := hidD (by
        have hk' : k < l.length := by have := HN.out; omega
        rw [List.take_succ_eq_append_getElem hk', rowL_append, pgetD_at hk']; rfl)
      clear hcell h3 h4
      generalize l.getD k (0, 0) = x at *
      obtain ⟨x1, x2⟩ := x
      dsimp only at Q1 Q2 HT HA HTK
      have i1 : (k : Int) < (N : Int) := by omega
      by_cases hx : 1048576 - n < x2
      · have hE4 := Lo.spread_bad3 HPE.out (by omega) (HA.out (decide_eq_true hx))
        have hL : Lo.spread s n l = [] := by unfold Lo.spread; rw [if_neg (by rw [hE4]; decide)]
        have HE4 := hidD hE4
        have HL := hidD hL
        have HBL := hidD hbl
        clear HA HT HTK hrow hbl hE4 hL
        go_wp2
        go_ret2
        exact ⟨.slice none 0 0, (by rw [HE4.out]; rfl), (by rw [HL.out]; exact World.ownsRow_nil _ _ _ _), HBL.out⟩
      · have hc2 : Hid ((l.take (k + 1)).any (fun x => decide (1048576 - n < x.2)) = false) := hidD (by rw [HT.out, hc.out, decide_eq_false hx]; rfl)
        have hx2 : x2 ≤ 1048576 - n := by omega
        obtain ⟨oa, ocap, rfl⟩ : ∃ oa ocap, u9 = .slice oa k ocap := by
          rcases hrow.2 with ⟨rfl, h0⟩ | ⟨gg, cc, cur, rfl, _⟩
          · exact ⟨none, 0, by rw [h0]⟩
          · exact ⟨_, _, rfl⟩
        have hbq := hbl.size
        have HTW := HTK
        clear HA HT
        go_wp2_with (first | (at_builtin; refine wpList_append_own _ rfl _ _ 23 rfl w.heap.size 49 i0 _ 2 16 Try.underlying23 hi hz0 hz1 hz2 rfl (by decide) _ _ _ rfl (hrow.alloc _) ⟨wr.heap.size, 0, none⟩ 1 1 [.int .i64 x1, .int .i64 x2] rfl rfl (lcells_two _ _ _ _) (by simp [Value.oneCell']) (by unfold maxLen; omega) (by omega) (by simp; omega) ?_; intro v2 w6 hown' hgrow _))
        have hgrow2 : (wr.alloc (.cells #[.int .i64 x1, .int .i64 x2] 49)).grownBy w6 (Value.slice oa k ocap).ownBlock := hgrow
        have B6 := (hbl.alloc hbq _).grown hgrow2 (by simp; omega) (fun j e => (hrow.lt j e).1)
        rw [← HTW.out] at hown'
        have HR6 := hidD hown'
        clear hown' hgrow hgrow2 hrow
        go_wp2
        exact ⟨⟨k + 1, by omega, by go_num, hc2, HR6.out, B6⟩, by simp [intOf]; omega⟩
    · obtain rfl : k = N := by omega
      have hke : l.take k = l := List.take_of_length_le (by have := HN.out; omega)
      rw [hke] at hc hrow
      have hS := Lo.spread_good HPE.out (by omega) hc.out
      obtain ⟨M, hM⟩ := Int.eq_ofNat_of_zero_le hn0
      subst hM
      have hL : Lo.spread s M l = (Lo.run s l M).2 := by unfold Lo.spread; rw [if_pos hS, Int.toNat_natCast]
      have HSE := hidD hS
      have HL := hidD hL
      obtain ⟨g, cp, rfl, k1, k2, k3⟩ := lrow_slice hrow h0
      unfold maxLen at k2
      have HR := hidD hrow
      have HBL := hidD hbl
      clear hke hc hrow hbl hS hL hi hz0 hz1 hz2
      go_wp2_with fail
      go_loopw [0, 11] (fun st i wr => ∃ q : Nat, q ≤ M ∧ i = .int .i64 q ∧ st = .int .u64 ((Lo.run s l q).1 : Nat) ∧ wr.ownsRow w.heap.size 49 2 (.slice (some ⟨g, 0, none⟩) k cp) k (rowL (Lo.run s l q).2) ∧ Below w.heap.size w wr) (fun _ i _ => M - (intOf i).toNat)
      case atStart => exact ⟨0, Nat.zero_le _, rfl, by rw [Lo.run_zero], by rw [Lo.run_zero]; exact HR.out, HBL.out⟩
      case round =>
        clear HR HBL
        obtain ⟨q, hq, rfl, rfl, hrow, hbl⟩ := hrel
        by_cases hlq : q < M
        · have hrl : (Lo.run s l q).2.length = k := by rw [Lo.run_length]; exact HN.out.symm
          have hp := pseg_of_rowL (d := (Lo.run s l q).2) (by rw [hrl]; exact hrow)
          have ct := lrtwo_any (Lo.run s l q).1 _ _ wr hp
          rw [if_pos (Lo.run_people s HSE.out q (by omega)), if_pos (Lo.run_people s HSE.out q (by omega)), Lo.run_people s HSE.out q (by omega)] at ct
          have HRI : Hid (Rp.rises (Lo.run s l q).2 = true) := hidD (Lo.check_ok (Lo.run_check s HSE.out q (by omega))).2.2
          have HOK : Hid (∀ j, j < k → 0 ≤ Lo.bu (Lo.run s l q).2 j ∧ Lo.bu (Lo.run s l q).2 j ≤ 1048576) := hidD (fun j hj => by
            have := Lo.at_ok (Lo.run_check s HSE.out q (by omega)) (i := j) (by omega)
            omega)
          have hPP : Lo.pickP (Lo.run s l q).1 (Lo.run s l q).2 < k := by have := Lo.run_pick s (l := l) (by have := HN.out; omega) q; have := HN.out; omega
          have HSU := hidD (Lo.run_succ s l q)
          have HNX : Hid ((Lo.run s l (q + 1)).2 = Lo.bump (Lo.run s l q).2 (Lo.pickP (Lo.run s l q).1 (Lo.run s l q).2)) := hidD (by rw [HSU.out])
          have HNS : Hid ((Lo.run s l (q + 1)).1 = Lo.pickS (Lo.run s l q).1 (Lo.run s l q).2) := hidD (by rw [HSU.out])
          clear HSU hp
          have HRL := hidD hrl
          generalize Lo.pickP (Lo.run s l q).1 (Lo.run s l q).2 = P at *
          generalize Lo.pickS (Lo.run s l q).1 (Lo.run s l q).2 = S at *
          generalize (Lo.run s l q).1 = S0 at *
          generalize (Lo.run s l q).2 = R at *
          have HROW := hidD hrow
          have HBL := hidD hbl
          clear hrow hbl hrl
          generalize hid : Lo.id' R P = ID at *
          have HID := hidD hid
          clear hid
          go_wp2_with fail
          with_reducible refine ct.mono ?_
          rintro e w5 ⟨rfl, b5⟩
          have HR5 : Hid (w5.ownsRow w.heap.size 49 2 (.slice (some ⟨g, 0, none⟩) k cp) k (rowL R)) := hidD (lown_below HROW.out b5)
          have HB5 := hidD (Below.step HBL.out b5)
          clear ct b5 HROW HBL
          go_wp2_with fail
          go_loopw [15] (fun i wr => ∃ m : Nat, m ≤ k ∧ i = .int .i64 m ∧ wr.ownsRow w.heap.size 49 2 (.slice (some ⟨g, 0, none⟩) k cp) k (rowL (Lo.upto R P m)) ∧ Below w.heap.size w wr) (fun i _ => k - (intOf i).toNat)
          case atStart => exact ⟨0, Nat.zero_le _, rfl, by rw [show Lo.upto R P 0 = R from if_neg (Nat.not_lt_zero _)]; exact HR5.out, HB5.out⟩
          case round =>
            clear HR5 HB5
            obtain ⟨m, hm, rfl, hrow, hbl⟩ := hrel
            by_cases hlm : m < k
            · have i1 : (m : Int) < (k : Int) := by omega
              by_cases hmp : m = P
              · subst hmp
                rw [show Lo.upto R m m = R from if_neg (Nat.lt_irrefl _)] at hrow
                obtain ⟨r1, r2⟩ := rowL_get R m (by have := HRL.out; omega)
                have C0 : wr.cell? ⟨g, m * 2, none⟩ = some (.int .i64 ID) := by rw [hrow.cellAt (m * 2) (by omega), r1, ← HID.out]; rfl
                have C1 : wr.cell? ⟨g, m * 2 + 1, none⟩ = some (.int .i64 (Lo.bu R m)) := by rw [hrow.cellAt (m * 2 + 1) (by omega), r2]; rfl
                have F1 := hrow.frozenAt (m * 2 + 1)
                have st := (hrow.stored (m * 2 + 1) (.int .i64 (Lo.bu R m + 1))).1
                have e := rowL_set2 R m (Lo.bu R m + 1) (by have := HRL.out; omega)
                rw [← e] at st
                have hup : Lo.upto R m (m + 1) = R.set m ((R.getD m (0, 0)).1, Lo.bu R m + 1) := by unfold Lo.upto; rw [if_pos (by omega)]; rfl
                rw [← hup] at st
                have HST := hidD st
                have hbd := HOK.out m (by omega)
                have HB6 := hidD (hbl.setCell (p := ⟨g, m * 2 + 1, none⟩) k3 (.int .i64 (Lo.bu R m + 1)))
                clear st e hup r1 r2 hrow hbl
                generalize Lo.bu R m = b at *
                go_wp2
                exact ⟨⟨m + 1, by omega, by go_num, HST.out, HB6.out⟩, by simp [intOf]; omega⟩
              · have hne : (Lo.id' R m == ID) = false := by
                  rw [beq_eq_false_iff_ne]
                  intro e
                  have h := HID.out
                  exact hmp (Lo.id_inj HRI.out (by have := HRL.out; omega) (by have := HRL.out; omega) (e.trans h.symm))
                have hup : Lo.upto R P (m + 1) = Lo.upto R P m := by
                  unfold Lo.upto
                  by_cases h : P < m
                  · rw [if_pos h, if_pos (by omega)]
                  · rw [if_neg h, if_neg (by omega)]
                have hul : m < (Lo.upto R P m).length := by
                  have := HRL.out
                  unfold Lo.upto
                  split
                  · rw [Lo.bump_length]; omega
                  · omega
                have hui : Lo.id' (Lo.upto R P m) m = Lo.id' R m := by
                  have := HRL.out
                  unfold Lo.upto
                  split
                  · rw [Lo.bump_id _ _ _ (by omega)]
                  · rfl
                obtain ⟨r1, r2⟩ := rowL_get (Lo.upto R P m) m hul
                have C0 : wr.cell? ⟨g, m * 2, none⟩ = some (.int .i64 (Lo.id' R m)) := by rw [hrow.cellAt (m * 2) (by omega), r1, ← hui]; rfl
                rw [← hup] at hrow
                have HST := hidD hrow
                have HB6 := hidD hbl
                clear hrow hbl r1 r2 hup hul hui
                generalize Lo.id' R m = y at *
                go_wp2
                exact ⟨⟨m + 1, by omega, by go_num, HST.out, HB6.out⟩, by simp [intOf]; omega⟩
            · have hup : Lo.upto R P m = Lo.bump R P := if_pos (by omega)
              rw [hup, ← HNX.out] at hrow
              have HST := hidD hrow
              have HB6 := hidD hbl
              clear hrow hbl hup
              go_wp2
              exact ⟨⟨q + 1, by omega, by go_num, by rw [HNS.out], HST.out, HB6.out⟩, by simp [intOf]; omega⟩
        · obtain rfl : q = M := by omega
          have HROW := hidD hrow
          have HBL := hidD hbl
          clear hrow hbl
          go_wp2
          go_ret2
          exact ⟨.slice (some ⟨g, 0, none⟩) k cp, (by rw [HSE.out]; rfl), (by rw [HL.out, Lo.run_length, ← HN.out]; exact HROW.out), HBL.out⟩

theorem lrspread_any (s : Nat) (n : Int) (v : Value) (l : List Rp.Pt) (w : World) (hv : PSeg .i64 w v l) :
    Calls Try.prog 17 #[.int .u64 s, .int .i64 n, v] w fun e w' => ∃ v', e = .returned (.tuple #[v', .int .i64 (Lo.spreadE n l)]) ∧ w'.ownsRow w.heap.size 49 2 v' (Lo.spread s n l).length (rowL (Lo.spread s n l)) ∧ Below w.heap.size w w' := by
  have bad : ∀ E : Int, E ≠ 0 → Lo.spreadE n l = E → Calls Try.prog 17 #[.int .u64 s, .int .i64 n, v] w (fun e w' => e = .returned (.tuple #[.slice none 0 0, .int .i64 E]) ∧ Below w.heap.size w w') →
      Calls Try.prog 17 #[.int .u64 s, .int .i64 n, v] w fun e w' => ∃ v', e = .returned (.tuple #[v', .int .i64 (Lo.spreadE n l)]) ∧ w'.ownsRow w.heap.size 49 2 v' (Lo.spread s n l).length (rowL (Lo.spread s n l)) ∧ Below w.heap.size w w' := by
    intro E h0 hE c
    refine c.mono ?_
    rintro e w' ⟨rfl, b⟩
    refine ⟨_, by rw [hE], ?_, b⟩
    unfold Lo.spread
    rw [if_neg (by rw [hE]; exact h0)]
    exact World.ownsRow_nil _ _ _ _
  by_cases hp : Lo.peopledE l = 0
  · by_cases hn : n < 0 ∨ 4096 < n
    · exact bad 4 (by decide) (Lo.spread_bad2 hp hn) (lrspread_bad2 s n v l w hv hp hn)
    · exact lrspread_in s n v l w hv hp (by omega) (by omega)
  · exact bad _ hp (Lo.spread_bad1 hp) (lrspread_bad1 s n v l w hv hp)
end Go.Proofs.Ytcpcnajifdicmaa
