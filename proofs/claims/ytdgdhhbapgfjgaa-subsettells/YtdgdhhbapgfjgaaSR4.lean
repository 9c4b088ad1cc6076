/- subset: the reference's Of, of any arguments; slices that lie apart. -/
import Derived.Test.YtdgdhhbapgfjgaaSR3
namespace Go.Proofs.Ytdgdhhbapgfjgaa
open Go.RowKit
set_option linter.unusedVariables false

theorem Sp.ofL_all {ids : List Int} {c k : Int} (s : Nat) (h : Sp.ofE ids c k = 0) (hk : (ids.length : Int) ≤ k) : Sp.ofL ids c k s = ids := by
  obtain ⟨h1, h2⟩ := Sp.of_zero h
  unfold Sp.ofL
  rw [if_pos h, plc_all _ _ _ s h2 hk, List.map_map]
  apply List.ext_getElem?
  intro j
  by_cases hj : j < ids.length
  · simp [hj, List.getD]
  · rw [List.getElem?_eq_none (by simp; omega), List.getElem?_eq_none (by omega)]
theorem Sp.ofL_srt {ids : List Int} {c k : Int} (s : Nat) (h : Sp.ofE ids c k = 0) : Sp.ofL ids c k s = Sp.srt ((Sp.cut ids.length c k s).map (Sp.at' ids)) := by
  obtain ⟨h1, h2⟩ := Sp.of_zero h
  obtain ⟨u1, u2, u3⟩ := Sp.ch_up h1
  have hu := Sp.ofL_up u3 (Sp.plc_up ids.length c k s) (fun z hz => Sp.plc_mem hz)
  unfold Sp.ofL
  rw [if_pos h]
  refine (Sp.srt_is (hu.imp (fun h => Int.le_of_lt h)) ?_).symm
  unfold Sp.plc
  rw [if_pos h2]
  exact (Sp.srt_perm _).map _

set_option maxRecDepth 20000 in
set_option maxHeartbeats 4000000 in
theorem rof_new (v : Value) (ids : List Int) (c k : Int) (s : Nat) (w : World) (hs : Seg .i64 w v ids) (hx : s < 18446744073709551616) :
    Calls Try.prog 11 #[v, .int .i64 c, .int .i64 k, .int .u64 s] w fun e w' => ∃ v', e = .returned (.tuple #[v', .int .i64 (Sp.ofE ids c k)]) ∧ Seg .i64 w' v' (Sp.ofL ids c k s) ∧ Below w.heap.size w w' ∧ FreshS w.heap.size v' := by
  have c0 := rising_any v ids w hs
  by_cases h32 : 32 < ids.length
  · have hE : Sp.ofE ids c k = 3 := by unfold Sp.ofE Sp.chE; rw [if_pos h32]; rfl
    have hL : Sp.ofL ids c k s = [] := Sp.ofL_none s (by rw [hE]; decide)
    rw [hE, hL]
    obtain ⟨a, cap, rfl, h1, h2, _, _⟩ := hs
    unfold maxLen at h2
    clear hE hL c0
    generalize ids.length = N at *
    have d1 : (32 : Int) < (N : Int) := by omega
    go_enter Try.func11, Try.ntmps11
    go_wp2
    go_ret2
    exact ⟨_, rfl, Seg.nil _ _, Below.refl _ _, FreshS.none _ _ _⟩
  by_cases hr : Sp.rises (-1) ids = true
  · rw [hr] at c0
    have hC : Sp.chE ids = 0 := by unfold Sp.chE; rw [if_neg h32, if_pos hr]
    have hE : Sp.ofE ids c k = Sp.rE ids.length c k := by unfold Sp.ofE; rw [if_neg (by simp [hC])]
    have c1 := fun w => rround_any ids.length c k w
    by_cases hR : Sp.rE ids.length c k = 0
    · obtain ⟨a1, a2, a3, a4, a5, a6, a7, a8, a9, a10, a11, a12⟩ := Sp.place_fits hR
      rw [hR] at c1
      by_cases hk : (ids.length : Int) ≤ k
      · rw [Sp.ofL_all s (by rw [hE, hR]) hk, hE, hR]
        have HS := hidD hs
        obtain ⟨a, cap, rfl, h1, h2, _, _⟩ := hs
        unfold maxLen at h2
        obtain ⟨N, hN⟩ : ∃ N, N = ids.length := ⟨_, rfl⟩
        have HN := hidD hN
        rw [← hN] at HS h1 h32 hk a3 c0 c1 ⊢
        generalize Sp.rR N c k = R at *
        generalize Sp.rP N c k = P at *
        clear hN hE hC hr a6 a7 a8 a9 a10 a11 a12 hR
        have d1 : ¬ (32 : Int) < (N : Int) := by omega
        go_enter Try.func11, Try.ntmps11
        go_wp2_with fail
        with_reducible refine c0.mono ?_
        rintro e w1 ⟨rfl, b1⟩
        go_wp2_with fail
        with_reducible refine (c1 w1).mono ?_
        rintro e w2 ⟨rfl, b2⟩
        have HS2 := hidD (HS.out.below (Below.step b1 b2))
        have B2 := Below.step b1 b2
        clear b1 b2 c0 c1 HS
        go_wp2_with (first | (at_builtin; refine wpList_append_ints _ rfl _ _ rfl w2.heap.size (.slice none 0 0) (.slice a N cap) [] ids rfl (World.ownsRow_nil _ _ _ _) rfl HS2.out (by have := HN.out; simp; omega) (Nat.le_refl _) ?_; intro v2 w6 hown' hB6 hgrow))
        go_ret2
        exact ⟨_, rfl, Seg.own (e := 3) (B := w2.heap.size) hown', Below.step B2 hB6, (row_fresh hown').lower B2.size⟩
      · obtain ⟨K, rfl⟩ := Int.eq_ofNat_of_zero_le (show 0 ≤ k by omega)
        obtain ⟨f, hf⟩ := Int.eq_ofNat_of_zero_le a12
        have hP : Sp.rP ids.length c K ≤ 32 := by
          have : Sp.rP ids.length c K * 1 ≤ Sp.rP ids.length c K * K := Int.mul_le_mul_of_nonneg_left a1 a6
          omega
        rw [Sp.ofL_srt s (by rw [hE, hR]), hE, hR]
        have hcut : Sp.cut ids.length c K s = (((Sp.ord ids.length c K s).map Int.ofNat).drop f).take K := by
          unfold Sp.cut
          rw [hf]
          rfl
        rw [hcut]
        have h8 := a8 (by omega)
        refine rof_v v ids c s w K f _ _ (Hp.ints s [Sp.rR ids.length c K]) (Hp.skip (Hp.ints s [Sp.rR ids.length c K]) (ids.length - 1)) _ hs (by omega) (by omega) (by omega) hf a6 hP (by omega) (Sp.ord_length _ _ _ _) (fun z hz => ?_) c0 c1 (fun w => rints1 s _ w hx) (fun w => ?_)
        · obtain ⟨x, hx, rfl⟩ := List.mem_map.1 hz
          have := Hp.order_lt hx
          exact ⟨Int.natCast_nonneg _, by simpa using this⟩
        · refine (rshuffle_good (Hp.ints s [Sp.rR ids.length c K]) ids.length w (Hp.ints_lt hx _) (by omega)).mono ?_
          rintro e w' ⟨v', rfl, row, b⟩
          refine ⟨v', rfl, Seg.own (e := 3) (B := w.heap.size) ?_, b⟩
          rw [nrow_ints] at row
          rw [Sp.ord_length]
          exact row
    · rw [hE, Sp.ofL_none s (by rw [hE]; exact hR)]
      obtain ⟨a, cap, rfl, h1, h2, _, _⟩ := hs
      unfold maxLen at h2
      clear hE hC hr
      generalize Sp.rE ids.length c k = E at *
      generalize Sp.rR ids.length c k = R at *
      generalize Sp.rP ids.length c k = P at *
      generalize ids.length = N at *
      have d1 : ¬ (32 : Int) < (N : Int) := by omega
      go_enter Try.func11, Try.ntmps11
      go_wp2_with fail
      with_reducible refine c0.mono ?_
      rintro e w1 ⟨rfl, b1⟩
      go_wp2_with fail
      with_reducible refine (c1 w1).mono ?_
      rintro e w2 ⟨rfl, b2⟩
      go_wp2
      go_ret2
      exact ⟨_, rfl, Seg.nil _ _, Below.step b1 b2, FreshS.none _ _ _⟩
  · have hE : Sp.ofE ids c k = 9 := by unfold Sp.ofE Sp.chE; rw [if_neg h32, if_neg hr]; rfl
    rw [hE, Sp.ofL_none s (by rw [hE]; decide)]
    rw [show Sp.rises (-1) ids = false from by simpa using hr] at c0
    obtain ⟨a, cap, rfl, h1, h2, _, _⟩ := hs
    unfold maxLen at h2
    clear hE hr
    generalize ids.length = N at *
    have d1 : ¬ (32 : Int) < (N : Int) := by omega
    go_enter Try.func11, Try.ntmps11
    go_wp2_with fail
    with_reducible refine c0.mono ?_
    rintro e w1 ⟨rfl, b1⟩
    go_wp2
    go_ret2
    exact ⟨_, rfl, Seg.nil _ _, b1, FreshS.none _ _ _⟩

theorem rof_any (v : Value) (ids : List Int) (c k : Int) (s : Nat) (w : World) (hs : Seg .i64 w v ids) (hx : s < 18446744073709551616) :
    Calls Try.prog 11 #[v, .int .i64 c, .int .i64 k, .int .u64 s] w fun e w' => ∃ v', e = .returned (.tuple #[v', .int .i64 (Sp.ofE ids c k)]) ∧ Seg .i64 w' v' (Sp.ofL ids c k s) ∧ Below w.heap.size w w' :=
  (rof_new v ids c k s w hs hx).mono fun _ _ ⟨v', h1, h2, h3, _⟩ => ⟨v', h1, h2, h3⟩

theorem Seg.apart {w w' : World} {g : Nat} {a : Option Addr} {n cap : Nat} {l : List Int} (hs : Seg .i64 w (.slice a n cap) l) (hg : w.grownBy w' (some g)) (hf : ∀ x, a = some x → x.block ≠ g) : Seg .i64 w' (.slice a n cap) l := by
  obtain ⟨a', c', he, h1, h2, h3, h4⟩ := hs
  cases he
  refine ⟨a, cap, rfl, h1, h2, h3, fun x hx i hi => ?_⟩
  have h5 := h4 x hx i hi
  have hb : (x.add i).block = x.block := by unfold Addr.add; split <;> rfl
  rw [World.cell?_of_block (hg.block (x.add i).block (World.block_lt_of_cell? w _ h5) (fun e => hf x hx (by rw [← hb]; cases e; rfl)))]
  exact h5
end Go.Proofs.Ytdgdhhbapgfjgaa
