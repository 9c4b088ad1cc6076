/- ring: Shares. -/
import Derived.Test.YtekmcooghkchpaaRN
import Derived.Test.YtekmcooghkchpaaRWp
import Derived.Maps.OwnOps
import Derived.Shelf.SortM.Plain
import Derived.Shelf.SlGeneric
import Derived.Ground.SlgmProg
import Derived.Carry
namespace Go.Proofs
open Go.Shelf
shelf_lay_g SlLaysM.n5 Slgm 5 at Try 35 as Try.sortI
end Go.Proofs
namespace Go.Proofs.Ytekmcooghkchpaa
open Go.RowKit Go.Sort Go.Shelf

def Rp.key (k : Nat) : Int := (Hp.ints 2 [(k : Int)] : Nat)
def Rp.cnt (r : List Rp.Pt) (k : Nat) (y : Int) : Nat := (List.range k).countP (fun j => decide (Rp.owner r (Rp.key j) = y))
theorem Rp.cnt_succ (r : List Rp.Pt) (k : Nat) (y : Int) : Rp.cnt r (k + 1) y = Rp.cnt r k y + if Rp.owner r (Rp.key k) = y then 1 else 0 := by
  unfold Rp.cnt
  rw [List.range_succ, List.countP_append]
  simp [List.countP_cons]
theorem Rp.cnt_le (r : List Rp.Pt) (k : Nat) (y : Int) : Rp.cnt r k y ≤ k := by
  unfold Rp.cnt
  have := List.countP_le_length (p := fun j => decide (Rp.owner r (Rp.key j) = y)) (l := List.range k)
  simpa using this
def Rp.ids (r : List Rp.Pt) : List Int := (Rp.walkL r 0).mergeSort fun x y => decide (x ≤ y)
def Rp.sharesE (r : List Rp.Pt) (keys : Int) : Int := if Rp.peopledE r ≠ 0 then Rp.peopledE r else if keys < 0 ∨ 4096 < keys then 4 else 0
def Rp.sharesL (r : List Rp.Pt) (keys : Int) : List Int := if Rp.sharesE r keys = 0 then (Rp.ids r).map (fun y => (Rp.cnt r keys.toNat y : Int)) else []

theorem mown_below {W W' : World} {k : TypeId} {R : Value → Option (DataW Unit × List MemPlace)} {b n : Nat} {D : DataW Unit} (h : W.ownsMap Try.prog k R b n D) (hb : Below W.heap.size W W') : W'.ownsMap Try.prog k R b n D :=
  h.kept (row := none) ⟨hb.os, hb.tape, hb.output, hb.size, fun k hk _ => hb.block k hk⟩ (by simp)
theorem zero3 {w : World} : (zeroValue 3).run Try.prog w = .ok (.int .i64 0) w := by kernel_rfl
theorem wf_of {x : Int} (h1 : -9223372036854775808 ≤ x) (h2 : x ≤ 9223372036854775807) : (Lit.int .i64 x).wf = true := by
  have e1 : IntKind.i64.min = -9223372036854775808 := by decide
  have e2 : IntKind.i64.max = 9223372036854775807 := by decide
  show (decide (IntKind.i64.min ≤ x) && decide (x ≤ IntKind.i64.max)) = true
  rw [e1, e2, Bool.and_eq_true, decide_eq_true_iff, decide_eq_true_iff]
  exact ⟨h1, h2⟩

theorem lit_inj {a b : Int} (h : (DataW.lit (.int .i64 a) : DataW Unit) = .lit (.int .i64 b)) : a = b := by
  injection h with h
  injection h
/-- Sorting numbers that one owns. -/
theorem sort_ints (n₀ : Nat) (W : World) (g cap : Nat) (d : List Int) (hd : d.length ≤ 100000) (h : W.ownsRow n₀ 3 1 (.slice (some ⟨g, 0, none⟩) d.length cap) d.length (i64s d)) :
    Calls Try.prog 35 #[.slice (some ⟨g, 0, none⟩) d.length cap] W fun e w' => e = .returned (.tuple #[]) ∧ w'.ownsRow n₀ 3 1 (.slice (some ⟨g, 0, none⟩) d.length cap) d.length (i64s (d.mergeSort fun x y => decide (x ≤ y))) ∧ W.grownBy w' (some g) := by
  rcases h.2 with ⟨h1, _⟩ | ⟨g3, cap3, cur, h1, hge, hgb, hle, hmx, hsz, htk⟩
  · cases h1
  · cases h1
    have hg : g < W.heap.size := (Array.getElem?_eq_some_iff.1 hgb).1
    have hH : Holds (Value.int .i64) W g 0 d.toArray := by
      intro j hj
      have hj' : j < d.length := by simpa using hj
      rw [Nat.zero_add]
      refine ⟨?_, h.frozenAt j⟩
      rw [h.cellAt j (by omega)]
      simp [hj']
    have c := AnyM.slices_Sort_int Try.sortI g 0 cap d W hH hg (by omega)
    change Calls Try.prog 35 _ _ _ at c
    refine c.mono ?_
    rintro e w' ⟨rfl, n, os, rfl⟩
    have hlen : (d.mergeSort fun x y => decide (x ≤ y)).length = d.length := List.length_mergeSort d
    have hgrow : W.grownBy (grow (putRow (Value.int .i64) (Sort.ahead W n) g 0 (d.mergeSort fun x y => decide (x ≤ y)).toArray) os) (some g) := by
      refine ⟨rfl, rfl, rfl, ?_, fun k hk hne => ?_⟩
      · simp [grow, putRow, mapBlock, Sort.ahead]
      · have hne' : g ≠ k := fun e => hne (by rw [e])
        simp only [grow, putRow, mapBlock, Sort.ahead]
        rw [Array.getElem?_append_left (by simpa using hk), Array.getElem?_modify, if_neg hne']
    refine ⟨rfl, ⟨by simp [hlen], .inr ⟨g, cap, putCells (Value.int .i64) 0 (d.mergeSort fun x y => decide (x ≤ y)).toArray cur, rfl, hge, ?_, hle, hmx, by simp [putCells, hsz], ?_⟩⟩, hgrow⟩
    · simp only [grow, putRow, mapBlock, Sort.ahead]
      rw [Array.getElem?_append_left (by simpa using hg), Array.getElem?_modify, if_pos rfl, hgb]
      rfl
    · apply List.ext_getElem?
      intro j
      by_cases hj : j < d.length
      · have hj2 : j < cur.size := by rw [hsz]; omega
        rw [List.getElem?_take_of_lt (by omega), Array.getElem?_toList]
        simp only [putCells, Array.getElem?_mapIdx, Array.getElem?_eq_getElem hj2, Option.map_some]
        rw [if_pos ⟨Nat.zero_le _, by simp [hlen]; omega⟩]
        simp [hlen, hj]
      · rw [List.getElem?_eq_none (by simp; omega), List.getElem?_eq_none (by simp [hlen]; omega)]

set_option maxRecDepth 100000 in
set_option maxHeartbeats 8000000 in
theorem shares_v (v : Value) (r : List Rp.Pt) (K : Nat) (U V : List Int) (w : World) (hv : PSeg .u64 w v r) (hK : K ≤ 4096) (hU : U.length ≤ 1024) (hU0 : 0 < U.length) (hVU : V = U.mergeSort fun x y => decide (x ≤ y)) (hwf : ∀ y ∈ V, (Lit.int .i64 y).wf = true) (how : ∀ h : Int, (Lit.int .i64 (Rp.owner r h)).wf = true)
    (CW : Calls Try.prog 14 #[v, .int .u64 0] w fun e w' => ∃ v', e = .returned (.tuple #[v', .int .i64 0]) ∧ w'.ownsRow w.heap.size 3 1 v' U.length (i64s U) ∧ Below w.heap.size w w')
    (CO : ∀ (h : Int) (w' : World), PSeg .u64 w' v r → Calls Try.prog 32 #[v, .int .u64 h] w' fun e w'' => e = .returned (.int .i64 (Rp.owner r h)) ∧ Below w'.heap.size w' w'') :
    Calls Try.prog 16 #[v, .int .i64 (K : Int)] w fun e w' => ∃ v', e = .returned (.tuple #[v', .int .i64 0]) ∧ Seg .i64 w' v' (V.map fun y => (Rp.cnt r K y : Int)) ∧ Below w.heap.size w w' := by
  have HV := hidD hv
  obtain ⟨ra, rcap, hveq, -⟩ := id hv
  obtain ⟨N, hN⟩ : ∃ N, N = r.length := ⟨_, rfl⟩
  rw [← hN] at hveq
  subst hveq
  clear hN hv
  obtain ⟨M, hM⟩ : ∃ M, M = U.length := ⟨_, rfl⟩
  have HM := hidD hM
  have hVl : V.length = M := by rw [hVU, List.length_mergeSort, hM]
  have HVU := hidD hVU
  have HWF := hidD hwf
  have HOW := hidD how
  have hmm := @run_makeMap Try.prog
  rw [← hM] at CW hU hU0
  clear hM hVU hwf how
  go_enter Try.func16, Try.ntmps16
  go_wp2_with fail
  with_reducible refine CW.mono ?_
  rintro e w1 ⟨v1, rfl, o1, b1⟩
  clear CW
  obtain ⟨ug, ucap, rfl⟩ : ∃ ug ucap, v1 = .slice (some ⟨ug, 0, none⟩) M ucap := by
    rcases o1.2 with ⟨rfl, h0⟩ | ⟨gg, cc, cur, rfl, _⟩
    · omega
    · exact ⟨_, _, rfl⟩
  have hugl := (o1.lt ug rfl).2
  have hb1 := b1.size
  have hom := World.ownsMap_made w1 Try.prog 3 (plainElem (H := Unit) Try.prog 3)
  have HO1 := hidD (o1.alloc (.map #[] 0))
  have HB1 := hidD (b1.alloc hb1 (.map #[] 0))
  have HOM := hidD hom
  clear o1 b1 hom
  go_wp2_with fail
  go_loopw [29] (fun i wr => ∃ k : Nat, k ≤ K ∧ i = .int .i64 k ∧ wr.ownsRow w.heap.size 3 1 (.slice (some ⟨ug, 0, none⟩) M ucap) M (i64s U) ∧ Below w.heap.size w wr ∧ w1.heap.size < wr.heap.size ∧ ∃ D : DataW Unit, wr.ownsMap Try.prog 3 (plainElem Try.prog 3) w1.heap.size k D ∧ Hid (∀ y : Int, (Lit.int .i64 y).wf = true → D.atKey (.int .i64 y) (.lit (.int .i64 0)) = .lit (.int .i64 (Rp.cnt r k y : Nat)))) (fun i _ => K - (intOf i).toNat)
  case atStart => exact ⟨0, Nat.zero_le _, rfl, HO1.out, HB1.out, by simp, .map [], HOM.out, hidD (fun y _ => by rfl)⟩
  case round =>
    obtain ⟨k, hk, rfl, hrow, hbl, hsz, D, hown, hD⟩ := hrel
    by_cases hlt : k < K
    · obtain ⟨o, ho⟩ : ∃ o, o = Rp.owner r (Rp.key k) := ⟨_, rfl⟩
      have how := HOW.out (Rp.key k)
      rw [← ho] at how
      obtain ⟨C, hC⟩ : ∃ C, C = Rp.cnt r k o := ⟨_, rfl⟩
      have hat0 := hD.out o how
      rw [← hC] at hat0
      have hCk : C ≤ k := by rw [hC]; exact Rp.cnt_le r k o
      have hw1 : IntKind.i64.wrap ((C : Int) + 1) = ((C + 1 : Nat) : Int) := by rw [IntKind.wrap_i64]; omega
      have hD2 : Hid (∀ y : Int, (Lit.int .i64 y).wf = true → (D.put (.int .i64 o) (.lit (.int .i64 ((C + 1 : Nat) : Int)))).atKey (.int .i64 y) (.lit (.int .i64 0)) = .lit (.int .i64 (Rp.cnt r (k + 1) y : Nat))) := hidD (fun y hy => by
        rw [Rp.cnt_succ, ← ho]
        by_cases hyo : o = y
        · subst hyo
          rw [Maps.atKey_put_same hown.isMap (keyLit o), if_pos rfl, hC]
        · rw [Maps.atKey_put_other (fun e => hyo (by injection e with _ e; exact e.symm)), hD.out y hy, if_neg hyo]
          rfl)
      have hwfC : (Lit.int .i64 ((C + 1 : Nat) : Int)).wf = true := wf_of (by omega) (by omega)
      have cI := ints1 2 (k : Int) wr (by decide)
      have cO := fun w3 (b : Below wr.heap.size wr w3) => CO (Rp.key k) w3 (HV.out.below (Below.step hbl b))
      rw [← ho] at cO
      have HBL := hidD hbl
      have HROW := hidD hrow
      have HC := hidD hC
      clear ho hC hD hbl hrow
      have hkey : Rp.key k = ((Hp.ints 2 [(k : Int)] : Nat) : Int) := rfl
      rw [hkey] at cO
      clear hkey
      generalize Hp.ints 2 [(k : Int)] = hh at *
      go_wp2_with fail
      refine cI.mono ?_
      rintro e w3 ⟨rfl, b3⟩
      have cO2 := cO w3 b3
      clear cO cI
      go_wp2_with fail
      with_reducible refine cO2.mono ?_
      rintro e w4 ⟨rfl, b4⟩
      have b34 := Below.step b3 b4
      have hown4 := mown_below hown b34
      have row4 := own_below HROW.out b34
      have B4 := Below.step HBL.out b34
      have hs4 := b34.size
      clear cO2 b3 b4 b34 hown
      go_wp2_with (first | (at_lookup; refine wpList_lookup_own_int _ rfl _ _ 73 rfl 3 3 .i64 (Maps.int_keyed Try.underlying3) Try.underlying73 Try.underlying3 zero3 w1.heap.size k D rfl hown4 _ _ rfl (Maps.keyOf_int_mk Try.underlying3 how) ?_; intro c hat hwc; rw [hat0] at hat; have hcC := lit_inj hat; subst hcC) | (at_mapUpdate; refine wpList_mapUpdate_own _ rfl _ _ _ 73 rfl 3 3 (Maps.int_keyed Try.underlying3) Try.underlying73 _ w1.heap.size k D rfl hown4 (by unfold maxLen; omega) _ _ _ rfl rfl (Maps.keyOf_int_mk Try.underlying3 how) (.lit (.int .i64 ((C + 1 : Nat) : Int))) [] (plainElem_int Try.underlying3 hwfC) ?_; intro w5 hown5 hg5))
      have row5 := row4.kept hg5 (map_not_row hown4.here row4)
      have B5 := B4.grown hg5 (by omega) (fun j e => by cases e; omega)
      have hs5 := hg5.size
      clear hown4 row4 B4 hg5
      go_wp2
      exact ⟨⟨k + 1, by omega, by go_num, row5, B5, by omega, _, hown5, hD2⟩, by simp [intOf]; omega⟩
    · obtain rfl : k = K := by omega
      rw [HM.out] at hrow
      have cS := sort_ints w.heap.size wr ug ucap U (by have := HM.out; omega) hrow
      rw [← HVU.out, ← HM.out] at cS
      have hugM : ug ≠ w1.heap.size := by omega
      have hugB := (hrow.lt ug rfl).1
      have HD := hidD hD.out
      clear CO hrow hD
      go_wp2_with fail
      with_reducible refine cS.mono ?_
      rintro e w3 ⟨rfl, row3, hg3⟩
      have hown3 := hown.kept hg3 (by simp; omega)
      have B3 := hbl.grown hg3 hbl.size (fun j e => by cases e; exact hugB)
      have hs3 := hg3.size
      clear cS hown hbl hg3
      obtain ⟨i0, hi, hz0, hz1, hz2⟩ := info_parts Try.infoI
      obtain ⟨w4, hmk, hown4, hg4⟩ := run_make_full (P := Try.prog) w3 w3.heap.size 35 3 i0 (.int .i64 0) 1 Try.underlying35 hi hz0 hz1 .i64 .i64 M (by rw [hz2]; omega) (by unfold maxLen; omega) (Nat.le_refl _)
      have row4 := row3.kept hg4 (by cases hv : (Value.slice (some ⟨ug, 0, none⟩) M ucap).ownBlock <;> simp)
      have hmap4 := hown3.kept hg4 (by simp)
      have B4 := B3.grown hg4 B3.size (fun j e => by cases e)
      have hs4 := hg4.size
      have hG4 := (hown4.lt w3.heap.size rfl).2
      have hb3 := B3.size
      clear hg4 hi hz0 hz1 hz2 row3 hown3 B3
      go_wp2_with fail
      obtain ⟨G, hG⟩ : ∃ G, G = w3.heap.size := ⟨_, rfl⟩
      rw [← hG] at hown4 hG4 hs3 hs4 hb3 ⊢
      have hMbG : w1.heap.size < G := by omega
      have hugG : ug < G := by omega
      clear hG hmk
      go_loopw [48] (fun i wr => ∃ q : Nat, q ≤ M ∧ i = .int .i64 q ∧ (∃ ys : List Value, wr.ownsRow G 3 1 (.slice (some ⟨G, 0, none⟩) M M) M ys ∧ Hid (∀ j, j < q → ys[j]? = some (.int .i64 (Rp.cnt r k (V.getD j 0) : Nat)))) ∧ wr.ownsRow w.heap.size 3 1 (.slice (some ⟨ug, 0, none⟩) M ucap) M (i64s V) ∧ wr.ownsMap Try.prog 3 (plainElem Try.prog 3) w1.heap.size k D ∧ Below w.heap.size w wr) (fun i _ => M - (intOf i).toNat)
      case atStart => exact ⟨0, Nat.zero_le _, rfl, ⟨_, hown4, hidD (fun j hj => by omega)⟩, row4, hmap4, B4⟩
      case round =>
        clear hown4 row4 hmap4 B4
        obtain ⟨q, hq, rfl, ⟨ys, hys, HY⟩, hids, hmap, hbz⟩ := hrel
        by_cases hlq : q < M
        · have hyl : ys.length = M := by have := hys.1; omega
          have hat0 := HD.out (V.getD q 0) (HWF.out _ (by rw [show V.getD q 0 = V[q]'(by omega) from by simp [List.getD, hVl, hlq]]; exact List.getElem_mem _))
          have hwy := HWF.out (V.getD q 0) (by rw [show V.getD q 0 = V[q]'(by omega) from by simp [List.getD, hVl, hlq]]; exact List.getElem_mem _)
          have Q1 : wr.cell? ⟨ug, q, none⟩ = some (.int .i64 (V.getD q 0)) := by
            rw [hids.cellAt q (by omega)]
            simp [List.getD, hVl, hlq]
          obtain ⟨z, hc⟩ : ∃ z, wr.cell? ⟨G, q, none⟩ = some z := ⟨ys[q]'(by omega), by rw [hys.cellAt q (by omega), List.getElem?_eq_getElem (by omega)]⟩
          have hf := hys.frozenAt q
          obtain ⟨C, hC⟩ : ∃ C, C = Rp.cnt r k (V.getD q 0) := ⟨_, rfl⟩
          rw [← hC] at hat0
          have HY2 : Hid (∀ j, j < q + 1 → (ys.set q (.int .i64 (C : Int)))[j]? = some (.int .i64 (Rp.cnt r k (V.getD j 0) : Nat))) := by
            intro j hj
            by_cases hjk : j = q
            · subst hjk
              rw [List.getElem?_set_self (by omega), hC]
            · rw [List.getElem?_set_ne (by omega)]
              exact HY.out j (by omega)
          have hst := hys.stored q (.int .i64 (C : Int))
          have HO2 := hidD hst.1
          have hids2 := hidD (hids.kept hst.2 (.inr (by simp [Value.ownBlock]; omega)))
          have hmap2 := hidD (hmap.kept hst.2 (by simp; omega))
          have hbz2 := hidD (hbz.grown hst.2 hbz.size (fun j e => by cases e; omega))
          have i1 : (q : Int) < (M : Int) := by omega
          clear hst hys HY hC hyl hids hbz
          generalize V.getD q 0 = y at *
          go_wp2_with (first | (at_lookup; refine wpList_lookup_own_int _ rfl _ _ 73 rfl 3 3 .i64 (Maps.int_keyed Try.underlying3) Try.underlying73 Try.underlying3 zero3 w1.heap.size k D rfl hmap _ _ rfl (Maps.keyOf_int_mk Try.underlying3 hwy) ?_; intro c hat hwc; rw [hat0] at hat; have hcC := lit_inj hat; subst hcC))
          exact ⟨⟨q + 1, by omega, by go_num, ⟨_, HO2.out, HY2⟩, hids2.out, hmap2.out, hbz2.out⟩, by simp [intOf]; omega⟩
        · have hyl : ys.length = M := by have := hys.1; omega
          have hye : ys = i64s (V.map fun y => (Rp.cnt r k y : Int)) := by
            apply List.ext_getElem?
            intro j
            by_cases hj : j < M
            · rw [HY.out j (by omega)]
              simp [List.getD, hVl, hj]
            · rw [List.getElem?_eq_none (by omega), List.getElem?_eq_none (by simp [hVl]; omega)]
          have hfl : (V.map fun y => (Rp.cnt r k y : Int)).length = M := by simp [hVl]
          have hseg : Seg .i64 wr (.slice (some ⟨G, 0, none⟩) M M) (V.map fun y => (Rp.cnt r k y : Int)) := by
            refine Seg.own (e := 3) (B := G) ?_
            rw [hfl]
            rw [hye] at hys
            exact hys
          have HSEG := hidD hseg
          clear hye hfl hseg hys HY hyl hids hmap
          go_wp2
          refine bodyPost_ret (results_tmp2 rfl _ _ _) rfl ?_
          exact ⟨_, rfl, HSEG.out, hbz⟩

theorem shares_bad1 (v : Value) (E keys : Int) (w : World) (a : Option Addr) (n c : Nat) (hv : v = .slice a n c) (hE : E ≠ 0)
    (CW : Calls Try.prog 14 #[v, .int .u64 0] w fun e w' => ∃ v', e = .returned (.tuple #[v', .int .i64 E]) ∧ Below w.heap.size w w') :
    Calls Try.prog 16 #[v, .int .i64 keys] w fun e w' => e = .returned (.tuple #[.slice none 0 0, .int .i64 E]) ∧ Below w.heap.size w w' := by
  subst hv
  have hb : (E != 0) = true := by simpa using hE
  go_enter Try.func16, Try.ntmps16
  go_wp2_with fail
  with_reducible refine CW.mono ?_
  rintro e w1 ⟨v1, rfl, b1⟩
  go_wp2
  refine bodyPost_ret (results_tmp2 rfl _ _ _) rfl ?_
  exact ⟨rfl, b1⟩
theorem shares_bad2 (v : Value) (keys : Int) (w : World) (a : Option Addr) (n c : Nat) (hv : v = .slice a n c) (hk : keys < 0 ∨ 4096 < keys)
    (CW : Calls Try.prog 14 #[v, .int .u64 0] w fun e w' => ∃ v', e = .returned (.tuple #[v', .int .i64 0]) ∧ Below w.heap.size w w') :
    Calls Try.prog 16 #[v, .int .i64 keys] w fun e w' => e = .returned (.tuple #[.slice none 0 0, .int .i64 4]) ∧ Below w.heap.size w w' := by
  subst hv
  by_cases h1 : keys < 0
  · clear hk
    go_enter Try.func16, Try.ntmps16
    go_wp2_with fail
    with_reducible refine CW.mono ?_
    rintro e w1 ⟨v1, rfl, b1⟩
    go_wp2
    refine bodyPost_ret (results_tmp2 rfl _ _ _) rfl ?_
    exact ⟨rfl, b1⟩
  · have h2 : 4096 < keys := by omega
    clear hk
    go_enter Try.func16, Try.ntmps16
    go_wp2_with fail
    with_reducible refine CW.mono ?_
    rintro e w1 ⟨v1, rfl, b1⟩
    go_wp2
    refine bodyPost_ret (results_tmp2 rfl _ _ _) rfl ?_
    exact ⟨rfl, b1⟩

theorem Rp.round_length (r : List Rp.Pt) (h : Int) : (Rp.roundL r h).length = r.length := by simp [Rp.roundL]
theorem Rp.walk_le (r : List Rp.Pt) (h : Int) : (Rp.walkL r h).length ≤ r.length := by
  unfold Rp.walkL
  split
  · have := Rp.uniq_length (Rp.roundL r h)
    rw [Rp.round_length] at this
    exact this
  · simp

theorem shares_any (v : Value) (r : List Rp.Pt) (keys : Int) (w : World) (hv : PSeg .u64 w v r) (hwf : ∀ p ∈ r, (Lit.int .i64 p.2).wf = true) :
    Calls Try.prog 16 #[v, .int .i64 keys] w fun e w' => ∃ v', e = .returned (.tuple #[v', .int .i64 (Rp.sharesE r keys)]) ∧ Seg .i64 w' v' (Rp.sharesL r keys) ∧ Below w.heap.size w w' := by
  have cw := walk_any v r 0 w hv hwf
  obtain ⟨a, cap, hveq, -⟩ := id hv
  by_cases h1 : Rp.peopledE r = 0
  · rw [h1] at cw
    by_cases h2 : keys < 0 ∨ 4096 < keys
    · have hE : Rp.sharesE r keys = 4 := by unfold Rp.sharesE; rw [if_neg (by omega), if_pos h2]
      have hL : Rp.sharesL r keys = [] := if_neg (by rw [hE]; omega)
      refine (shares_bad2 v keys w _ _ _ hveq h2 (cw.mono fun _ _ ⟨v', h1, _, _, h2⟩ => ⟨v', h1, h2⟩)).mono ?_
      rintro e w' ⟨rfl, b⟩
      rw [hE, hL]
      exact ⟨_, rfl, Seg.nil _ _, b⟩
    · have hE : Rp.sharesE r keys = 0 := by unfold Rp.sharesE; rw [if_neg (by omega), if_neg h2]
      have hL : Rp.sharesL r keys = (Rp.ids r).map (fun y => (Rp.cnt r keys.toNat y : Int)) := if_pos hE
      obtain ⟨p1, p2, p3, p4⟩ := Rp.people_ok h1
      obtain ⟨t, ht⟩ := Rp.walk_head 0 h1
      have hk : keys = ((keys.toNat : Nat) : Int) := by omega
      have hids : ∀ y ∈ Rp.ids r, (Lit.int .i64 y).wf = true := by
        intro y hy
        unfold Rp.ids at hy
        rw [List.mem_mergeSort, Rp.walk_mem 0 h1] at hy
        obtain ⟨p, hp, rfl⟩ := hy
        exact hwf p hp
      have how : ∀ h : Int, (Lit.int .i64 (Rp.owner r h)).wf = true := by
        intro h
        obtain ⟨p, hp, e⟩ := Rp.owner_mem h p1
        rw [e]
        exact hwf p hp
      have c := shares_v v r keys.toNat (Rp.walkL r 0) (Rp.ids r) w hv (by omega) (by have := Rp.walk_le r 0; omega) (by rw [ht]; simp) rfl hids how (cw.mono fun _ _ ⟨v', h1, _, h3, h2⟩ => ⟨v', h1, h3, h2⟩) (fun h w' hv' => owner_any v r h w' hv' p1 p2 p3)
      rw [← hk] at c
      rw [hE, hL]
      exact c
  · have hE : Rp.sharesE r keys = Rp.peopledE r := by unfold Rp.sharesE; rw [if_pos h1]
    have hL : Rp.sharesL r keys = [] := if_neg (by rw [hE]; exact h1)
    refine (shares_bad1 v (Rp.peopledE r) keys w _ _ _ hveq h1 (cw.mono fun _ _ ⟨v', h1, _, _, h2⟩ => ⟨v', h1, h2⟩)).mono ?_
    rintro e w' ⟨rfl, b⟩
    rw [hE, hL]
    exact ⟨_, rfl, Seg.nil _ _, b⟩
end Go.Proofs.Ytekmcooghkchpaa
