/- The contract of Back: a range over the library's way from the last octet to the first. -/
import Derived.RangeFuncNested
import Derived.RangeFuncBound
import Derived.RangeFuncCalls
import Derived.RangeFuncBox
import Derived.RangeFuncLeaves
import Derived.Shelf.Abstract
import Derived.Shelf.RegionOpen
import Derived.WalkKit
import Derived.OwnWalkIn
import Derived.TacticsInMore
import Derived.LoopNIn
import Derived.LoopIn
import Derived.Test.YtfbgbgblbkiniaaCallsB
namespace Go.Proofs.Ytfbgbgblbkiniaa
open Go.RowKit Go.Shelf

attribute [local go_sem] Oper.semAt_some

/-- The indices that have come, from the last on down to m. -/
def dn (len m : Nat) : List Nat := (List.range (len - m)).map (fun i => len - 1 - i)
theorem dn_len (len : Nat) : dn len len = [] := by simp [dn]
theorem dn_step {len m : Nat} (h : m < len) : dn len m = dn len (m + 1) ++ [m] := by
  unfold dn
  rw [show len - m = (len - (m + 1)) + 1 by omega, List.range_succ, List.map_append]
  congr 1
  simp
  omega
theorem dn_length (len m : Nat) : (dn len m).length = len - m := by simp [dn]

/-- What a round keeps: what lay below n₀, and the box of the slice. -/
def Kept (n₀ Bs : Nat) (A B : World) : Prop := Below n₀ A B ∧ B.cell? ⟨Bs, 0, none⟩ = A.cell? ⟨Bs, 0, none⟩
theorem Kept.refl (n₀ Bs : Nat) (A : World) : Kept n₀ Bs A A := ⟨Below.refl _ _, rfl⟩
theorem Kept.trans {n₀ Bs : Nat} {A B C : World} (h : Kept n₀ Bs A B) (k : Kept n₀ Bs B C) : Kept n₀ Bs A C := ⟨h.1.trans k.1, k.2.trans h.2⟩

set_option maxRecDepth 100000 in
set_option maxHeartbeats 2000000 in
theorem backward1_in (F : Fence) (n : Nat) (h30 : F.fn 30) (hro : F.round = none) (hn : 1 ≤ n) (l Bs n₀ b off len cap : Nat) (zs : List Int) (hlen : len ≤ 140737488355328) (hb : b < n₀) (J Jx : List Nat → World → Prop)
    (hY : ∀ (pre : List Nat) (x : Nat) (W : World), J pre W → pre.length < len → YieldAt F (n - 1) Try.prog l #[.int .i64 (x : Int), .int .u8 (zs[x]?.getD 0)] W fun e W' =>
      (e = .returned (.bool true) ∧ J (pre ++ [x]) W' ∧ Kept n₀ Bs W W') ∨ (e = .returned (.bool false) ∧ Jx (pre ++ [x]) W'))
    (W : World) (hBc : W.cell? ⟨Bs, 0, none⟩ = some (.slice (some ⟨b, off, none⟩) len cap)) (hc : ∀ j, j < len → W.cell? ⟨b, off + j, none⟩ = some (.int .u8 (zs[j]?.getD 0))) (h0 : J [] W) :
    CallsIn F n Try.prog 30 #[.func (.yield l) #[] #[], .pointer (some ⟨Bs, 0, none⟩)] W fun e W' => (∃ v, e = .returned v) ∧
      ((∃ ys, ys = dn len 0 ∧ J ys W') ∨ (∃ pre, True ∧ Jx pre W')) := by
  refine callsIn_of_wp Try.func30 rfl h30 ?_ hro
  simp only [Try.ntmps30, List.size_toArray, List.length_cons, List.length_nil, Nat.reduceAdd, Nat.reduceSub, Array.replicate_succ, Array.replicate_zero, List.push_toArray, List.append_toArray, List.nil_append, List.cons_append]
  gi_wp2
  gi_loopw [3] (fun i wr => ∃ (m : Nat) (z : Int), m ≤ len ∧ z + 1 = m ∧ i = .int .i64 z ∧ J (dn len m) wr ∧ Kept n₀ Bs W wr)
    (fun i _ => (intOf i + 1).toNat)
  case atStart => exact ⟨len, (len : Int) - 1, Nat.le_refl _, by omega, rfl, by rw [dn_len]; exact h0, Kept.refl _ _ _⟩
  case round =>
    obtain ⟨m, z, hm, hz, rfl, hJs, hnx⟩ := hrel
    cases m with
    | zero =>
      have hz1 : z = -1 := by omega
      subst hz1
      gi_wp2
      go_end0
      exact ⟨⟨_, rfl⟩, .inl ⟨_, rfl, hJs⟩⟩
    | succ k =>
      have hz1 : z = (k : Int) := by omega
      subst hz1
      have hcx := (hnx.1.cell (p := ⟨b, off + k, none⟩) hb).trans (hc k (by omega))
      have hbx := hnx.2.trans hBc
      obtain ⟨fn, tmps, assign, body, hy, hR⟩ := hY _ k wr hJs (by rw [dn_length]; omega)
      have hkl : (k : Int) < len := by omega
      gi_wp2
      refine hR.mono ?_
      rintro e W3 (⟨rfl, hJ3, hk3⟩ | ⟨rfl, hJx3⟩)
      · gi_wp2
        go_roundw
        case rel => exact ⟨k, (k : Int) - 1, by omega, by omega, rfl, by rw [dn_step (by omega)]; exact hJ3, hnx.trans hk3⟩
        case measure => simp [intOf]
      · gi_wp2
        refine bodyPost_ret (results_none rfl _ _ _) rfl ?_
        exact ⟨⟨_, rfl⟩, .inr ⟨_, trivial, hJx3⟩⟩

set_option maxRecDepth 100000 in
set_option maxHeartbeats 1000000 in
theorem backward1_nil_in (F : Fence) (n : Nat) (h30 : F.fn 30) (hro : F.round = none) (l Bs : Nat) (a : Option Addr) (cap : Nat) (J : List Nat → World → Prop) (W : World) (hBc : W.cell? ⟨Bs, 0, none⟩ = some (.slice a 0 cap)) (h0 : J [] W) :
    CallsIn F n Try.prog 30 #[.func (.yield l) #[] #[], .pointer (some ⟨Bs, 0, none⟩)] W fun e W' => (∃ v, e = .returned v) ∧ J [] W' := by
  refine callsIn_of_wp Try.func30 rfl h30 ?_ hro
  simp only [Try.ntmps30, List.size_toArray, List.length_cons, List.length_nil, Nat.reduceAdd, Nat.reduceSub, Array.replicate_succ, Array.replicate_zero, List.push_toArray, List.append_toArray, List.nil_append, List.cons_append]
  gi_wp2
  gi_loopw [3] (fun i wr => i = .int .i64 (-1) ∧ J [] wr) (fun _ _ => 0)
  case atStart => exact ⟨rfl, h0⟩
  case round =>
    obtain ⟨rfl, hJs⟩ := hrel
    gi_wp2
    go_end0
    exact ⟨⟨_, rfl⟩, hJs⟩

set_option maxHeartbeats 1000000 in
theorem backward_in (F : Fence) (n : Nat) (h28 : F.fn 28) (hro : F.round = none) (a : Option Addr) (len cap : Nat) (w : World) :
    CallsIn F n Try.prog 28 #[.slice a len cap] w fun e w' => e = .returned (.func (.func 30) #[] #[.pointer (some ⟨w.heap.size, 0, none⟩)]) ∧ w' = w.alloc (.cells #[.slice a len cap] 22) := by
  refine callsIn_of_wp Try.func28 rfl h28 ?_ hro
  simp only [Try.ntmps28, List.size_toArray, List.length_cons, List.length_nil, Nat.reduceAdd, Nat.reduceSub, Array.replicate_succ, Array.replicate_zero, List.push_toArray, List.append_toArray, List.nil_append, List.cons_append]
  gi_wp2
  go_ret
  exact ⟨rfl, rfl⟩

theorem backward_stops (F : Fence) (n : Nat) (h30 : F.fn 30) (hro : F.round = none) (hn : 1 ≤ n) (Bs n₀ : Nat) (sv : Value) (zs : List Int) (hlen : zs.length ≤ 140737488355328) (w w₀ : World) (hBs : Bs < w.heap.size) (hw : Below n₀ w₀ w) (hn₀ : w₀.heap.size = n₀) 
    (hc : w.cell? ⟨Bs, 0, none⟩ = some sv) (hI : Seg .u8 w₀ sv zs) :
    SeqStopsK F n Try.prog 30 #[.pointer (some ⟨Bs, 0, none⟩)] (fun x : Nat => #[Value.int .i64 (x : Int), Value.int .u8 (zs[x]?.getD 0)]) (Kept n₀ Bs) (fun ys => ys = dn zs.length 0) (fun _ => True) zs.length w := fun l J Jx W hW _ _ hY h0 => by
  have hc' := (hW.cell (p := ⟨Bs, 0, none⟩) hBs).trans hc
  have hz0 := hw.size
  obtain ⟨a, cap, rfl, h1, h2, h3, h4⟩ := hI
  by_cases hz : zs.length = 0
  · have hzs : zs = [] := List.length_eq_zero_iff.1 hz
    subst hzs
    exact (backward1_nil_in F n h30 hro l Bs a cap J W hc' h0).mono fun e W' ⟨he, hj⟩ => ⟨he, .inl ⟨_, rfl, hj⟩⟩
  · obtain ⟨b, off, rfl, hb, hcs⟩ := seg_at (by omega) h3 h4
    have hbw : Below n₀ w₀ W := hw.trans (hW.mono (by omega))
    refine backward1_in F n h30 hro hn l Bs n₀ b off zs.length cap zs hlen (by omega) J Jx hY W hc' (fun j hj => ?_) h0
    rw [hbw.cell (p := ⟨b, off + j, none⟩) (by show b < n₀; omega), hcs j hj]
    simp

theorem kept_t {n₀ Bs : Nat} {A B C : World} : Kept n₀ Bs A B → Kept n₀ Bs B C → Kept n₀ Bs A C := Kept.trans
theorem kept_b {n₀ Bs : Nat} {w : World} (h0 : n₀ ≤ w.heap.size) (h1 : Bs < w.heap.size) (W : World) (l : Nat) (o o' : Obj) (hl : w.heap.size ≤ l) (ho : W.heap[l]? = some o) (hc : o.isCells = false) (hk : o.isWalk = false) : Kept n₀ Bs W (W.putObj l o') := by
  refine ⟨belowK_b h0 W l o o' hl ho hc hk, ?_⟩
  have := belowK_b (n₀ := Bs + 1) (w := w) h1 W l o o' hl ho hc hk
  exact this.cell (p := ⟨Bs, 0, none⟩) (by simp)

/-- The register, gone back over the octets whose indices have come. -/
def gone (zs : List Int) (r : Nat) (pre : List Nat) : Nat := pre.foldl (fun r j => Pl.bt 8 r ^^^ (zs[j]?.getD 0).toNat) r
theorem gone_snoc (zs : List Int) (r : Nat) (pre : List Nat) (j : Nat) : gone zs r (pre ++ [j]) = Pl.bt 8 (gone zs r pre) ^^^ (zs[j]?.getD 0).toNat := by simp [gone]
theorem oct_at {zs : List Int} (ho : Pl.Octs zs) (j : Nat) : 0 ≤ zs[j]?.getD 0 ∧ zs[j]?.getD 0 ≤ 255 := by
  by_cases h : j < zs.length
  · have := ho zs[j] (by simp)
    simpa [h] using this
  · simp [h]
theorem gone_lt {zs : List Int} (ho : Pl.Octs zs) {r : Nat} (hr : r < 4294967296) (pre : List Nat) : gone zs r pre < 4294967296 := by
  induction pre generalizing r with
  | nil => exact hr
  | cons j pre ih =>
    have := oct_at ho j
    exact ih (Pl.xlt (Pl.bt_lt hr) (by omega))
theorem gone_drop (zs : List Int) (r : Nat) (d : Nat) (m : Nat) (h : m + d = zs.length) : gone zs r (dn zs.length m) = Pl.nur r (zs.drop m) := by
  induction d generalizing m with
  | zero =>
    obtain rfl : m = zs.length := by omega
    rw [dn_len, List.drop_length]
    rfl
  | succ d ih =>
    rw [dn_step (by omega), gone_snoc, ih (m + 1) (by omega), List.drop_eq_getElem_cons (show m < zs.length by omega), Pl.nur_cons]
    simp [show m < zs.length by omega]
theorem gone_all (zs : List Int) (r : Nat) : gone zs r (dn zs.length 0) = Pl.nur r zs := by
  rw [gone_drop zs r zs.length 0 (by omega), List.drop_zero]
end Go.Proofs.Ytfbgbgblbkiniaa
