/- The reference's writer, while nothing is wrong: decimal, need, name, number, kind. -/
import Derived.Test.YtdbgncdnffbhkaaGreatDoorCutNB
import Derived.Test.YtdbgncdnffbhkaaGreatDoorCutNC
import Derived.Test.YtdbgncdnffbhkaaGreatDoorCutPut18
namespace Go.Proofs.YtdbgncdnffbhkaaGreatDoor
open Go.RowKit
set_option maxRecDepth 20000

set_option maxHeartbeats 4000000 in
theorem rdecimal_any (f : Nat) : ∀ (n : Nat), n < 10 ^ (f + 1) → n ≤ 999999999 → ∀ (w : World), Calls Tryz.prog 90 #[.int .i64 (n : Int)] w fun e w' => ∃ s, e = .returned (.string s) ∧ bl s = Pl.decS (f + 1) n ∧ Below w.heap.size w w' := by
  induction f with
  | zero =>
    intro n h _ w
    have h10 : n < 10 := by simpa using h
    refine (rdec_one n h10 w).mono ?_
    rintro e w' ⟨s, rfl, hs, hb⟩
    exact ⟨s, rfl, by rw [hs, Pl.decS, if_pos h10], hb⟩
  | succ f ih =>
    intro n h h9 w
    by_cases h10 : n < 10
    · refine (rdec_one n h10 w).mono ?_
      rintro e w' ⟨s, rfl, hs, hb⟩
      exact ⟨s, rfl, by rw [hs, Pl.decS, if_pos h10], hb⟩
    · have hq : n / 10 < 10 ^ (f + 1) := by
        rw [Nat.pow_succ] at h
        exact Nat.div_lt_of_lt_mul (by rw [Nat.mul_comm]; exact h)
      have h1 := ih (n / 10) hq (by omega) w
      have h2 := fun W => rdec_one (n % 10) (by omega) W
      have hl := Pl.decS_len (f + 1) (n / 10) 9 (by omega) (by omega)
      have hR : Pl.decS (f + 1 + 1) n = Pl.decS (f + 1) (n / 10) ++ [48 + n % 10] := by rw [Pl.decS, if_neg h10]
      rw [hR]
      have hlt : ¬ (n : Int) < 10 := by omega
      have e1 : (n : Int).tdiv 10 = ((n / 10 : Nat) : Int) := by rw [Int.tdiv_eq_ediv_of_nonneg (by omega)]; omega
      have e2 : (n : Int).tmod 10 = ((n % 10 : Nat) : Int) := by rw [Int.tmod_eq_emod_of_nonneg (by omega)]; omega
      have hb1 : n / 10 ≤ 99999999 := by omega
      have hb2 : n % 10 < 10 := by omega
      clear hR h hq ih
      generalize Pl.decS (f + 1) (n / 10) = D at *
      generalize hq1 : n / 10 = q1 at *
      generalize hq2 : n % 10 = q2 at *
      clear hq1 hq2
      go_enter Tryz.func90, Tryz.ntmps90
      go_wp2_with fail
      refine h1.mono ?_
      rintro e w1 ⟨s1, rfl, rfl, hb1⟩
      have HB1 := hid hb1
      have hr := h2 w1
      rw [bl_length] at hl
      clear h1 hb1 h2
      go_wp2_with fail
      refine hr.mono ?_
      rintro e w2 ⟨s2, rfl, hs2, hb2⟩
      have HB2 := hid (below_next HB1.out hb2)
      have hl2 : s2.size = 1 := by rw [← bl_length, hs2]; rfl
      have HS2 := hid hs2
      clear hb2 hs2 hr
      go_wp2
      go_ret
      refine ⟨_, rfl, ?_, HB2.out⟩
      rw [bl_append, HS2.out]

/-- The writer's box: nothing is wrong, and so much is told. -/
def WSt (b : Nat) (acc : List Nat) (w : World) : Prop := ∃ s : ByteArray, Bx w b [.string s, .int .i64 0] 105 ∧ bl s = acc
def Xo (b : Nat) (g : Nat) (_ : TypeId) : Prop := g = b
theorem Xo.bel {b B : Nat} {w w' : World} (h : Ch (Xo b) w w') (hB : B ≤ b) (hw : B ≤ w.heap.size) : Below B w w' :=
  ⟨h.os, h.tape, h.output, h.size, fun k hk => by
    have ho : w.heap[k]? = some (w.heap[k]'(by omega)) := by simp
    rw [ho]
    refine h.block k _ ho (fun cs T r _ hx => ?_)
    have : k = b := hx
    omega⟩
theorem WSt.below {b : Nat} {acc : List Nat} {w w' : World} (h : WSt b acc w) (hb : Below w.heap.size w w') : WSt b acc w' := by
  obtain ⟨s, h1, h2⟩ := h
  exact ⟨s, h1.below hb, h2⟩
theorem WSt.lt {b : Nat} {acc : List Nat} {w : World} (h : WSt b acc w) : b < w.heap.size := by
  obtain ⟨s, h1, h2⟩ := h
  exact h1.lt
theorem WSt.set {b : Nat} {w : World} {s t : ByteArray} {v : Value} {T : TypeId} (h : Bx w b [.string s, v] T) : Bx (w.setCell ⟨b, 0, none⟩ (.string t)) b [.string t, v] T := h.set 0 (.string t)
theorem WSt.ch {b : Nat} {w : World} {cs : List Value} {T : TypeId} (h : Bx w b cs T) (t : Value) : Ch (Xo b) w (w.setCell ⟨b, 0, none⟩ t) := Ch.set h rfl t

set_option maxHeartbeats 2000000 in
theorem rneed_true (b : Nat) (e : Int) (w : World) : Calls Tryz.prog 52 #[.pointer (some ⟨b, 0, none⟩), .bool true, .int .i64 e] w fun r w' => r = .returned (.tuple #[]) ∧ w' = w := by
  go_enter Tryz.func52, Tryz.ntmps52
  go_wp2
  go_end0
  exact ⟨rfl, rfl⟩

def WrG (b : Nat) (acc : List Nat) (w : World) (e : Ending) (w' : World) : Prop := e = .returned (.tuple #[]) ∧ WSt b acc w' ∧ Ch (Xo b) w w'

set_option maxHeartbeats 4000000 in
theorem rwname_ok (b : Nat) (acc : List Nat) (x : ByteArray) (hx : Pl.okName (bl x)) (w : World) (h : WSt b acc w) (hl : acc.length ≤ 1000000000) :
    Calls Tryz.prog 53 #[.pointer (some ⟨b, 0, none⟩), .string x] w (WrG b (acc ++ bl x) w) := by
  obtain ⟨s, hB, rfl⟩ := h
  have hn := rname_ok x hx w
  have hsz := Pl.name_len hx
  rw [bl_length] at hsz hl
  have HN := hid hn
  have HB := hid hB
  clear hn hB hx
  go_enter Tryz.func53, Tryz.ntmps53
  go_wp2_with fail
  refine HN.out.mono ?_
  rintro e w1 ⟨rfl, hb1⟩
  have hB1 := HB.out.below hb1
  have Hb1 := hid hb1
  go_wp2_with fail
  refine (rneed_true b 31 w1).mono ?_
  rintro e w2 ⟨rfl, hw2⟩
  subst w2
  have y0 := hB1.cell 0 rfl
  have y1 := hB1.cell 1 rfl
  have hf := hB1.frozen
  have HS := hid (WSt.set (t := s ++ x) hB1)
  have HC := hid ((Ch.below hb1).trans (WSt.ch hB1 (.string (s ++ x))))
  clear hb1 hB1
  go_wp2
  go_end0
  exact ⟨rfl, ⟨_, HS.out, bl_append _ _⟩, HC.out⟩
set_option maxHeartbeats 8000000 in
theorem rwnumber_ok (b : Nat) (acc : List Nat) (n : Nat) (hn : n ≤ 999999999) (w : World) (h : WSt b acc w) (hl : acc.length ≤ 1000000000) :
    Calls Tryz.prog 54 #[.pointer (some ⟨b, 0, none⟩), .int .i64 (n : Int)] w (WrG b (acc ++ Pl.dec n) w) := by
  obtain ⟨s, hB, rfl⟩ := h
  have hd := fun W => rdecimal_any 19 n (by omega) hn W
  have hsz : (Pl.dec n).length ≤ 9 := Pl.decS_len 20 n 9 (by omega) (by omega)
  change ∀ W, Calls Tryz.prog _ _ W (fun e w' => ∃ s, e = .returned (.string s) ∧ bl s = Pl.dec n ∧ Below W.heap.size W w') at hd
  rw [bl_length] at hl
  have HD := hid hd
  have HB := hid hB
  have y0 := hB.cell 0 rfl
  have y1 := hB.cell 1 rfl
  have h0 : (0 : Int) ≤ (n : Int) := by omega
  have h9 : (n : Int) ≤ 999999999 := by omega
  clear hd hB hn
  generalize Pl.dec n = D at *
  go_enter Tryz.func54, Tryz.ntmps54
  go_wp2_with fail
  refine (rneed_true b 4 w).mono ?_
  rintro e w2 ⟨rfl, hw2⟩
  subst w2
  go_wp2_with fail
  go_region_with (go_at_call 90; refine (HD.out _).mono ?_; rintro e w3 ⟨t, rfl, ht, hb3⟩; have hb33 := (below_next (Below.drew (Below.refl _ _)) hb3); have hB3 := HB.out.below hb33; have z0 := hB3.cell 0 rfl; have z1 := hB3.cell 1 rfl; have zf := hB3.frozen; have hts : t.size ≤ 9 := (by rw [← bl_length, ht]; exact hsz); have HS := hid (WSt.set (t := s ++ t) hB3); have HC := hid ((Ch.below hb33).trans (WSt.ch hB3 (.string (s ++ t)))); have HT := hid ht; clear ht hb3 hb33 hB3)
  all_goals
    go_wp2
    go_end0
    refine ⟨rfl, ⟨_, HS.out, ?_⟩, HC.out⟩
    rw [bl_append, HT.out]
set_option maxHeartbeats 8000000 in
theorem rwkind_ok (b : Nat) (acc : List Nat) (t : Pl.Ty) (hd : Pl.tyD t ≤ 8) (hok : Pl.okTy t) (x y z : Value) (w : World) (hT : TyG w t x y z) (h : WSt b acc w) (hl : acc.length ≤ 1000000000) :
    Calls Tryz.prog 55 #[.pointer (some ⟨b, 0, none⟩), .agg #[x, y, z]] w (WrG b (acc ++ Pl.tyX t) w) := by
  obtain ⟨s, hB, rfl⟩ := h
  obtain ⟨w1, hw1⟩ : ∃ w1, w1 = w.alloc (.cells #[x, y, z] 34) := ⟨_, rfl⟩
  have hb1 : Below w.heap.size w w1 := by rw [hw1]; exact below_alloc w _
  have hB1 : Bx w1 w.heap.size [x, y, z] 34 := by rw [hw1]; exact Bx.new w _ _
  have hsh := rShape_ok t hd hok w1 x y z (TyG.below hb1 _ _ _ _ hT)
  have hty := fun W (hW : Below w.heap.size w W) => rtyped_any t W x y z (TyG.below hW _ _ _ _ hT) (by omega) hok
  have hsz : (Pl.tyX t).length ≤ 48 := by have := Pl.ty_len t hok; omega
  obtain ⟨k, s0, ad, m, cp, rfl, rfl, rfl⟩ := hT.shape
  rw [bl_length] at hl
  have HSH := hid hsh
  have HTY := hid hty
  have HB := hid hB
  have HB1 := hid hB1
  have HW1 := hid hw1
  have Hb1 := hid hb1
  clear hsh hty hB hB1 hw1 hb1 hT hd hok
  generalize Pl.tyX t = X at *
  go_enter Tryz.func55, Tryz.ntmps55
  go_wp2_with fail
  rw [← HW1.out]
  refine HSH.out.mono ?_
  rintro e w2 ⟨rfl, hb2⟩
  have hbn := below_next Hb1.out hb2
  have hB2 := HB.out.below hbn
  have hC2 := HB1.out.below hb2
  have y0 := hB2.cell 0 rfl
  have y1 := hB2.cell 1 rfl
  have x0 := hC2.cell 0 rfl
  have x1 := hC2.cell 1 rfl
  have x2 := hC2.cell 2 rfl
  have HBN := hid hbn
  have HBB := hid hB2
  clear hbn hB2 hC2 hb2
  go_wp2_with fail
  refine (rneed_true b 0 w2).mono ?_
  rintro e w3 ⟨rfl, hw3⟩
  subst w3
  go_wp2_with fail
  go_region_with (go_at_call 92; refine (HTY.out _ (Below.drew HBN.out)).mono ?_; rintro e w4 ⟨u, rfl, hu, hb4⟩; have hb44 := (below_next (Below.drew (Below.refl _ _)) hb4); have hB4 := HBB.out.below hb44; have z0 := hB4.cell 0 rfl; have z1 := hB4.cell 1 rfl; have zf := hB4.frozen; have hts : u.size ≤ 48 := (by rw [← bl_length, hu]; exact hsz); have HS := hid (WSt.set (t := s ++ u) hB4); have HC := hid ((Ch.below (below_next HBN.out hb44)).trans (WSt.ch hB4 (.string (s ++ u)))); have HT := hid hu; clear hu hb4 hb44 hB4)
  all_goals
    go_wp2
    go_end0
    refine ⟨rfl, ⟨_, HS.out, ?_⟩, HC.out⟩
    rw [bl_append, HT.out]
end Go.Proofs.YtdbgncdnffbhkaaGreatDoor
