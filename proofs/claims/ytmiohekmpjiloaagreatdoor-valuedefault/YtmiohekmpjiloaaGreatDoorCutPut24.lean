/- value: innermost, checkType of a name that is a struct's or an enum's. -/
import Derived.Test.YtmiohekmpjiloaaGreatDoorCutPut23
import Derived.Deep.RegionWith
namespace Go.Proofs.YtmiohekmpjiloaaGreatDoor
open Go.RowKit
set_option maxRecDepth 20000

theorem ret_inner {W : World} {tmps : Array Value} {b : Nat} {x y z : Value} (ht : tmps.getD 2 undef = .pointer (some ⟨b, 0, none⟩)) (h0 : W.cell? ⟨b, 0, none⟩ = some x) (h1 : W.cell? ⟨b, 1, none⟩ = some y) (h2 : W.cell? ⟨b, 2, none⟩ = some z) :
    (results Tryz.f53 tmps).run Tryz.prog W = .ok (.agg #[x, y, z]) W := by
  have ht' : tmps[2]?.getD undef = .pointer (some ⟨b, 0, none⟩) := by rw [← Array.getD_eq_getD_getElem?]; exact ht
  simp [results, Tryz.results53]
  go_simp
set_option maxHeartbeats 4000000 in
theorem innermost_flat (K : Int) (h6 : K ≠ 6) (h7 : K ≠ 7) (sn : ByteArray) (ao : Option Addr) (mo co : Nat) (w : World) :
    Calls Tryz.prog 53 #[.agg #[.int .i64 K, .string sn, .slice ao mo co]] w fun e w' => e = .returned (.agg #[.int .i64 K, .string sn, .slice ao mo co]) ∧ Below w.heap.size w w' := by
  have hq6 : (K == 6) = false := by simp [h6]
  have hq7 : (K == 7) = false := by simp [h7]
  have HB := hid (below_next (below_alloc w (.cells #[.int .i64 K, .string sn, .slice ao mo co] 29)) (below_alloc _ (.cells #[.int .i64 K, .string sn, .slice ao mo co] 29)))
  go_enter Tryz.func53, Tryz.ntmps53
  go_wp2_with fail
  go_rounds 1
  exact bodyPost_ret (ret_inner rfl (by go_simp) (by go_simp) (by go_simp)) rfl ⟨rfl, HB.out⟩

theorem MeanN.shape {st : List (List Nat × List Pl.Fld)} {en : List (List Nat × List Pl.Cas)} {sv : List (List Nat × List Pl.Mth)} {x : List Nat} {w : World} {k f c : Value} (h : MeanN st en sv x w k f c) : ∃ (κ : Int) (a1 : Option Addr) (m1 c1 : Nat) (a2 : Option Addr) (m2 c2 : Nat), k = .int .i64 κ ∧ f = .slice a1 m1 c1 ∧ c = .slice a2 m2 c2 ∧ (κ != 8) = decide ((fnd st en sv x).1 = 1 ∨ (fnd st en sv x).1 = 2) := by
  unfold MeanN at h
  split at h
  · rename_i h1
    obtain ⟨i, a, _, _, _, rfl, rfl, hr⟩ := h
    obtain ⟨ad, cp, rfl⟩ := hr.shape
    exact ⟨_, _, _, _, _, _, _, rfl, rfl, rfl, by simp [h1]⟩
  · split at h
    · rename_i h1
      obtain ⟨i, a, _, _, _, rfl, rfl, hr⟩ := h
      obtain ⟨ad, cp, rfl⟩ := hr.shape
      exact ⟨_, _, _, _, _, _, _, rfl, rfl, rfl, by simp [h1]⟩
    · rename_i h1 h2
      obtain ⟨rfl, rfl, rfl⟩ := h
      exact ⟨_, _, _, _, _, _, _, rfl, rfl, rfl, by simp [h1, h2]⟩

theorem mean_field (a b c d e : Value) (w : World) : (Instr.field 97 (.agg #[a, b, c, d, e]) 0).run Tryz.prog w = .ok (.agg #[a, b, c]) w := by kernel_rfl
theorem type_field (a b c : Value) (w : World) : (Instr.field 29 (.agg #[a, b, c]) 0).run Tryz.prog w = .ok a w := by kernel_rfl
set_option maxHeartbeats 8000000 in
theorem checkType_named (st : List (List Nat × List Pl.Fld)) (en : List (List Nat × List Pl.Cas)) (sv : List (List Nat × List Pl.Mth)) (s1 s2 s3 : Value) (x : ByteArray) (ao : Option Addr) (co : Nat) (w : World) (hS : ScOk w s1 s2 s3 0 (some (st, en, sv))) (ht : Tab w.heap.size w) (hx : Pl.okName (bl x)) (hf : (fnd st en sv (bl x)).1 = 1 ∨ (fnd st en sv (bl x)).1 = 2) :
    Calls Tryz.prog 29 #[.agg #[s1, s2, s3], .agg #[.int .i64 8, .string x, .slice ao 0 co]] w fun e w' => e = .returned (.tuple #[]) ∧ Below w.heap.size w w' := by
  obtain ⟨a1, m1, c1, a2, m2, c2, a3, m3, c3, rfl, rfl, rfl⟩ := hS.shape
  have hb1 := below_alloc w (.cells #[.slice a1 m1 c1, .slice a2 m2 c2, .slice a3 m3 c3] 65)
  have hb2 := below_alloc (w.alloc (.cells #[.slice a1 m1 c1, .slice a2 m2 c2, .slice a3 m3 c3] 65)) (.cells #[.int .i64 8, .string x, .slice ao 0 co] 29)
  obtain ⟨w2, hw2⟩ : ∃ w2, w2 = (w.alloc (.cells #[.slice a1 m1 c1, .slice a2 m2 c2, .slice a3 m3 c3] 65)).alloc (.cells #[.int .i64 8, .string x, .slice ao 0 co] 29) := ⟨_, rfl⟩
  have hB1 := (Bx.new w [.slice a1 m1 c1, .slice a2 m2 c2, .slice a3 m3 c3] 65).below hb2
  have hB2 : Bx w2 (w.heap.size + 1) [.int .i64 8, .string x, .slice ao 0 co] 29 := by rw [hw2]; exact Bx.newAt (by simp) _ _
  have hb := below_next hb1 hb2
  rw [← hw2] at hb hB1
  have hxs : x.size ≤ maxLen := small_name rfl hx
  have hSh : Pl.shapeP (.node 8 (bl x) []) = 0 := Pl.shape_emb (.named (bl x)) hx (show 1 ≤ 8 by omega)
  have HSH := hid (fun W => shape_any 0 99 (Nat.le_refl _) (.node 8 (bl x) []) W (.int .i64 8) (.string x) (.slice ao 0 co) ⟨rfl, ⟨x, rfl, rfl, hxs⟩, ⟨ao, co, rfl, Nat.zero_le _, fun i g h => absurd h (show ([] : List Pl.GT)[i]? ≠ some g by simp)⟩⟩ (Nat.zero_le _))
  have HIN := hid (fun W => innermost_flat 8 (by decide) (by decide) x ao 0 co W)
  have hG : SchG st en sv (.slice a1 m1 c1) (.slice a2 m2 c2) (.slice a3 m3 c3) w := SchL.g (Nat.le_refl _) (by omega) hS.1 hS.2.2.1
  have hlen := hS.2.2.2.1
  have HMN := hid (fun W (hW : Below w.heap.size w W) => mean_named st en sv (by omega) _ _ _ x ao 0 co W (hG.below hW))
  have HCK := hid (Check_any _ _ _ 0 _ w2 (hS.below hb) ((ht.below hb).up2 hb.size))
  have HNE := hid (fun e W => vneed_true e W)
  have hmf := mean_field
  have htf := type_field
  rw [hSh] at HSH
  have HB1 := hid hB1
  have HB2 := hid hB2
  have HB := hid hb
  have HW2 := hid hw2
  have HF := hid hf
  have y0 := hB1.cell 0 rfl
  have y1 := hB1.cell 1 rfl
  have y2 := hB1.cell 2 rfl
  clear hb1 hb2 hb hB1 hB2 hw2 hS ht hf hG hlen hxs hx hSh
  go_enter Tryz.func29, Tryz.ntmps29
  go_wp2_with fail
  rw [← HW2.out]
  go_wp2_with fail
  refine HCK.out.mono ?_
  rintro e w3 ⟨rfl, hb3⟩
  have HB3 := hid hb3
  have t0 := (HB2.out.below hb3).cell 0 rfl
  have t1 := (HB2.out.below hb3).cell 1 rfl
  have t2 := (HB2.out.below hb3).cell 2 rfl
  clear hb3 HCK y0 y1 y2
  go_wp2_with fail
  refine (HNE.out _ _).mono ?_
  rintro e w4 ⟨rfl, rfl⟩
  go_wp2_with fail
  refine (HSH.out _).mono ?_
  rintro e w5 ⟨rfl, hb5⟩
  have HB5 := hid (below_next HB3.out hb5)
  have HBN := hid (below_next HB.out HB5.out)
  clear t0 t1 t2 hb5
  have t0 := (HB2.out.below HB5.out).cell 0 rfl
  have t1 := (HB2.out.below HB5.out).cell 1 rfl
  have t2 := (HB2.out.below HB5.out).cell 2 rfl
  have y0 := (HB1.out.below HB5.out).cell 0 rfl
  have y1 := (HB1.out.below HB5.out).cell 1 rfl
  have y2 := (HB1.out.below HB5.out).cell 2 rfl
  go_wp2_with fail
  refine (HNE.out _ _).mono ?_
  rintro e w6 ⟨rfl, rfl⟩
  go_wp2_with fail
  go_region_with (first | (go_at_call 53; refine (HIN.out _).mono ?_; rintro e w7 ⟨rfl, hb7⟩; have HB7 := hid (below_next HB5.out.drew hb7); have HBN7 := hid (below_next HBN.out.drew hb7); have q0 := (HB1.out.below HB7.out).cell 0 rfl; have q1 := (HB1.out.below HB7.out).cell 1 rfl; have q2 := (HB1.out.below HB7.out).cell 2 rfl; clear hb7) | (go_at_call 52; refine (HMN.out _ HBN7.out).mono ?_; rintro e w8 ⟨k, f, c, rfl, hmn, hb8⟩; obtain ⟨κ, af, mf, cf, ac, mc, cc, rfl, rfl, rfl, hκ⟩ := hmn.shape; rw [decide_eq_true HF.out] at hκ; have HBN8 := hid (below_next HBN7.out hb8); clear hb8 hmn) | (go_at_call 37; refine (HNE.out _ _).mono ?_; rintro e w9 ⟨rfl, rfl⟩))
  all_goals
    go_wp2_with fail
    go_end0
    exact ⟨rfl, HBN8.out⟩
end Go.Proofs.YtmiohekmpjiloaaGreatDoor

