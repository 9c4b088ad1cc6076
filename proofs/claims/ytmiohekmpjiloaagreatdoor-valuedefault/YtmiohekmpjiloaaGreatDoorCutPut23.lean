/- schema: what a struct comes to (the code). schema: what a struct comes to (of, all). schema: all, depths, weights. schema: checkAll. A schema that has no error: its structs have a rank, each above those of its fields. schema: Check. value: need, caught. value: mean. -/
import Derived.Test.YtmiohekmpjiloaaGreatDoorCutPut22
import Derived.Test.YtmiohekmpjiloaaGreatDoorCutPut20
namespace Go.Proofs.YtmiohekmpjiloaaGreatDoor
open Go.RowKit
set_option maxRecDepth 20000
open Go.Maps

theorem gb_below {b : Nat} {w w' : World} (h : Below w.heap.size w w') : w.grownBy w' (some b) := ⟨h.os, h.tape, h.output, h.size, fun k hk _ => h.block k hk⟩
theorem Bx.grown {w w' : World} {b m : Nat} {cs : List Value} {T : TypeId} (h : Bx w b cs T) (hg : w.grownBy w' (some m)) (hne : b ≠ m) : Bx w' b cs T := (hg.block b h.lt (by simpa using hne)).trans h

theorem ikeyed : Keyed Tryz.prog 3 := int_keyed Tryz.underlying3
/-- A map of numbers, of N entries at most. -/
def MpI (w : World) (b N : Nat) (k : Kn) : Prop :=
  ∃ D, w.ownsMap (H := Unit) Tryz.prog 3 (plainElem Tryz.prog 3) b N D ∧ IsMap D ∧ ∀ i : Nat, i ≤ 100000 → D.atKey (.int .i64 (i : Int)) (.lit (.int .i64 0)) = .lit (.int .i64 ((k i).getD 0)) ∧ Maps.has D (.int .i64 (i : Int)) = (k i).isSome
theorem MpI.made (w : World) : MpI (w.alloc (.map #[] 0)) w.heap.size 0 (fun _ => none) :=
  ⟨.map [], World.ownsMap_made _ _ _ _, isMap_empty, fun i _ => ⟨by simp [DataW.atKey], by rw [has_eq]; rfl⟩⟩
theorem MpI.below {w w' : World} {b N : Nat} {k : Kn} (h : MpI w b N k) (hb : Below w.heap.size w w') : MpI w' b N k := by
  obtain ⟨D, h1, h2, h3⟩ := h
  exact ⟨D, h1.kept (row := none) ⟨hb.os, hb.tape, hb.output, hb.size, fun k hk _ => hb.block k hk⟩ (by simp), h2, h3⟩
theorem MpI.lt {w : World} {b N : Nat} {k : Kn} (h : MpI w b N k) : b < w.heap.size := by
  obtain ⟨D, h1, _⟩ := h
  exact h1.lt
theorem small_wf {x : Int} (h0 : 0 ≤ x) (h1 : x ≤ 10000000) : (Lit.int .i64 x).wf = true := by
  have := wrap64_wf x
  have e : wrap64 x = x := by unfold wrap64; omega
  rwa [e] at this
theorem ikey {i : Nat} (hi : i ≤ 100000) : keyOf Tryz.prog 3 (.int .i64 (i : Int)) = some (.int .i64 (i : Int)) := keyOf_int_mk Tryz.underlying3 (small_wf (by omega) (by omega))
theorem MpI.look {w : World} {b N : Nat} {k : Kn} (h : MpI w b N k) {i : Nat} (hi : i ≤ 100000) : (Instr.lookup 199 (.map (some b)) (.int .i64 (i : Int)) true).run Tryz.prog w = .ok (.tuple #[.int .i64 ((k i).getD 0), .bool (k i).isSome]) w := by
  obtain ⟨D, h1, h2, h3⟩ := h
  obtain ⟨v, ps, hrun, hv⟩ := h1.look_ok (t := 199) ikeyed Tryz.underlying199 (zero3 w) (plainElem_int (H := Unit) (P := Tryz.prog) Tryz.underlying3 (by decide)) (ikey hi)
  rw [(h3 i hi).1] at hv
  obtain ⟨c, rfl, hc, _⟩ := plainElem_int_inv Tryz.underlying3 hv
  rw [hrun, (h3 i hi).2]
  simp only [Prod.mk.injEq] at hc
  have h4 := hc.1
  injection h4 with h5
  injection h5 with _ h6
  rw [h6]
theorem MpI.store {w : World} {b N : Nat} {k : Kn} (h : MpI w b N k) (hN : N ≤ 1000000) {i : Nat} (hi : i ≤ 100000) {v : Int} (hv : (Lit.int .i64 v).wf = true) : ∃ w', (Instr.mapUpdate 199 (.map (some b)) (.int .i64 (i : Int)) (.int .i64 v)).run Tryz.prog w = .ok () w' ∧ MpI w' b (N + 1) (k.set i v) ∧ w.grownBy w' (some b) := by
  obtain ⟨D, h1, h2, h3⟩ := h
  obtain ⟨w', hrun, hown, ht⟩ := h1.store (t := 199) ikeyed Tryz.underlying199 (by unfold maxLen; omega) (ikey hi) (plainElem_int (H := Unit) (P := Tryz.prog) Tryz.underlying3 hv)
  refine ⟨w', hrun, ⟨_, hown, h2.put _ _, fun j hj => ?_⟩, ht.grown⟩
  by_cases hji : j = i
  · subst hji
    rw [atKey_put_same h2 (by simp [WideAt.IsKeyLit]), has_put_same h2 (by simp [WideAt.IsKeyLit])]
    simp [Kn.set]
  · have hne : (Lit.int .i64 (j : Int)) ≠ .int .i64 (i : Int) := fun h => by injection h with _ h; omega
    rw [atKey_put_other hne, has_put_other hne, (h3 j hj).1, (h3 j hj).2]
    simp [Kn.set, hji]

/-- What is measured, and where: all that stays. -/
structure MeaC (M : Mea) (jf : Nat) (st : List (List Nat × List Pl.Fld)) (en : List (List Nat × List Pl.Cas)) (sv : List (List Nat × List Pl.Mth)) (p b : Nat) (w0 : World) (s1 s2 s3 : Value) : Prop where
  sch : SchG st en sv s1 s2 s3 w0
  len : st.length ≤ 1000 ∧ en.length ≤ 1000 ∧ sv.length ≤ 1000
  nm : ∀ a ∈ st, a.2.length ≤ 1000 ∧ ∀ f ∈ a.2, fldNm f
  base : w0.heap.size ≤ b
  apart : p ≠ b
  enter : ∀ (args : Array Value) (w' : World), (callFunc jf args).run Tryz.prog w' = .ok (.enter jf args) w'
  join : ∀ (x y : Int) (W : World), 0 ≤ x → x ≤ 1000000 → 0 ≤ y → y ≤ 1000 → Calls Tryz.prog jf #[.int .i64 x, .int .i64 y] W fun e w' => e = .returned (.int .i64 (M.join x y)) ∧ Below W.heap.size W w'
  most : 0 ≤ M.most ∧ M.most ≤ 1000
  other : 0 ≤ M.other ∧ M.other ≤ 1000
  bound : ∀ (x y : Int), 0 ≤ x → 0 ≤ y → y ≤ 1000 → 0 ≤ M.join x y ∧ M.join x y ≤ x + 1000
structure MeaW (M : Mea) (jf p b : Nat) (w0 : World) (s1 s2 s3 : Value) (w : World) : Prop where
  old : Below w0.heap.size w0 w
  box : Bx w p [s1, s2, s3, .map (some b), .int .i64 M.most, .int .i64 M.above, .int .i64 M.other, .func (.func jf) #[] #[]] 201
theorem MeaW.grown {M : Mea} {jf p b : Nat} {w0 w w' : World} {s1 s2 s3 : Value} (h : MeaW M jf p b w0 s1 s2 s3 w) (hg : w.grownBy w' (some b)) (hb : w0.heap.size ≤ b) (hp : p ≠ b) : MeaW M jf p b w0 s1 s2 s3 w' :=
  ⟨h.old.grown hg h.old.size (fun k hk => by cases hk; exact hb), h.box.grown hg hp⟩

def OfR (M : Mea) (b L C : Nat) (w : World) (k : Kn) (r : Option (Int × Kn)) (e : Ending) (w' : World) : Prop :=
  w.grownBy w' (some b) ∧ match r with
    | none => e = .panicked (errp M.above)
    | some (v, k') => e = .returned (.int .i64 v) ∧ 0 ≤ v ∧ v ≤ 1000 ∧ More k k' ∧ KnOk M k' ∧ ∃ N', MpI w' b N' k' ∧ N' + 2 * unm L k' ≤ C

set_option maxHeartbeats 8000000 in
theorem ofType_any {M : Mea} {jf p b : Nat} {st : List (List Nat × List Pl.Fld)} {en : List (List Nat × List Pl.Cas)} {sv : List (List Nat × List Pl.Mth)} {w0 : World} {s1 s2 s3 : Value} (hC : MeaC M jf st en sv p b w0 s1 s2 s3) (C N : Nat) (rec : Kn → Nat → Option (Int × Kn)) (k : Kn) (w : World) (hW : MeaW M jf p b w0 s1 s2 s3 w) (hm : MpI w b N k) (hN : N + 2 * unm st.length k ≤ C) (hk : KnOk M k) (t : Pl.Ty) (hnm : tyNm t) (kd : Int) (s : ByteArray) (ad : Option Addr) (m cp : Nat) (hty : TyG w t (.int .i64 kd) (.string s) (.slice ad m cp))
    (hrec : ∀ (i : Nat) (W : World), i < st.length → Below w.heap.size w W → Calls Tryz.prog 149 #[.pointer (some ⟨p, 0, none⟩), .int .i64 (i : Int)] W (OfR M b st.length C W k (rec k i))) :
    Calls Tryz.prog 167 #[.pointer (some ⟨p, 0, none⟩), .agg #[.int .i64 kd, .string s, .slice ad m cp]] w (OfR M b st.length C w k (mTy M (fnd st en sv) rec k t)) := by
  obtain ⟨R, hR⟩ : ∃ R, R = mTy M (fnd st en sv) rec k t := ⟨_, rfl⟩
  rw [← hR]
  obtain ⟨hkd, ⟨s', hs', hsn⟩, _⟩ := hty.parts
  cases hs'
  injection hkd with _ hkd
  have hb1 := below_alloc w (.cells #[.int .i64 kd, .string s, .slice ad m cp] 29)
  have hB1 := hW.box.below hb1
  have x0 := hB1.cell 0 rfl
  have x1 := hB1.cell 1 rfl
  have x2 := hB1.cell 2 rfl
  have x6 := hB1.cell 6 rfl
  obtain ⟨a1, c1, a2, c2, a3, c3, rfl, rfl, rfl⟩ := hC.sch.shape
  have hother : ∀ (W : World), Below w.heap.size w W → R = some (M.other, k) → OfR M b st.length C w k R (.returned (.int .i64 M.other)) W := by
    rintro W hb rfl
    exact ⟨gb_below hb, rfl, hC.other.1, hC.other.2, More.refl _, hk, N, hm.below hb, hN⟩
  have HO := hid hother
  have HREC := hid hrec
  have HC := hid hC
  have HW := hid hW
  have HR := hid hR
  have Hb1 := hid hb1
  clear hother hrec hB1 hty hW hm hN hR hb1
  by_cases h8 : kd = 8
  · subst h8
    have hSA : SchG st en sv (.slice a1 st.length c1) (.slice a2 en.length c2) (.slice a3 sv.length c3) (w.alloc (.cells #[.int .i64 8, .string s, .slice ad m cp] 29)).drew := HC.out.sch.below (HW.out.old.trans (Hb1.out.drew.mono HW.out.old.size))
    have hF := Find_any st en sv HC.out.len _ _ _ s _ hSA
    have hRt : R = if (fnd st en sv (bl s)).1 = 1 then rec k (fnd st en sv (bl s)).2.toNat else some (M.other, k) := by
      rw [HR.out]
      cases t with
      | plain q => simp [kindOf] at hkd; exact absurd (by omega) hnm
      | named x =>
        have : bl s = x := hsn
        rw [this]
        rfl
      | list t => simp [kindOf] at hkd
      | opt t => simp [kindOf] at hkd
    have hone := fnd_one (st := st) (en := en) (sv := sv) (x := bl s)
    obtain ⟨F1, F2, hFe⟩ : ∃ F1 F2, fnd st en sv (bl s) = (F1, F2) := ⟨_, _, rfl⟩
    rw [hFe] at hF hRt hone
    have HF := hid hF
    have HD := hid Hb1.out.drew
    by_cases h1 : F1 = 1
    · subst h1
      obtain ⟨i, a, hi, _, hF2⟩ := hone rfl
      have hil := (List.getElem?_eq_some_iff.1 hi).1
      simp only at hF2
      subst hF2
      have hRr : R = rec k i := by rw [hRt, if_pos rfl]; rfl
      subst hRr
      generalize st.length = l1 at *
      generalize en.length = l2 at *
      generalize sv.length = l3 at *
      clear hF hone hFe hSA hC HC HR hkd hsn hi hRt HO
      go_enter Tryz.func167, Tryz.ntmps167
      go_wp2_with fail
      go_region_with (refine HF.out.mono ?_; rintro e w2 ⟨rfl, hb2⟩)
      all_goals (
        have HB2 := hid (below_next HD.out hb2)
        clear hb2
        go_wp2_with fail
        refine (HREC.out i w2 hil HB2.out).mono ?_
        rintro e w3 ⟨hg3, hres⟩
        have HG3 := hid (gb_trans (gb_below HB2.out) hg3)
        cases hrr : rec k i with
        | none =>
          rw [hrr] at hres
          simp only at hres
          subst hres
          exact ⟨rfl, HG3.out, rfl⟩
        | some q =>
          obtain ⟨v, k'⟩ := q
          rw [hrr] at hres
          obtain ⟨rfl, hv⟩ := hres
          have HV := hid hv
          clear hv hg3
          go_wp2_with fail
          go_ret
          refine ⟨HG3.out, ?_⟩
          rw [hrr]
          exact ⟨rfl, HV.out⟩)
    · have hRo : R = some (M.other, k) := by rw [hRt, if_neg h1]
      have HL : Hid (∀ W, Below w.heap.size w W → OfR M b st.length C w k R (.returned (.int .i64 M.other)) W) := fun W hb => HO.out W hb hRo
      have HBB := hid (HW.out.box)
      generalize st.length = l1 at *
      generalize en.length = l2 at *
      generalize sv.length = l3 at *
      clear hF hone hFe hSA hC HC HR hkd hsn hRt HO hRo
      go_enter Tryz.func167, Tryz.ntmps167
      go_wp2_with fail
      go_region_with (refine HF.out.mono ?_; rintro e w2 ⟨rfl, hb2⟩)
      all_goals (
        have HB2 := hid (below_next HD.out hb2)
        have y6 := (HBB.out.below HB2.out).cell 6 rfl
        clear hb2
        go_wp2_with fail
        go_ret
        exact HL.out _ HB2.out)
  · have hRt : R = some (M.other, k) := by
      rw [HR.out]
      cases t with
      | plain q => rfl
      | named x => simp [kindOf] at hkd; omega
      | list t => rfl
      | opt t => rfl
    have HL := hid (HO.out _ Hb1.out hRt)
    clear hkd hRt HC
    go_enter Tryz.func167, Tryz.ntmps167
    go_wp2_with fail
    go_ret
    exact HL.out
end Go.Proofs.YtmiohekmpjiloaaGreatDoor

namespace Go.Proofs.YtmiohekmpjiloaaGreatDoor
open Go.RowKit
set_option maxRecDepth 20000
open Go.Maps

structure OfI (M : Mea) (find : List Nat → Int × Int) (rec : Kn → Nat → Option (Int × Kn)) (b L C : Nat) (k1 : Kn) (fs : List Pl.Fld) (w1 : World) (n i : Value) (wr : World) : Prop where
  all : ∃ (j : Nat) (v : Int) (k' : Kn) (N' : Nat), j ≤ fs.length ∧ i = .int .i64 (j : Int) ∧ n = .int .i64 v ∧ 0 ≤ v ∧ v ≤ j * 1000 ∧ w1.grownBy wr (some b) ∧ More k1 k' ∧ KnOk M k' ∧ MpI wr b N' k' ∧ N' + 2 * unm L k' ≤ C ∧ mFs M find rec (fs.drop j) v k' = mFs M find rec fs 0 k1

set_option maxHeartbeats 16000000 in
theorem of_any {M : Mea} {jf p b : Nat} {st : List (List Nat × List Pl.Fld)} {en : List (List Nat × List Pl.Cas)} {sv : List (List Nat × List Pl.Mth)} {w0 : World} {s1 s2 s3 : Value} (hC : MeaC M jf st en sv p b w0 s1 s2 s3) (n : Nat) : ∀ (C N : Nat) (_ : C ≤ 100000) (k : Kn) (w : World) (_ : MeaW M jf p b w0 s1 s2 s3 w) (_ : MpI w b N k) (_ : N + 2 * unm st.length k ≤ C) (_ : KnOk M k) (_ : unm st.length k < n) (i : Nat) (_ : i < st.length),
    Calls Tryz.prog 149 #[.pointer (some ⟨p, 0, none⟩), .int .i64 (i : Int)] w (OfR M b st.length C w k (mOf M (fnd st en sv) st n k i)) := by
  induction n with
  | zero =>
    intro C N hC0 k w hW hm hN hk hu
    omega
  | succ n ih =>
    intro C N hC0 k w hW hm hN hk hu i hi
    obtain ⟨R, hR⟩ : ∃ R, R = mOf M (fnd st en sv) st (n + 1) k i := ⟨_, rfl⟩
    rw [← hR]
    have hlen := hC.len.1
    have hlk := hm.look (i := i) (by omega)
    have b3 := hW.box.cell 3 rfl
    have b5 := hW.box.cell 5 rfl
    have HR := hid hR
    have HC := hid hC
    have HW := hid hW
    have HK := hid hk
    cases hki : k i with
    | some v0 =>
      rw [hki] at hlk
      simp only [Option.getD_some, Option.isSome_some] at hlk
      have hRe := HR.out
      rw [mOf, hki] at hRe
      simp only at hRe
      have hv0 := hk i v0 hki
      have hmost := hC.most
      have HM0 := hid hm
      have HN0 := hid hN
      clear hR hC hW hm hk ih hN
      by_cases hpos : 0 < v0
      · rw [if_pos hpos] at hRe
        subst hRe
        go_enter Tryz.func149, Tryz.ntmps149
        go_wp2_with fail
        refine (sneed_true M.above _).mono ?_
        rintro e w2 ⟨rfl, hq2⟩
        subst w2
        go_wp2_with fail
        go_ret
        exact ⟨gb_refl _ _, rfl, by omega, by omega, More.refl _, HK.out, N, HM0.out, HN0.out⟩
      · rw [if_neg hpos] at hRe
        subst hRe
        go_enter Tryz.func149, Tryz.ntmps149
        go_wp2_with fail
        have hd0 : decide (0 < v0) = false := decide_eq_false (by omega)
        first
        | refine (sneed_false M.above _).mono ?_
        | (rw [hd0]; refine (sneed_false M.above _).mono ?_)
        rintro e w2 ⟨rfl, hq2⟩
        subst w2
        exact ⟨rfl, gb_refl _ _, rfl⟩
    | none =>
      rw [hki] at hlk
      simp only [Option.getD_none, Option.isSome_none] at hlk
      obtain ⟨w1, hrun1, hm1, hg1⟩ := hm.store (by omega) (i := i) (by omega) (v := 0) (by decide)
      have hun := unm_set hi hki 0
      have hk1 : KnOk M (k.set i 0) := hk.set (Int.le_refl _) hC.most.1
      have hW1 := hW.grown hg1 hC.base hC.apart
      obtain ⟨x, hxi⟩ : ∃ x, st[i]? = some x := ⟨st[i], by simp [hi]⟩
      have hxm := List.mem_of_getElem? hxi
      obtain ⟨nm, fs⟩ := x
      obtain ⟨hfl, hfn⟩ := hC.nm _ hxm
      simp only at hfl hfn
      have hRe := HR.out
      rw [mOf, hki, hxi] at hRe
      simp only [Option.getD_some] at hRe
      obtain ⟨g, off, cap, c, hv, hg, hRc, hc⟩ := hC.sch.1.at hxi
      obtain ⟨xs1, fd, fm, fc, rfl, hxs, hfr⟩ := hRc
      obtain ⟨fd', fc', hfv⟩ := hfr.shape
      cases hfv
      obtain ⟨a1, c1, a2, c2, a3, c3, rfl, rfl, rfl⟩ := hC.sch.shape
      cases hv
      have q1 := (hW1.old.cell hg).trans (hc 1 _ rfl)
      have d0 := hW1.box.cell 0 rfl
      have d3 := hW1.box.cell 3 rfl
      have HRe := hid hRe
      have HIH := hid ih
      have HM1 := hid hm1
      have HG1 := hid hg1
      have HK1 := hid hk1
      have HFr := hid hfr
      have HFn := hid hfn
      have HU := hid (show unm st.length (k.set i 0) < n by omega)
      have HNC := hid (show N + 1 + 2 * unm st.length (k.set i 0) ≤ C - 1 by omega)
      have HW1 := hid hW1
      have hC1 : 1 ≤ C := by omega
      obtain ⟨ML, hML⟩ : ∃ ML, ML = fs.length := ⟨_, rfl⟩
      have HML := hid hML
      rw [← hML] at hfl q1 HFr
      clear hR hC hW hm hk ih hN hc hfr hfn hk1 hm1 hg1 hW1 hRe hun hML hxs hxm hg
      go_enter Tryz.func149, Tryz.ntmps149
      go_wp2_with fail
      go_loopw [5, 42] (fun nv iv wr => OfI M (fnd st en sv) (mOf M (fnd st en sv) st n) b st.length (C - 1) (k.set i 0) fs w1 nv iv wr) (fun _ iv _ => ML - (intOf iv).toNat)
      case atStart => exact ⟨0, 0, _, N + 1, Nat.zero_le _, rfl, rfl, Int.le_refl _, by simp, gb_refl _ _, More.refl _, HK1.out, HM1.out, HNC.out, rfl⟩
      case round =>
        obtain ⟨j, v, k', N', hj, rfl, rfl, hv0, hv1, hgw, hmo, hko, hmp, hnc, hmf⟩ := hrel.all
        clear hrel
        rw [← HML.out] at hj
        have hWr := HW1.out.grown hgw HC.out.base HC.out.apart
        have hu' : unm st.length k' < n := Nat.lt_of_le_of_lt (hmo.unm st.length) HU.out
        by_cases hlt : j < ML
        · obtain ⟨f, hf⟩ : ∃ f, fs[j]? = some f := ⟨fs[j]'(by rw [← HML.out]; exact hlt), by simp⟩
          obtain ⟨g2, off2, cap2, c, hv, hg2, hRc, hc⟩ := (HFr.out.below hWr.old (FldG.below hWr.old)).at hf
          obtain ⟨ys1, xk, xn, xd, xm, xc, rfl, hys, hxr⟩ := hRc
          injection hv with hvA hvB hvC
          clear hvB
          subst hvA hvC
          have c0 := hc 0 _ rfl
          have c1 := hc 1 _ rfl
          have c2 := hc 2 _ rfl
          have c3 := hc 3 _ rfl
          have c4 := hc 4 _ rfl
          simp only [Nat.add_zero] at c0
          have hdr : fs.drop j = f :: fs.drop (j + 1) := by
            rw [List.drop_eq_getElem_cons (by rw [← HML.out]; exact hlt)]
            congr 1
            exact (List.getElem?_eq_some_iff.1 hf).2
          rw [hdr, mFs] at hmf
          obtain ⟨wA, hwA⟩ : ∃ wA, wA = wr.alloc (.cells #[.string ys1, .int .i64 (f.num : Int), .int .i64 xk, .string xn, .slice xd xm xc] 61) := ⟨_, rfl⟩
          have hbA : Below wr.heap.size wr wA := by rw [hwA]; exact below_alloc wr _
          have hBA : Bx wA wr.heap.size [.string ys1, .int .i64 (f.num : Int), .int .i64 xk, .string xn, .slice xd xm xc] 61 := by rw [hwA]; exact Bx.new wr _ _
          have f2 := hBA.cell 2 rfl
          have f3 := hBA.cell 3 rfl
          have f4 := hBA.cell 4 rfl
          have HQL := hid hBA.lt
          have hWA := hWr.grown (gb_below hbA) HC.out.base HC.out.apart
          have b7 := hWA.box.cell 7 rfl
          have HWA := hid hWA
          have HPL := hid hWA.box.lt
          have hT : ∀ W, Below wA.heap.size wA W → Calls Tryz.prog 167 #[.pointer (some ⟨p, 0, none⟩), .agg #[.int .i64 xk, .string xn, .slice xd xm xc]] W (OfR M b st.length (C - 1) W k' (mTy M (fnd st en sv) (mOf M (fnd st en sv) st n) k' f.ty)) := by
            intro W hb
            have hbW := below_next hbA hb
            refine ofType_any HC.out (C - 1) N' _ k' W (hWr.grown (gb_below hbW) HC.out.base HC.out.apart) (hmp.below hbW) hnc hko f.ty (HFn.out f (List.mem_of_getElem? hf)).2.1 xk xn xd xm xc (TyG.below hbW _ _ _ _ hxr) ?_
            intro i' W' hi' hb'
            have hbW' := below_next hbW hb'
            exact HIH.out (C - 1) N' (by omega) k' W' (hWr.grown (gb_below hbW') HC.out.base HC.out.apart) (hmp.below hbW') hnc hko hu' i' hi'
          have HT := hid hT
          have HGA := hid (gb_trans HG1.out (gb_trans hgw (gb_below hbA)))
          have HGw := hid (gb_trans hgw (gb_below hbA))
          have HwA := hid hwA
          have HMF := hid hmf
          have HMO := hid hmo
          have hen := HC.out.enter
          cases hmt : mTy M (fnd st en sv) (mOf M (fnd st en sv) st n) k' f.ty with
          | none =>
            have hRn : R = none := by
              have h1 := HMF.out
              rw [hmt] at h1
              rw [HRe.out, ← h1]
            subst hRn
            clear hT hbA hBA hWA hwA hmf hmo hgw hWr hc hf hdr hxr hys hmp hnc hko
            go_wp2_with fail
            rw [← HwA.out]
            refine wp_region_drawn2 (pred := fun jx v _ => match jx with | 0 => v = .pointer (some ⟨p, 0, none⟩) | 1 => v = .pointer (some ⟨p, 0, none⟩) | 2 => v = .pointer (some ⟨p, 7, none⟩) | 3 => v = .func (.func jf) #[] #[] | 4 => True | 5 => v = .pointer (some ⟨p, 0, none⟩) | 6 => v = .pointer (some ⟨wr.heap.size, 2, none⟩) | 7 => v = .agg #[.int .i64 xk, .string xn, .slice xd xm xc] | 8 => False | 9 => False | 10 => False | _ => True) (R := fun W => Below wA.heap.size wA W) (by kernel_rfl) (by kernel_rfl) (by kernel_rfl) (fun _ _ _ _ h _ => h) (Below.refl _ _).drew ?step ?done
            case step =>
              intro ix o ho A W hsz hdf hfr hdep hR
              rcases ix with _ | _ | _ | _ | _ | _ | _ | _ | _ | _ | _ | ix
              · injection ho with ho
                subst ho
                have e0 : A.eval (.tmp 0) = .pointer (some ⟨p, 0, none⟩) := (hfr 0 (noDst_spec (by kernel_rfl))).trans rfl
                exact gOp_mv rfl (wanted_plain rfl) (.inl rfl) e0 ⟨_, rfl, rfl, Below.refl _ _, hR⟩
              · injection ho with ho
                subst ho
                have e46 : A.eval (.tmp 46) = .pointer (some ⟨p, 0, none⟩) := hdep ⟨0, .data⟩ (by simp) rfl _ _ rfl rfl
                exact gOp_nil rfl (wanted_plain rfl) rfl e46 ⟨_, rfl, rfl, Below.refl _ _, hR⟩
              · injection ho with ho
                subst ho
                have e47 : A.eval (.tmp 47) = .pointer (some ⟨p, 0, none⟩) := hdep ⟨1, .data⟩ (by simp) rfl _ _ rfl rfl
                exact gOp_fld (v := .pointer (some ⟨p, 7, none⟩)) rfl (wanted_plain rfl) rfl e47 (by go_simp) ⟨_, rfl, rfl, Below.refl _ _, hR⟩
              · injection ho with ho
                subst ho
                have e48 : A.eval (.tmp 48) = .pointer (some ⟨p, 7, none⟩) := hdep ⟨2, .data⟩ (by simp) rfl _ _ rfl rfl
                have x0 := (hR.cell HPL.out).trans b7
                exact gOp_ld (v := .func (.func jf) #[] #[]) rfl (wanted_plain rfl) rfl e48 (by go_simp) ⟨_, rfl, rfl, Below.refl _ _, hR⟩
              · injection ho with ho
                subst ho
                exact gOp_mv rfl (wanted_plain rfl) (.inl rfl) rfl ⟨_, rfl, trivial, Below.refl _ _, hR⟩
              · injection ho with ho
                subst ho
                have e0 : A.eval (.tmp 0) = .pointer (some ⟨p, 0, none⟩) := (hfr 0 (noDst_spec (by kernel_rfl))).trans rfl
                exact gOp_mv rfl (wanted_plain rfl) (.inl rfl) e0 ⟨_, rfl, rfl, Below.refl _ _, hR⟩
              · injection ho with ho
                subst ho
                have e8 : A.eval (.tmp 8) = .pointer (some ⟨wr.heap.size, 0, none⟩) := (hfr 8 (noDst_spec (by kernel_rfl))).trans rfl
                exact gOp_fld (v := .pointer (some ⟨wr.heap.size, 2, none⟩)) rfl (wanted_plain rfl) rfl e8 (by go_simp) ⟨_, rfl, rfl, Below.refl _ _, hR⟩
              · injection ho with ho
                subst ho
                have e52 : A.eval (.tmp 52) = .pointer (some ⟨wr.heap.size, 2, none⟩) := hdep ⟨6, .data⟩ (by simp) rfl _ _ rfl rfl
                have x0 := (hR.cell HQL.out).trans f2
                have x1 := (hR.cell HQL.out).trans f3
                have x2 := (hR.cell HQL.out).trans f4
                exact gOp_ld (v := .agg #[.int .i64 xk, .string xn, .slice xd xm xc]) rfl (wanted_plain rfl) rfl e52 (by go_simp) ⟨_, rfl, rfl, Below.refl _ _, hR⟩
              · injection ho with ho
                subst ho
                have e51 : A.eval (.tmp 51) = .pointer (some ⟨p, 0, none⟩) := hdep ⟨5, .data⟩ (by simp) rfl _ _ rfl rfl
                have e53 : A.eval (.tmp 53) = .agg #[.int .i64 xk, .string xn, .slice xd xm xc] := hdep ⟨7, .data⟩ (by simp) rfl _ _ rfl rfl
                refine gOp_dies rfl (wanted_plain rfl) 167 #[.pointer (some ⟨p, 0, none⟩), .agg #[.int .i64 xk, .string xn, .slice xd xm xc]] (run_call _ (fun _ _ => rfl) _ _ rfl _ (by simp [e51, e53])) ?_
                refine (HT.out W hR).mono ?_
                rintro e w5 ⟨hg5, hres⟩
                rw [hmt] at hres
                simp only at hres
                subst hres
                exact ⟨_, rfl, hdf, gb_trans HGA.out (gb_trans (gb_below hR) hg5), rfl⟩
              · injection ho with ho
                subst ho
                exact (hdep ⟨8, .data⟩ (by simp) rfl _ _ rfl rfl).elim
              · injection ho with ho
                subst ho
                exact (hdep ⟨9, .data⟩ (by simp) rfl _ _ rfl rfl).elim
              · simp at ho
            case done =>
              intro A W _ _ _ hcome _
              exact (hcome 8 _ _ rfl rfl).elim
          | some q =>
            obtain ⟨x, k''⟩ := q
            have hTd := hT wA.drew (Below.refl _ _).drew
            rw [hmt] at hTd
            have HTd := hid hTd
            have hvb : v ≤ 1000000 := by omega
            have hJ : 0 ≤ x → x ≤ 1000 → ∀ W, Calls Tryz.prog jf #[.int .i64 v, .int .i64 x] W fun e w' => e = .returned (.int .i64 (M.join v x)) ∧ Below W.heap.size W w' := fun hx0 hx1 W => HC.out.join v x W hv0 hvb hx0 hx1
            have HJ := hid hJ
            have h1 := HMF.out
            rw [hmt] at h1
            simp only at h1
            have HM2 := hid h1
            clear h1 hT hTd hJ hbA hBA hWA hwA hmf hmo hgw hWr hc hf hdr hxr hys hmp hnc hko
            go_wp2_with fail
            rw [← HwA.out]
            go_region_with (first
              | (refine HTd.out.mono ?_; rintro e w5 ⟨hg5, rfl, hx0, hx1, hmo5, hko5, N5, hmp5, hnc5⟩; have y7 := (HWA.out.grown (gb_trans (gb_below (Below.refl _ _).drew) hg5) HC.out.base HC.out.apart).box.cell 7 rfl)
              | (refine (HJ.out hx0 hx1 _).mono ?_; rintro e w6 ⟨rfl, hb6⟩))
            all_goals (
              have hbd := HC.out.bound v x hv0 hx0 hx1
              have HI : Hid (OfI M (fnd st en sv) (mOf M (fnd st en sv) st n) b st.length (C - 1) (k.set i 0) fs w1 (.int .i64 (M.join v x)) (.int .i64 ((j : Int) + 1)) w6) := ⟨j + 1, M.join v x, k'', N5, by rw [← HML.out]; omega, by simp, rfl, hbd.1, by have := hbd.2; omega, gb_trans HGw.out (gb_trans (gb_below (Below.refl _ _).drew) (gb_trans hg5 (gb_below hb6))), HMO.out.trans hmo5, hko5, hmp5.below hb6, hnc5, HM2.out⟩
              clear hbd hg5 hx0 hx1 hmo5 hko5 hmp5 hnc5 hb6 y7
              go_wp2
              exact ⟨HI.out, by simp [intOf]; omega⟩)
        · have hje : j = ML := by omega
          subst hje
          have hRv : R = if v + 1 ≤ M.most then some (v + 1, k'.set i (v + 1)) else none := by
            have h1 := hmf
            rw [HML.out, List.drop_length] at h1
            simp only [mFs] at h1
            rw [HRe.out, ← h1]
          have hvb : v ≤ 1000000 := by omega
          have b4 := hWr.box.cell 4 rfl
          have b5' := hWr.box.cell 5 rfl
          have HPL := hid hWr.box.lt
          have HGW := hid (gb_trans HG1.out hgw)
          have hWd := hWr.grown (gb_below (Below.refl _ _).drew) HC.out.base HC.out.apart
          have g3 := hWd.box.cell 3 rfl
          have hmost := HC.out.most
          have hwv : IntKind.i64.wrap (v + 1) = v + 1 := by unfold IntKind.wrap; simp [IntKind.bits, IntKind.signed]; omega
          by_cases hle : v + 1 ≤ M.most
          · rw [if_pos hle] at hRv
            subst hRv
            obtain ⟨w7, hrun2, hm7, hg7⟩ := (hmp.below (Below.refl _ _).drew).store (by omega) (i := i) (by omega) (v := v + 1) (small_wf (by omega) (by omega))
            have HF7 : Hid (OfR M b st.length C w k (some (v + 1, k'.set i (v + 1))) (.returned (.int .i64 (v + 1))) w7) := by
              refine ⟨gb_trans HGW.out (gb_trans (gb_below (Below.refl _ _).drew) hg7), rfl, by omega, by omega, (More.set k i 0).trans (hmo.trans (More.set k' i (v + 1))), hko.set (by omega) hle, N' + 1, hm7, ?_⟩
              have := (More.set k' i (v + 1)).unm st.length
              omega
            clear hmf hmo hgw hWr hWd hmp hnc hko hm7 hg7
            go_wp2_with fail
            go_region_with (refine (sneed_true M.above _).mono ?_; rintro e w2 ⟨rfl, hq2⟩; subst w2)
            all_goals (
              go_wp2_with fail
              go_ret
              exact HF7.out)
          · rw [if_neg hle] at hRv
            subst hRv
            clear hmf hmo hgw hWr hWd hmp hnc hko
            go_wp2_with fail
            refine wp_region_drawn2 (pred := fun jx vx _ => match jx with | 0 => vx = .int .i64 (v + 1) | 1 => vx = .pointer (some ⟨p, 0, none⟩) | 2 => vx = .pointer (some ⟨p, 0, none⟩) | 3 => vx = .pointer (some ⟨p, 4, none⟩) | 4 => vx = .int .i64 M.most | 5 => vx = .bool false | 6 => vx = .pointer (some ⟨p, 0, none⟩) | 7 => vx = .pointer (some ⟨p, 0, none⟩) | 8 => vx = .pointer (some ⟨p, 5, none⟩) | 9 => vx = .int .i64 M.above | 10 => False | _ => True) (R := fun W => Below wr.heap.size wr W) (by kernel_rfl) (by kernel_rfl) (by kernel_rfl) (fun _ _ _ _ h _ => h) (Below.refl _ _).drew ?step ?done
            case step =>
              intro ix o ho A W hsz hdf hfr hdep hR
              rcases ix with _ | _ | _ | _ | _ | _ | _ | _ | _ | _ | _ | ix
              · injection ho with ho
                subst ho
                have e5 : A.eval (.tmp 5) = .int .i64 (v + 1) := (hfr 5 (noDst_spec (by kernel_rfl))).trans rfl
                exact gOp_mv rfl (wanted_plain rfl) (.inl rfl) e5 ⟨_, rfl, rfl, Below.refl _ _, hR⟩
              · injection ho with ho
                subst ho
                have e0 : A.eval (.tmp 0) = .pointer (some ⟨p, 0, none⟩) := (hfr 0 (noDst_spec (by kernel_rfl))).trans rfl
                exact gOp_mv rfl (wanted_plain rfl) (.inl rfl) e0 ⟨_, rfl, rfl, Below.refl _ _, hR⟩
              · injection ho with ho
                subst ho
                have e60 : A.eval (.tmp 60) = .pointer (some ⟨p, 0, none⟩) := hdep ⟨1, .data⟩ (by simp) rfl _ _ rfl rfl
                exact gOp_nil rfl (wanted_plain rfl) rfl e60 ⟨_, rfl, rfl, Below.refl _ _, hR⟩
              · injection ho with ho
                subst ho
                have e61 : A.eval (.tmp 61) = .pointer (some ⟨p, 0, none⟩) := hdep ⟨2, .data⟩ (by simp) rfl _ _ rfl rfl
                exact gOp_fld (v := .pointer (some ⟨p, 4, none⟩)) rfl (wanted_plain rfl) rfl e61 (by go_simp) ⟨_, rfl, rfl, Below.refl _ _, hR⟩
              · injection ho with ho
                subst ho
                have e62 : A.eval (.tmp 62) = .pointer (some ⟨p, 4, none⟩) := hdep ⟨3, .data⟩ (by simp) rfl _ _ rfl rfl
                have x0 := (hR.cell HPL.out).trans b4
                exact gOp_ld (v := .int .i64 M.most) rfl (wanted_plain rfl) rfl e62 (by go_simp) ⟨_, rfl, rfl, Below.refl _ _, hR⟩
              · injection ho with ho
                subst ho
                have e59 : A.eval (.tmp 59) = .int .i64 (v + 1) := hdep ⟨0, .data⟩ (by simp) rfl _ _ rfl rfl
                have e63 : A.eval (.tmp 63) = .int .i64 M.most := hdep ⟨4, .data⟩ (by simp) rfl _ _ rfl rfl
                exact gOp_ok (v := .bool false) rfl (wanted_plain rfl) (run_bin rfl e59 e63 (by go_simp) (by go_simp)) ⟨_, rfl, rfl, Below.refl _ _, hR⟩
              · injection ho with ho
                subst ho
                have e0 : A.eval (.tmp 0) = .pointer (some ⟨p, 0, none⟩) := (hfr 0 (noDst_spec (by kernel_rfl))).trans rfl
                exact gOp_mv rfl (wanted_plain rfl) (.inl rfl) e0 ⟨_, rfl, rfl, Below.refl _ _, hR⟩
              · injection ho with ho
                subst ho
                have e65 : A.eval (.tmp 65) = .pointer (some ⟨p, 0, none⟩) := hdep ⟨6, .data⟩ (by simp) rfl _ _ rfl rfl
                exact gOp_nil rfl (wanted_plain rfl) rfl e65 ⟨_, rfl, rfl, Below.refl _ _, hR⟩
              · injection ho with ho
                subst ho
                have e66 : A.eval (.tmp 66) = .pointer (some ⟨p, 0, none⟩) := hdep ⟨7, .data⟩ (by simp) rfl _ _ rfl rfl
                exact gOp_fld (v := .pointer (some ⟨p, 5, none⟩)) rfl (wanted_plain rfl) rfl e66 (by go_simp) ⟨_, rfl, rfl, Below.refl _ _, hR⟩
              · injection ho with ho
                subst ho
                have e67 : A.eval (.tmp 67) = .pointer (some ⟨p, 5, none⟩) := hdep ⟨8, .data⟩ (by simp) rfl _ _ rfl rfl
                have x0 := (hR.cell HPL.out).trans b5'
                exact gOp_ld (v := .int .i64 M.above) rfl (wanted_plain rfl) rfl e67 (by go_simp) ⟨_, rfl, rfl, Below.refl _ _, hR⟩
              · injection ho with ho
                subst ho
                have e64 : A.eval (.tmp 64) = .bool false := hdep ⟨5, .data⟩ (by simp) rfl _ _ rfl rfl
                have e68 : A.eval (.tmp 68) = .int .i64 M.above := hdep ⟨9, .data⟩ (by simp) rfl _ _ rfl rfl
                refine gOp_dies rfl (wanted_plain rfl) 107 #[.bool false, .int .i64 M.above] (run_call _ (fun _ _ => rfl) _ _ rfl _ (by simp [e64, e68])) ?_
                refine (sneed_false M.above _).mono ?_
                rintro e w5 ⟨rfl, rfl⟩
                exact ⟨_, rfl, hdf, gb_trans HGW.out (gb_below hR), rfl⟩
              · simp at ho
            case done =>
              intro A W _ _ _ hcome _
              exact (hcome 10 _ _ rfl rfl).elim
end Go.Proofs.YtmiohekmpjiloaaGreatDoor

namespace Go.Proofs.YtmiohekmpjiloaaGreatDoor
open Go.RowKit
set_option maxRecDepth 20000
open Go.Maps

theorem range_drop {L j : Nat} (h : j < L) : (List.range L).drop j = j :: (List.range L).drop (j + 1) := by
  rw [List.drop_eq_getElem_cons (by simpa using h)]
  simp

structure MalI (M : Mea) (find : List Nat → Int × Int) (st : List (List Nat × List Pl.Fld)) (b : Nat) (w : World) (i : Value) (wr : World) : Prop where
  all : ∃ (j : Nat) (k : Kn) (N : Nat), j ≤ st.length ∧ i = .int .i64 (j : Int) ∧ w.grownBy wr (some b) ∧ KnOk M k ∧ MpI wr b N k ∧ N + 2 * unm st.length k ≤ 2 * st.length ∧ mAll M find st ((List.range st.length).drop j) k = mAll M find st (List.range st.length) (fun _ => none)

theorem unm_none (L : Nat) : unm L (fun _ => none) ≤ L := by
  unfold unm
  exact Nat.le_trans List.countP_le_length (by simp)

set_option maxHeartbeats 8000000 in
theorem all_any {M : Mea} {jf p b : Nat} {st : List (List Nat × List Pl.Fld)} {en : List (List Nat × List Pl.Cas)} {sv : List (List Nat × List Pl.Mth)} {w0 : World} {s1 s2 s3 : Value} (hC : MeaC M jf st en sv p b w0 s1 s2 s3) (w : World) (hW : MeaW M jf p b w0 s1 s2 s3 w) (hm : MpI w b 0 (fun _ => none)) :
    Calls Tryz.prog 111 #[.pointer (some ⟨p, 0, none⟩)] w fun e w' => w.grownBy w' (some b) ∧ e = if mAll M (fnd st en sv) st (List.range st.length) (fun _ => none) then .returned (.tuple #[]) else .panicked (errp M.above) := by
  obtain ⟨R, hR⟩ : ∃ R, R = mAll M (fnd st en sv) st (List.range st.length) (fun _ => none) := ⟨_, rfl⟩
  rw [← hR]
  have HR := hid hR
  have HC := hid hC
  have HW := hid hW
  have HMp := hid hm
  obtain ⟨a1, c1, a2, c2, a3, c3, rfl, rfl, rfl⟩ := hC.sch.shape
  have x0 := hW.box.cell 0 rfl
  have hlen := hC.len.1
  obtain ⟨L, hL⟩ : ∃ L, L = st.length := ⟨_, rfl⟩
  rw [← hL] at hlen x0
  have HL := hid hL
  clear hR hC hW hm hL
  go_enter Tryz.func111, Tryz.ntmps111
  go_wp2_with fail
  go_loopw [9] (fun i wr => MalI M (fnd st en sv) st b w i wr) (fun i _ => L - (intOf i).toNat)
  case atStart => exact ⟨0, _, 0, Nat.zero_le _, rfl, gb_refl _ _, (fun i v h => by simp at h), HMp.out, by have := unm_none st.length; omega, rfl⟩
  case round =>
    obtain ⟨j, k, N, hj, rfl, hg, hk, hmp, hN, hmf⟩ := hrel.all
    clear hrel
    rw [← HL.out] at hj
    by_cases hlt : j < L
    · have hO := of_any HC.out (st.length + 1) (2 * st.length) N (by rw [← HL.out]; omega) k wr (HW.out.grown hg HC.out.base HC.out.apart) hmp hN hk (by
        have : unm st.length k ≤ st.length := by
          unfold unm
          exact Nat.le_trans List.countP_le_length (by simp)
        omega) j (by rw [← HL.out]; exact hlt)
      rw [HL.out] at hlt
      rw [range_drop hlt, mAll] at hmf
      rw [← HL.out] at hlt
      have HO := hid hO
      have HG := hid hg
      have HMF := hid hmf
      clear hO hg hmf hmp hN hk
      go_wp2_with fail
      refine HO.out.mono ?_
      rintro e w2 ⟨hg2, hres⟩
      have HG2 := hid (gb_trans HG.out hg2)
      have hmf := HMF.out
      clear hg2
      cases hmo : mOf M (fnd st en sv) st (st.length + 1) k j with
      | none =>
        rw [hmo] at hres hmf
        simp only at hres hmf
        subst hres
        have hRf : R = false := HR.out.trans hmf.symm
        subst hRf
        exact ⟨rfl, HG2.out, rfl⟩
      | some q =>
        obtain ⟨v, k'⟩ := q
        rw [hmo] at hres hmf
        obtain ⟨rfl, _, _, hmo', hko', N', hmp', hN'⟩ := hres
        simp only at hmf
        have HI : Hid (MalI M (fnd st en sv) st b w (.int .i64 ((j : Int) + 1)) w2) := ⟨j + 1, k', N', by rw [← HL.out]; omega, by simp, HG2.out, hko', hmp', hN', hmf⟩
        clear hmf hmo' hko' hmp' hN'
        go_wp2
        exact ⟨HI.out, by simp [intOf]; omega⟩
    · have hje : j = L := by omega
      subst hje
      have hRt : R = true := by
        rw [HR.out, ← hmf, HL.out]
        have : (List.range st.length).drop st.length = [] := by simp
        rw [this]
        rfl
      subst hRt
      have HG := hid hg
      clear hg hmp hN hmf hk
      go_wp2
      go_end0
      exact ⟨HG.out, rfl⟩

def mDepth : Mea := ⟨8, 42, 0, max⟩
def mWeight : Mea := ⟨64, 5, 1, (· + ·)⟩
set_option maxHeartbeats 2000000 in
theorem join1_any (x y : Int) (W : World) : Calls Tryz.prog 148 #[.int .i64 x, .int .i64 y] W fun e w' => e = .returned (.int .i64 (max x y)) ∧ Below W.heap.size W w' := by
  go_enter Tryz.func148, Tryz.ntmps148
  go_wp2
  go_ret
  exact ⟨rfl, Below.refl _ _⟩
set_option maxHeartbeats 2000000 in
theorem join2_any (x y : Int) (W : World) (h0 : 0 ≤ x) (h1 : x ≤ 1000000) (h2 : 0 ≤ y) (h3 : y ≤ 1000) : Calls Tryz.prog 150 #[.int .i64 x, .int .i64 y] W fun e w' => e = .returned (.int .i64 (x + y)) ∧ Below W.heap.size W w' := by
  have hw : IntKind.i64.wrap (x + y) = x + y := by unfold IntKind.wrap; simp [IntKind.bits, IntKind.signed]; omega
  go_enter Tryz.func150, Tryz.ntmps150
  go_wp2
  go_ret
  exact ⟨rfl, Below.refl _ _⟩
/-- The world that depths and weights leave. -/
def meaWorld (M : Mea) (jf : Nat) (s1 s2 s3 : Value) (w : World) : World :=
  ((w.alloc (.cells #[s1, s2, s3] 26)).alloc (.map #[] 0)).alloc (.cells #[s1, s2, s3, .map (some (w.heap.size + 1)), .int .i64 M.most, .int .i64 M.above, .int .i64 M.other, .func (.func jf) #[] #[]] 201)
set_option maxHeartbeats 2000000 in
theorem depths_any (s1 s2 s3 : Value) (w : World) : Calls Tryz.prog 110 #[.agg #[s1, s2, s3]] w fun e w' => e = .returned (.pointer (some ⟨w.heap.size + 2, 0, none⟩)) ∧ w' = meaWorld mDepth 148 s1 s2 s3 w := by
  have hmk : ∀ (t : TypeId) (w : World), (Instr.makeMap t none).run Tryz.prog w = .ok (.map (some w.heap.size)) (w.alloc (.map #[] 0)) := fun t w => run_makeMap t w
  go_enter Tryz.func110, Tryz.ntmps110
  go_wp2
  go_ret
  exact ⟨rfl, rfl⟩
set_option maxHeartbeats 2000000 in
theorem weights_any (s1 s2 s3 : Value) (w : World) : Calls Tryz.prog 112 #[.agg #[s1, s2, s3]] w fun e w' => e = .returned (.pointer (some ⟨w.heap.size + 2, 0, none⟩)) ∧ w' = meaWorld mWeight 150 s1 s2 s3 w := by
  have hmk : ∀ (t : TypeId) (w : World), (Instr.makeMap t none).run Tryz.prog w = .ok (.map (some w.heap.size)) (w.alloc (.map #[] 0)) := fun t w => run_makeMap t w
  go_enter Tryz.func112, Tryz.ntmps112
  go_wp2
  go_ret
  exact ⟨rfl, rfl⟩

theorem meaWorld_ok (M : Mea) (jf : Nat) (s1 s2 s3 : Value) (w : World) : MeaW M jf (w.heap.size + 2) (w.heap.size + 1) w s1 s2 s3 (meaWorld M jf s1 s2 s3 w) ∧ MpI (meaWorld M jf s1 s2 s3 w) (w.heap.size + 1) 0 (fun _ => none) ∧ Below w.heap.size w (meaWorld M jf s1 s2 s3 w) := by
  obtain ⟨wa, hwa⟩ : ∃ wa, wa = w.alloc (.cells #[s1, s2, s3] 26) := ⟨_, rfl⟩
  have hza : wa.heap.size = w.heap.size + 1 := by rw [hwa]; simp
  have hzb : (wa.alloc (.map #[] 0)).heap.size = w.heap.size + 2 := by simp [hza]
  have hba : Below w.heap.size w wa := by rw [hwa]; exact below_alloc w _
  unfold meaWorld
  rw [← hwa, ← hza]
  have hb := below_next (below_next hba (below_alloc wa (.map #[] 0))) (below_alloc (wa.alloc (.map #[] 0)) (.cells #[s1, s2, s3, .map (some wa.heap.size), .int .i64 M.most, .int .i64 M.above, .int .i64 M.other, .func (.func jf) #[] #[]] 201))
  exact ⟨⟨hb, Bx.newAt (by rw [hzb]) _ _⟩, (MpI.made wa).below (below_alloc _ _), hb⟩

theorem meaC1 {st : List (List Nat × List Pl.Fld)} {en : List (List Nat × List Pl.Cas)} {sv : List (List Nat × List Pl.Mth)} {w : World} {s1 s2 s3 : Value} (hS : SchG st en sv s1 s2 s3 w) (hl : st.length ≤ 1000 ∧ en.length ≤ 1000 ∧ sv.length ≤ 1000) (hn : ∀ a ∈ st, a.2.length ≤ 1000 ∧ ∀ f ∈ a.2, fldNm f) : MeaC mDepth 148 st en sv (w.heap.size + 2) (w.heap.size + 1) w s1 s2 s3 :=
  ⟨hS, hl, hn, by omega, by omega, fun _ _ => rfl, fun x y W _ _ _ _ => join1_any x y W, by simp [mDepth], by simp [mDepth], fun x y h0 h1 h2 => by simp only [mDepth]; omega⟩
theorem meaC2 {st : List (List Nat × List Pl.Fld)} {en : List (List Nat × List Pl.Cas)} {sv : List (List Nat × List Pl.Mth)} {w : World} {s1 s2 s3 : Value} (hS : SchG st en sv s1 s2 s3 w) (hl : st.length ≤ 1000 ∧ en.length ≤ 1000 ∧ sv.length ≤ 1000) (hn : ∀ a ∈ st, a.2.length ≤ 1000 ∧ ∀ f ∈ a.2, fldNm f) : MeaC mWeight 150 st en sv (w.heap.size + 2) (w.heap.size + 1) w s1 s2 s3 :=
  ⟨hS, hl, hn, by omega, by omega, fun _ _ => rfl, fun x y W a b c d => join2_any x y W a b c d, by simp [mWeight], by simp [mWeight], fun x y h0 h1 h2 => by simp only [mWeight]; omega⟩
end Go.Proofs.YtmiohekmpjiloaaGreatDoor

namespace Go.Proofs.YtmiohekmpjiloaaGreatDoor
open Go.RowKit
set_option maxRecDepth 20000

theorem SlT.below {w w' : World} {v : Value} {xs : List ByteArray} (h : SlT w v xs) (hb : Below w.heap.size w w') : SlT w' v xs := by
  obtain ⟨ad, cp, h1, h2, h3⟩ := h
  refine ⟨ad, cp, h1, h2, fun i s hs => ?_⟩
  obtain ⟨q1, g, off, q2, q3, q4⟩ := h3 i s hs
  exact ⟨q1, g, off, q2, Nat.lt_of_lt_of_le q3 hb.size, (hb.cell q3).trans q4⟩

theorem eachNm1 (xs : List (List Nat × List Pl.Fld)) (hl : xs.length ≤ 1000) (hn : ∀ a ∈ xs, a.1.length ≤ 1000) (v : Value) (W : World) (hS : Rw 2 (DecG 5 FldG) W v xs) :
    Calls Tryz.prog 100 #[v, .func (.func 101) #[] #[]] W fun e w' => (∃ ta tc bs, e = .returned (.slice ta xs.length tc) ∧ SlT w' (.slice ta xs.length tc) bs ∧ bs.map bl = xs.map Prod.fst ∧ bs.length = xs.length) ∧ Below W.heap.size W w' := by
  refine (eachStructString_any 101 (fun _ _ => rfl) v xs (by omega) (fun a s => s.size ≤ maxLen ∧ bl s = a.1) W hS (by
    rintro a ha c W' _ ⟨s, ad, m, cp, rfl, hs, _⟩ hb
    refine (all1_any s _ W').mono ?_
    rintro e w' ⟨rfl, hb'⟩
    refine ⟨s, rfl, ⟨?_, hs⟩, hb'⟩
    have := hn a ha
    rw [← hs, bl_length] at this
    unfold maxLen
    omega)).mono ?_
  rintro e w' ⟨tv, rfl, hrows, hb⟩
  obtain ⟨bs, h1, h2, h3⟩ := rows_slT (fun a : List Nat × List Pl.Fld => a.1) hrows hl
  obtain ⟨ta, tc, rfl⟩ := hrows.shape
  exact ⟨⟨ta, tc, bs, rfl, h1, h2, h3⟩, hb⟩

theorem eachNm2 (xs : List (List Nat × List Pl.Cas)) (hl : xs.length ≤ 1000) (hn : ∀ a ∈ xs, a.1.length ≤ 1000) (v : Value) (W : World) (hS : Rw 2 (DecG 2 CasG) W v xs) :
    Calls Tryz.prog 102 #[v, .func (.func 103) #[] #[]] W fun e w' => (∃ ta tc bs, e = .returned (.slice ta xs.length tc) ∧ SlT w' (.slice ta xs.length tc) bs ∧ bs.map bl = xs.map Prod.fst ∧ bs.length = xs.length) ∧ Below W.heap.size W w' := by
  refine (eachEnumString_any 103 (fun _ _ => rfl) v xs (by omega) (fun a s => s.size ≤ maxLen ∧ bl s = a.1) W hS (by
    rintro a ha c W' _ ⟨s, ad, m, cp, rfl, hs, _⟩ hb
    refine (all2_any s _ W').mono ?_
    rintro e w' ⟨rfl, hb'⟩
    refine ⟨s, rfl, ⟨?_, hs⟩, hb'⟩
    have := hn a ha
    rw [← hs, bl_length] at this
    unfold maxLen
    omega)).mono ?_
  rintro e w' ⟨tv, rfl, hrows, hb⟩
  obtain ⟨bs, h1, h2, h3⟩ := rows_slT (fun a : List Nat × List Pl.Cas => a.1) hrows hl
  obtain ⟨ta, tc, rfl⟩ := hrows.shape
  exact ⟨⟨ta, tc, bs, rfl, h1, h2, h3⟩, hb⟩

theorem eachNm3 (xs : List (List Nat × List Pl.Mth)) (hl : xs.length ≤ 1000) (hn : ∀ a ∈ xs, a.1.length ≤ 1000) (v : Value) (W : World) (hS : Rw 2 (DecG 8 MthG) W v xs) :
    Calls Tryz.prog 104 #[v, .func (.func 105) #[] #[]] W fun e w' => (∃ ta tc bs, e = .returned (.slice ta xs.length tc) ∧ SlT w' (.slice ta xs.length tc) bs ∧ bs.map bl = xs.map Prod.fst ∧ bs.length = xs.length) ∧ Below W.heap.size W w' := by
  refine (eachServiceString_any 105 (fun _ _ => rfl) v xs (by omega) (fun a s => s.size ≤ maxLen ∧ bl s = a.1) W hS (by
    rintro a ha c W' _ ⟨s, ad, m, cp, rfl, hs, _⟩ hb
    refine (all3_any s _ W').mono ?_
    rintro e w' ⟨rfl, hb'⟩
    refine ⟨s, rfl, ⟨?_, hs⟩, hb'⟩
    have := hn a ha
    rw [← hs, bl_length] at this
    unfold maxLen
    omega)).mono ?_
  rintro e w' ⟨tv, rfl, hrows, hb⟩
  obtain ⟨bs, h1, h2, h3⟩ := rows_slT (fun a : List Nat × List Pl.Mth => a.1) hrows hl
  obtain ⟨ta, tc, rfl⟩ := hrows.shape
  exact ⟨⟨ta, tc, bs, rfl, h1, h2, h3⟩, hb⟩

def structsE (f : List Nat → Int) : List (List Nat × List Pl.Fld) → Int
  | [] => 0
  | x :: r => thenE (structE f x.2) (structsE f r)
def enumsE : List (List Nat × List Pl.Cas) → Int
  | [] => 0
  | x :: r => thenE (if 0 < x.2.length then 0 else 3) (thenE (partsE 0 x.2) (enumsE r))
def servicesE (f : List Nat → Int) : List (List Nat × List Pl.Mth) → Int
  | [] => 0
  | x :: r => thenE (serviceE f x.2) (servicesE f r)
def restE (st : List (List Nat × List Pl.Fld)) (en : List (List Nat × List Pl.Cas)) (sv : List (List Nat × List Pl.Mth)) (f : List Nat → Int) : Int :=
  thenE (structsE f st) (thenE (enumsE en) (thenE (servicesE f sv) (thenE (if mAll mDepth (fnd st en sv) st (List.range st.length) (fun _ => none) then 0 else 42) (if mAll mWeight (fnd st en sv) st (List.range st.length) (fun _ => none) then 0 else 5))))
/-- What checkAll ends with. -/
def allE (st : List (List Nat × List Pl.Fld)) (en : List (List Nat × List Pl.Cas)) (sv : List (List Nat × List Pl.Mth)) : Int :=
  match meetF 1 (st.map Prod.fst) (fun _ => 0) with
  | none => 6
  | some f1 => match meetF 2 (en.map Prod.fst) f1 with
    | none => 6
    | some f2 => match meetF 3 (sv.map Prod.fst) f2 with
      | none => 6
      | some f => restE st en sv f

structure ChkC (st : List (List Nat × List Pl.Fld)) (en : List (List Nat × List Pl.Cas)) (sv : List (List Nat × List Pl.Mth)) (p b : Nat) (w0 : World) (s1 s2 s3 : Value) : Prop where
  sch : SchG st en sv s1 s2 s3 w0
  len : st.length ≤ 1000 ∧ en.length ≤ 1000 ∧ sv.length ≤ 1000
  nst : ∀ a ∈ st, a.1.length ≤ 1000 ∧ a.2.length ≤ 1000 ∧ ∀ f ∈ a.2, fldNm f
  nen : ∀ a ∈ en, a.1.length ≤ 1000 ∧ a.2.length ≤ 1000 ∧ ∀ f ∈ a.2, f.name.length ≤ 1000
  nsv : ∀ a ∈ sv, a.1.length ≤ 1000 ∧ a.2.length ≤ 1000 ∧ ∀ f ∈ a.2, mthNm f
  base : w0.heap.size ≤ b
  apart : p ≠ b
structure ChkW (p b : Nat) (w0 : World) (s1 s2 s3 : Value) (w : World) : Prop where
  old : Below w0.heap.size w0 w
  box : Bx w p [s1, s2, s3, .map (some b)] 129
theorem ChkW.grown {p b : Nat} {w0 w w' : World} {s1 s2 s3 : Value} (h : ChkW p b w0 s1 s2 s3 w) (hg : w.grownBy w' (some b)) (hb : w0.heap.size ≤ b) (hp : p ≠ b) : ChkW p b w0 s1 s2 s3 w' :=
  ⟨h.old.grown hg h.old.size (fun k hk => by cases hk; exact hb), h.box.grown hg hp⟩

theorem meaWorld_ok' {M : Mea} {jf : Nat} {s1 s2 s3 : Value} {w w' : World} (h : w' = meaWorld M jf s1 s2 s3 w) : MeaW M jf (w.heap.size + 2) (w.heap.size + 1) w s1 s2 s3 w' ∧ MpI w' (w.heap.size + 1) 0 (fun _ => none) ∧ Below w.heap.size w w' := by
  subst h
  exact meaWorld_ok M jf s1 s2 s3 w
structure LpI {α : Type} (E : List α → Int) (xs : List α) (w : World) (i : Value) (wr : World) : Prop where
  all : ∃ j, j ≤ xs.length ∧ i = .int .i64 (j : Int) ∧ E (xs.drop j) = E xs ∧ Below w.heap.size w wr

set_option maxHeartbeats 32000000 in
theorem checkAll_any {st : List (List Nat × List Pl.Fld)} {en : List (List Nat × List Pl.Cas)} {sv : List (List Nat × List Pl.Mth)} {p b : Nat} {w0 : World} {s1 s2 s3 : Value} (hC : ChkC st en sv p b w0 s1 s2 s3) (w : World) (hW : ChkW p b w0 s1 s2 s3 w) (hm : Mp w b 0 (fun _ => 0)) :
    Calls Tryz.prog 75 #[.pointer (some ⟨p, 0, none⟩)] w fun e w' => w.grownBy w' (some b) ∧ e = if allE st en sv = 0 then .returned (.tuple #[]) else .panicked (errp (allE st en sv)) := by
  obtain ⟨R, hR⟩ : ∃ R, R = allE st en sv := ⟨_, rfl⟩
  rw [← hR]
  have HR := hid hR
  have HC := hid hC
  have HCW0 := hid hW
  have HMp0 : Hid (Mp w b 0 (fun _ => 0)) := hm
  have HG0 : Hid (w.grownBy w (some b)) := gb_refl _ _
  obtain ⟨a1, c1, a2, c2, a3, c3, rfl, rfl, rfl⟩ := hC.sch.shape
  obtain ⟨hl1, hl2, hl3⟩ := hC.len
  obtain ⟨l1, hL1⟩ : ∃ L, L = st.length := ⟨_, rfl⟩
  obtain ⟨l2, hL2⟩ : ∃ L, L = en.length := ⟨_, rfl⟩
  obtain ⟨l3, hL3⟩ : ∃ L, L = sv.length := ⟨_, rfl⟩
  rw [← hL1] at hl1 HC HCW0
  rw [← hL2] at hl2 HC HCW0
  rw [← hL3] at hl3 HC HCW0
  have HL0 := hid hL1
  have HL1 := hid hL2
  have HL2 := hid hL3
  clear hR hC hW hm hL1 hL2 hL3
  go_enter Tryz.func75, Tryz.ntmps75
  have g03 := HCW0.out.box.cell 3 rfl
  have g0s := HCW0.out.box.cell 0 rfl
  have HPL0 := hid HCW0.out.box.lt
  have hE0 : ∀ W, Below w.heap.size w W → Calls Tryz.prog 100 #[.slice a1 l1 c1, .func (.func 101) #[] #[]] W fun e w' => (∃ ta tc bs, e = .returned (.slice ta l1 tc) ∧ SlT w' (.slice ta l1 tc) bs ∧ bs.map bl = st.map Prod.fst ∧ bs.length = l1) ∧ Below W.heap.size W w' := by
    intro W hb
    have h := eachNm1 st HC.out.len.1 (fun a ha => (HC.out.nst a ha).1) (.slice a1 l1 c1) W (HC.out.sch.below (HCW0.out.old.trans (hb.mono HCW0.out.old.size))).1
    rw [← HL0.out] at h
    exact h
  have hMT0 : ∀ W, Below w.heap.size w W → ∀ v bs, SlT W v bs → bs.map bl = st.map Prod.fst → bs.length = l1 → Calls Tryz.prog 99 #[.map (some b), .int .i64 1, .int .i64 6, v] W fun e w' => W.grownBy w' (some b) ∧ match meetF 1 (st.map Prod.fst) (fun _ => 0) with
      | some f => e = .returned (.tuple #[]) ∧ Mp w' b (0 + l1) f
      | none => e = .panicked (errp 6) := by
    intro W hb v bs h1 h2 h3
    have h := meet_any b (0) 1 6 (by decide) v bs (by omega) (by omega) (fun _ => 0) W (HMp0.out.below hb) h1
    rw [h2, h3] at h
    exact h
  have HE0 := hid hE0
  have HMT0 := hid hMT0
  clear hE0 hMT0
  cases hm0 : meetF 1 (st.map Prod.fst) (fun _ => 0) with
  | none =>
    have hR6 : R = 6 := by rw [HR.out]; unfold allE; simp only [hm0]
    subst hR6
    go_wp2_with fail
    refine wp_region_drawn2 (pred := fun jx v W => match jx with | 0 => v = .pointer (some ⟨p, 0, none⟩) | 1 => v = .pointer (some ⟨p, 0, none⟩) | 2 => v = .pointer (some ⟨p, 3, none⟩) | 3 => v = .map (some b) | 4 => v = .pointer (some ⟨p, 0, none⟩) | 5 => v = .pointer (some ⟨p, 0, none⟩) | 6 => v = .pointer (some ⟨p, 0, none⟩) | 7 => v = .pointer (some ⟨p, 0, none⟩) | 8 => v = .slice a1 l1 c1 | 9 => ∃ ta tc bs, v = .slice ta l1 tc ∧ SlT W (.slice ta l1 tc) bs ∧ bs.map bl = (st.map Prod.fst) ∧ bs.length = l1 | 10 => False | _ => True) (R := fun W => Below (w).heap.size (w) W) (by kernel_rfl) (by kernel_rfl) (by kernel_rfl) ?mono (Below.refl _ _).drew ?step ?done
    case mono =>
      intro ix v W W' h hb
      match ix, h with
      | 0, h => exact h
      | 1, h => exact h
      | 2, h => exact h
      | 3, h => exact h
      | 4, h => exact h
      | 5, h => exact h
      | 6, h => exact h
      | 7, h => exact h
      | 8, h => exact h
      | 9, ⟨ta, tc, bs, h1, h2, h3, h4⟩ => exact ⟨ta, tc, bs, h1, h2.below hb, h3, h4⟩
      | 10, h => exact h.elim
      | _ + 11, _ => trivial
    case step =>
      intro ix o ho A W hsz hdf hfr hdep hR
      rcases ix with _ | _ | _ | _ | _ | _ | _ | _ | _ | _ | _ | ix
      · injection ho with ho
        subst ho
        have e0 : A.eval (.tmp 0) = .pointer (some ⟨p, 0, none⟩) := (hfr 0 (noDst_spec (by kernel_rfl))).trans rfl
        exact gOp_mv rfl (wanted_plain rfl) (.inl rfl) e0 ⟨_, rfl, rfl, Below.refl _ _, hR⟩
      · injection ho with ho
        subst ho
        have e8 : A.eval (.tmp 8) = .pointer (some ⟨p, 0, none⟩) := hdep ⟨0, .data⟩ (by simp) rfl _ _ rfl rfl
        exact gOp_nil rfl (wanted_plain rfl) rfl e8 ⟨_, rfl, rfl, Below.refl _ _, hR⟩
      · injection ho with ho
        subst ho
        have e9 : A.eval (.tmp 9) = .pointer (some ⟨p, 0, none⟩) := hdep ⟨1, .data⟩ (by simp) rfl _ _ rfl rfl
        exact gOp_fld (v := .pointer (some ⟨p, 3, none⟩)) rfl (wanted_plain rfl) rfl e9 (by go_simp) ⟨_, rfl, rfl, Below.refl _ _, hR⟩
      · injection ho with ho
        subst ho
        have e10 : A.eval (.tmp 10) = .pointer (some ⟨p, 3, none⟩) := hdep ⟨2, .data⟩ (by simp) rfl _ _ rfl rfl
        have x0 := (hR.cell HPL0.out).trans g03
        exact gOp_ld (v := .map (some b)) rfl (wanted_plain rfl) rfl e10 (by go_simp) ⟨_, rfl, rfl, Below.refl _ _, hR⟩
      · injection ho with ho
        subst ho
        have e0 : A.eval (.tmp 0) = .pointer (some ⟨p, 0, none⟩) := (hfr 0 (noDst_spec (by kernel_rfl))).trans rfl
        exact gOp_mv rfl (wanted_plain rfl) (.inl rfl) e0 ⟨_, rfl, rfl, Below.refl _ _, hR⟩
      · injection ho with ho
        subst ho
        have e12 : A.eval (.tmp 12) = .pointer (some ⟨p, 0, none⟩) := hdep ⟨4, .data⟩ (by simp) rfl _ _ rfl rfl
        exact gOp_nil rfl (wanted_plain rfl) rfl e12 ⟨_, rfl, rfl, Below.refl _ _, hR⟩
      · injection ho with ho
        subst ho
        have e13 : A.eval (.tmp 13) = .pointer (some ⟨p, 0, none⟩) := hdep ⟨5, .data⟩ (by simp) rfl _ _ rfl rfl
        exact gOp_fld (v := .pointer (some ⟨p, 0, none⟩)) rfl (wanted_plain rfl) rfl e13 (by go_simp) ⟨_, rfl, rfl, Below.refl _ _, hR⟩
      · injection ho with ho
        subst ho
        have e14 : A.eval (.tmp 14) = .pointer (some ⟨p, 0, none⟩) := hdep ⟨6, .data⟩ (by simp) rfl _ _ rfl rfl
        exact gOp_fld (v := .pointer (some ⟨p, 0, none⟩)) rfl (wanted_plain rfl) rfl e14 (by go_simp) ⟨_, rfl, rfl, Below.refl _ _, hR⟩
      · injection ho with ho
        subst ho
        have e15 : A.eval (.tmp 15) = .pointer (some ⟨p, 0, none⟩) := hdep ⟨7, .data⟩ (by simp) rfl _ _ rfl rfl
        have x0 := (hR.cell HPL0.out).trans g0s
        exact gOp_ld (v := .slice a1 l1 c1) rfl (wanted_plain rfl) rfl e15 (by go_simp) ⟨_, rfl, rfl, Below.refl _ _, hR⟩
      · injection ho with ho
        subst ho
        have e16 : A.eval (.tmp 16) = .slice a1 l1 c1 := hdep ⟨8, .data⟩ (by simp) rfl _ _ rfl rfl
        refine gOp_enter rfl (wanted_plain rfl) 100 #[.slice a1 l1 c1, .func (.func 101) #[] #[]] (run_call _ (fun _ _ => rfl) _ _ rfl _ (by simp [e16]; rfl)) ?_
        refine (HE0.out W hR).mono ?_
        rintro e w' ⟨⟨ta, tc, bs, rfl, hb1, hb2, hb3⟩, hb'⟩
        exact ⟨_, rfl, _, rfl, ⟨ta, tc, bs, rfl, hb1, hb2, hb3⟩, hb', below_next hR hb'⟩
      · injection ho with ho
        subst ho
        have e11 : A.eval (.tmp 11) = .map (some b) := hdep ⟨3, .data⟩ (by simp) rfl _ _ rfl rfl
        obtain ⟨ta, tc, bs, e17, hx17⟩ : ∃ ta tc bs, A.eval (.tmp 17) = .slice ta l1 tc ∧ SlT W (.slice ta l1 tc) bs ∧ bs.map bl = (st.map Prod.fst) ∧ bs.length = l1 := hdep ⟨9, .data⟩ (by simp) rfl _ _ rfl rfl
        refine gOp_dies rfl (wanted_plain rfl) 99 #[.map (some b), .int .i64 1, .int .i64 6, .slice ta l1 tc] (run_call _ (fun _ _ => rfl) _ _ rfl _ (by simp [e11, e17]; exact ⟨rfl, rfl⟩)) ?_
        refine (HMT0.out W hR _ bs hx17.1 hx17.2.1 hx17.2.2).mono ?_
        rintro e w5 ⟨hg5, hres⟩
        rw [hm0] at hres
        simp only at hres
        subst hres
        exact ⟨_, rfl, hdf, gb_trans HG0.out (gb_trans (gb_below hR) hg5), rfl⟩
      · simp at ho
    case done =>
      intro A W _ _ _ hcome _
      exact (hcome 10 _ _ rfl rfl).elim
  | some f1 =>
    go_wp2_with fail
    go_cut [] (fun wx => w.grownBy wx (some b) ∧ Mp wx b (0 + l1) f1 ∧ ChkW p b w0 (.slice a1 l1 c1) (.slice a2 l2 c2) (.slice a3 l3 c3) wx)
    case first =>
      have HEd0 := hid (HE0.out w.drew (Below.refl _ _).drew)
      go_region_with (first
        | (refine HEd0.out.mono ?_; rintro e w2 ⟨⟨ta, tc, bs, rfl, hb1, hb2, hb3⟩, hb'⟩; have hbW := below_next (Below.refl w.heap.size w).drew hb'; have y3 := (HCW0.out.box.below hbW).cell 3 rfl; have HMq := hid (HMT0.out w2 hbW _ bs hb1 hb2 hb3); clear hb1 hb2 hb3)
        | (refine HMq.out.mono ?_; rintro e w3 ⟨hg3, hres⟩; rw [hm0] at hres; obtain ⟨rfl, hmp3⟩ := hres))
      all_goals (
        have HG1 := hid (gb_trans HG0.out (gb_trans (gb_below hbW) hg3))
        have HMp1 := hid hmp3
        have HCW1 := hid (HCW0.out.grown (gb_trans (gb_below hbW) hg3) HC.out.base HC.out.apart)
        clear hmp3 hg3 hbW hb' y3 HMq g03 g0s
        go_wp2_with fail
        go_meet
        exact ⟨HG1.out, HMp1.out, HCW1.out⟩)
    case rest =>
      obtain ⟨hg1, hmp1, hcw1⟩ := hcut
      generalize wc = W1 at *
      have HG1 := hid hg1
      have HMp1 := hid hmp1
      have HCW1 := hid hcw1
      clear hg1 hmp1 hcw1 g03 g0s HE0 HMT0 HPL0
      have g13 := HCW1.out.box.cell 3 rfl
      have g1s := HCW1.out.box.cell 1 rfl
      have HPL1 := hid HCW1.out.box.lt
      have hE1 : ∀ W, Below W1.heap.size W1 W → Calls Tryz.prog 102 #[.slice a2 l2 c2, .func (.func 103) #[] #[]] W fun e w' => (∃ ta tc bs, e = .returned (.slice ta l2 tc) ∧ SlT w' (.slice ta l2 tc) bs ∧ bs.map bl = en.map Prod.fst ∧ bs.length = l2) ∧ Below W.heap.size W w' := by
        intro W hb
        have h := eachNm2 en HC.out.len.2.1 (fun a ha => (HC.out.nen a ha).1) (.slice a2 l2 c2) W (HC.out.sch.below (HCW1.out.old.trans (hb.mono HCW1.out.old.size))).2.1
        rw [← HL1.out] at h
        exact h
      have hMT1 : ∀ W, Below W1.heap.size W1 W → ∀ v bs, SlT W v bs → bs.map bl = en.map Prod.fst → bs.length = l2 → Calls Tryz.prog 99 #[.map (some b), .int .i64 2, .int .i64 6, v] W fun e w' => W.grownBy w' (some b) ∧ match meetF 2 (en.map Prod.fst) f1 with
          | some f => e = .returned (.tuple #[]) ∧ Mp w' b (0 + l1 + l2) f
          | none => e = .panicked (errp 6) := by
        intro W hb v bs h1 h2 h3
        have h := meet_any b (0 + l1) 2 6 (by decide) v bs (by omega) (by omega) f1 W (HMp1.out.below hb) h1
        rw [h2, h3] at h
        exact h
      have HE1 := hid hE1
      have HMT1 := hid hMT1
      clear hE1 hMT1
      cases hm1 : meetF 2 (en.map Prod.fst) f1 with
      | none =>
        have hR6 : R = 6 := by rw [HR.out]; unfold allE; simp only [hm0, hm1]
        subst hR6
        go_wp2_with fail
        refine wp_region_drawn2 (pred := fun jx v W => match jx with | 0 => v = .pointer (some ⟨p, 0, none⟩) | 1 => v = .pointer (some ⟨p, 0, none⟩) | 2 => v = .pointer (some ⟨p, 3, none⟩) | 3 => v = .map (some b) | 4 => v = .pointer (some ⟨p, 0, none⟩) | 5 => v = .pointer (some ⟨p, 0, none⟩) | 6 => v = .pointer (some ⟨p, 0, none⟩) | 7 => v = .pointer (some ⟨p, 1, none⟩) | 8 => v = .slice a2 l2 c2 | 9 => ∃ ta tc bs, v = .slice ta l2 tc ∧ SlT W (.slice ta l2 tc) bs ∧ bs.map bl = (en.map Prod.fst) ∧ bs.length = l2 | 10 => False | _ => True) (R := fun W => Below (W1).heap.size (W1) W) (by kernel_rfl) (by kernel_rfl) (by kernel_rfl) ?mono (Below.refl _ _).drew ?step ?done
        case mono =>
          intro ix v W W' h hb
          match ix, h with
          | 0, h => exact h
          | 1, h => exact h
          | 2, h => exact h
          | 3, h => exact h
          | 4, h => exact h
          | 5, h => exact h
          | 6, h => exact h
          | 7, h => exact h
          | 8, h => exact h
          | 9, ⟨ta, tc, bs, h1, h2, h3, h4⟩ => exact ⟨ta, tc, bs, h1, h2.below hb, h3, h4⟩
          | 10, h => exact h.elim
          | _ + 11, _ => trivial
        case step =>
          intro ix o ho A W hsz hdf hfr hdep hR
          rcases ix with _ | _ | _ | _ | _ | _ | _ | _ | _ | _ | _ | ix
          · injection ho with ho
            subst ho
            have e0 : A.eval (.tmp 0) = .pointer (some ⟨p, 0, none⟩) := (hfr 0 (noDst_spec (by kernel_rfl))).trans rfl
            exact gOp_mv rfl (wanted_plain rfl) (.inl rfl) e0 ⟨_, rfl, rfl, Below.refl _ _, hR⟩
          · injection ho with ho
            subst ho
            have e19 : A.eval (.tmp 19) = .pointer (some ⟨p, 0, none⟩) := hdep ⟨0, .data⟩ (by simp) rfl _ _ rfl rfl
            exact gOp_nil rfl (wanted_plain rfl) rfl e19 ⟨_, rfl, rfl, Below.refl _ _, hR⟩
          · injection ho with ho
            subst ho
            have e20 : A.eval (.tmp 20) = .pointer (some ⟨p, 0, none⟩) := hdep ⟨1, .data⟩ (by simp) rfl _ _ rfl rfl
            exact gOp_fld (v := .pointer (some ⟨p, 3, none⟩)) rfl (wanted_plain rfl) rfl e20 (by go_simp) ⟨_, rfl, rfl, Below.refl _ _, hR⟩
          · injection ho with ho
            subst ho
            have e21 : A.eval (.tmp 21) = .pointer (some ⟨p, 3, none⟩) := hdep ⟨2, .data⟩ (by simp) rfl _ _ rfl rfl
            have x0 := (hR.cell HPL1.out).trans g13
            exact gOp_ld (v := .map (some b)) rfl (wanted_plain rfl) rfl e21 (by go_simp) ⟨_, rfl, rfl, Below.refl _ _, hR⟩
          · injection ho with ho
            subst ho
            have e0 : A.eval (.tmp 0) = .pointer (some ⟨p, 0, none⟩) := (hfr 0 (noDst_spec (by kernel_rfl))).trans rfl
            exact gOp_mv rfl (wanted_plain rfl) (.inl rfl) e0 ⟨_, rfl, rfl, Below.refl _ _, hR⟩
          · injection ho with ho
            subst ho
            have e23 : A.eval (.tmp 23) = .pointer (some ⟨p, 0, none⟩) := hdep ⟨4, .data⟩ (by simp) rfl _ _ rfl rfl
            exact gOp_nil rfl (wanted_plain rfl) rfl e23 ⟨_, rfl, rfl, Below.refl _ _, hR⟩
          · injection ho with ho
            subst ho
            have e24 : A.eval (.tmp 24) = .pointer (some ⟨p, 0, none⟩) := hdep ⟨5, .data⟩ (by simp) rfl _ _ rfl rfl
            exact gOp_fld (v := .pointer (some ⟨p, 0, none⟩)) rfl (wanted_plain rfl) rfl e24 (by go_simp) ⟨_, rfl, rfl, Below.refl _ _, hR⟩
          · injection ho with ho
            subst ho
            have e25 : A.eval (.tmp 25) = .pointer (some ⟨p, 0, none⟩) := hdep ⟨6, .data⟩ (by simp) rfl _ _ rfl rfl
            exact gOp_fld (v := .pointer (some ⟨p, 1, none⟩)) rfl (wanted_plain rfl) rfl e25 (by go_simp) ⟨_, rfl, rfl, Below.refl _ _, hR⟩
          · injection ho with ho
            subst ho
            have e26 : A.eval (.tmp 26) = .pointer (some ⟨p, 1, none⟩) := hdep ⟨7, .data⟩ (by simp) rfl _ _ rfl rfl
            have x0 := (hR.cell HPL1.out).trans g1s
            exact gOp_ld (v := .slice a2 l2 c2) rfl (wanted_plain rfl) rfl e26 (by go_simp) ⟨_, rfl, rfl, Below.refl _ _, hR⟩
          · injection ho with ho
            subst ho
            have e27 : A.eval (.tmp 27) = .slice a2 l2 c2 := hdep ⟨8, .data⟩ (by simp) rfl _ _ rfl rfl
            refine gOp_enter rfl (wanted_plain rfl) 102 #[.slice a2 l2 c2, .func (.func 103) #[] #[]] (run_call _ (fun _ _ => rfl) _ _ rfl _ (by simp [e27]; rfl)) ?_
            refine (HE1.out W hR).mono ?_
            rintro e w' ⟨⟨ta, tc, bs, rfl, hb1, hb2, hb3⟩, hb'⟩
            exact ⟨_, rfl, _, rfl, ⟨ta, tc, bs, rfl, hb1, hb2, hb3⟩, hb', below_next hR hb'⟩
          · injection ho with ho
            subst ho
            have e22 : A.eval (.tmp 22) = .map (some b) := hdep ⟨3, .data⟩ (by simp) rfl _ _ rfl rfl
            obtain ⟨ta, tc, bs, e28, hx28⟩ : ∃ ta tc bs, A.eval (.tmp 28) = .slice ta l2 tc ∧ SlT W (.slice ta l2 tc) bs ∧ bs.map bl = (en.map Prod.fst) ∧ bs.length = l2 := hdep ⟨9, .data⟩ (by simp) rfl _ _ rfl rfl
            refine gOp_dies rfl (wanted_plain rfl) 99 #[.map (some b), .int .i64 2, .int .i64 6, .slice ta l2 tc] (run_call _ (fun _ _ => rfl) _ _ rfl _ (by simp [e22, e28]; exact ⟨rfl, rfl⟩)) ?_
            refine (HMT1.out W hR _ bs hx28.1 hx28.2.1 hx28.2.2).mono ?_
            rintro e w5 ⟨hg5, hres⟩
            rw [hm1] at hres
            simp only at hres
            subst hres
            exact ⟨_, rfl, hdf, gb_trans HG1.out (gb_trans (gb_below hR) hg5), rfl⟩
          · simp at ho
        case done =>
          intro A W _ _ _ hcome _
          exact (hcome 10 _ _ rfl rfl).elim
      | some f2 =>
        go_wp2_with fail
        go_cut [] (fun wx => w.grownBy wx (some b) ∧ Mp wx b (0 + l1 + l2) f2 ∧ ChkW p b w0 (.slice a1 l1 c1) (.slice a2 l2 c2) (.slice a3 l3 c3) wx)
        case first =>
          have HEd1 := hid (HE1.out W1.drew (Below.refl _ _).drew)
          go_region_with (first
            | (refine HEd1.out.mono ?_; rintro e w2 ⟨⟨ta, tc, bs, rfl, hb1, hb2, hb3⟩, hb'⟩; have hbW := below_next (Below.refl W1.heap.size W1).drew hb'; have y3 := (HCW1.out.box.below hbW).cell 3 rfl; have HMq := hid (HMT1.out w2 hbW _ bs hb1 hb2 hb3); clear hb1 hb2 hb3)
            | (refine HMq.out.mono ?_; rintro e w3 ⟨hg3, hres⟩; rw [hm1] at hres; obtain ⟨rfl, hmp3⟩ := hres))
          all_goals (
            have HG2 := hid (gb_trans HG1.out (gb_trans (gb_below hbW) hg3))
            have HMp2 := hid hmp3
            have HCW2 := hid (HCW1.out.grown (gb_trans (gb_below hbW) hg3) HC.out.base HC.out.apart)
            clear hmp3 hg3 hbW hb' y3 HMq g13 g1s
            go_wp2_with fail
            go_meet
            exact ⟨HG2.out, HMp2.out, HCW2.out⟩)
        case rest =>
          obtain ⟨hg2, hmp2, hcw2⟩ := hcut
          generalize wc = W2 at *
          have HG2 := hid hg2
          have HMp2 := hid hmp2
          have HCW2 := hid hcw2
          clear hg2 hmp2 hcw2 g13 g1s HE1 HMT1 HPL1
          have g23 := HCW2.out.box.cell 3 rfl
          have g2s := HCW2.out.box.cell 2 rfl
          have HPL2 := hid HCW2.out.box.lt
          have hE2 : ∀ W, Below W2.heap.size W2 W → Calls Tryz.prog 104 #[.slice a3 l3 c3, .func (.func 105) #[] #[]] W fun e w' => (∃ ta tc bs, e = .returned (.slice ta l3 tc) ∧ SlT w' (.slice ta l3 tc) bs ∧ bs.map bl = sv.map Prod.fst ∧ bs.length = l3) ∧ Below W.heap.size W w' := by
            intro W hb
            have h := eachNm3 sv HC.out.len.2.2 (fun a ha => (HC.out.nsv a ha).1) (.slice a3 l3 c3) W (HC.out.sch.below (HCW2.out.old.trans (hb.mono HCW2.out.old.size))).2.2
            rw [← HL2.out] at h
            exact h
          have hMT2 : ∀ W, Below W2.heap.size W2 W → ∀ v bs, SlT W v bs → bs.map bl = sv.map Prod.fst → bs.length = l3 → Calls Tryz.prog 99 #[.map (some b), .int .i64 3, .int .i64 6, v] W fun e w' => W.grownBy w' (some b) ∧ match meetF 3 (sv.map Prod.fst) f2 with
              | some f => e = .returned (.tuple #[]) ∧ Mp w' b (0 + l1 + l2 + l3) f
              | none => e = .panicked (errp 6) := by
            intro W hb v bs h1 h2 h3
            have h := meet_any b (0 + l1 + l2) 3 6 (by decide) v bs (by omega) (by omega) f2 W (HMp2.out.below hb) h1
            rw [h2, h3] at h
            exact h
          have HE2 := hid hE2
          have HMT2 := hid hMT2
          clear hE2 hMT2
          cases hm2 : meetF 3 (sv.map Prod.fst) f2 with
          | none =>
            have hR6 : R = 6 := by rw [HR.out]; unfold allE; simp only [hm0, hm1, hm2]
            subst hR6
            go_wp2_with fail
            refine wp_region_drawn2 (pred := fun jx v W => match jx with | 0 => v = .pointer (some ⟨p, 0, none⟩) | 1 => v = .pointer (some ⟨p, 0, none⟩) | 2 => v = .pointer (some ⟨p, 3, none⟩) | 3 => v = .map (some b) | 4 => v = .pointer (some ⟨p, 0, none⟩) | 5 => v = .pointer (some ⟨p, 0, none⟩) | 6 => v = .pointer (some ⟨p, 0, none⟩) | 7 => v = .pointer (some ⟨p, 2, none⟩) | 8 => v = .slice a3 l3 c3 | 9 => ∃ ta tc bs, v = .slice ta l3 tc ∧ SlT W (.slice ta l3 tc) bs ∧ bs.map bl = (sv.map Prod.fst) ∧ bs.length = l3 | 10 => False | _ => True) (R := fun W => Below (W2).heap.size (W2) W) (by kernel_rfl) (by kernel_rfl) (by kernel_rfl) ?mono (Below.refl _ _).drew ?step ?done
            case mono =>
              intro ix v W W' h hb
              match ix, h with
              | 0, h => exact h
              | 1, h => exact h
              | 2, h => exact h
              | 3, h => exact h
              | 4, h => exact h
              | 5, h => exact h
              | 6, h => exact h
              | 7, h => exact h
              | 8, h => exact h
              | 9, ⟨ta, tc, bs, h1, h2, h3, h4⟩ => exact ⟨ta, tc, bs, h1, h2.below hb, h3, h4⟩
              | 10, h => exact h.elim
              | _ + 11, _ => trivial
            case step =>
              intro ix o ho A W hsz hdf hfr hdep hR
              rcases ix with _ | _ | _ | _ | _ | _ | _ | _ | _ | _ | _ | ix
              · injection ho with ho
                subst ho
                have e0 : A.eval (.tmp 0) = .pointer (some ⟨p, 0, none⟩) := (hfr 0 (noDst_spec (by kernel_rfl))).trans rfl
                exact gOp_mv rfl (wanted_plain rfl) (.inl rfl) e0 ⟨_, rfl, rfl, Below.refl _ _, hR⟩
              · injection ho with ho
                subst ho
                have e30 : A.eval (.tmp 30) = .pointer (some ⟨p, 0, none⟩) := hdep ⟨0, .data⟩ (by simp) rfl _ _ rfl rfl
                exact gOp_nil rfl (wanted_plain rfl) rfl e30 ⟨_, rfl, rfl, Below.refl _ _, hR⟩
              · injection ho with ho
                subst ho
                have e31 : A.eval (.tmp 31) = .pointer (some ⟨p, 0, none⟩) := hdep ⟨1, .data⟩ (by simp) rfl _ _ rfl rfl
                exact gOp_fld (v := .pointer (some ⟨p, 3, none⟩)) rfl (wanted_plain rfl) rfl e31 (by go_simp) ⟨_, rfl, rfl, Below.refl _ _, hR⟩
              · injection ho with ho
                subst ho
                have e32 : A.eval (.tmp 32) = .pointer (some ⟨p, 3, none⟩) := hdep ⟨2, .data⟩ (by simp) rfl _ _ rfl rfl
                have x0 := (hR.cell HPL2.out).trans g23
                exact gOp_ld (v := .map (some b)) rfl (wanted_plain rfl) rfl e32 (by go_simp) ⟨_, rfl, rfl, Below.refl _ _, hR⟩
              · injection ho with ho
                subst ho
                have e0 : A.eval (.tmp 0) = .pointer (some ⟨p, 0, none⟩) := (hfr 0 (noDst_spec (by kernel_rfl))).trans rfl
                exact gOp_mv rfl (wanted_plain rfl) (.inl rfl) e0 ⟨_, rfl, rfl, Below.refl _ _, hR⟩
              · injection ho with ho
                subst ho
                have e34 : A.eval (.tmp 34) = .pointer (some ⟨p, 0, none⟩) := hdep ⟨4, .data⟩ (by simp) rfl _ _ rfl rfl
                exact gOp_nil rfl (wanted_plain rfl) rfl e34 ⟨_, rfl, rfl, Below.refl _ _, hR⟩
              · injection ho with ho
                subst ho
                have e35 : A.eval (.tmp 35) = .pointer (some ⟨p, 0, none⟩) := hdep ⟨5, .data⟩ (by simp) rfl _ _ rfl rfl
                exact gOp_fld (v := .pointer (some ⟨p, 0, none⟩)) rfl (wanted_plain rfl) rfl e35 (by go_simp) ⟨_, rfl, rfl, Below.refl _ _, hR⟩
              · injection ho with ho
                subst ho
                have e36 : A.eval (.tmp 36) = .pointer (some ⟨p, 0, none⟩) := hdep ⟨6, .data⟩ (by simp) rfl _ _ rfl rfl
                exact gOp_fld (v := .pointer (some ⟨p, 2, none⟩)) rfl (wanted_plain rfl) rfl e36 (by go_simp) ⟨_, rfl, rfl, Below.refl _ _, hR⟩
              · injection ho with ho
                subst ho
                have e37 : A.eval (.tmp 37) = .pointer (some ⟨p, 2, none⟩) := hdep ⟨7, .data⟩ (by simp) rfl _ _ rfl rfl
                have x0 := (hR.cell HPL2.out).trans g2s
                exact gOp_ld (v := .slice a3 l3 c3) rfl (wanted_plain rfl) rfl e37 (by go_simp) ⟨_, rfl, rfl, Below.refl _ _, hR⟩
              · injection ho with ho
                subst ho
                have e38 : A.eval (.tmp 38) = .slice a3 l3 c3 := hdep ⟨8, .data⟩ (by simp) rfl _ _ rfl rfl
                refine gOp_enter rfl (wanted_plain rfl) 104 #[.slice a3 l3 c3, .func (.func 105) #[] #[]] (run_call _ (fun _ _ => rfl) _ _ rfl _ (by simp [e38]; rfl)) ?_
                refine (HE2.out W hR).mono ?_
                rintro e w' ⟨⟨ta, tc, bs, rfl, hb1, hb2, hb3⟩, hb'⟩
                exact ⟨_, rfl, _, rfl, ⟨ta, tc, bs, rfl, hb1, hb2, hb3⟩, hb', below_next hR hb'⟩
              · injection ho with ho
                subst ho
                have e33 : A.eval (.tmp 33) = .map (some b) := hdep ⟨3, .data⟩ (by simp) rfl _ _ rfl rfl
                obtain ⟨ta, tc, bs, e39, hx39⟩ : ∃ ta tc bs, A.eval (.tmp 39) = .slice ta l3 tc ∧ SlT W (.slice ta l3 tc) bs ∧ bs.map bl = (sv.map Prod.fst) ∧ bs.length = l3 := hdep ⟨9, .data⟩ (by simp) rfl _ _ rfl rfl
                refine gOp_dies rfl (wanted_plain rfl) 99 #[.map (some b), .int .i64 3, .int .i64 6, .slice ta l3 tc] (run_call _ (fun _ _ => rfl) _ _ rfl _ (by simp [e33, e39]; exact ⟨rfl, rfl⟩)) ?_
                refine (HMT2.out W hR _ bs hx39.1 hx39.2.1 hx39.2.2).mono ?_
                rintro e w5 ⟨hg5, hres⟩
                rw [hm2] at hres
                simp only at hres
                subst hres
                exact ⟨_, rfl, hdf, gb_trans HG2.out (gb_trans (gb_below hR) hg5), rfl⟩
              · simp at ho
            case done =>
              intro A W _ _ _ hcome _
              exact (hcome 10 _ _ rfl rfl).elim
          | some f =>
            go_wp2_with fail
            go_cut [] (fun wx => w.grownBy wx (some b) ∧ Mp wx b (0 + l1 + l2 + l3) f ∧ ChkW p b w0 (.slice a1 l1 c1) (.slice a2 l2 c2) (.slice a3 l3 c3) wx)
            case first =>
              have HEd2 := hid (HE2.out W2.drew (Below.refl _ _).drew)
              go_region_with (first
                | (refine HEd2.out.mono ?_; rintro e w2 ⟨⟨ta, tc, bs, rfl, hb1, hb2, hb3⟩, hb'⟩; have hbW := below_next (Below.refl W2.heap.size W2).drew hb'; have y3 := (HCW2.out.box.below hbW).cell 3 rfl; have HMq := hid (HMT2.out w2 hbW _ bs hb1 hb2 hb3); clear hb1 hb2 hb3)
                | (refine HMq.out.mono ?_; rintro e w3 ⟨hg3, hres⟩; rw [hm2] at hres; obtain ⟨rfl, hmp3⟩ := hres))
              all_goals (
                have HG3 := hid (gb_trans HG2.out (gb_trans (gb_below hbW) hg3))
                have HMp3 := hid hmp3
                have HCW3 := hid (HCW2.out.grown (gb_trans (gb_below hbW) hg3) HC.out.base HC.out.apart)
                clear hmp3 hg3 hbW hb' y3 HMq g23 g2s
                go_wp2_with fail
                go_meet
                exact ⟨HG3.out, HMp3.out, HCW3.out⟩)
            case rest =>
              obtain ⟨hg3, hmp3, hcw3⟩ := hcut
              generalize wc = W3 at *
              have HG3 := hid hg3
              have HMp3 := hid hmp3
              have HCW3 := hid hcw3
              clear hg3 hmp3 hcw3 g23 g2s HE2 HMT2 HPL2
              have hRr : R = restE st en sv f := by
                rw [HR.out]
                unfold allE
                simp only [hm0, hm1, hm2]
              have HRr := hid hRr
              have HB0 : Hid (Below W3.heap.size W3 W3) := Below.refl _ _
              clear hRr
              have k0 := (HCW3.out.box.below HB0.out).cell 0 rfl
              go_wp2_with fail
              go_loopw [47] (fun i wr => LpI (structsE f) st W3 i wr) (fun i _ => l1 - (intOf i).toNat)
              case atStart => exact ⟨0, Nat.zero_le _, rfl, rfl, HB0.out⟩
              case round =>
                obtain ⟨j, hj, rfl, hme, hbw⟩ := hrel.all
                clear hrel
                rw [← HL0.out] at hj
                have HME := hid hme
                clear hme
                by_cases hlt : j < l1
                · obtain ⟨x, hx⟩ : ∃ x, st[j]? = some x := ⟨st[j]'(by rw [← HL0.out]; exact hlt), by simp⟩
                  have hxm := List.mem_of_getElem? hx
                  have hcw := HCW3.out.grown (gb_below hbw) HC.out.base HC.out.apart
                  have hmp := HMp3.out.below hbw
                  obtain ⟨g, off, cap, c, hv, hg, hRc, hc⟩ := (HC.out.sch.below hcw.old).1.at hx
                  obtain ⟨sx, ad, m, cp, rfl, hsx, hxr⟩ := hRc
                  obtain ⟨ad', cp', hshape⟩ := hxr.shape
                  cases hshape
                  rw [← HL0.out] at hv
                  injection hv with hv1 hv2 hv3
                  clear hv2
                  subst hv1 hv3
                  have q0 := hc 0 _ rfl
                  have q1 := hc 1 _ rfl
                  simp only [Nat.add_zero] at q0
                  have hdr : st.drop j = x :: st.drop (j + 1) := by
                    rw [List.drop_eq_getElem_cons (by rw [← HL0.out]; exact hlt)]
                    congr 1
                    exact (List.getElem?_eq_some_iff.1 hx).2
                  have hst := HME.out
                  rw [hdr, structsE] at hst
                  obtain ⟨wA, hwA⟩ : ∃ wA, wA = wr.alloc (.cells #[.string sx, .slice ad x.2.length cp] 59) := ⟨_, rfl⟩
                  have hbA : Below W3.heap.size W3 wA := below_next hbw (by rw [hwA]; exact below_alloc wr _)
                  have hbA2 : Below wr.heap.size wr wA := by rw [hwA]; exact below_alloc wr _
                  have HBA := hid hbA
                  have HWA := hid hwA
                  have HST := hid hst
                  have z1 : wA.cell? ⟨wr.heap.size, 1, none⟩ = some (.slice ad x.2.length cp) := by
                    rw [hwA]
                    exact (Bx.new wr [.string sx, .slice ad x.2.length cp] _).cell 1 rfl
                  have hK := checkStruct_any p b _ _ _ _ f sx ad x.2.length cp x.2 (HC.out.nst x hxm).2.1 (HC.out.nst x hxm).2.2 wA (hcw.box.below hbA2) (hmp.below hbA2) (hxr.below hbA2 (FldG.below hbA2))
                  have HK := hid hK
                  obtain ⟨fl, hfl⟩ : ∃ fl, fl = x.2.length := ⟨_, rfl⟩
                  rw [← hfl] at q1 HK HWA z1
                  clear hK hbA hbA2 hwA hst hdr hc hx hxm hcw hmp hxr hsx HME hfl
                  go_wp2_with fail
                  rw [← HWA.out]
                  refine HK.out.mono ?_
                  rintro e w5 ⟨hb5, rfl⟩
                  have Hb5 := hid (below_next HBA.out hb5)
                  clear hb5
                  have hst2 := HST.out
                  by_cases he0 : structE f x.2 = 0
                  · rw [if_pos he0]
                    rw [he0, thenE, if_pos rfl] at hst2
                    have HS3 := hid hst2
                    clear hst2
                    go_wp2
                    exact ⟨⟨j + 1, by rw [← HL0.out]; omega, by go_num, HS3.out, Hb5.out⟩, by simp [intOf]; omega⟩
                  · rw [if_neg he0]
                    rw [thenE, if_neg he0] at hst2
                    have hRe : R = structE f x.2 := by
                      rw [HRr.out]
                      unfold restE
                      rw [← hst2, thenE, if_neg he0]
                    rw [← hRe] at he0 ⊢
                    refine ⟨rfl, gb_trans HG3.out (gb_below Hb5.out), ?_⟩
                    rw [if_neg he0]
                · have hje : j = l1 := by omega
                  subst hje
                  have hr0 : (structsE f) st = 0 := by
                    rw [← HME.out, HL0.out, List.drop_length]
                    rfl
                  have HZ0 := hid hr0
                  have HB1 := hid hbw
                  clear hr0 hbw HME k0
                  have k1 := (HCW3.out.box.below HB1.out).cell 1 rfl
                  go_wp2_with fail
                  go_loopw [61] (fun i wr => LpI enumsE en W3 i wr) (fun i _ => l2 - (intOf i).toNat)
                  case atStart => exact ⟨0, Nat.zero_le _, rfl, rfl, HB1.out⟩
                  case round =>
                    obtain ⟨j, hj, rfl, hme, hbw⟩ := hrel.all
                    clear hrel
                    rw [← HL1.out] at hj
                    have HME := hid hme
                    clear hme
                    by_cases hlt : j < l2
                    · obtain ⟨x, hx⟩ : ∃ x, en[j]? = some x := ⟨en[j]'(by rw [← HL1.out]; exact hlt), by simp⟩
                      have hxm := List.mem_of_getElem? hx
                      have hcw := HCW3.out.grown (gb_below hbw) HC.out.base HC.out.apart
                      have hmp := HMp3.out.below hbw
                      obtain ⟨g, off, cap, c, hv, hg, hRc, hc⟩ := (HC.out.sch.below hcw.old).2.1.at hx
                      obtain ⟨sx, ad, m, cp, rfl, hsx, hxr⟩ := hRc
                      obtain ⟨ad', cp', hshape⟩ := hxr.shape
                      cases hshape
                      rw [← HL1.out] at hv
                      injection hv with hv1 hv2 hv3
                      clear hv2
                      subst hv1 hv3
                      have q0 := hc 0 _ rfl
                      have q1 := hc 1 _ rfl
                      simp only [Nat.add_zero] at q0
                      have hdr : en.drop j = x :: en.drop (j + 1) := by
                        rw [List.drop_eq_getElem_cons (by rw [← HL1.out]; exact hlt)]
                        congr 1
                        exact (List.getElem?_eq_some_iff.1 hx).2
                      have hst := HME.out
                      rw [hdr, enumsE] at hst
                      obtain ⟨wA, hwA⟩ : ∃ wA, wA = wr.alloc (.cells #[.string sx, .slice ad x.2.length cp] 83) := ⟨_, rfl⟩
                      have hbA : Below W3.heap.size W3 wA := below_next hbw (by rw [hwA]; exact below_alloc wr _)
                      have hbA2 : Below wr.heap.size wr wA := by rw [hwA]; exact below_alloc wr _
                      have HBA := hid hbA
                      have HWA := hid hwA
                      have HST := hid hst
                      have z1 : wA.cell? ⟨wr.heap.size, 1, none⟩ = some (.slice ad x.2.length cp) := by
                        rw [hwA]
                        exact (Bx.new wr [.string sx, .slice ad x.2.length cp] _).cell 1 rfl
                      have hK := checkParts_any 0 (.slice ad x.2.length cp) x.2 (HC.out.nen x hxm).2.1 (HC.out.nen x hxm).2.2 wA (hxr.below hbA2 (fun _ _ h => h))
                      have HK := hid hK
                      obtain ⟨fl, hfl⟩ : ∃ fl, fl = x.2.length := ⟨_, rfl⟩
                      rw [← hfl] at q1 HK HWA HST z1
                      clear hK hbA hbA2 hwA hst hdr hc hx hxm hcw hmp hxr hsx HME
                      by_cases hz : 0 < fl
                      · have hstz := HST.out
                        rw [if_pos hz, thenE, if_pos rfl] at hstz
                        have HST := hid hstz
                        clear hstz hfl
                        go_wp2_with fail
                        rw [← HWA.out]
                        refine (sneed_true 3 _).mono ?_
                        rintro e w2 ⟨rfl, hq2⟩
                        subst w2
                        go_wp2_with fail
                        refine HK.out.mono ?_
                        rintro e w5 ⟨hb5, rfl⟩
                        have Hb5 := hid (below_next HBA.out hb5)
                        clear hb5
                        have hst2 := HST.out
                        by_cases he0 : partsE 0 x.2 = 0
                        · rw [if_pos he0]
                          rw [he0, thenE, if_pos rfl] at hst2
                          have HS3 := hid hst2
                          clear hst2
                          go_wp2
                          exact ⟨⟨j + 1, by rw [← HL1.out]; omega, by go_num, HS3.out, Hb5.out⟩, by simp [intOf]; omega⟩
                        · rw [if_neg he0]
                          rw [thenE, if_neg he0] at hst2
                          have hRe : R = partsE 0 x.2 := by
                            rw [HRr.out]
                            unfold restE
                            rw [HZ0.out, thenE, if_pos rfl]
                            rw [← hst2, thenE, if_neg he0]
                          rw [← hRe] at he0 ⊢
                          refine ⟨rfl, gb_trans HG3.out (gb_below Hb5.out), ?_⟩
                          rw [if_neg he0]
                      · have hstz := HST.out
                        rw [if_neg hz, thenE, if_neg (by decide)] at hstz
                        have hR3 : R = 3 := by
                          rw [HRr.out]
                          unfold restE
                          rw [HZ0.out, thenE, if_pos rfl, ← hstz, thenE, if_neg (by decide)]
                        subst hR3
                        have hf0 : fl = 0 := by omega
                        clear hstz hfl HST HK
                        subst hf0
                        go_wp2_with fail
                        rw [← HWA.out]
                        refine (sneed_false 3 _).mono ?_
                        rintro e w2 ⟨rfl, hq2⟩
                        subst w2
                        exact ⟨rfl, gb_trans HG3.out (gb_below HBA.out), rfl⟩
                    · have hje : j = l2 := by omega
                      subst hje
                      have hr0 : enumsE en = 0 := by
                        rw [← HME.out, HL1.out, List.drop_length]
                        rfl
                      have HZ1 := hid hr0
                      have HB2 := hid hbw
                      clear hr0 hbw HME k1
                      have k2 := (HCW3.out.box.below HB2.out).cell 2 rfl
                      go_wp2_with fail
                      go_loopw [80] (fun i wr => LpI (servicesE f) sv W3 i wr) (fun i _ => l3 - (intOf i).toNat)
                      case atStart => exact ⟨0, Nat.zero_le _, rfl, rfl, HB2.out⟩
                      case round =>
                        obtain ⟨j, hj, rfl, hme, hbw⟩ := hrel.all
                        clear hrel
                        rw [← HL2.out] at hj
                        have HME := hid hme
                        clear hme
                        by_cases hlt : j < l3
                        · obtain ⟨x, hx⟩ : ∃ x, sv[j]? = some x := ⟨sv[j]'(by rw [← HL2.out]; exact hlt), by simp⟩
                          have hxm := List.mem_of_getElem? hx
                          have hcw := HCW3.out.grown (gb_below hbw) HC.out.base HC.out.apart
                          have hmp := HMp3.out.below hbw
                          obtain ⟨g, off, cap, c, hv, hg, hRc, hc⟩ := (HC.out.sch.below hcw.old).2.2.at hx
                          obtain ⟨sx, ad, m, cp, rfl, hsx, hxr⟩ := hRc
                          obtain ⟨ad', cp', hshape⟩ := hxr.shape
                          cases hshape
                          rw [← HL2.out] at hv
                          injection hv with hv1 hv2 hv3
                          clear hv2
                          subst hv1 hv3
                          have q0 := hc 0 _ rfl
                          have q1 := hc 1 _ rfl
                          simp only [Nat.add_zero] at q0
                          have hdr : sv.drop j = x :: sv.drop (j + 1) := by
                            rw [List.drop_eq_getElem_cons (by rw [← HL2.out]; exact hlt)]
                            congr 1
                            exact (List.getElem?_eq_some_iff.1 hx).2
                          have hst := HME.out
                          rw [hdr, servicesE] at hst
                          obtain ⟨wA, hwA⟩ : ∃ wA, wA = wr.alloc (.cells #[.string sx, .slice ad x.2.length cp] 86) := ⟨_, rfl⟩
                          have hbA : Below W3.heap.size W3 wA := below_next hbw (by rw [hwA]; exact below_alloc wr _)
                          have hbA2 : Below wr.heap.size wr wA := by rw [hwA]; exact below_alloc wr _
                          have HBA := hid hbA
                          have HWA := hid hwA
                          have HST := hid hst
                          have z1 : wA.cell? ⟨wr.heap.size, 1, none⟩ = some (.slice ad x.2.length cp) := by
                            rw [hwA]
                            exact (Bx.new wr [.string sx, .slice ad x.2.length cp] _).cell 1 rfl
                          have hK := checkService_any p b _ _ _ _ f sx ad cp x.2 (HC.out.nsv x hxm).2.1 (HC.out.nsv x hxm).2.2 wA (hcw.box.below hbA2) (hmp.below hbA2) (hxr.below hbA2 (MthG.below hbA2))
                          have HK := hid hK
                          obtain ⟨fl, hfl⟩ : ∃ fl, fl = x.2.length := ⟨_, rfl⟩
                          rw [← hfl] at q1 HK HWA z1
                          clear hK hbA hbA2 hwA hst hdr hc hx hxm hcw hmp hxr hsx HME hfl
                          go_wp2_with fail
                          rw [← HWA.out]
                          refine HK.out.mono ?_
                          rintro e w5 ⟨hb5, rfl⟩
                          have Hb5 := hid (below_next HBA.out hb5)
                          clear hb5
                          have hst2 := HST.out
                          by_cases he0 : serviceE f x.2 = 0
                          · rw [if_pos he0]
                            rw [he0, thenE, if_pos rfl] at hst2
                            have HS3 := hid hst2
                            clear hst2
                            go_wp2
                            exact ⟨⟨j + 1, by rw [← HL2.out]; omega, by go_num, HS3.out, Hb5.out⟩, by simp [intOf]; omega⟩
                          · rw [if_neg he0]
                            rw [thenE, if_neg he0] at hst2
                            have hRe : R = serviceE f x.2 := by
                              rw [HRr.out]
                              unfold restE
                              rw [HZ0.out, thenE, if_pos rfl, HZ1.out, thenE, if_pos rfl]
                              rw [← hst2, thenE, if_neg he0]
                            rw [← hRe] at he0 ⊢
                            refine ⟨rfl, gb_trans HG3.out (gb_below Hb5.out), ?_⟩
                            rw [if_neg he0]
                        · have hje : j = l3 := by omega
                          subst hje
                          have hr0 : (servicesE f) sv = 0 := by
                            rw [← HME.out, HL2.out, List.drop_length]
                            rfl
                          have HZ2 := hid hr0
                          have HB3 := hid hbw
                          clear hr0 hbw HME k2
                          have hRd : R = thenE (if mAll mDepth (fnd st en sv) st (List.range st.length) (fun _ => none) then 0 else 42) (if mAll mWeight (fnd st en sv) st (List.range st.length) (fun _ => none) then 0 else 5) := by
                            rw [HRr.out]
                            unfold restE
                            rw [HZ0.out, thenE, if_pos rfl, HZ1.out, thenE, if_pos rfl, HZ2.out, thenE, if_pos rfl]
                          have HRd := hid hRd
                          clear hRd
                          have hcwa := HCW3.out.grown (gb_below HB3.out) HC.out.base HC.out.apart
                          have k0 := hcwa.box.cell 0 rfl
                          have k1 := hcwa.box.cell 1 rfl
                          have k2 := hcwa.box.cell 2 rfl
                          have hSd := HC.out.sch.below hcwa.old
                          have hMC := meaC1 hSd HC.out.len (fun a ha => (HC.out.nst a ha).2)
                          have HMC := hid hMC
                          clear hMC hSd hcwa
                          go_wp2_with fail
                          refine (depths_any _ _ _ _).mono ?_
                          rintro e w5a ⟨rfl, hw5⟩
                          have hok := meaWorld_ok' hw5
                          have hA := all_any HMC.out w5a hok.1 hok.2.1
                          have HA := hid hA
                          have HOK := hid hok.2.2
                          clear hA hok hw5 k0 k1 k2
                          go_wp2_with fail
                          refine HA.out.mono ?_
                          rintro e w6a ⟨hg6, rfl⟩
                          have HQ1 : Hid (Below W3.heap.size W3 w6a) := below_next HB3.out (HOK.out.grown hg6 HOK.out.size (fun k hk => by cases hk; omega))
                          clear hg6
                          by_cases hd : mAll mDepth (fnd st en sv) st (List.range st.length) (fun _ => none) = true
                          · rw [if_pos hd]
                            have hRw := HRd.out
                            rw [if_pos hd, thenE, if_pos rfl] at hRw
                            have HRw := hid hRw
                            clear hRw
                            have hcwb := HCW3.out.grown (gb_below HQ1.out) HC.out.base HC.out.apart
                            have k0 := hcwb.box.cell 0 rfl
                            have k1 := hcwb.box.cell 1 rfl
                            have k2 := hcwb.box.cell 2 rfl
                            have hSd := HC.out.sch.below hcwb.old
                            have hMC := meaC2 hSd HC.out.len (fun a ha => (HC.out.nst a ha).2)
                            have HMC := hid hMC
                            clear hMC hSd hcwb
                            go_wp2_with fail
                            refine (weights_any _ _ _ _).mono ?_
                            rintro e w5b ⟨rfl, hw5⟩
                            have hok := meaWorld_ok' hw5
                            have hA := all_any HMC.out w5b hok.1 hok.2.1
                            have HA := hid hA
                            have HOK := hid hok.2.2
                            clear hA hok hw5 k0 k1 k2
                            go_wp2_with fail
                            refine HA.out.mono ?_
                            rintro e w6b ⟨hg6, rfl⟩
                            have HQ2 : Hid (Below W3.heap.size W3 w6b) := below_next HQ1.out (HOK.out.grown hg6 HOK.out.size (fun k hk => by cases hk; omega))
                            clear hg6
                            have hRw := HRw.out
                            by_cases hwt : mAll mWeight (fnd st en sv) st (List.range st.length) (fun _ => none) = true
                            · rw [if_pos hwt]
                              rw [if_pos hwt] at hRw
                              subst hRw
                              go_wp2
                              go_end0
                              exact ⟨gb_trans HG3.out (gb_below HQ2.out), rfl⟩
                            · rw [if_neg hwt]
                              rw [if_neg hwt] at hRw
                              subst hRw
                              exact ⟨rfl, gb_trans HG3.out (gb_below HQ2.out), rfl⟩
                          · rw [if_neg hd]
                            have hRw := HRd.out
                            rw [if_neg hd, thenE, if_neg (by decide)] at hRw
                            subst hRw
                            exact ⟨rfl, gb_trans HG3.out (gb_below HQ1.out), rfl⟩
end Go.Proofs.YtmiohekmpjiloaaGreatDoor

namespace Go.Proofs.YtmiohekmpjiloaaGreatDoor
open Go.RowKit
set_option maxRecDepth 20000

/-- What is known and above 0 is above what its fields' structs are known as. -/
def Rk (M : Mea) (find : List Nat → Int × Int) (st : List (List Nat × List Pl.Fld)) (k : Kn) : Prop :=
  ∀ i v, k i = some v → 0 < v → v ≤ M.most ∧ ∀ f ∈ ((st[i]?).getD ([], [])).2, ∀ x, f.ty = .named x → (find x).1 = 1 → ∃ u, k (find x).2.toNat = some u ∧ 0 < u ∧ u < v
def Ext (k k' : Kn) : Prop := ∀ i v, k i = some v → k' i = some v
theorem Ext.refl (k : Kn) : Ext k k := fun _ _ h => h
theorem Ext.trans {a b c : Kn} (h : Ext a b) (g : Ext b c) : Ext a c := fun i v hi => g i v (h i v hi)
theorem mFs_rank (M : Mea) (hj : ∀ a b, a ≤ M.join a b ∧ b ≤ M.join a b) (find : List Nat → Int × Int) (st : List (List Nat × List Pl.Fld)) (rec : Kn → Nat → Option (Int × Kn))
    (hrec : ∀ k i r, rec k i = some r → Rk M find st k → Rk M find st r.2 ∧ Ext k r.2 ∧ 0 < r.1 ∧ r.2 i = some r.1) :
    ∀ (fs : List Pl.Fld) (v : Int) (k : Kn) (v' : Int) (k' : Kn), mFs M find rec fs v k = some (v', k') → Rk M find st k → Rk M find st k' ∧ Ext k k' ∧ v ≤ v' ∧ ∀ f ∈ fs, ∀ x, f.ty = .named x → (find x).1 = 1 → ∃ u, k' (find x).2.toNat = some u ∧ 0 < u ∧ u ≤ v'
  | [], v, k, v', k', h, hk => by
    unfold mFs at h
    injection h with h
    injection h with h1 h2
    subst h1 h2
    exact ⟨hk, Ext.refl _, Int.le_refl _, fun f hf => absurd hf (by simp)⟩
  | f :: r, v, k, v', k', h, hk => by
    unfold mFs at h
    cases hm : mTy M find rec k f.ty with
    | none => rw [hm] at h; cases h
    | some y =>
      obtain ⟨x, k1⟩ := y
      rw [hm] at h
      simp only at h
      have h1 : Rk M find st k1 ∧ Ext k k1 ∧ ∀ z, f.ty = .named z → (find z).1 = 1 → k1 (find z).2.toNat = some x ∧ 0 < x := by
        cases ht : f.ty with
        | named z =>
          rw [ht] at hm
          simp only [mTy] at hm
          by_cases h1 : (find z).1 = 1
          · rw [if_pos h1] at hm
            obtain ⟨q1, q2, q3, q4⟩ := hrec _ _ _ hm hk
            refine ⟨q1, q2, fun z' hz _ => ?_⟩
            injection hz with hz
            subst hz
            exact ⟨q4, q3⟩
          · rw [if_neg h1] at hm
            injection hm with hm
            injection hm with e1 e2
            subst e2
            refine ⟨hk, Ext.refl _, fun z' hz hf => ?_⟩
            injection hz with hz
            subst hz
            exact absurd hf h1
        | _ =>
          rw [ht] at hm
          simp only [mTy] at hm
          injection hm with hm
          injection hm with e1 e2
          subst e2
          exact ⟨hk, Ext.refl _, fun z' hz => by cases hz⟩
      obtain ⟨h1, h2, h3⟩ := h1
      obtain ⟨q1, q2, q3, q4⟩ := mFs_rank M hj find st rec hrec r _ _ _ _ h h1
      have hjj := hj v x
      refine ⟨q1, h2.trans q2, by omega, fun f' hf' z hz hz1 => ?_⟩
      rcases List.mem_cons.1 hf' with rfl | hf'
      · obtain ⟨e1, e2⟩ := h3 z hz hz1
        exact ⟨x, q2 _ _ e1, e2, by omega⟩
      · exact q4 f' hf' z hz hz1
theorem mOf_rank (M : Mea) (hj : ∀ a b, a ≤ M.join a b ∧ b ≤ M.join a b) (find : List Nat → Int × Int) (st : List (List Nat × List Pl.Fld)) :
    ∀ (n : Nat) (k : Kn) (i : Nat) (r : Int × Kn), mOf M find st n k i = some r → Rk M find st k → Rk M find st r.2 ∧ Ext k r.2 ∧ 0 < r.1 ∧ r.2 i = some r.1
  | 0, k, i, r, h, _ => by cases h
  | n + 1, k, i, r, h, hk => by
    unfold mOf at h
    cases hi : k i with
    | some v =>
      rw [hi] at h
      simp only at h
      by_cases h0 : 0 < v
      · rw [if_pos h0] at h
        injection h with h
        subst h
        exact ⟨hk, Ext.refl _, h0, hi⟩
      · rw [if_neg h0] at h; cases h
    | none =>
      rw [hi] at h
      simp only at h
      cases hm : mFs M find (mOf M find st n) ((st[i]?).getD ([], [])).2 0 (k.set i 0) with
      | none => rw [hm] at h; cases h
      | some y =>
        obtain ⟨v, k1⟩ := y
        rw [hm] at h
        simp only at h
        by_cases hv : v + 1 ≤ M.most
        · rw [if_pos hv] at h
          injection h with h
          subst h
          have hk0 : Rk M find st (k.set i 0) := by
            intro j u hu hu0
            have hji : j ≠ i := by
              intro e
              subst e
              simp [Kn.set] at hu
              omega
            have hu' : k j = some u := by simpa [Kn.set, hji] using hu
            obtain ⟨q1, q2⟩ := hk j u hu' hu0
            refine ⟨q1, fun f hf x hx hx1 => ?_⟩
            obtain ⟨t, t1, t2, t3⟩ := q2 f hf x hx hx1
            refine ⟨t, ?_, t2, t3⟩
            have : (find x).2.toNat ≠ i := by intro e; rw [e, hi] at t1; cases t1
            simpa [Kn.set, this] using t1
          obtain ⟨q1, q2, q3, q4⟩ := mFs_rank M hj find st _ (mOf_rank M hj find st n) _ _ _ _ _ hm hk0
          have hz : k1 i = some 0 := q2 i 0 (by simp [Kn.set])
          refine ⟨?_, ?_, by show 0 < v + 1; omega, by simp [Kn.set]⟩
          · intro j u hu hu0
            by_cases hji : j = i
            · subst hji
              have : u = v + 1 := by simpa [Kn.set] using hu.symm
              subst this
              refine ⟨hv, fun f hf x hx hx1 => ?_⟩
              obtain ⟨t, t1, t2, t3⟩ := q4 f hf x hx hx1
              have hne : (find x).2.toNat ≠ j := by intro e; rw [e, hz] at t1; injection t1 with t1; omega
              exact ⟨t, by simpa [Kn.set, hne] using t1, t2, by omega⟩
            · have hu' : k1 j = some u := by simpa [Kn.set, hji] using hu
              obtain ⟨p1, p2⟩ := q1 j u hu' hu0
              refine ⟨p1, fun f hf x hx hx1 => ?_⟩
              obtain ⟨t, t1, t2, t3⟩ := p2 f hf x hx hx1
              have hne : (find x).2.toNat ≠ i := by intro e; rw [e, hz] at t1; injection t1 with t1; omega
              exact ⟨t, by simpa [Kn.set, hne] using t1, t2, t3⟩
          · intro j u hu
            have hji : j ≠ i := by intro e; subst e; rw [hi] at hu; cases hu
            have := q2 j u (by simpa [Kn.set, hji] using hu)
            simpa [Kn.set, hji] using this
        · rw [if_neg hv] at h; cases h
theorem mAll_rank (M : Mea) (hj : ∀ a b, a ≤ M.join a b ∧ b ≤ M.join a b) (find : List Nat → Int × Int) (st : List (List Nat × List Pl.Fld)) :
    ∀ (l : List Nat) (k : Kn), mAll M find st l k = true → Rk M find st k → ∃ k', Rk M find st k' ∧ Ext k k' ∧ ∀ i ∈ l, ∃ v, k' i = some v ∧ 0 < v
  | [], k, _, hk => ⟨k, hk, Ext.refl _, fun i hi => absurd hi (by simp)⟩
  | i :: r, k, h, hk => by
    unfold mAll at h
    cases hm : mOf M find st (st.length + 1) k i with
    | none => rw [hm] at h; cases h
    | some y =>
      obtain ⟨v, k1⟩ := y
      rw [hm] at h
      simp only at h
      obtain ⟨q1, q2, q3, q4⟩ := mOf_rank M hj find st _ _ _ _ hm hk
      obtain ⟨k', t1, t2, t3⟩ := mAll_rank M hj find st r k1 h q1
      refine ⟨k', t1, q2.trans t2, fun j hj' => ?_⟩
      rcases List.mem_cons.1 hj' with rfl | hj'
      · exact ⟨v, t2 _ _ q4, q3⟩
      · exact t3 j hj'
/-- The structs of a schema without an error have a rank of 1 to 8, each above those of its fields. -/
theorem rank_of {st : List (List Nat × List Pl.Fld)} {en : List (List Nat × List Pl.Cas)} {sv : List (List Nat × List Pl.Mth)} (h : mAll mDepth (fnd st en sv) st (List.range st.length) (fun _ => none) = true) :
    ∃ r : Nat → Nat, ∀ i a, st[i]? = some a → 1 ≤ r i ∧ r i ≤ 8 ∧ ∀ f ∈ a.2, ∀ x, f.ty = .named x → (fnd st en sv x).1 = 1 → r (fnd st en sv x).2.toNat < r i := by
  obtain ⟨k, h1, _, h3⟩ := mAll_rank mDepth (by intro a b; show a ≤ max a b ∧ b ≤ max a b; omega) (fnd st en sv) st _ _ h (fun i v hv => by cases hv)
  refine ⟨fun i => ((k i).getD 0).toNat, fun i a ha => ?_⟩
  have hi : i < st.length := (List.getElem?_eq_some_iff.1 ha).1
  obtain ⟨v, hv, hv0⟩ := h3 i (List.mem_range.2 hi)
  obtain ⟨q1, q2⟩ := h1 i v hv hv0
  have q1' : v ≤ 8 := q1
  rw [ha] at q2
  refine ⟨by simp only [hv, Option.getD_some]; omega, by simp only [hv, Option.getD_some]; omega, fun f hf x hx hx1 => ?_⟩
  obtain ⟨u, u1, u2, u3⟩ := q2 f hf x hx hx1
  simp only [hv, u1, Option.getD_some]
  omega
end Go.Proofs.YtmiohekmpjiloaaGreatDoor

namespace Go.Proofs.YtmiohekmpjiloaaGreatDoor
open Go.RowKit
set_option maxRecDepth 20000

theorem Tab.up2 {B B' : Nat} {w : World} (h : Tab B w) (hB : B ≤ B') : Tab B' w := ⟨h.1, fun g hg => Nat.lt_of_lt_of_le (h.2 g hg) hB⟩
theorem SlR.up {α : Type} {m : Nat} {R R' : α → List Value → World → Prop} {B B' : Nat} {w : World} {v : Value} {xs : List α} (h : SlR m R B w v xs) (hB : B ≤ B') (hR : ∀ x c, R x c w → R' x c w) : SlR m R' B' w v xs := by
  obtain ⟨ad, cp, h1, h2, h3⟩ := h
  refine ⟨ad, cp, h1, h2, fun i x hx => ?_⟩
  obtain ⟨blk, off, c, q1, q2, q3, q4⟩ := h3 i x hx
  exact ⟨blk, off, c, q1, Nat.lt_of_lt_of_le q2 hB, q3, hR x c q4⟩
theorem SchL.up {B B' n : Nat} {a : List (List Nat × List Pl.GF)} {b : List (List Nat × List Pl.GC)} {c : List (List Nat × List Pl.GM)} {s1 s2 s3 : Value} {w : World} (h : SchL B n a b c s1 s2 s3 w) (hB : B ≤ B') : SchL B' n a b c s1 s2 s3 w := by
  refine ⟨h.1.up hB ?_, h.2.1.up hB ?_, h.2.2.up hB ?_⟩
  · rintro x c ⟨s, v, q1, q2, q3, q4⟩
    refine ⟨s, v, q1, q2, q3, q4.up hB ?_⟩
    rintro f c ⟨s, k, sn, o, p1, p2, p3, p4⟩
    exact ⟨s, k, sn, o, p1, p2, p3, p4.mono hB⟩
  · rintro x c ⟨s, v, q1, q2, q3, q4⟩
    exact ⟨s, v, q1, q2, q3, q4.up hB (fun _ _ h => h)⟩
  · rintro x c ⟨s, v, q1, q2, q3, q4⟩
    refine ⟨s, v, q1, q2, q3, q4.up hB ?_⟩
    rintro f c ⟨s, k, sn, o, k', sn', o', p1, p2, p3, p4, p5⟩
    exact ⟨s, k, sn, o, k', sn', o', p1, p2, p3, p4.mono hB, p5.mono hB⟩
theorem SchL.bel {B n : Nat} {a : List (List Nat × List Pl.GF)} {b : List (List Nat × List Pl.GC)} {c : List (List Nat × List Pl.GM)} {s1 s2 s3 : Value} {w w' : World} (h : SchL B n a b c s1 s2 s3 w) (hb : Below B w w') : SchL B n a b c s1 s2 s3 w' :=
  ⟨h.1.bel hb (GDR.bel hb (GFR.bel hb)), h.2.1.bel hb (GDR.bel hb (fun _ _ h => h)), h.2.2.bel hb (GDR.bel hb (GMR.bel hb))⟩

theorem okTy_nm (t : Pl.Ty) (h : Pl.okTy t) : tyNm t := by
  induction t with
  | plain k => exact fun e => by have := h.2; omega
  | named x =>
    have := Pl.name_len h
    show x.length ≤ 1000
    omega
  | list t ih => exact ih h
  | opt t ih => exact ih h
theorem ok_st {st : List (List Nat × List Pl.Fld)} {en : List (List Nat × List Pl.Cas)} {sv : List (List Nat × List Pl.Mth)} (hok : ∀ d ∈ Pl.inOrder st en sv, Pl.okDecl d) : ∀ a ∈ st, a.1.length ≤ 1000 ∧ a.2.length ≤ 1000 ∧ ∀ f ∈ a.2, fldNm f := by
  intro a ha
  obtain ⟨h1, h2, h3⟩ := hok (Pl.mkSt a) (List.mem_append_left _ (List.mem_append_left _ (List.mem_map_of_mem ha)))
  have := Pl.name_len h1
  refine ⟨by omega, by omega, fun f hf => ?_⟩
  obtain ⟨_, q2, q3, q4⟩ := h3 f hf
  have := Pl.name_len q2
  exact ⟨by omega, okTy_nm _ q3, by omega⟩
theorem ok_en {st : List (List Nat × List Pl.Fld)} {en : List (List Nat × List Pl.Cas)} {sv : List (List Nat × List Pl.Mth)} (hok : ∀ d ∈ Pl.inOrder st en sv, Pl.okDecl d) : ∀ a ∈ en, a.1.length ≤ 1000 ∧ a.2.length ≤ 1000 ∧ ∀ f ∈ a.2, f.name.length ≤ 1000 := by
  intro a ha
  obtain ⟨h1, h2, h3⟩ := hok (Pl.mkEn a) (List.mem_append_left _ (List.mem_append_right _ (List.mem_map_of_mem ha)))
  have := Pl.name_len h1
  refine ⟨by omega, by omega, fun f hf => ?_⟩
  have := Pl.name_len (h3 f hf).2
  omega
theorem ok_sv {st : List (List Nat × List Pl.Fld)} {en : List (List Nat × List Pl.Cas)} {sv : List (List Nat × List Pl.Mth)} (hok : ∀ d ∈ Pl.inOrder st en sv, Pl.okDecl d) : ∀ a ∈ sv, a.1.length ≤ 1000 ∧ a.2.length ≤ 1000 ∧ ∀ f ∈ a.2, mthNm f := by
  intro a ha
  obtain ⟨h1, h2, h3⟩ := hok (Pl.mkSv a) (List.mem_append_right _ (List.mem_map_of_mem ha))
  have := Pl.name_len h1
  refine ⟨by omega, by omega, fun f hf => ?_⟩
  obtain ⟨q1, q2, q3, q4, q5⟩ := h3 f hf
  have := Pl.name_len q1
  exact ⟨by omega, ⟨okTy_nm _ q2, by omega⟩, ⟨okTy_nm _ q4, by omega⟩⟩

abbrev Sc := List (List Nat × List Pl.Fld) × List (List Nat × List Pl.Cas) × List (List Nat × List Pl.Mth)
/-- A schema that is handed over: what Check tells of it, and what it is, if it has a text. -/
def ScOk (w : World) (s1 s2 s3 : Value) (E : Int) : Option Sc → Prop
  | none => ∃ a b c, ∃ er : Nat, SchL w.heap.size 99 a b c s1 s2 s3 w ∧ (a.length ≤ 140737488355328 ∧ b.length ≤ 140737488355328 ∧ c.length ≤ 140737488355328) ∧ Pl.schW a b c = .bad er ∧ er ≠ 0 ∧ E = er
  | some (st, en, sv) => SchL w.heap.size 99 (st.map Pl.embSt) (en.map Pl.embEn) (sv.map Pl.embSv) s1 s2 s3 w ∧ (∃ x, Pl.schW (st.map Pl.embSt) (en.map Pl.embEn) (sv.map Pl.embSv) = .ok x) ∧ (∀ d ∈ Pl.inOrder st en sv, Pl.okDecl d) ∧ st.length + en.length + sv.length ≤ 64 ∧ E = allE st en sv
theorem ScOk.of (a : List (List Nat × List Pl.GF)) (b : List (List Nat × List Pl.GC)) (c : List (List Nat × List Pl.GM)) (s1 s2 s3 : Value) (w : World) (hS : SchL w.heap.size 99 a b c s1 s2 s3 w) (h47 : a.length ≤ 140737488355328 ∧ b.length ≤ 140737488355328 ∧ c.length ≤ 140737488355328) : ∃ E D, ScOk w s1 s2 s3 E D := by
  cases hR : Pl.schW a b c with
  | bad er => exact ⟨er, none, a, b, c, er, hS, h47, hR, NzW.sch a b c er hR, rfl⟩
  | ok x =>
    obtain ⟨st, en, sv, rfl, rfl, rfl, hok, hlen, hx⟩ := Pl.schW_of _ _ _ _ hR
    exact ⟨allE st en sv, some (st, en, sv), hS, ⟨x, hR⟩, hok, hlen, rfl⟩
theorem ScOk.below {w w' : World} {s1 s2 s3 : Value} {E : Int} {D : Option Sc} (h : ScOk w s1 s2 s3 E D) (hb : Below w.heap.size w w') : ScOk w' s1 s2 s3 E D := by
  match D, h with
  | none, ⟨a, b, c, er, h1, h2⟩ => exact ⟨a, b, c, er, (h1.bel hb).up hb.size, h2⟩
  | some (st, en, sv), ⟨h1, h2⟩ => exact ⟨(h1.bel hb).up hb.size, h2⟩
theorem ScOk.shape {w : World} {s1 s2 s3 : Value} {E : Int} {D : Option Sc} (h : ScOk w s1 s2 s3 E D) : ∃ a1 m1 c1 a2 m2 c2 a3 m3 c3, s1 = .slice a1 m1 c1 ∧ s2 = .slice a2 m2 c2 ∧ s3 = .slice a3 m3 c3 := by
  have key : ∀ a b c, SchL w.heap.size 99 a b c s1 s2 s3 w → ∃ a1 m1 c1 a2 m2 c2 a3 m3 c3, s1 = .slice a1 m1 c1 ∧ s2 = .slice a2 m2 c2 ∧ s3 = .slice a3 m3 c3 := by
    intro a b c h
    obtain ⟨a1, c1, h1⟩ := h.1.shape
    obtain ⟨a2, c2, h2⟩ := h.2.1.shape
    obtain ⟨a3, c3, h3⟩ := h.2.2.shape
    exact ⟨a1, _, c1, a2, _, c2, a3, _, c3, h1, h2, h3⟩
  match D, h with
  | none, ⟨a, b, c, er, h1, h2⟩ => exact key _ _ _ h1
  | some (st, en, sv), ⟨h1, h2⟩ => exact key _ _ _ h1

set_option maxHeartbeats 16000000 in
theorem Check_any (s1 s2 s3 : Value) (E : Int) (D : Option Sc) (w : World) (h : ScOk w s1 s2 s3 E D) (ht : Tab w.heap.size w) :
    Calls Tryz.prog 50 #[.agg #[s1, s2, s3]] w fun e w' => e = .returned (.int .i64 E) ∧ Below w.heap.size w w' := by
  obtain ⟨a1, m1, c1, a2, m2, c2, a3, m3, c3, rfl, rfl, rfl⟩ := h.shape
  obtain ⟨w1, hw1⟩ : ∃ w1, w1 = w.alloc (.cells #[.slice a1 m1 c1, .slice a2 m2 c2, .slice a3 m3 c3] 26) := ⟨_, rfl⟩
  have hb1 : Below w.heap.size w w1 := by rw [hw1]; exact below_alloc w _
  have hB1 : Bx w1 w.heap.size [.slice a1 m1 c1, .slice a2 m2 c2, .slice a3 m3 c3] 26 := by rw [hw1]; exact Bx.new w _ _
  have h1 := h.below hb1
  have ht1 := (ht.below hb1).up2 hb1.size
  have HW1 := hid hw1
  have Hb1 := hid hb1
  have HB1 := hid hB1
  have y0 := hB1.cell 0 rfl
  have y1 := hB1.cell 1 rfl
  have y2 := hB1.cell 2 rfl
  have hmk : ∀ (t : TypeId) (w : World), (Instr.makeMap t none).run Tryz.prog w = .ok (.map (some w.heap.size)) (w.alloc (.map #[] 0)) := fun t w => run_makeMap t w
  have hmf : ∀ (fn : Fn) (first cap : Array Value) (w : World), (Instr.makeFunc fn first cap).run Tryz.prog w = .ok (.func fn first cap) w := fun _ _ _ _ => rfl
  clear hw1 hb1 hB1 h ht
  match D, h1 with
  | none, ⟨a, b, c, er, hS, h47, hbad, hne, hE⟩ =>
    subst hE
    have hpr := print_any 99 (Nat.le_refl _) a b c _ _ _ w1 hS ht1 h47
    rw [hbad] at hpr
    have HPR := hid hpr
    have hq : ((er : Int) == 0) = false := by simp; omega
    clear hpr hS ht1 h1 hbad h47
    go_enter Tryz.func50, Tryz.ntmps50
    go_wp2_with fail
    rw [← HW1.out]
    go_wp2_with fail
    refine HPR.out.mono ?_
    rintro e w2 ⟨rfl, hb2⟩
    have HF := hid (below_next Hb1.out hb2)
    clear hb2
    go_wp2_with fail
    go_ret
    exact ⟨rfl, HF.out⟩
  | some (st, en, sv), ⟨hS, ⟨x, hx⟩, hok, hlen, hE⟩ =>
    subst hE
    have hpr := print_any 99 (Nat.le_refl _) _ _ _ _ _ _ w1 hS ht1 (by simp only [List.length_map]; omega)
    rw [hx] at hpr
    have HPR := hid hpr
    have HG := hid (SchL.g (Nat.le_refl _) (by omega) hS hok)
    have HOK := hid hok
    have HLEN := hid hlen
    obtain ⟨R, hR⟩ : ∃ R, R = allE st en sv := ⟨_, rfl⟩
    rw [← hR]
    have HR := hid hR
    clear hpr hS ht1 h1 hx hok hlen hR
    go_enter Tryz.func50, Tryz.ntmps50
    go_wp2_with fail
    rw [← HW1.out]
    go_wp2_with fail
    refine HPR.out.mono ?_
    rintro e w2 ⟨t, rfl, _, hb2⟩
    have Hb2 := hid hb2
    have hB2 := HB1.out.below hb2
    have z0 := hB2.cell 0 rfl
    have z1 := hB2.cell 1 rfl
    have z2 := hB2.cell 2 rfl
    obtain ⟨w3, hw3⟩ : ∃ w3, w3 = w2.alloc (.map #[] 0) := ⟨_, rfl⟩
    obtain ⟨w4, hw4⟩ : ∃ w4, w4 = w3.alloc (.cells #[.slice a1 m1 c1, .slice a2 m2 c2, .slice a3 m3 c3, .map (some w2.heap.size)] 129) := ⟨_, rfl⟩
    obtain ⟨w5, hw5⟩ : ∃ w5, w5 = w4.alloc (.cells #[.int .i64 0] 34) := ⟨_, rfl⟩
    have hz3 : w3.heap.size = w2.heap.size + 1 := by rw [hw3]; simp
    have hz4 : w4.heap.size = w2.heap.size + 2 := by rw [hw4]; simp [hz3]
    have hb3 : Below w2.heap.size w2 w3 := by rw [hw3]; exact below_alloc w2 _
    have hb34 : Below w3.heap.size w3 w4 := by rw [hw4]; exact below_alloc w3 _
    have hb45 : Below w4.heap.size w4 w5 := by rw [hw5]; exact below_alloc w4 _
    have hb4 := below_next hb3 hb34
    have hb5 := below_next hb4 hb45
    have hm5 : Mp w5 w2.heap.size 0 (fun _ => 0) := Mp.below (Mp.below (by rw [hw3]; exact Mp.made w2) hb34) hb45
    have hB5 : Bx w5 (w2.heap.size + 1) [.slice a1 m1 c1, .slice a2 m2 c2, .slice a3 m3 c3, .map (some w2.heap.size)] 129 := Bx.below (by rw [hw4]; exact Bx.newAt hz3.symm _ _) hb45
    have hBe : Bx w5 w4.heap.size [.int .i64 0] 34 := by rw [hw5]; exact Bx.new w4 _ _
    have hC : ChkC st en sv (w2.heap.size + 1) w2.heap.size w2 (.slice a1 m1 c1) (.slice a2 m2 c2) (.slice a3 m3 c3) := ⟨HG.out.below Hb2.out, by have := HLEN.out; omega, ok_st HOK.out, ok_en HOK.out, ok_sv HOK.out, Nat.le_refl _, by omega⟩
    have hall := checkAll_any hC w5 ⟨hb5, hB5⟩ hm5
    rw [← HR.out, hw5] at hall
    have hPP : ∀ W, w5.grownBy W (some w2.heap.size) → Bx W w4.heap.size [.int .i64 0] 34 := fun W hg => hBe.grown hg (by omega)
    have hlast : ∀ (W : World) (v : Value), w5.grownBy W (some w2.heap.size) → Below w.heap.size w (W.setCell ⟨w4.heap.size, 0, none⟩ v) := by
      intro W v hg
      have h2 := below_next Hb1.out Hb2.out
      have h5 := below_next h2 hb5
      exact (h5.grown hg h5.size (fun k hk => by cases hk; exact h2.size)).setCell (by simp only; have := h2.size; omega) _
    have hcau : Calls Tryz.prog 74 #[.func (.func 75) #[.pointer (some ⟨w2.heap.size + 1, 0, none⟩)] #[]] w4 fun e w' => e = .returned (.int .i64 R) ∧ Below w.heap.size w w' := by
      by_cases hR0 : R = 0
      · subst hR0
        refine (scaught_ok _ _ (fun _ _ => rfl) w4 (fun W => w5.grownBy W (some w2.heap.size)) hPP ?_).mono ?_
        · refine hall.mono ?_
          rintro e W ⟨hg, rfl⟩
          rw [hw5]
          exact ⟨rfl, hg⟩
        · rintro e w' ⟨rfl, W, hg, rfl⟩
          exact ⟨rfl, hlast W _ hg⟩
      · refine (scaught_bad _ _ (fun _ _ => rfl) w4 (fun er => er = R) (fun W => w5.grownBy W (some w2.heap.size)) hPP ?_).mono ?_
        · refine hall.mono ?_
          rintro e W ⟨hg, rfl⟩
          rw [hw5]
          exact ⟨R, rfl, by rw [if_neg hR0], hg⟩
        · rintro e w' ⟨er, rfl, rfl, W, hg, rfl⟩
          exact ⟨rfl, hlast W _ hg⟩
    have HCAU := hid hcau
    have HW3 := hid hw3
    have HW4 := hid hw4
    clear hb2 hB2 y0 y1 y2 hcau hlast hPP hall hC hBe hB5 hm5 hb5 hb4 hb45 hb34 hb3 hz4 hz3 hw5 hw4 hw3
    go_wp2_with fail
    rw [← HW3.out, ← HW4.out]
    refine HCAU.out.mono ?_
    rintro e w6 ⟨rfl, hb6⟩
    have HB6 := hid hb6
    clear hb6
    go_wp2_with fail
    go_ret
    exact ⟨rfl, HB6.out⟩
end Go.Proofs.YtmiohekmpjiloaaGreatDoor

namespace Go.Proofs.YtmiohekmpjiloaaGreatDoor
open Go.RowKit
set_option maxRecDepth 20000

set_option maxHeartbeats 1000000 in
theorem vneed_true (e : Int) (w : World) : Calls Tryz.prog 37 #[.bool true, .int .i64 e] w fun r w' => r = .returned (.tuple #[]) ∧ w' = w := by
  go_enter Tryz.func37, Tryz.ntmps37
  go_wp2
  go_end0
  exact ⟨rfl, rfl⟩
set_option maxHeartbeats 1000000 in
theorem vneed_false (e : Int) (w : World) : Calls Tryz.prog 37 #[.bool false, .int .i64 e] w fun r w' => r = .panicked (errp e) ∧ w' = w := by
  go_enter Tryz.func37, Tryz.ntmps37
  go_wp2
  exact ⟨rfl, rfl, rfl⟩
theorem vcatch_panicking (b : Nat) (er : Int) (older : List PanicEntry) (w : World) (hB : Bx w b [.int .i64 0] 34) :
    CallsD Tryz.prog 49 #[.pointer (some ⟨b, 0, none⟩)] (.panicking ({ v := .iface 34 (.int .i64 er), recovered := false } :: older)) w fun e u' w' =>
      e = .returned (.tuple #[]) ∧ u' = .panicking ({ v := .iface 34 (.int .i64 er), recovered := true } :: older) ∧ w' = w.setCell ⟨b, 0, none⟩ (.int .i64 er) := by
  have h0 := hB.cell 0 rfl
  have hf := hB.frozen
  have ha := run_assertE
  refine callsD_of_wpS Tryz.func49 rfl fun c₀ cs hu => ?_
  apply wpS_seq
  apply wpS_region
  simp [wpOpsS, go_sem, recoverD, hu, Tryz.ntmps49, Exit.thenS]
  apply wpS_seq
  apply wpS_region
  simp [wpOpsS, go_sem, Exit.thenS]
  refine wpS_cond (t := true) (by simp [Act.eval, Array.replicate]) ?_
  simp only [if_true]
  apply wpS_region
  simp [wpOpsS, go_sem, ha, h0, hf, bodyPostS, results, Tryz.results49]

set_option maxRecDepth 4000 in
theorem vcatch_idle (b : Nat) (w : World) :
    CallsD Tryz.prog 49 #[.pointer (some ⟨b, 0, none⟩)] .returning w fun e u' w' => e = .returned (.tuple #[]) ∧ u' = .returning ∧ w' = w := by
  refine callsD_of_wpS Tryz.func49 rfl fun c₀ cs hu => ?_
  apply wpS_seq
  apply wpS_region
  simp [wpOpsS, go_sem, recoverD, hu, Tryz.ntmps49, Exit.thenS]
  apply wpS_seq
  apply wpS_region
  simp [wpOpsS, go_sem, Exit.thenS]
  refine wpS_cond (t := false) (by simp [Act.eval, Array.replicate]) ?_
  simp only [Bool.false_eq_true, if_false]
  refine wpS_of_wp (wp_skip ?_)
  cases c₀
  simp_all [bodyPostS, results, Tryz.results49]

theorem ret_verrno {W : World} {tmps : Array Value} {b : Nat} {x : Value} (ht : tmps.getD 2 undef = .pointer (some ⟨b, 0, none⟩)) (h0 : W.cell? ⟨b, 0, none⟩ = some x) :
    (results Tryz.f27 tmps).run Tryz.prog W = .ok x W := by
  have ht' : tmps[2]?.getD undef = .pointer (some ⟨b, 0, none⟩) := by rw [← Array.getD_eq_getD_getElem?]; exact ht
  simp [results, Tryz.results27]
  go_simp

/-- caught, of a method with its receiver: what the work ends with. -/
theorem vcaught_ok (fr : Nat) (cap : Array Value) (hen : ∀ (args : Array Value) (w' : World), (callFunc fr args).run Tryz.prog w' = .ok (.enter fr args) w') (w : World) (P : World → Prop) (hP : ∀ W, P W → Bx W w.heap.size [.int .i64 0] 34)
    (hw : Calls Tryz.prog fr cap (w.alloc (.cells #[.int .i64 0] 34)) fun e w' => e = .returned (.tuple #[]) ∧ P w') :
    Calls Tryz.prog 27 #[.func (.func fr) #[] cap] w fun e w' => e = .returned (.int .i64 0) ∧ ∃ W, P W ∧ w' = W.setCell ⟨w.heap.size, 0, none⟩ (.int .i64 0) := by
  have hmf : ∀ (fn : Fn) (first cap : Array Value) (w : World), (Instr.makeFunc fn first cap).run Tryz.prog w = .ok (.func fn first cap) w := fun _ _ _ _ => rfl
  go_enter_defers Tryz.func27, Tryz.ntmps27
  go_wp2_with fail
  refine hw.mono ?_
  rintro e W ⟨rfl, hPW⟩
  have hB := hP W hPW
  have HP := hid hPW
  have h0 := hB.cell 0 rfl
  have hf := hB.frozen
  have hB2 := hB.set 0 (.int .i64 0)
  have g0 := hB2.cell 0 rfl
  clear hP hPW hw
  go_wp2
  refine leaves_cons (f := 49) (args := #[.pointer (some ⟨w.heap.size, 0, none⟩)]) (by simp) (by simp [go_sem]) ?_
  refine (vcatch_idle w.heap.size _).mono ?_
  rintro e u' w'' ⟨rfl, rfl, rfl⟩
  exact ⟨_, ret_verrno rfl g0, rfl, W, HP.out, rfl⟩

theorem vcaught_bad (fr : Nat) (cap : Array Value) (hen : ∀ (args : Array Value) (w' : World), (callFunc fr args).run Tryz.prog w' = .ok (.enter fr args) w') (w : World) (E : Int → Prop) (P : World → Prop) (hP : ∀ W, P W → Bx W w.heap.size [.int .i64 0] 34)
    (hw : Calls Tryz.prog fr cap (w.alloc (.cells #[.int .i64 0] 34)) fun e w' => ∃ er, E er ∧ e = .panicked (errp er) ∧ P w') :
    Calls Tryz.prog 27 #[.func (.func fr) #[] cap] w fun e w' => ∃ er, E er ∧ e = .returned (.int .i64 er) ∧ ∃ W, P W ∧ w' = W.setCell ⟨w.heap.size, 0, none⟩ (.int .i64 er) := by
  have hmf : ∀ (fn : Fn) (first cap : Array Value) (w : World), (Instr.makeFunc fn first cap).run Tryz.prog w = .ok (.func fn first cap) w := fun _ _ _ _ => rfl
  go_enter_defers Tryz.func27, Tryz.ntmps27
  go_wp2_with fail
  refine hw.mono ?_
  rintro e W ⟨er, hE, rfl, hPW⟩
  have hB := hP W hPW
  have HP := hid hPW
  have HE := hid hE
  have hB2 := hB.set 0 (.int .i64 er)
  have g0 := hB2.cell 0 rfl
  clear hP hPW hw
  refine leaves_cons (f := 49) (args := #[.pointer (some ⟨w.heap.size, 0, none⟩)]) (by simp) (by simp [go_sem]) ?_
  refine (vcatch_panicking w.heap.size er [] _ hB).mono ?_
  rintro e u' w'' ⟨rfl, rfl, rfl⟩
  exact ⟨_, ret_verrno rfl g0, er, HE.out, rfl, W, HP.out, rfl⟩
end Go.Proofs.YtmiohekmpjiloaaGreatDoor

namespace Go.Proofs.YtmiohekmpjiloaaGreatDoor
open Go.RowKit
set_option maxRecDepth 20000

theorem ret_mean {W : World} {tmps : Array Value} {b : Nat} {x y z p q : Value} (ht : tmps.getD 4 undef = .pointer (some ⟨b, 0, none⟩)) (h0 : W.cell? ⟨b, 0, none⟩ = some x) (h1 : W.cell? ⟨b, 1, none⟩ = some y) (h2 : W.cell? ⟨b, 2, none⟩ = some z) (h3 : W.cell? ⟨b, 3, none⟩ = some p) (h4 : W.cell? ⟨b, 4, none⟩ = some q) :
    (results Tryz.f52 tmps).run Tryz.prog W = .ok (.agg #[x, y, z, p, q]) W := by
  have ht' : tmps[4]?.getD undef = .pointer (some ⟨b, 0, none⟩) := by rw [← Array.getD_eq_getD_getElem?]; exact ht
  simp [results, Tryz.results52]
  go_simp

set_option maxHeartbeats 4000000 in
/-- mean of a type that names nothing. -/
theorem mean_plain (K : Int) (hK : K ≠ 8) (sn : ByteArray) (a1 a2 a3 ao : Option Addr) (m1 m2 m3 mo c1 c2 c3 co : Nat) (w : World) :
    Calls Tryz.prog 52 #[.agg #[.slice a1 m1 c1, .slice a2 m2 c2, .slice a3 m3 c3], .agg #[.int .i64 K, .string sn, .slice ao mo co]] w fun e w' => e = .returned (.agg #[.int .i64 K, .string sn, .slice ao mo co, .slice none 0 0, .slice none 0 0]) ∧ Below w.heap.size w w' := by
  have hq : (K == 8) = false := by simp [hK]
  have HB := hid (below_next (below_next (below_next (below_alloc w (.cells #[.slice a1 m1 c1, .slice a2 m2 c2, .slice a3 m3 c3] 65)) (below_alloc _ (.cells #[.int .i64 K, .string sn, .slice ao mo co] 29))) (below_alloc _ (.cells #[.int .i64 K, .string sn, .slice ao mo co, .slice none 0 0, .slice none 0 0] 97))) (below_alloc _ (.cells #[.int .i64 K, .string sn, .slice ao mo co, .slice none 0 0, .slice none 0 0] 97)))
  go_enter Tryz.func52, Tryz.ntmps52
  go_wp2_with fail
  exact bodyPost_ret (ret_mean rfl (by go_simp) (by go_simp) (by go_simp) (by go_simp) (by go_simp)) rfl ⟨rfl, HB.out⟩

theorem fnd_two {st : List (List Nat × List Pl.Fld)} {en : List (List Nat × List Pl.Cas)} {sv : List (List Nat × List Pl.Mth)} {x : List Nat} (h : (fnd st en sv x).1 = 2) : ∃ (i : Nat) (a : List Nat × List Pl.Cas), en[i]? = some a ∧ a.1 = x ∧ (fnd st en sv x).2 = (i : Int) := by
  unfold fnd at *
  split at h
  · simp at h
  · split at h
    · rename_i h1 h2
      obtain ⟨i, a, q1, q2, q3⟩ := idxF_at _ _ _ h2
      refine ⟨i, a, q1, by simpa [nmIs] using q2, ?_⟩
      rw [if_neg h1, if_pos h2]
      simpa using q3
    · split at h <;> simp at h

/-- What a name means: its kind, its fields, its cases. -/
def MeanN (st : List (List Nat × List Pl.Fld)) (en : List (List Nat × List Pl.Cas)) (sv : List (List Nat × List Pl.Mth)) (x : List Nat) (w : World) (k f c : Value) : Prop :=
  if (fnd st en sv x).1 = 1 then ∃ i a, st[i]? = some a ∧ a.1 = x ∧ (fnd st en sv x).2 = ((i : Nat) : Int) ∧ k = .int .i64 9 ∧ c = .slice none 0 0 ∧ Rw 5 FldG w f a.2
  else if (fnd st en sv x).1 = 2 then ∃ i a, en[i]? = some a ∧ a.1 = x ∧ (fnd st en sv x).2 = ((i : Nat) : Int) ∧ k = .int .i64 10 ∧ f = .slice none 0 0 ∧ Rw 2 CasG w c a.2
  else k = .int .i64 8 ∧ f = .slice none 0 0 ∧ c = .slice none 0 0

set_option maxHeartbeats 16000000 in
theorem mean_named (st : List (List Nat × List Pl.Fld)) (en : List (List Nat × List Pl.Cas)) (sv : List (List Nat × List Pl.Mth)) (hl : st.length ≤ 1000 ∧ en.length ≤ 1000 ∧ sv.length ≤ 1000) (s1 s2 s3 : Value) (x : ByteArray) (ao : Option Addr) (mo co : Nat) (w : World) (hS : SchG st en sv s1 s2 s3 w) :
    Calls Tryz.prog 52 #[.agg #[s1, s2, s3], .agg #[.int .i64 8, .string x, .slice ao mo co]] w fun e w' => ∃ k f c, e = .returned (.agg #[k, .string x, .slice ao mo co, f, c]) ∧ MeanN st en sv (bl x) w' k f c ∧ Below w.heap.size w w' := by
  obtain ⟨a1, c1, a2, c2, a3, c3, rfl, rfl, rfl⟩ := hS.shape
  obtain ⟨w4, hw4⟩ : ∃ w4, w4 = (((w.alloc (.cells #[.slice a1 st.length c1, .slice a2 en.length c2, .slice a3 sv.length c3] 65)).alloc (.cells #[.int .i64 8, .string x, .slice ao mo co] 29)).alloc (.cells #[.int .i64 0, .string ⟨#[]⟩, .slice none 0 0, .slice none 0 0, .slice none 0 0] 97)).alloc (.cells #[.int .i64 8, .string x, .slice ao mo co, .slice none 0 0, .slice none 0 0] 97) := ⟨_, rfl⟩
  have hb1 := below_alloc w (.cells #[.slice a1 st.length c1, .slice a2 en.length c2, .slice a3 sv.length c3] 65)
  have hb2 := below_alloc (w.alloc (.cells #[.slice a1 st.length c1, .slice a2 en.length c2, .slice a3 sv.length c3] 65)) (.cells #[.int .i64 8, .string x, .slice ao mo co] 29)
  have hb3 := below_alloc ((w.alloc (.cells #[.slice a1 st.length c1, .slice a2 en.length c2, .slice a3 sv.length c3] 65)).alloc (.cells #[.int .i64 8, .string x, .slice ao mo co] 29)) (.cells #[.int .i64 0, .string ⟨#[]⟩, .slice none 0 0, .slice none 0 0, .slice none 0 0] 97)
  have hb4 := below_alloc (((w.alloc (.cells #[.slice a1 st.length c1, .slice a2 en.length c2, .slice a3 sv.length c3] 65)).alloc (.cells #[.int .i64 8, .string x, .slice ao mo co] 29)).alloc (.cells #[.int .i64 0, .string ⟨#[]⟩, .slice none 0 0, .slice none 0 0, .slice none 0 0] 97)) (.cells #[.int .i64 8, .string x, .slice ao mo co, .slice none 0 0, .slice none 0 0] 97)
  have hB1 := (((Bx.new w [.slice a1 st.length c1, .slice a2 en.length c2, .slice a3 sv.length c3] 65).below hb2).below hb3).below hb4
  have hB3 : Bx _ (w.heap.size + 1 + 1) [.int .i64 0, .string ⟨#[]⟩, .slice none 0 0, .slice none 0 0, .slice none 0 0] 97 := (Bx.newAt (by simp) _ _).below hb4
  have hB4 : Bx w4 (w.heap.size + 1 + 1 + 1) [.int .i64 8, .string x, .slice ao mo co, .slice none 0 0, .slice none 0 0] 97 := by rw [hw4]; exact Bx.newAt (by simp) _ _
  have hb := below_next (below_next (below_next hb1 hb2) hb3) hb4
  rw [← hw4] at hb hB1 hB3
  have hfd := Find_any st en sv hl _ _ _ x w4 (hS.below hb)
  obtain ⟨F1, F2, hF⟩ : ∃ F1 F2, fnd st en sv (bl x) = (F1, F2) := ⟨_, _, rfl⟩
  rw [hF] at hfd
  have HFD := hid hfd
  have HF := hid hF
  have HB := hid hb
  have HB1 := hid hB1
  have HB3 := hid hB3
  have HB4 := hid hB4
  have HS := hid hS
  have HW4 := hid hw4
  have HL := hid hl
  clear hb1 hb2 hb3 hb4 hb hB1 hB3 hB4 hS hw4 hfd hF hl
  obtain ⟨l1, hl1⟩ : ∃ l, l = st.length := ⟨_, rfl⟩
  obtain ⟨l2, hl2⟩ : ∃ l, l = en.length := ⟨_, rfl⟩
  obtain ⟨l3, hl3⟩ : ∃ l, l = sv.length := ⟨_, rfl⟩
  rw [← hl1, ← hl2, ← hl3] at HS HB1 HW4 HFD ⊢
  have HL1 := hid hl1
  have HL2 := hid hl2
  clear hl1 hl2 hl3
  go_enter Tryz.func52, Tryz.ntmps52
  go_wp2_with fail
  rw [← HW4.out]
  refine HFD.out.mono ?_
  rintro e w5 ⟨rfl, hb5⟩
  have HB5 := hid hb5
  have HBN := hid (below_next HB.out hb5)
  clear hb5 HFD
  by_cases h1 : F1 = 1
  · subst h1
    obtain ⟨i, a, hi, ha, hfi⟩ := fnd_one (show (fnd st en sv (bl x)).1 = 1 by rw [HF.out])
    rw [HF.out] at hfi
    simp only at hfi
    have HFI : Hid ((fnd st en sv (bl x)).2 = (i : Int)) := by
      show _ = _
      rw [HF.out]
      exact hfi
    subst hfi
    obtain ⟨g, off, cap, c, hv, hg, ⟨sn, ad, m, cp, rfl, hs, hr⟩, hcell⟩ := Rw.at HS.out.1 hi
    injection hv with e1 e2 e3
    subst e1
    have hil : i < l1 := by rw [HL1.out]; exact (List.getElem?_eq_some_iff.1 hi).1
    have hilI : (i : Int) < (l1 : Int) := by omega
    have hlb : l1 ≤ 1000 := by rw [HL1.out]; exact HL.out.1
    have y0 := (HB1.out.below HB5.out).cell 0 rfl
    have d1 := (HBN.out.cell hg).trans (hcell 1 _ rfl)
    have hB4 := HB4.out.below HB5.out
    have hB3 := HB3.out.below HB5.out
    have x0 := hB4.cell 0 rfl
    have x1 := hB4.cell 1 rfl
    have x2 := hB4.cell 2 rfl
    have x3 := hB4.cell 3 rfl
    have x4 := hB4.cell 4 rfl
    have xf := hB4.frozen
    have HHI := hid hi
    have HHA := hid ha
    have HR0 := hid hr
    have HB4' := hid hB4
    have HB3' := hid hB3
    have hsz : w.heap.size + 1 + 1 + 1 < w5.heap.size := hB4.lt
    clear e2 e3 hi ha hr hcell hs hB4 hB3
    go_wp2_with fail
    go_region
    have hX := (HB4'.out.set 0 (.int .i64 9)).set 3 (.slice ad m cp)
    have hc1 : Ch (fun g' _ => g' = w.heap.size + 1 + 1 + 1) w5 ((w5.setCell ⟨w.heap.size + 1 + 1 + 1, 0, none⟩ (.int .i64 9)).setCell ⟨w.heap.size + 1 + 1 + 1, 3, none⟩ (.slice ad m cp)) := (Ch.set HB4'.out rfl _).trans (Ch.set (HB4'.out.set 0 _) rfl _)
    have hY := HB3'.out.ch hc1 (by omega)
    clear hc1
    change Bx ((w5.setCell ⟨w.heap.size + 1 + 1 + 1, 0, none⟩ (.int .i64 9)).setCell ⟨w.heap.size + 1 + 1 + 1, 3, none⟩ (.slice ad m cp)).drew _ _ _ at hX hY
    have hBX := ((HBN.out.setCell (p := ⟨w.heap.size + 1 + 1 + 1, 0, none⟩) (by simp only; omega) (.int .i64 9)).setCell (p := ⟨w.heap.size + 1 + 1 + 1, 3, none⟩) (by simp only; omega) (.slice ad m cp)).drew
    generalize ((w5.setCell ⟨w.heap.size + 1 + 1 + 1, 0, none⟩ (.int .i64 9)).setCell ⟨w.heap.size + 1 + 1 + 1, 3, none⟩ (.slice ad m cp)).drew = w6 at *
    have z0 := hX.cell 0 rfl
    have z1 := hX.cell 1 rfl
    have z2 := hX.cell 2 rfl
    have z3 := hX.cell 3 rfl
    have z4 := hX.cell 4 rfl
    have u0 := hY.cell 0 rfl
    have u1 := hY.cell 1 rfl
    have u2 := hY.cell 2 rfl
    have u3 := hY.cell 3 rfl
    have u4 := hY.cell 4 rfl
    have uf := hY.frozen
    have HR := hid (((((hY.set 0 (.int .i64 9)).set 1 (.string x)).set 2 (.slice ao mo co)).set 3 (.slice ad m cp)).set 4 (.slice none 0 0))
    have HBF := hid (((((hBX.setCell (p := ⟨w.heap.size + 1 + 1, 0, none⟩) (by simp only; omega) (.int .i64 9)).setCell (p := ⟨w.heap.size + 1 + 1, 1, none⟩) (by simp only; omega) (.string x)).setCell (p := ⟨w.heap.size + 1 + 1, 2, none⟩) (by simp only; omega) (.slice ao mo co)).setCell (p := ⟨w.heap.size + 1 + 1, 3, none⟩) (by simp only; omega) (.slice ad m cp)).setCell (p := ⟨w.heap.size + 1 + 1, 4, none⟩) (by simp only; omega) (.slice none 0 0))
    have hmem := HR0.out.below HBF.out (fun _ _ h => FldG.below HBF.out _ _ h)
    have HMEM := hid hmem
    clear hX hY hBX hmem x0 x1 x2 x3 x4 xf y0 d1
    go_wp2_with fail
    refine bodyPost_ret (ret_mean rfl (HR.out.cell 0 rfl) (HR.out.cell 1 rfl) (HR.out.cell 2 rfl) (HR.out.cell 3 rfl) (HR.out.cell 4 rfl)) rfl ⟨_, _, _, rfl, ?_, HBF.out⟩
    unfold MeanN
    rw [if_pos (by rw [HF.out])]
    exact ⟨i, a, HHI.out, HHA.out, HFI.out, rfl, rfl, HMEM.out⟩
  · by_cases h2 : F1 = 2
    · subst h2
      obtain ⟨i, a, hi, ha, hfi⟩ := fnd_two (show (fnd st en sv (bl x)).1 = 2 by rw [HF.out])
      rw [HF.out] at hfi
      simp only at hfi
      have HFI : Hid ((fnd st en sv (bl x)).2 = (i : Int)) := by
        show _ = _
        rw [HF.out]
        exact hfi
      subst hfi
      obtain ⟨g, off, cap, c, hv, hg, ⟨sn, ad, m, cp, rfl, hs, hr⟩, hcell⟩ := Rw.at HS.out.2.1 hi
      injection hv with e1 e2 e3
      subst e1
      have hil : i < l2 := by rw [HL2.out]; exact (List.getElem?_eq_some_iff.1 hi).1
      have hilI : (i : Int) < (l2 : Int) := by omega
      have hlb : l2 ≤ 1000 := by rw [HL2.out]; exact HL.out.2.1
      have y0 := (HB1.out.below HB5.out).cell 1 rfl
      have d1 := (HBN.out.cell hg).trans (hcell 1 _ rfl)
      have hB4 := HB4.out.below HB5.out
      have hB3 := HB3.out.below HB5.out
      have x0 := hB4.cell 0 rfl
      have x1 := hB4.cell 1 rfl
      have x2 := hB4.cell 2 rfl
      have x3 := hB4.cell 3 rfl
      have x4 := hB4.cell 4 rfl
      have xf := hB4.frozen
      have HHI := hid hi
      have HHA := hid ha
      have HR0 := hid hr
      have HB4' := hid hB4
      have HB3' := hid hB3
      have hsz : w.heap.size + 1 + 1 + 1 < w5.heap.size := hB4.lt
      clear e2 e3 hi ha hr hcell hs hB4 hB3
      go_wp2_with fail
      go_region
      have hX := (HB4'.out.set 0 (.int .i64 10)).set 4 (.slice ad m cp)
      have hc1 : Ch (fun g' _ => g' = w.heap.size + 1 + 1 + 1) w5 ((w5.setCell ⟨w.heap.size + 1 + 1 + 1, 0, none⟩ (.int .i64 10)).setCell ⟨w.heap.size + 1 + 1 + 1, 4, none⟩ (.slice ad m cp)) := (Ch.set HB4'.out rfl _).trans (Ch.set (HB4'.out.set 0 _) rfl _)
      have hY := HB3'.out.ch hc1 (by omega)
      clear hc1
      change Bx ((w5.setCell ⟨w.heap.size + 1 + 1 + 1, 0, none⟩ (.int .i64 10)).setCell ⟨w.heap.size + 1 + 1 + 1, 4, none⟩ (.slice ad m cp)).drew _ _ _ at hX hY
      have hBX := ((HBN.out.setCell (p := ⟨w.heap.size + 1 + 1 + 1, 0, none⟩) (by simp only; omega) (.int .i64 10)).setCell (p := ⟨w.heap.size + 1 + 1 + 1, 4, none⟩) (by simp only; omega) (.slice ad m cp)).drew
      generalize ((w5.setCell ⟨w.heap.size + 1 + 1 + 1, 0, none⟩ (.int .i64 10)).setCell ⟨w.heap.size + 1 + 1 + 1, 4, none⟩ (.slice ad m cp)).drew = w6 at *
      have z0 := hX.cell 0 rfl
      have z1 := hX.cell 1 rfl
      have z2 := hX.cell 2 rfl
      have z3 := hX.cell 3 rfl
      have z4 := hX.cell 4 rfl
      have u0 := hY.cell 0 rfl
      have u1 := hY.cell 1 rfl
      have u2 := hY.cell 2 rfl
      have u3 := hY.cell 3 rfl
      have u4 := hY.cell 4 rfl
      have uf := hY.frozen
      have HR := hid (((((hY.set 0 (.int .i64 10)).set 1 (.string x)).set 2 (.slice ao mo co)).set 3 (.slice none 0 0)).set 4 (.slice ad m cp))
      have HBF := hid (((((hBX.setCell (p := ⟨w.heap.size + 1 + 1, 0, none⟩) (by simp only; omega) (.int .i64 10)).setCell (p := ⟨w.heap.size + 1 + 1, 1, none⟩) (by simp only; omega) (.string x)).setCell (p := ⟨w.heap.size + 1 + 1, 2, none⟩) (by simp only; omega) (.slice ao mo co)).setCell (p := ⟨w.heap.size + 1 + 1, 3, none⟩) (by simp only; omega) (.slice none 0 0)).setCell (p := ⟨w.heap.size + 1 + 1, 4, none⟩) (by simp only; omega) (.slice ad m cp))
      have hmem := HR0.out.below HBF.out (fun _ _ h => h)
      have HMEM := hid hmem
      clear hX hY hBX hmem x0 x1 x2 x3 x4 xf y0 d1
      go_wp2_with fail
      refine bodyPost_ret (ret_mean rfl (HR.out.cell 0 rfl) (HR.out.cell 1 rfl) (HR.out.cell 2 rfl) (HR.out.cell 3 rfl) (HR.out.cell 4 rfl)) rfl ⟨_, _, _, rfl, ?_, HBF.out⟩
      unfold MeanN
      rw [if_neg (by rw [HF.out]; simp), if_pos (by rw [HF.out])]
      exact ⟨i, a, HHI.out, HHA.out, HFI.out, rfl, rfl, HMEM.out⟩
    · have hq1 : (F1 == 1) = false := by simp [h1]
      have hq2 : (F1 == 2) = false := by simp [h2]
      have hX := HB4.out.below HB5.out
      have hY := HB3.out.below HB5.out
      have hBX := HBN.out
      have z0 := hX.cell 0 rfl
      have z1 := hX.cell 1 rfl
      have z2 := hX.cell 2 rfl
      have z3 := hX.cell 3 rfl
      have z4 := hX.cell 4 rfl
      have u0 := hY.cell 0 rfl
      have u1 := hY.cell 1 rfl
      have u2 := hY.cell 2 rfl
      have u3 := hY.cell 3 rfl
      have u4 := hY.cell 4 rfl
      have uf := hY.frozen
      have HR := hid (((((hY.set 0 (.int .i64 8)).set 1 (.string x)).set 2 (.slice ao mo co)).set 3 (.slice none 0 0)).set 4 (.slice none 0 0))
      have HBF := hid (((((hBX.setCell (p := ⟨w.heap.size + 1 + 1, 0, none⟩) (by simp only; omega) (.int .i64 8)).setCell (p := ⟨w.heap.size + 1 + 1, 1, none⟩) (by simp only; omega) (.string x)).setCell (p := ⟨w.heap.size + 1 + 1, 2, none⟩) (by simp only; omega) (.slice ao mo co)).setCell (p := ⟨w.heap.size + 1 + 1, 3, none⟩) (by simp only; omega) (.slice none 0 0)).setCell (p := ⟨w.heap.size + 1 + 1, 4, none⟩) (by simp only; omega) (.slice none 0 0))
      have HH1 := hid h1
      have HH2 := hid h2
      clear hX hY hBX h1 h2
      go_wp2_with fail
      refine bodyPost_ret (ret_mean rfl (HR.out.cell 0 rfl) (HR.out.cell 1 rfl) (HR.out.cell 2 rfl) (HR.out.cell 3 rfl) (HR.out.cell 4 rfl)) rfl ⟨_, _, _, rfl, ?_, HBF.out⟩
      unfold MeanN
      rw [if_neg (by rw [HF.out]; exact HH1.out), if_neg (by rw [HF.out]; exact HH2.out)]
      exact ⟨rfl, rfl, rfl⟩
end Go.Proofs.YtmiohekmpjiloaaGreatDoor

