/- For all numbers and every share: of the numbers that were added so many are not above the quantile, and fewer lie below its bucket (the law HistoQuantiles answers true), and no other memory is touched. -/
import Derived.Test.YthdaldgmolhljaaRows
import Derived.BigQuiet
import Derived.Deep.QuietTactic
import Derived.WalkKit
import Derived.ProofKit
import Derived.OpenShut
import Derived.ShutString
import Derived.Test.YthdaldgmolhljaaHsG
import Derived.Test.YthdaldgmolhljaaOpenH
namespace Go.Proofs.Ythdaldgmolhljaa.histoQuantiles
open Go.ChangeShapes Go.WideShapes Go.ChangeAt Go.RowKit
open Go.ChangeMaps (open_string shut_string)
set_option linter.unusedVariables false
set_option maxRecDepth 20000

def loN (l : List Int) (q : Int) (k : Nat) : Nat := ((l.take k).filter (fun x => decide (Hi.bkR x < Hi.bkR q))).length
def noN (l : List Int) (q : Int) (k : Nat) : Nat := ((l.take k).filter (fun x => decide (Hi.most x ≤ q))).length
theorem loN_next (l : List Int) (q : Int) (k : Nat) (hk : k < l.length) : loN l q (k + 1) = if Hi.bkR (l.getD k 0) < Hi.bkR q then loN l q k + 1 else loN l q k := by
  unfold loN
  rw [List.take_succ_eq_append_getElem hk, List.filter_append, List.length_append, dgetD_at hk]
  by_cases h : Hi.bkR l[k] < Hi.bkR q
  · rw [if_pos h]
    simp [h]
  · rw [if_neg h]
    simp [h]
theorem noN_next (l : List Int) (q : Int) (k : Nat) (hk : k < l.length) : noN l q (k + 1) = if Hi.most (l.getD k 0) ≤ q then noN l q k + 1 else noN l q k := by
  unfold noN
  rw [List.take_succ_eq_append_getElem hk, List.filter_append, List.length_append, dgetD_at hk]
  by_cases h : Hi.most l[k] ≤ q
  · rw [if_pos h]
    simp [h]
  · rw [if_neg h]
    simp [h]
theorem loN_le (l : List Int) (q : Int) (k : Nat) : loN l q k ≤ k := by
  unfold loN
  have := List.length_filter_le (fun x => decide (Hi.bkR x < Hi.bkR q)) (l.take k)
  rw [List.length_take] at this
  omega
theorem noN_le (l : List Int) (q : Int) (k : Nat) : noN l q k ≤ k := by
  unfold noN
  have := List.length_filter_le (fun x => decide (Hi.most x ≤ q)) (l.take k)
  rw [List.length_take] at this
  omega
/-- What the law asks in the end. -/
theorem quant_all {l : List Int} {m : Int} (h1 : Hi.addE Hi.H.z l = 0) (h2 : Hi.quE (Hi.addR Hi.H.z l) m = 0) : (1 ≤ m ∧ m ≤ 1000) ∧ l.length ≤ 1073741824 ∧ (∀ x, x ∈ l → 0 ≤ x) ∧ (0 ≤ Hi.quR (Hi.addR Hi.H.z l) m) ∧
    Hi.want m l.length ≤ noN l (Hi.quR (Hi.addR Hi.H.z l) m) l.length ∧ (loN l (Hi.quR (Hi.addR Hi.H.z l) m) l.length : Int) < Hi.want m l.length := by
  obtain ⟨_, e⟩ := Hi.adds_chk h1
  obtain ⟨_, _, h3, h4⟩ := Hi.addE_zero h1
  have h4' : (0 : Int) + l.length ≤ 1073741824 := h4
  obtain ⟨_, a1, a2, _, _, _, a6, a7⟩ := Hi.quE_zero h2
  have eq : Hi.quR (Hi.addR Hi.H.z l) m = Hi.top (Hi.idx (Hi.addR Hi.H.z l).c (Hi.want m (Hi.addR Hi.H.z l).t)) := if_pos h2
  rw [e] at a6 a7 eq ⊢
  dsimp only at a6 a7 eq
  rw [eq]
  generalize Hi.idx (Hi.adds Hi.zeros l) (Hi.want m l.length) = i at *
  obtain ⟨b1, b2⟩ := Hi.quantiles h3 (i := i) (by omega) a6
  have ht := (Hi.top_range (b := i) (by omega)).1
  refine ⟨⟨a1, a2⟩, by omega, h3, ht, ?_, ?_⟩
  · unfold noN
    rw [List.take_length]
    exact b1
  · unfold loN
    rw [List.take_length]
    have : l.filter (fun x => decide (Hi.bkR x < Hi.bkR (Hi.top i))) = l.filter (fun x => decide (Hi.bn x < Hi.bn (Hi.top i))) := by
      refine List.filter_congr (fun x hx => ?_)
      have hx0 := h3 x hx
      have x1 : Hi.bkR x = (Hi.bn x : Nat) := if_neg (by omega)
      have x2 : Hi.bkR (Hi.top i) = (Hi.bn (Hi.top i) : Nat) := if_neg (by omega)
      rw [x1, x2, Bool.eq_iff_iff, decide_eq_true_iff, decide_eq_true_iff]
      omega
    rw [this]
    exact b2
theorem qu_bad {l : List Int} {m : Int} (h : ¬ (Hi.addE Hi.H.z l = 0 ∧ Hi.quE (Hi.addR Hi.H.z l) m = 0)) : Hi.quR (Hi.addR Hi.H.z l) m = 0 := by
  by_cases h2 : Hi.quE (Hi.addR Hi.H.z l) m = 0
  · have h1 : ¬ Hi.addE Hi.H.z l = 0 := fun e => h ⟨e, h2⟩
    have e : Hi.addR Hi.H.z l = Hi.H.z := if_neg h1
    rw [e] at h2
    have := (Hi.quE_zero h2).2.2.2.1
    exact absurd this (by show ¬ (1 : Int) ≤ 0; decide)
  · exact if_neg h2
set_option maxHeartbeats 4000000 in
theorem walk (v : Value) (l : List Int) {w : World} (hs : Seg .i64 w v l) (ho : ∀ z ∈ l, -9223372036854775808 ≤ z ∧ z ≤ 9223372036854775807) (hz : l.length ≤ 17592186043904) (m : Int) (wm : (Lit.int .i64 m).wf = true) :
    Calls Try.prog 5 #[v, .int .i64 m] w fun e w' => e = .returned (.bool true) ∧ Below w.heap.size w w' := by
  have ca := alive_any w
  have c1 := add_any (.slice none 0 0) v Hi.H.z l w (Seg.nil _ _) hs (by omega)
  have HSEG := hidD (fun (W : World) (b : Below w.heap.size w W) => hs.below b)
  have HALL := hidD (@quant_all l m)
  have HBAD := hidD (@qu_bad l m)
  obtain ⟨a, cap, rfl, a1, a2, _, _⟩ := id hs
  unfold maxLen at a2
  obtain ⟨L, hL'⟩ : ∃ L, L = l.length := ⟨_, rfl⟩
  rw [← hL'] at a1 hz c1 HSEG HALL ⊢
  replace hL' := hidD hL'
  obtain ⟨N, hN⟩ : ∃ N, N = w.heap.size := ⟨_, rfl⟩
  rw [← hN] at c1 HSEG ⊢
  obtain ⟨x, hx⟩ : ∃ x, x = Hi.addR Hi.H.z l := ⟨_, rfl⟩
  rw [← hx] at c1 HALL HBAD
  obtain ⟨E, hE⟩ : ∃ E, E = Hi.addE Hi.H.z l := ⟨_, rfl⟩
  rw [← hE] at c1 HALL HBAD
  obtain ⟨F, hF⟩ : ∃ F, F = Hi.quE x m := ⟨_, rfl⟩
  obtain ⟨q, hq⟩ : ∃ q, q = Hi.quR x m := ⟨_, rfl⟩
  have C2 := hidD (fun (r : Value) (W : World) (hb : Seg .i64 W r x.c) => quantile_any r x m W hb)
  rw [← hF, ← hq] at HALL C2
  rw [← hF, ← hq] at HBAD
  clear hs hx hE hF hq ho wm
  obtain ⟨d, t⟩ := x
  dsimp only at *
  go_enter Try.func5, Try.ntmps5
  go_wp2_with fail
  with_reducible refine ca.mono ?_
  rintro e w2 ⟨rfl, rfl⟩
  go_wp2_with fail
  refine c1.mono ?_
  rintro e w1 ⟨r, rfl, h1, hr⟩
  obtain ⟨ra, rc, rfl, _⟩ := id hr.seg
  have HB := hidD h1
  have HR := hidD hr
  have HN1 : Hid (N ≤ w1.heap.size) := hidD (by rw [hN]; exact h1.size)
  have X0 := hidD (Bo.new w1 (hL (.slice ra d.length rc) t) 24)
  have HW := hidD ((Below.refl w1.heap.size w1).alloc (Nat.le_refl _) (.cells (hL (.slice ra d.length rc) t).toArray 24))
  have c2 := C2.out _ (w1.alloc (.cells (hL (.slice ra d.length rc) t).toArray 24)) (hr.below HW.out).seg
  obtain ⟨W2, hW2⟩ : ∃ W2, W2 = w1.alloc (.cells (hL (.slice ra d.length rc) t).toArray 24) := ⟨_, rfl⟩
  rw [← hW2] at X0 HW c2
  replace HB := hidD (below_on HB.out HN1.out HW.out)
  have HN2 : Hid (N ≤ W2.heap.size) := hidD (by have := HN1.out; have := HW.out.size; omega)
  simp only [hL] at hW2
  clear c1 C2 ca h1 hr hN
  go_wp2_with fail
  rw [← hW2]
  clear hW2
  with_reducible refine c2.mono ?_
  rintro e w3 ⟨rfl, h3⟩
  replace HB := hidD (below_on HB.out HN2.out h3)
  clear c2 h3 X0 HW HR HN1 HN2
  by_cases k1 : E = 0
  case neg =>
    have d1 : (E != 0) = true := by simp [k1]
    have hq := HBAD.out (fun h => k1 h.1)
    subst hq
    clear HALL HBAD
    go_wp2_with (first | (go_at_call 20; refine (num_any _ _).mono ?_; rintro e ww ⟨rfl, rfl⟩))
    go_ret
    exact ⟨by first | rfl | simp, HB.out⟩
  subst k1
  by_cases k2 : F = 0
  case neg =>
    have d1 : (F != 0) = true := by simp [k2]
    have hq := HBAD.out (fun h => k2 h.2)
    subst hq
    clear HALL HBAD
    go_wp2_with (first | (go_at_call 20; refine (num_any _ _).mono ?_; rintro e ww ⟨rfl, rfl⟩))
    go_ret
    exact ⟨by first | rfl | simp, HB.out⟩
  subst k2
  obtain ⟨⟨u1, u2⟩, u3, u4, u5, u6, u7⟩ := HALL.out rfl rfl
  clear HALL HBAD
  have HNEG := hidD u4
  have H6 := hidD u6
  have H7 := hidD u7
  obtain ⟨P, hP⟩ : ∃ P, P = m * (L : Int) := ⟨_, rfl⟩
  have hw : IntKind.i64.wrap (m * (L : Int)) = P := by
    obtain ⟨g1, g2⟩ := mul_range (a := m) (b := (L : Int)) (x := 1000) (y := 1073741824) (by omega) (by omega) (by omega) (by omega)
    rw [hP]
    exact wrap_ok (by omega) (by omega)
  obtain ⟨g1, g2⟩ := mul_range (a := m) (b := (L : Int)) (x := 1000) (y := 1073741824) (by omega) (by omega) (by omega) (by omega)
  rw [← hP] at g1 g2
  have hwd : Hi.want m L = (P + 999) / 1000 := by rw [hP]; rfl
  rw [hwd] at H6 H7
  have hdv : Int.tdiv (P + 999) 1000 = (P + 999) / 1000 := Int.tdiv_eq_ediv_of_nonneg (by omega)
  have cQ := rbucket_any q w3
  obtain ⟨bq, hbq⟩ : ∃ bq, bq = Hi.bkR q := ⟨_, rfl⟩
  rw [← hbq, show Hi.bkE q = 0 from if_neg (by omega)] at cQ
  replace hbq := hidD hbq
  clear u4 u6 u7 hP hwd
  go_wp2_with (first | (go_at_call 20; refine (num_any _ _).mono ?_; rintro e ww ⟨rfl, rfl⟩))
  with_reducible refine cQ.mono ?_
  rintro e w4 ⟨rfl, rfl⟩
  clear cQ
  go_wp2_with fail
  go_loopw [12, 13, 14] (fun lo no i wr => ∃ k : Nat, k ≤ L ∧ lo = .int .i64 (loN l q k : Nat) ∧ no = .int .i64 (noN l q k : Nat) ∧ i = .int .i64 (k : Int) ∧ w3 = wr) (fun _ _ i _ => 2000000000 - (intOf i).toNat)
  case atStart => exact ⟨0, Nat.zero_le _, by simp [loN], by simp [noN], rfl, rfl⟩
  case round =>
    obtain ⟨k, hk, rfl, rfl, rfl, rfl⟩ := hrel
    have l1 := loN_le l q k
    have l2 := noN_le l q k
    by_cases hlt : k < L
    · obtain ⟨b, off, rfl, hb, Q⟩ := Seg.atE (HSEG.out w3 HB.out) k (by have := hL'.out; omega)
      have hx0 : 0 ≤ l.getD k 0 := by
        have hk' : k < l.length := by have := hL'.out; omega
        rw [dgetD_at hk']
        exact HNEG.out _ (List.getElem_mem hk')
      have hlo := loN_next l q k (by have := hL'.out; omega)
      have hno := noN_next l q k (by have := hL'.out; omega)
      rw [← hbq.out] at hlo
      have cX := rbucket_any (l.getD k 0) w3
      rw [show Hi.bkE (l.getD k 0) = 0 from if_neg (by omega)] at cX
      generalize Hi.bkR (l.getD k 0) = y at *
      have hms : Hid (Hi.most (l.getD k 0) = if l.getD k 0 ≤ 1048576 then l.getD k 0 else 1048576) := hidD rfl
      generalize Hi.most (l.getD k 0) = ms at *
      generalize l.getD k 0 = x at *
      have HLO := hidD hlo
      have HNO := hidD hno
      clear hlo hno H6 H7 hbq HNEG
      by_cases e1 : y < bq
      · by_cases e2 : x ≤ 1048576
        · have hm := hms.out
          rw [if_pos e2] at hm
          subst hm
          by_cases e3 : ms ≤ q
          · have hlo := HLO.out
            have hno := HNO.out
            rw [if_pos e1] at hlo
            rw [if_pos e3] at hno
            clear HLO HNO
            replace hlo := hidD hlo
            replace hno := hidD hno
            generalize loN l q k = lo at *
            generalize noN l q k = no at *
            go_wp2_with fail
            with_reducible refine cX.mono ?_
            rintro e w4 ⟨rfl, rfl⟩
            go_wp2_with fail
            exact ⟨⟨k + 1, by omega, by rw [hlo.out] <;> go_num, by rw [hno.out] <;> go_num, by go_num, trivial⟩, by simp [intOf]; omega⟩
          · have hlo := HLO.out
            have hno := HNO.out
            rw [if_pos e1] at hlo
            rw [if_neg e3] at hno
            clear HLO HNO
            replace hlo := hidD hlo
            replace hno := hidD hno
            generalize loN l q k = lo at *
            generalize noN l q k = no at *
            go_wp2_with fail
            with_reducible refine cX.mono ?_
            rintro e w4 ⟨rfl, rfl⟩
            go_wp2_with fail
            exact ⟨⟨k + 1, by omega, by rw [hlo.out] <;> go_num, by rw [hno.out] <;> go_num, by go_num, trivial⟩, by simp [intOf]; omega⟩
        · have hm := hms.out
          rw [if_neg e2] at hm
          subst hm
          by_cases e3 : 1048576 ≤ q
          · have hlo := HLO.out
            have hno := HNO.out
            rw [if_pos e1] at hlo
            rw [if_pos e3] at hno
            clear HLO HNO
            replace hlo := hidD hlo
            replace hno := hidD hno
            generalize loN l q k = lo at *
            generalize noN l q k = no at *
            go_wp2_with fail
            with_reducible refine cX.mono ?_
            rintro e w4 ⟨rfl, rfl⟩
            go_wp2_with fail
            exact ⟨⟨k + 1, by omega, by rw [hlo.out] <;> go_num, by rw [hno.out] <;> go_num, by go_num, trivial⟩, by simp [intOf]; omega⟩
          · have hlo := HLO.out
            have hno := HNO.out
            rw [if_pos e1] at hlo
            rw [if_neg e3] at hno
            clear HLO HNO
            replace hlo := hidD hlo
            replace hno := hidD hno
            generalize loN l q k = lo at *
            generalize noN l q k = no at *
            go_wp2_with fail
            with_reducible refine cX.mono ?_
            rintro e w4 ⟨rfl, rfl⟩
            go_wp2_with fail
            exact ⟨⟨k + 1, by omega, by rw [hlo.out] <;> go_num, by rw [hno.out] <;> go_num, by go_num, trivial⟩, by simp [intOf]; omega⟩
      · by_cases e2 : x ≤ 1048576
        · have hm := hms.out
          rw [if_pos e2] at hm
          subst hm
          by_cases e3 : ms ≤ q
          · have hlo := HLO.out
            have hno := HNO.out
            rw [if_neg e1] at hlo
            rw [if_pos e3] at hno
            clear HLO HNO
            replace hlo := hidD hlo
            replace hno := hidD hno
            generalize loN l q k = lo at *
            generalize noN l q k = no at *
            go_wp2_with fail
            with_reducible refine cX.mono ?_
            rintro e w4 ⟨rfl, rfl⟩
            go_wp2_with fail
            exact ⟨⟨k + 1, by omega, by rw [hlo.out] <;> go_num, by rw [hno.out] <;> go_num, by go_num, trivial⟩, by simp [intOf]; omega⟩
          · have hlo := HLO.out
            have hno := HNO.out
            rw [if_neg e1] at hlo
            rw [if_neg e3] at hno
            clear HLO HNO
            replace hlo := hidD hlo
            replace hno := hidD hno
            generalize loN l q k = lo at *
            generalize noN l q k = no at *
            go_wp2_with fail
            with_reducible refine cX.mono ?_
            rintro e w4 ⟨rfl, rfl⟩
            go_wp2_with fail
            exact ⟨⟨k + 1, by omega, by rw [hlo.out] <;> go_num, by rw [hno.out] <;> go_num, by go_num, trivial⟩, by simp [intOf]; omega⟩
        · have hm := hms.out
          rw [if_neg e2] at hm
          subst hm
          by_cases e3 : 1048576 ≤ q
          · have hlo := HLO.out
            have hno := HNO.out
            rw [if_neg e1] at hlo
            rw [if_pos e3] at hno
            clear HLO HNO
            replace hlo := hidD hlo
            replace hno := hidD hno
            generalize loN l q k = lo at *
            generalize noN l q k = no at *
            go_wp2_with fail
            with_reducible refine cX.mono ?_
            rintro e w4 ⟨rfl, rfl⟩
            go_wp2_with fail
            exact ⟨⟨k + 1, by omega, by rw [hlo.out] <;> go_num, by rw [hno.out] <;> go_num, by go_num, trivial⟩, by simp [intOf]; omega⟩
          · have hlo := HLO.out
            have hno := HNO.out
            rw [if_neg e1] at hlo
            rw [if_neg e3] at hno
            clear HLO HNO
            replace hlo := hidD hlo
            replace hno := hidD hno
            generalize loN l q k = lo at *
            generalize noN l q k = no at *
            go_wp2_with fail
            with_reducible refine cX.mono ?_
            rintro e w4 ⟨rfl, rfl⟩
            go_wp2_with fail
            exact ⟨⟨k + 1, by omega, by rw [hlo.out] <;> go_num, by rw [hno.out] <;> go_num, by go_num, trivial⟩, by simp [intOf]; omega⟩
    · have hke : k = L := by omega
      subst hke
      have z6 := H6.out
      have z7 := H7.out
      generalize loN l q k = lo at *
      generalize noN l q k = no at *
      go_wp2_with fail
      go_ret
      exact ⟨by first | rfl | simp | (simp; omega), HB.out⟩

set_option maxRecDepth 100000 in
theorem lifted (os : Os) (started : os.Started) (H : Type) (enc : TypeId × Value → H) :
    ReturnsInHanded {} Try.checked os 5 .any (Rows.histoQuantilesSpec.pre6 enc Try.prog Try.f5 Rows.histoQuantilesRow.domain false) (Rows.histoQuantilesSpec.post enc Try.prog Try.f5 false true false false) := by
  refine returnsInHanded_of_change_sized (C := Try.checked) own started (by kernel_rfl) Try.func5
    (ChangeSpec.witness6 (enc := enc) (C := Try.checked) false ⟨#[], #[.slice none 0 0, .int .i64 0], []⟩ 8 (by kernel_rfl) (by kernel_rfl) (by kernel_rfl) (by kernel_rfl)) ?_
  intro W base args ds gs before hval0 hW hcnd hsz0 _
  have hval : ∀ (j : Nat) t v, Try.f5.params[j]? = some t → args[j]? = some v → Value.okWide Try.prog W .any base t v := hval0
  have hsz : (DataW.weightsEach Try.prog (Try.f5.params.toList ++ Rows.histoQuantilesSpec.plain.varTypes Try.prog) (ds ++ gs)).all (· ≤ reachBytes) = true := hsz0
  have hW' := hW
  obtain ⟨p, q, hA0, hV, rfl, hfz, hnd⟩ := hW
  have hA : DataW.TrodAll enc Try.prog W 0 (fun _ => true) true Try.f5.params.toList args.toList ds p := hA0
  rw [Try.params5] at hA hval hsz
  obtain ⟨v0, vs0, d0, ds0, p0, q0, hargs, rfl, rfl, h0, r0⟩ := trodAll_cons hA
  obtain ⟨v1, vs1, d1, ds1, p1, q1, rfl, rfl, rfl, h1, r1⟩ := trodAll_cons r0
  obtain ⟨rfl, rfl, rfl⟩ := trodAll_nil r1
  obtain rfl : args = #[v0, v1] := by cases args; simp_all
  obtain ⟨rfl, rfl⟩ := trodVars_none hV
  have k0 := h0
  have lt0 : ∀ x ∈ p0, x.block < W.heap.size := by obtain ⟨m, hm⟩ := k0; exact DataW.trod_lt m _ _ _ hm
  obtain ⟨l0, hs0, ho0, e0⟩ := open_numbers (hval 0 22 v0 rfl rfl) h0
  have z0 : l0.length ≤ 17592186043904 := by
    rcases e0 with ⟨_, rfl⟩ | ⟨elems, spare, rfl, hl⟩
    · simp
    · have := sized_slice hsz (j := 0) (t := 22) (e := 3) rfl rfl Try.underlying22
      rw [Try.bytesI] at this
      simp only [reachBytes] at this
      omega
  obtain ⟨a1, rfl, rfl, rfl, w1⟩ := open_int Try.underlying3 (hval 1 3 v1 rfl rfl) h1
  clear hA0 hval0
  refine (walk v0 l0 hs0 ho0 z0 a1 w1).mono fun e W' ⟨he, bel⟩ => ?_
  subst he
  exact ⟨_, rfl, _, _, _, [], _, [], hW', trodAll_mk1 (shut_bool Try.underlying4 _), (trodAll_cons_mk (Below.trod laidOut (by kernel_rfl) (of_decide_eq_true (by kernel_rfl)) k0 bel lt0) (trodAll_cons_mk (shut_int Try.underlying3 w1) trodAll_mk0)), rfl, bel.frame _, fun h => by cases h⟩

theorem over : Rows.histoQuantilesRow.holds Try.pinned (OpenSpec.ofChange Rows.histoQuantilesSpec) :=
  OpenClaim.holds_of_wide 5 Try.f5 rfl rfl rfl rfl rfl rfl rfl ⟨rfl, rfl, rfl, rfl, rfl⟩ rfl rfl rfl rfl rfl (by kernel_rfl) Try.func5 (by kernel_rfl)
    (of_decide_eq_true (by kernel_rfl)) (by unfold Func.isWrapper; first | (rw [if_pos (by decide +kernel)]; kernel_rfl) | (rw [if_neg (by decide +kernel)]; exact ⟨rfl, rfl⟩))
    (fun os started H enc _ => lifted os started H enc)
end Go.Proofs.Ythdaldgmolhljaa.histoQuantiles

namespace Go.Proofs.Ythdaldgmolhljaa
/-- THE STATEMENT. -/
theorem histoQuantiles_holds : Rows.HistoQuantilesSaid := histoQuantiles.over
#print axioms histoQuantiles_holds
end Go.Proofs.Ythdaldgmolhljaa
