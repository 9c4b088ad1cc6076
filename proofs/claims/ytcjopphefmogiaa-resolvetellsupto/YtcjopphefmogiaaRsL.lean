/- resolve: two snapshots of one's own in one region that draws; ResolveOwn over contracts. -/
import Derived.Test.YtcjopphefmogiaaRsK
import Derived.Test.YtcjopphefmogiaaQS
namespace Go.Proofs.Ytcjopphefmogiaa
open Go.RowKit
set_option linter.unusedVariables false
set_option maxRecDepth 20000

theorem bo_apart {W : World} {b c : Nat} {xs ys : List Value} {S T : TypeId} (h : Bo W b xs S) (k : Bo W c ys T) (hn : S ≠ T) : b ≠ c := by
  rintro rfl
  have e := h.symm.trans k
  injection e with e
  injection e with _ e
  exact hn e
/-- A row of one's own where a box of another type has turned. -/
theorem own_ty {W W' : World} {B b : Nat} {e T : TypeId} {s : Nat} {v : Value} {k : Nat} {xs cs : List Value} (h : W.ownsRow B e s v k xs) (hc : Cg b W W') (hb : Bo W b cs T) (hn : T ≠ e) : W'.ownsRow B e s v k xs := by
  refine ⟨h.1, ?_⟩
  rcases h.2 with hn' | ⟨g, cap, cur, rfl, hB, hgg, rest⟩
  · exact .inl hn'
  · refine .inr ⟨g, cap, cur, rfl, hB, ?_, rest⟩
    have hg : g ≠ b := by
      rintro rfl
      have e2 := hgg.symm.trans hb
      injection e2 with e2
      injection e2 with _ e2
      exact hn e2.symm
    rw [hc.block g (Array.getElem?_eq_some_iff.1 hgg).1 hg]
    exact hgg
theorem vS_inj {r u : Value} {v : Int} (h : vS r v = vS u v) : r = u := by
  injection h with h
  simpa using h
def OwnJ (B : Nat) (w0 : World) (a0 : Act) (ro ra : Value) (s a : Rv.S) (d : Nat → Bool) (A : Act) (W : World) : Prop :=
  A.tmps.size = a0.tmps.size ∧ A.defers = a0.defers ∧ (∀ t, t ≠ 5 → t ≠ 6 → t ≠ 17 → t ≠ 18 → t ≠ 19 → t ≠ 20 → A.tmps.getD t undef = a0.tmps.getD t undef) ∧ Below B w0 W ∧ B ≤ W.heap.size ∧
  (d 0 = true → A.tmps.getD 17 undef = vS ro s.v) ∧ (d 2 = true → A.tmps.getD 19 undef = vS ra a.v) ∧
  (d 1 = true → ∃ r, A.tmps.getD 18 undef = vS r s.v ∧ OB W B r s.l) ∧
  (d 3 = true → d 1 = true ∧ ∃ r C, A.tmps.getD 20 undef = vS r a.v ∧ OB W C r a.l ∧ B ≤ C ∧ C ≤ W.heap.size ∧ ∀ r1 g n c, A.tmps.getD 18 undef = vS r1 s.v → r1 = .slice (some ⟨g, 0, none⟩) n c → g < C) ∧
  (d 4 = true → ∃ b x y, A.tmps.getD 5 undef = .pointer (some ⟨b, 0, none⟩) ∧ B ≤ b ∧ Bo W b [x, y] SN ∧ (d 6 = true → A.tmps.getD 18 undef = .agg #[x, y])) ∧
  (d 5 = true → ∃ b x y, A.tmps.getD 6 undef = .pointer (some ⟨b, 0, none⟩) ∧ B ≤ b ∧ Bo W b [x, y] SN ∧ (d 7 = true → A.tmps.getD 20 undef = .agg #[x, y])) ∧
  (d 4 = true → d 5 = true → A.tmps.getD 5 undef ≠ A.tmps.getD 6 undef) ∧ (d 6 = true → d 1 = true ∧ d 3 = true ∧ d 4 = true ∧ d 5 = true) ∧ (d 7 = true → d 6 = true)

set_option maxHeartbeats 16000000 in
theorem own_walk (AL : RAlive) (CA : RApp) (ro ra : Value) (s a : Rv.S) (w : World) (hs : BS w ro s.l) (ha : BS w ra a.l) (zs : s.l.length ≤ 8796093022208) (za : a.l.length ≤ 8796093022208) :
    Calls Try.prog 8 #[vS ro s.v, vS ra a.v] w fun e w' => e = .returned (.bool true) ∧ Below w.heap.size w w' := by
  obtain ⟨W1, hW1, X1, B1, Z1⟩ := box_one w [.int .i64 s.v, ro] 24
  obtain ⟨W2, hW2, X2, B2, Z2⟩ := box_one W1 [.int .i64 a.v, ra] 24
  have cal := AL W2
  have HS := hidD (fun (W : World) (b : Below w.heap.size w W) => hs.below b)
  have HA := hidD (fun (W : World) (b : Below w.heap.size w W) => ha.below b)
  obtain ⟨ao, co, rfl, _⟩ := id hs
  obtain ⟨aa, ca, rfl, _⟩ := id ha
  have HB := hidD (below_on B1 (by omega) B2)
  have HX1 := hidD (X1.below B2)
  have HX2 := hidD X2
  obtain ⟨b, hb⟩ : ∃ b, b = w.heap.size := ⟨_, rfl⟩
  rw [← hb] at HX1 HB Z1 HS HA ⊢
  rw [Z1] at HX2 Z2
  have HZ : Hid (W2.heap.size = b + 2) := hidD (by omega)
  clear X1 X2 B1 B2 Z1 Z2 hs ha
  go_enter Try.func8, Try.ntmps8
  go_wp2_with fail
  rw [← hb, ← hW1, ← hW2]
  clear hb hW1 hW2
  with_reducible refine cal.mono ?_
  rintro e w1 ⟨rfl, b1⟩
  replace HX1 := hidD (HX1.out.below b1)
  replace HX2 := hidD (HX2.out.below b1)
  replace HB := hidD (below_on HB.out (by have := HZ.out; omega) b1)
  replace HZ : Hid (b + 2 ≤ w1.heap.size) := hidD (by have := HZ.out; have := b1.size; omega)
  clear cal b1
  go_upto_region 3 with fail
  obtain ⟨E, hE⟩ : ∃ E, E = w1.heap.size := ⟨_, rfl⟩
  have HCO := hidD (fun (W : World) (h : Below E w1 W) => rownS_any (.slice ao s.l.length co) s W (HS.out W (below_then HB.out (below_low h (by have := HZ.out; omega)))) zs)
  have HCA := hidD (fun (W : World) (h : Below E w1 W) => rownS_any (.slice aa a.l.length ca) a W (HA.out W (below_then HB.out (below_low h (by have := HZ.out; omega)))) za)
  have HY1 := hidD (fun (W : World) (h : Below E w1 W) => (HX1.out).under h (by have := HX1.out.lt; omega))
  have HY2 := hidD (fun (W : World) (h : Below E w1 W) => (HX2.out).under h (by have := HX2.out.lt; omega))
  refine wp_region_from (fun a0 w0 => OwnJ E w0 a0 (.slice ao s.l.length co) (.slice aa a.l.length ca) s a) (by kernel_rfl) (by kernel_rfl) ?start ?step ?done
  case start =>
    refine ⟨rfl, rfl, fun _ _ _ _ _ _ _ => rfl, hE ▸ (Below.refl _ _).drew, by rw [hE]; exact Nat.le_refl _, ?_, ?_, ?_, ?_, ?_, ?_, ?_, ?_, ?_⟩ <;> intro h <;> cases h
  case step =>
    intro ix o d ho hdi hdep A W hJ
    obtain ⟨sz, df, fr, jB, jZ, j0, j2, j1, j3, j4, j5, j45, j6, j7⟩ := hJ
    have n6 : ¬ d 1 = true ∨ ¬ d 3 = true ∨ ¬ d 4 = true ∨ ¬ d 5 = true → ¬ d 6 = true := fun h k => by
      obtain ⟨k1, k2, k3, k4⟩ := j6 k
      rcases h with h | h | h | h <;> exact h (by assumption)
    rcases ix with _ | _ | _ | _ | _ | _ | _ | _ | ix
    · injection ho with ho
      subst ho
      have e2 : A.eval (.tmp 2) = .pointer (some ⟨b, 0, none⟩) := (fr 2 (by decide) (by decide) (by decide) (by decide) (by decide) (by decide)).trans rfl
      have q0 := (HY1.out W jB).cell 0 rfl
      have q1 := (HY1.out W jB).cell 1 rfl
      refine gOp_ld (v := vS (.slice ao s.l.length co) s.v) rfl (wanted_plain rfl) rfl e2 (by go_simp) ?_
      show OwnJ E w1 _ (.slice ao s.l.length co) (.slice aa a.l.length ca) s a (also d 0) (A.put (some 17) (vS (.slice ao s.l.length co) s.v)) _
      refine ⟨(put_size _ _ _).trans sz, df, fun t t1 t2 t3 t4 t5 t6 => (put_other _ _ _ t (by simpa using fun e => t3 e.symm)).trans (fr t t1 t2 t3 t4 t5 t6), jB, jZ, fun _ => put_self _ _ _ (by rw [sz]; simp), ?_, ?_, ?_, ?_, ?_, ?_, ?_, ?_⟩
      all_goals (try dsimp only)
      all_goals (try simp only [put_other _ (some 17) _ 5 (by decide), put_other _ (some 17) _ 6 (by decide), put_other _ (some 17) _ 18 (by decide), put_other _ (some 17) _ 19 (by decide), put_other _ (some 17) _ 20 (by decide)])
      · exact j2
      · exact j1
      · exact j3
      · exact j4
      · exact j5
      · exact j45
      · exact j6
      · exact j7
    · injection ho with ho
      subst ho
      have d0 : d 0 = true := hdep ⟨0, .data⟩ (by simp) rfl
      have e17 : A.eval (.tmp 17) = vS (.slice ao s.l.length co) s.v := j0 d0
      have n1 : ¬ d 1 = true := by rw [hdi]; decide
      have n3 : ¬ d 3 = true := fun h => n1 (j3 h).1
      replace n6 := n6 (.inl n1)
      refine gOp_enter rfl (wanted_plain rfl) 9 #[vS (.slice ao s.l.length co) s.v] (run_call _ (fun _ _ => rfl) _ _ rfl _ (by simp [e17])) ?_
      refine (HCO.out W jB).mono ?_
      rintro e w' ⟨r, rfl, hb', ho'⟩
      refine ⟨_, rfl, ?_⟩
      show OwnJ E w1 _ (.slice ao s.l.length co) (.slice aa a.l.length ca) s a (also d 1) (A.put (some 18) (vS r s.v)) _
      refine ⟨(put_size _ _ _).trans sz, df, fun t t1 t2 t3 t4 t5 t6 => (put_other _ _ _ t (by simpa using fun e => t4 e.symm)).trans (fr t t1 t2 t3 t4 t5 t6), below_on jB jZ hb', Nat.le_trans jZ hb'.size, ?_, ?_, fun _ => ⟨r, put_self _ _ _ (by rw [sz]; simp), own_lower' ho' jZ⟩, fun h => (n3 h).elim, ?_, ?_, ?_, fun h => (n6 h).elim, j7⟩
      all_goals (try dsimp only)
      all_goals (try simp only [put_other _ (some 18) _ 5 (by decide), put_other _ (some 18) _ 6 (by decide), put_other _ (some 18) _ 17 (by decide), put_other _ (some 18) _ 19 (by decide), put_other _ (some 18) _ 20 (by decide)])
      · exact j0
      · exact j2
      · intro h
        obtain ⟨b4, x, y, k1, k2, k3, k4⟩ := j4 h
        exact ⟨b4, x, y, k1, k2, k3.below hb', fun h => (n6 h).elim⟩
      · intro h
        obtain ⟨b4, x, y, k1, k2, k3, k4⟩ := j5 h
        exact ⟨b4, x, y, k1, k2, k3.below hb', k4⟩
      · exact j45
    · injection ho with ho
      subst ho
      have e2 : A.eval (.tmp 3) = .pointer (some ⟨b + 1, 0, none⟩) := (fr 3 (by decide) (by decide) (by decide) (by decide) (by decide) (by decide)).trans rfl
      have q0 := (HY2.out W jB).cell 0 rfl
      have q1 := (HY2.out W jB).cell 1 rfl
      refine gOp_ld (v := vS (.slice aa a.l.length ca) a.v) rfl (wanted_plain rfl) rfl e2 (by go_simp) ?_
      show OwnJ E w1 _ (.slice ao s.l.length co) (.slice aa a.l.length ca) s a (also d 2) (A.put (some 19) (vS (.slice aa a.l.length ca) a.v)) _
      refine ⟨(put_size _ _ _).trans sz, df, fun t t1 t2 t3 t4 t5 t6 => (put_other _ _ _ t (by simpa using fun e => t5 e.symm)).trans (fr t t1 t2 t3 t4 t5 t6), jB, jZ, ?_, fun _ => put_self _ _ _ (by rw [sz]; simp), ?_, ?_, ?_, ?_, ?_, ?_, ?_⟩
      all_goals (try dsimp only)
      all_goals (try simp only [put_other _ (some 19) _ 5 (by decide), put_other _ (some 19) _ 6 (by decide), put_other _ (some 19) _ 17 (by decide), put_other _ (some 19) _ 18 (by decide), put_other _ (some 19) _ 20 (by decide)])
      · exact j0
      · exact j1
      · exact j3
      · exact j4
      · exact j5
      · exact j45
      · exact j6
      · exact j7
    · injection ho with ho
      subst ho
      have d2 : d 2 = true := hdep ⟨2, .data⟩ (by simp) rfl
      have d1 : d 1 = true := hdep ⟨1, .chain⟩ (by simp) rfl
      have e19 : A.eval (.tmp 19) = vS (.slice aa a.l.length ca) a.v := j2 d2
      have n3 : ¬ d 3 = true := by rw [hdi]; decide
      replace n6 := n6 (.inr (.inl n3))
      have n7 : ¬ d 7 = true := fun h => n6 (j7 h)
      obtain ⟨r1, f18, g18⟩ := j1 d1
      refine gOp_enter rfl (wanted_plain rfl) 9 #[vS (.slice aa a.l.length ca) a.v] (run_call _ (fun _ _ => rfl) _ _ rfl _ (by simp [e19])) ?_
      refine (HCA.out W jB).mono ?_
      rintro e w' ⟨r, rfl, hb', ho'⟩
      refine ⟨_, rfl, ?_⟩
      show OwnJ E w1 _ (.slice ao s.l.length co) (.slice aa a.l.length ca) s a (also d 3) (A.put (some 20) (vS r a.v)) _
      refine ⟨(put_size _ _ _).trans sz, df, fun t t1 t2 t3 t4 t5 t6 => (put_other _ _ _ t (by simpa using fun e => t6 e.symm)).trans (fr t t1 t2 t3 t4 t5 t6), below_on jB jZ hb', Nat.le_trans jZ hb'.size, ?_, ?_, ?_, fun _ => ⟨d1, r, W.heap.size, put_self _ _ _ (by rw [sz]; simp), ho', jZ, hb'.size, ?_⟩, ?_, ?_, ?_, fun h => (n6 h).elim, j7⟩
      all_goals (try dsimp only)
      all_goals (try simp only [put_other _ (some 20) _ 5 (by decide), put_other _ (some 20) _ 6 (by decide), put_other _ (some 20) _ 17 (by decide), put_other _ (some 20) _ 18 (by decide), put_other _ (some 20) _ 19 (by decide)])
      · exact j0
      · exact j2
      · exact fun _ => ⟨r1, f18, g18.on hb'⟩
      · intro r2 g n c h1 h2
        rw [f18] at h1
        obtain rfl := vS_inj h1
        subst h2
        exact (bo_ownB g18).choose_spec.2.2.2.1
      · intro h
        obtain ⟨b4, x, y, k1, k2, k3, k4⟩ := j4 h
        exact ⟨b4, x, y, k1, k2, k3.below hb', k4⟩
      · intro h
        obtain ⟨b4, x, y, k1, k2, k3, k4⟩ := j5 h
        exact ⟨b4, x, y, k1, k2, k3.below hb', fun h => (n7 h).elim⟩
      · exact j45
    · injection ho with ho
      subst ho
      have n4 : ¬ d 4 = true := by rw [hdi]; decide
      replace n6 := n6 (.inr (.inr (.inl n4)))
      have n7 : ¬ d 7 = true := fun h => n6 (j7 h)
      have hb' : Below W.heap.size W (W.alloc (.cells #[.int .i64 0, .slice none 0 0] SN)) := (Below.refl _ _).alloc (Nat.le_refl _) _
      have hbo := Bo.new W [.int .i64 0, .slice none 0 0] SN
      refine gOp_ok (v := .pointer (some ⟨W.heap.size, 0, none⟩)) (w' := W.alloc (.cells #[.int .i64 0, .slice none 0 0] SN)) rfl (wanted_plain rfl) (by simp [execOp]; go_simp) ?_
      show OwnJ E w1 _ (.slice ao s.l.length co) (.slice aa a.l.length ca) s a (also d 4) (A.put (some 5) (.pointer (some ⟨W.heap.size, 0, none⟩))) _
      refine ⟨(put_size _ _ _).trans sz, df, fun t t1 t2 t3 t4 t5 t6 => (put_other _ _ _ t (by simpa using fun e => t1 e.symm)).trans (fr t t1 t2 t3 t4 t5 t6), below_on jB jZ hb', Nat.le_trans jZ hb'.size, ?_, ?_, ?_, ?_, ?_, ?_, ?_, fun h => (n6 h).elim, fun h => (n7 h).elim⟩
      all_goals (try dsimp only)
      all_goals (try simp only [put_other _ (some 5) _ 6 (by decide), put_other _ (some 5) _ 17 (by decide), put_other _ (some 5) _ 18 (by decide), put_other _ (some 5) _ 19 (by decide), put_other _ (some 5) _ 20 (by decide)])
      · exact j0
      · exact j2
      · intro h
        obtain ⟨r, k1, k2⟩ := j1 h
        exact ⟨r, k1, k2.on hb'⟩
      · intro h
        obtain ⟨k0, r, C, k1, k2, k3, k4, k5⟩ := j3 h
        exact ⟨k0, r, C, k1, own_below k2 hb', k3, Nat.le_trans k4 hb'.size, k5⟩
      · exact fun _ => ⟨W.heap.size, _, _, put_self _ _ _ (by rw [sz]; simp), jZ, hbo, fun h => (n6 h).elim⟩
      · intro h
        obtain ⟨b4, x, y, k1, k2, k3, k4⟩ := j5 h
        exact ⟨b4, x, y, k1, k2, k3.below hb', k4⟩
      · intro h1 h2
        obtain ⟨b4, x, y, k1, k2, k3, k4⟩ := j5 h2
        have hlt := k3.lt
        skip
        rw [k1, put_self _ _ _ (by rw [sz]; simp)]
        intro e
        injection e with e
        injection e with e
        injection e with e
        omega
    · injection ho with ho
      subst ho
      have n4 : ¬ d 5 = true := by rw [hdi]; decide
      replace n6 := n6 (.inr (.inr (.inr n4)))
      have n7 : ¬ d 7 = true := fun h => n6 (j7 h)
      have hb' : Below W.heap.size W (W.alloc (.cells #[.int .i64 0, .slice none 0 0] SN)) := (Below.refl _ _).alloc (Nat.le_refl _) _
      have hbo := Bo.new W [.int .i64 0, .slice none 0 0] SN
      refine gOp_ok (v := .pointer (some ⟨W.heap.size, 0, none⟩)) (w' := W.alloc (.cells #[.int .i64 0, .slice none 0 0] SN)) rfl (wanted_plain rfl) (by simp [execOp]; go_simp) ?_
      show OwnJ E w1 _ (.slice ao s.l.length co) (.slice aa a.l.length ca) s a (also d 5) (A.put (some 6) (.pointer (some ⟨W.heap.size, 0, none⟩))) _
      refine ⟨(put_size _ _ _).trans sz, df, fun t t1 t2 t3 t4 t5 t6 => (put_other _ _ _ t (by simpa using fun e => t2 e.symm)).trans (fr t t1 t2 t3 t4 t5 t6), below_on jB jZ hb', Nat.le_trans jZ hb'.size, ?_, ?_, ?_, ?_, ?_, ?_, ?_, fun h => (n6 h).elim, fun h => (n7 h).elim⟩
      all_goals (try dsimp only)
      all_goals (try simp only [put_other _ (some 6) _ 5 (by decide), put_other _ (some 6) _ 17 (by decide), put_other _ (some 6) _ 18 (by decide), put_other _ (some 6) _ 19 (by decide), put_other _ (some 6) _ 20 (by decide)])
      · exact j0
      · exact j2
      · intro h
        obtain ⟨r, k1, k2⟩ := j1 h
        exact ⟨r, k1, k2.on hb'⟩
      · intro h
        obtain ⟨k0, r, C, k1, k2, k3, k4, k5⟩ := j3 h
        exact ⟨k0, r, C, k1, own_below k2 hb', k3, Nat.le_trans k4 hb'.size, k5⟩
      · intro h
        obtain ⟨b4, x, y, k1, k2, k3, k4⟩ := j4 h
        exact ⟨b4, x, y, k1, k2, k3.below hb', k4⟩
      · exact fun _ => ⟨W.heap.size, _, _, put_self _ _ _ (by rw [sz]; simp), jZ, hbo, fun h => (n7 h).elim⟩
      · intro h1 h2
        obtain ⟨b4, x, y, k1, k2, k3, k4⟩ := j4 h1
        have hlt := k3.lt
        skip
        rw [k1, put_self _ _ _ (by rw [sz]; simp)]
        intro e
        injection e with e
        injection e with e
        injection e with e
        omega
    · injection ho with ho
      subst ho
      have d1 : d 1 = true := hdep ⟨1, .data⟩ (by simp) rfl
      have d3 : d 3 = true := hdep ⟨3, .chain⟩ (by simp) rfl
      have d4 : d 4 = true := hdep ⟨4, .data⟩ (by simp) rfl
      have d5 : d 5 = true := hdep ⟨5, .phase⟩ (by simp) rfl
      have hn := j45 d4 d5
      obtain ⟨r1, f18, g18⟩ := j1 d1
      obtain ⟨_, r2, C, f20, g20, hC1, hC2, hap⟩ := j3 d3
      obtain ⟨ax1, cx1, hr1, _⟩ := id (OB.ts g18)
      obtain ⟨ax2, cx2, hr2, _⟩ := id (OB.ts g20)
      subst hr1 hr2
      obtain ⟨b4, x4, y4, f5, h41, h42, h43⟩ := j4 d4
      obtain ⟨b5, x5, y5, f6, h51, h52, h53⟩ := j5 d5
      have hne : b4 ≠ b5 := by
        rintro rfl
        exact hn (f5.trans f6.symm)
      have e1 : A.eval (.tmp 5) = .pointer (some ⟨b4, 0, none⟩) := f5
      have e2 : A.eval (.tmp 18) = vS (.slice ax1 s.l.length cx1) s.v := f18
      have q0 := h42.cell 0 rfl
      have q1 := h42.cell 1 rfl
      have z0 := h42.frozen 0
      have z1 := h42.frozen 1
      have hcg : Cg b4 W ((W.setCell ⟨b4, 0, none⟩ (.int .i64 s.v)).setCell ⟨b4, 1, none⟩ (.slice ax1 s.l.length cx1)) := (Cg.set W _ _).trans (Cg.set _ _ _)
      have hbo' : Bo ((W.setCell ⟨b4, 0, none⟩ (.int .i64 s.v)).setCell ⟨b4, 1, none⟩ (.slice ax1 s.l.length cx1)) b4 [.int .i64 s.v, (.slice ax1 s.l.length cx1)] SN := (h42.set 0 (.int .i64 s.v)).set 1 (.slice ax1 s.l.length cx1)
      have hB' := hcg.below (B := E) (by omega) jZ jB
      have q2 := (h42.set 0 (.int .i64 s.v)).cell 1 rfl
      have z2 := (h42.set 0 (.int .i64 s.v)).frozen 1
      refine gOp_st (w' := (W.setCell ⟨b4, 0, none⟩ (.int .i64 s.v)).setCell ⟨b4, 1, none⟩ (.slice ax1 s.l.length cx1)) rfl (wanted_plain rfl) (by simp [execOp, e1, e2]; go_simp) ?_
      show OwnJ E w1 _ (.slice ao s.l.length co) (.slice aa a.l.length ca) s a (also d 6) A _
      refine ⟨sz, df, fr, hB', Nat.le_trans jZ hcg.size, j0, j2, fun _ => ⟨_, f18, own_ty g18 hcg h42 (by decide)⟩, fun _ => ⟨d1, _, C, f20, own_ty g20 hcg h42 (by decide), hC1, Nat.le_trans hC2 hcg.size, hap⟩, ?_, ?_, fun _ _ => hn, ?_, ?_⟩
      · exact fun _ => ⟨b4, _, _, f5, h41, hbo', fun _ => f18⟩
      · exact fun _ => ⟨b5, _, _, f6, h51, hcg.bo (fun e => hne e.symm) h52, h53⟩
      · exact fun _ => ⟨d1, d3, d4, d5⟩
      · exact fun _ => rfl
    · injection ho with ho
      subst ho
      have d1 : d 1 = true := (j6 (hdep ⟨6, .chain⟩ (by simp) rfl)).1
      have d3 : d 3 = true := hdep ⟨3, .data⟩ (by simp) rfl
      have d4 : d 4 = true := (j6 (hdep ⟨6, .chain⟩ (by simp) rfl)).2.2.1
      have d5 : d 5 = true := hdep ⟨5, .data⟩ (by simp) rfl
      have hn := j45 d4 d5
      obtain ⟨r1, f18, g18⟩ := j1 d1
      obtain ⟨_, r2, C, f20, g20, hC1, hC2, hap⟩ := j3 d3
      obtain ⟨ax1, cx1, hr1, _⟩ := id (OB.ts g18)
      obtain ⟨ax2, cx2, hr2, _⟩ := id (OB.ts g20)
      subst hr1 hr2
      obtain ⟨b4, x4, y4, f5, h41, h42, h43⟩ := j4 d4
      obtain ⟨b5, x5, y5, f6, h51, h52, h53⟩ := j5 d5
      have hne : b4 ≠ b5 := by
        rintro rfl
        exact hn (f5.trans f6.symm)
      have e1 : A.eval (.tmp 6) = .pointer (some ⟨b5, 0, none⟩) := f6
      have e2 : A.eval (.tmp 20) = vS (.slice ax2 a.l.length cx2) a.v := f20
      have q0 := h52.cell 0 rfl
      have q1 := h52.cell 1 rfl
      have z0 := h52.frozen 0
      have z1 := h52.frozen 1
      have hcg : Cg b5 W ((W.setCell ⟨b5, 0, none⟩ (.int .i64 a.v)).setCell ⟨b5, 1, none⟩ (.slice ax2 a.l.length cx2)) := (Cg.set W _ _).trans (Cg.set _ _ _)
      have hbo' : Bo ((W.setCell ⟨b5, 0, none⟩ (.int .i64 a.v)).setCell ⟨b5, 1, none⟩ (.slice ax2 a.l.length cx2)) b5 [.int .i64 a.v, (.slice ax2 a.l.length cx2)] SN := (h52.set 0 (.int .i64 a.v)).set 1 (.slice ax2 a.l.length cx2)
      have hB' := hcg.below (B := E) (by omega) jZ jB
      have q2 := (h52.set 0 (.int .i64 a.v)).cell 1 rfl
      have z2 := (h52.set 0 (.int .i64 a.v)).frozen 1
      refine gOp_st (w' := (W.setCell ⟨b5, 0, none⟩ (.int .i64 a.v)).setCell ⟨b5, 1, none⟩ (.slice ax2 a.l.length cx2)) rfl (wanted_plain rfl) (by simp [execOp, e1, e2]; go_simp) ?_
      show OwnJ E w1 _ (.slice ao s.l.length co) (.slice aa a.l.length ca) s a (also d 7) A _
      refine ⟨sz, df, fr, hB', Nat.le_trans jZ hcg.size, j0, j2, fun _ => ⟨_, f18, own_ty g18 hcg h52 (by decide)⟩, fun _ => ⟨d1, _, C, f20, own_ty g20 hcg h52 (by decide), hC1, Nat.le_trans hC2 hcg.size, hap⟩, ?_, ?_, fun _ _ => hn, ?_, ?_⟩
      · exact fun _ => ⟨b4, _, _, f5, h41, hcg.bo hne h42, h43⟩
      · exact fun _ => ⟨b5, _, _, f6, h51, hbo', fun _ => f20⟩
      · exact j6
      · exact fun _ => hdep ⟨6, .chain⟩ (by simp) rfl
    · simp at ho
  case done =>
    intro d A W hd hJ
    obtain ⟨sz, df, fr, jB, jZ, j0, j2, j1, j3, j4, j5, j45, j6, j7⟩ := hJ
    obtain ⟨r1, f18, g18⟩ := j1 (hd 1 (by decide))
    obtain ⟨_, r2, C, f20, g20, hC1, hC2, hap⟩ := j3 (hd 3 (by decide))
    obtain ⟨b4, x4, y4, f5, h41, h42, h43⟩ := j4 (hd 4 (by decide))
    obtain ⟨b5, x5, y5, f6, h51, h52, h53⟩ := j5 (hd 5 (by decide))
    have k4 := (h43 (hd 6 (by decide))).symm.trans f18
    have k5 := (h53 (hd 7 (by decide))).symm.trans f20
    have f2 := (fr 2 (by decide) (by decide) (by decide) (by decide) (by decide) (by decide)).trans (show _ = .pointer (some ⟨b, 0, none⟩) from rfl)
    have f3 := (fr 3 (by decide) (by decide) (by decide) (by decide) (by decide) (by decide)).trans (show _ = .pointer (some ⟨b + 1, 0, none⟩) from rfl)
    have sz' : A.tmps.size = 70 := sz.trans rfl
    have df' : A.defers = [] := df.trans rfl
    injection k4 with k4
    injection k5 with k5
    have k4' : x4 = .int .i64 s.v ∧ y4 = r1 := by simpa using k4
    have k5' : x5 = .int .i64 a.v ∧ y5 = r2 := by simpa using k5
    obtain ⟨e41, e42⟩ := k4'
    obtain ⟨e51, e52⟩ := k5'
    subst e41 e42 e51 e52
    obtain ⟨ax1, cx1, hr1, _⟩ := id (OB.ts g18)
    obtain ⟨ax2, cx2, hr2, _⟩ := id (OB.ts g20)
    subst hr1 hr2
    have HAP : Hid (∀ g, ax1 = some ⟨g, 0, none⟩ → g < C) := hidD (fun g e => hap _ g s.l.length cx1 f18 (by rw [e]))
    have G1 := hidD g18
    have G2 := hidD g20
    have K4 := hidD h42
    have K5 := hidD h52
    have hjB := jB
    have Y1 := hidD (HY1.out W jB)
    have Y2 := hidD (HY2.out W jB)
    replace HB := hidD (below_then HB.out (below_low jB (by have := HZ.out; omega)))
    have HN : Hid (b + 2 ≤ E ∧ E ≤ C ∧ C ≤ W.heap.size ∧ E ≤ b4 ∧ E ≤ b5) := hidD ⟨by have := HZ.out; omega, hC1, hC2, h41, h51⟩
    have hA : A = ⟨#[A.tmps.getD 0 undef, A.tmps.getD 1 undef, A.tmps.getD 2 undef, A.tmps.getD 3 undef, A.tmps.getD 4 undef, A.tmps.getD 5 undef, A.tmps.getD 6 undef, A.tmps.getD 7 undef, A.tmps.getD 8 undef, A.tmps.getD 9 undef, A.tmps.getD 10 undef, A.tmps.getD 11 undef, A.tmps.getD 12 undef, A.tmps.getD 13 undef, A.tmps.getD 14 undef, A.tmps.getD 15 undef, A.tmps.getD 16 undef, A.tmps.getD 17 undef, A.tmps.getD 18 undef, A.tmps.getD 19 undef, A.tmps.getD 20 undef, A.tmps.getD 21 undef, A.tmps.getD 22 undef, A.tmps.getD 23 undef, A.tmps.getD 24 undef, A.tmps.getD 25 undef, A.tmps.getD 26 undef, A.tmps.getD 27 undef, A.tmps.getD 28 undef, A.tmps.getD 29 undef, A.tmps.getD 30 undef, A.tmps.getD 31 undef, A.tmps.getD 32 undef, A.tmps.getD 33 undef, A.tmps.getD 34 undef, A.tmps.getD 35 undef, A.tmps.getD 36 undef, A.tmps.getD 37 undef, A.tmps.getD 38 undef, A.tmps.getD 39 undef, A.tmps.getD 40 undef, A.tmps.getD 41 undef, A.tmps.getD 42 undef, A.tmps.getD 43 undef, A.tmps.getD 44 undef, A.tmps.getD 45 undef, A.tmps.getD 46 undef, A.tmps.getD 47 undef, A.tmps.getD 48 undef, A.tmps.getD 49 undef, A.tmps.getD 50 undef, A.tmps.getD 51 undef, A.tmps.getD 52 undef, A.tmps.getD 53 undef, A.tmps.getD 54 undef, A.tmps.getD 55 undef, A.tmps.getD 56 undef, A.tmps.getD 57 undef, A.tmps.getD 58 undef, A.tmps.getD 59 undef, A.tmps.getD 60 undef, A.tmps.getD 61 undef, A.tmps.getD 62 undef, A.tmps.getD 63 undef, A.tmps.getD 64 undef, A.tmps.getD 65 undef, A.tmps.getD 66 undef, A.tmps.getD 67 undef, A.tmps.getD 68 undef, A.tmps.getD 69 undef], A.defers⟩ := by
      have h1 := tmps_lit A.tmps 70 sz'
      obtain ⟨t, d⟩ := A
      exact congrArg (fun x => (⟨x, d⟩ : Act)) h1
    rw [hA, f2, f3, f5, f6, df']
    clear hA fr j0 j2 j1 j3 j4 j5 j45 j6 j7 f18 f20 f5 f6 h43 h53 k4 k5 f2 f3 sz sz' df df' hap g18 g20 h42 h52 hjB jB jZ hC1 hC2 h41 h51 hd HCO HCA HY1 HY2 HX1 HX2 HZ
    generalize A.tmps.getD 0 undef = v0
    generalize A.tmps.getD 1 undef = v1
    generalize A.tmps.getD 4 undef = v4
    generalize A.tmps.getD 7 undef = v7
    generalize A.tmps.getD 8 undef = v8
    generalize A.tmps.getD 9 undef = v9
    generalize A.tmps.getD 10 undef = v10
    generalize A.tmps.getD 11 undef = v11
    generalize A.tmps.getD 12 undef = v12
    generalize A.tmps.getD 13 undef = v13
    generalize A.tmps.getD 14 undef = v14
    generalize A.tmps.getD 15 undef = v15
    generalize A.tmps.getD 16 undef = v16
    generalize A.tmps.getD 17 undef = v17
    generalize A.tmps.getD 18 undef = v18
    generalize A.tmps.getD 19 undef = v19
    generalize A.tmps.getD 20 undef = v20
    generalize A.tmps.getD 21 undef = v21
    generalize A.tmps.getD 22 undef = v22
    generalize A.tmps.getD 23 undef = v23
    generalize A.tmps.getD 24 undef = v24
    generalize A.tmps.getD 25 undef = v25
    generalize A.tmps.getD 26 undef = v26
    generalize A.tmps.getD 27 undef = v27
    generalize A.tmps.getD 28 undef = v28
    generalize A.tmps.getD 29 undef = v29
    generalize A.tmps.getD 30 undef = v30
    generalize A.tmps.getD 31 undef = v31
    generalize A.tmps.getD 32 undef = v32
    generalize A.tmps.getD 33 undef = v33
    generalize A.tmps.getD 34 undef = v34
    generalize A.tmps.getD 35 undef = v35
    generalize A.tmps.getD 36 undef = v36
    generalize A.tmps.getD 37 undef = v37
    generalize A.tmps.getD 38 undef = v38
    generalize A.tmps.getD 39 undef = v39
    generalize A.tmps.getD 40 undef = v40
    generalize A.tmps.getD 41 undef = v41
    generalize A.tmps.getD 42 undef = v42
    generalize A.tmps.getD 43 undef = v43
    generalize A.tmps.getD 44 undef = v44
    generalize A.tmps.getD 45 undef = v45
    generalize A.tmps.getD 46 undef = v46
    generalize A.tmps.getD 47 undef = v47
    generalize A.tmps.getD 48 undef = v48
    generalize A.tmps.getD 49 undef = v49
    generalize A.tmps.getD 50 undef = v50
    generalize A.tmps.getD 51 undef = v51
    generalize A.tmps.getD 52 undef = v52
    generalize A.tmps.getD 53 undef = v53
    generalize A.tmps.getD 54 undef = v54
    generalize A.tmps.getD 55 undef = v55
    generalize A.tmps.getD 56 undef = v56
    generalize A.tmps.getD 57 undef = v57
    generalize A.tmps.getD 58 undef = v58
    generalize A.tmps.getD 59 undef = v59
    generalize A.tmps.getD 60 undef = v60
    generalize A.tmps.getD 61 undef = v61
    generalize A.tmps.getD 62 undef = v62
    generalize A.tmps.getD 63 undef = v63
    generalize A.tmps.getD 64 undef = v64
    generalize A.tmps.getD 65 undef = v65
    generalize A.tmps.getD 66 undef = v66
    generalize A.tmps.getD 67 undef = v67
    generalize A.tmps.getD 68 undef = v68
    generalize A.tmps.getD 69 undef = v69
    have HBZ : Hid (b ≤ W.heap.size) := hidD (by have := HN.out; omega)
    obtain ⟨V1, hV1, R1', d1, Z1⟩ := box_one W [.int .i64 a.v, .slice ax2 a.l.length cx2] 24
    obtain ⟨c1, hc1⟩ : ∃ c, c = W.heap.size := ⟨_, rfl⟩
    rw [← hc1] at R1' 
    have HD : Hid (V1.heap.size = W.heap.size + 1) := hidD Z1
    have K4q0 := K4.out.cell 0 rfl
    have K4q1 := K4.out.cell 1 rfl
    have K5q0 := K5.out.cell 0 rfl
    have K5q1 := K5.out.cell 1 rfl
    replace HB := hidD (below_on HB.out HBZ.out d1)
    replace HBZ := hidD (Nat.le_trans HBZ.out d1.size)
    replace G1 := hidD (G1.out.on d1)
    replace G2 := hidD (G2.out.on d1)
    replace K4 := hidD (K4.out.below d1)
    replace K5 := hidD (K5.out.below d1)
    replace Y1 := hidD (Y1.out.below d1)
    replace Y2 := hidD (Y2.out.below d1)
    obtain ⟨D, hD⟩ : ∃ D, D = V1.heap.size := ⟨_, rfl⟩
    have HAP2 : Hid (∀ g, ax2 = some ⟨g, 0, none⟩ → g < D) := hidD (fun g e => by
      have := G2.out
      rw [e] at this
      have := (bo_ownB this).choose_spec.2.2.2.1
      omega)
    have HND : Hid (C ≤ D) := hidD (by have := HN.out; have := HD.out; omega)
    have cc := CA (.slice ax1 s.l.length cx1) (.slice (some ⟨c1, 0, none⟩) 1 1) s [a] V1 (OB.ts G1.out) (ss_one R1' (OB.ts G2.out))
    rw [← hD] at cc
    have HR := hidD (fun (u : Value) (W : World) (h : Below b w W) (hu : SS W u [a]) => rapply_any (.slice ao s.l.length co) u s [a] W (HS.out W h) hu)
    generalize Rv.applyE s [a] = EE at *
    generalize Rv.applyS s [a] = XX at *
    generalize Rv.applyN s [a] = NN at *
    clear CA d1 Z1 R1' HD
    replace hD := hidD hD
    go_wp2_with fail
    rw [← hc1, ← hV1]
    clear hc1 hV1
    refine cc.mono ?_
    rintro e w4 ⟨x4, rfl, d4, o4⟩
    rw [hD.out] at d4
    clear hD
    obtain ⟨ax4, cx4, hx4, _⟩ := id (OB.ts o4)
    subst hx4
    have OX := hidD o4
    clear cc K4q0 K4q1 K5q0 K5q1
    replace HB := hidD (below_on HB.out HBZ.out d4)
    replace HBZ := hidD (Nat.le_trans HBZ.out d4.size)
    replace G1 := hidD (G1.out.on d4)
    replace G2 := hidD (G2.out.on d4)
    replace K4 := hidD (K4.out.below d4)
    replace K5 := hidD (K5.out.below d4)
    replace Y1 := hidD (Y1.out.below d4)
    replace Y2 := hidD (Y2.out.below d4)
    clear d4 o4
    obtain ⟨V5, hV5, Y5, b5', Z5⟩ := box_one w4 [.int .i64 XX.v, .slice ax4 XX.l.length cx4] 24
    obtain ⟨c5, hc5⟩ : ∃ c, c = w4.heap.size := ⟨_, rfl⟩
    rw [← hc5] at Y5
    have HC5 : Hid (b ≤ c5) := hidD (by have := HBZ.out; omega)
    replace HB := hidD (below_on HB.out HBZ.out b5')
    replace HBZ := hidD (Nat.le_trans HBZ.out b5'.size)
    replace G1 := hidD (G1.out.on b5')
    replace G2 := hidD (G2.out.on b5')
    replace K4 := hidD (K4.out.below b5')
    replace K5 := hidD (K5.out.below b5')
    replace Y1 := hidD (Y1.out.below b5')
    replace Y2 := hidD (Y2.out.below b5')
    replace OX := hidD (OX.out.on b5')
    have K6 := hidD Y5
    clear b5' Z5 Y5
    go_upto_region 5 with fail
    rw [← hc5, ← hV5]
    clear hc5 hV5

    obtain ⟨n, hn⟩ : ∃ n, n = s.l.length := ⟨_, rfl⟩
    obtain ⟨m, hm⟩ : ∃ m, m = a.l.length := ⟨_, rfl⟩
    have zn : n ≤ 8796093022208 := hn ▸ zs
    have zm : m ≤ 8796093022208 := hm ▸ za
    rw [← hn] at G1 K4
    rw [← hm] at G2 K5
    have HLN : Hid (s.l.length = n) := hidD hn.symm
    have HLM : Hid (a.l.length = m) := hidD hm.symm
    have NE4 : Hid (E ≤ b4 ∧ E ≤ b5 ∧ b < E ∧ b + 1 < E) := hidD (by have := HN.out; omega)
    have NEC : Hid (b ≤ E ∧ E ≤ C) := hidD (by have := HN.out; omega)
    replace hn := hidD hn
    replace hm := hidD hm
    have J0 : Hid (OB V5 E (.slice ax1 n cx1) s.l ∧ OB V5 C (.slice ax2 m cx2) a.l ∧ OB V5 D (.slice ax4 XX.l.length cx4) XX.l ∧ Bo V5 b4 [.int .i64 s.v, .slice ax1 n cx1] SN ∧ Bo V5 b5 [.int .i64 a.v, .slice ax2 m cx2] SN ∧ Bo V5 c5 [.int .i64 XX.v, .slice ax4 XX.l.length cx4] SN ∧ Bo V5 b [.int .i64 s.v, .slice ao s.l.length co] SN ∧ Bo V5 (b + 1) [.int .i64 a.v, .slice aa a.l.length ca] SN ∧ Below b w V5) := hidD ⟨G1.out, G2.out, OX.out, K4.out, K5.out, K6.out, Y1.out, Y2.out, HB.out⟩
    clear G1 G2 OX K4 K5 K6 Y1 Y2 HB HBZ
    go_wp2_with fail
    go_loopw [10] (fun i wr => ∃ (k : Nat) (L : List Rp.Pt), k ≤ n ∧ i = .int .i64 (k : Int) ∧ L.length = n ∧ Hid (OB wr E (.slice ax1 n cx1) L ∧ OB wr C (.slice ax2 m cx2) a.l ∧ OB wr D (.slice ax4 XX.l.length cx4) XX.l ∧ Bo wr b4 [.int .i64 s.v, .slice ax1 n cx1] SN ∧ Bo wr b5 [.int .i64 a.v, .slice ax2 m cx2] SN ∧ Bo wr c5 [.int .i64 XX.v, .slice ax4 XX.l.length cx4] SN ∧ Bo wr b [.int .i64 s.v, .slice ao s.l.length co] SN ∧ Bo wr (b + 1) [.int .i64 a.v, .slice aa a.l.length ca] SN ∧ Below b w wr)) (fun i _ => n - (intOf i).toNat)
    case atStart => exact ⟨0, s.l, Nat.zero_le _, rfl, HLN.out, J0⟩
    case round =>
      clear J0
      obtain ⟨k, L, hk, rfl, hL, hJ⟩ := hrel
      obtain ⟨t1, t2, t3, t4, t5, t6, t7, t8, t9⟩ := hJ.out
      have K4q1 := t4.cell 1 rfl
      by_cases hlt : k < n
      · obtain ⟨g, cap9, e0, hg1, hg2, hc1, hc2⟩ := t1.lies (by omega)
        injection e0 with e01 e02 e03
        subst e01 e03
        clear e02
        obtain ⟨q1, q2, f1, f2⟩ := t1.at k (by omega)
        have GG := hidD (HAP.out g rfl)
        have hi : (k : Int) < (n : Int) := by omega
        have CG := putB_cg wr g k (0, 0)
        obtain ⟨cs, hbo⟩ : ∃ cs, Bo wr g cs BK := by
          obtain ⟨cs, hbo, _⟩ := bo_ownB t1
          exact ⟨cs, hbo⟩
        have P1 := hidD (t1.put k (by omega) (0, 0))
        have P2 : (L.set k ((0, 0) : Rp.Pt)).length = n := by rw [List.length_set]; exact hL
        have P3 := hidD (t2.cg CG GG.out)
        have P4 := hidD (t3.cg CG (Nat.lt_of_lt_of_le GG.out HND.out))
        have P5 := hidD (CG.bo (bo_apart t4 hbo (by decide)) t4)
        have P6 := hidD (CG.bo (bo_apart t5 hbo (by decide)) t5)
        have P7 := hidD (CG.bo (bo_apart t6 hbo (by decide)) t6)
        have P8 := hidD (CG.bo (bo_apart t7 hbo (by decide)) t7)
        have P9 := hidD (CG.bo (bo_apart t8 hbo (by decide)) t8)
        have P10 := hidD (CG.below (B := b) (Nat.le_trans NEC.out.1 hg1) (Nat.le_trans NEC.out.1 (Nat.le_trans hg1 (Nat.le_of_lt hg2))) t9)
        clear t1 t2 t3 t4 t5 t6 t7 t8 t9 hJ CG hbo
        go_wp2_with fail
        exact ⟨⟨k + 1, _, by omega, by go_num, P2, hidD ⟨P1.out, P3.out, P4.out, P5.out, P6.out, P7.out, P8.out, P9.out, P10.out⟩⟩, by simp [intOf]; omega⟩
      · have J1 : Hid (OB wr C (.slice ax2 m cx2) a.l ∧ OB wr D (.slice ax4 XX.l.length cx4) XX.l ∧ Bo wr b5 [.int .i64 a.v, .slice ax2 m cx2] SN ∧ Bo wr c5 [.int .i64 XX.v, .slice ax4 XX.l.length cx4] SN ∧ Bo wr b [.int .i64 s.v, .slice ao s.l.length co] SN ∧ Bo wr (b + 1) [.int .i64 a.v, .slice aa a.l.length ca] SN ∧ Below b w wr) := hidD ⟨t2, t3, t5, t6, t7, t8, t9⟩
        generalize wr = V6 at *
        clear t1 t2 t3 t5 t6 t7 t8 t9 hJ
        obtain ⟨u1, u2, u3, u4, u5, u6, u7⟩ := id J1.out
        go_wp2_with fail
        clear u1 u2 u3 u4 u5 u6 u7
        clear t4 K4q1 hlt hk hL
        go_loopw [11] (fun i wr => ∃ (k : Nat) (L : List Rp.Pt), k ≤ m ∧ i = .int .i64 (k : Int) ∧ L.length = m ∧ Hid (OB wr C (.slice ax2 m cx2) L ∧ OB wr D (.slice ax4 XX.l.length cx4) XX.l ∧ Bo wr b5 [.int .i64 a.v, .slice ax2 m cx2] SN ∧ Bo wr c5 [.int .i64 XX.v, .slice ax4 XX.l.length cx4] SN ∧ Bo wr b [.int .i64 s.v, .slice ao s.l.length co] SN ∧ Bo wr (b + 1) [.int .i64 a.v, .slice aa a.l.length ca] SN ∧ Below b w wr)) (fun i _ => m - (intOf i).toNat)
        case atStart => exact ⟨0, a.l, Nat.zero_le _, rfl, HLM.out, J1⟩
        case round =>
          clear J1
          obtain ⟨k, L, hk, rfl, hL, hJ⟩ := hrel
          obtain ⟨t2, t3, t5, t6, t7, t8, t9⟩ := hJ.out
          have K5q1 := t5.cell 1 rfl
          by_cases hlt : k < m
          · obtain ⟨g, cap9, e0, hg1, hg2, hc1, hc2⟩ := t2.lies (by omega)
            injection e0 with e01 e02 e03
            subst e01 e03
            clear e02
            obtain ⟨q1, q2, f1, f2⟩ := t2.at k (by omega)
            have GG := hidD (HAP2.out g rfl)
            have hi : (k : Int) < (m : Int) := by omega
            have CG := putB_cg wr g k (0, 0)
            obtain ⟨cs, hbo⟩ : ∃ cs, Bo wr g cs BK := by
              obtain ⟨cs, hbo, _⟩ := bo_ownB t2
              exact ⟨cs, hbo⟩
            have P1 := hidD (t2.put k (by omega) (0, 0))
            have P2 : (L.set k ((0, 0) : Rp.Pt)).length = m := by rw [List.length_set]; exact hL
            have P4 := hidD (t3.cg CG GG.out)
            have P6 := hidD (CG.bo (bo_apart t5 hbo (by decide)) t5)
            have P7 := hidD (CG.bo (bo_apart t6 hbo (by decide)) t6)
            have P8 := hidD (CG.bo (bo_apart t7 hbo (by decide)) t7)
            have P9 := hidD (CG.bo (bo_apart t8 hbo (by decide)) t8)
            have hCE := Nat.le_trans NEC.out.1 (Nat.le_trans NEC.out.2 hg1)
            have P10 := hidD (CG.below (B := b) hCE (Nat.le_trans hCE (Nat.le_of_lt hg2)) t9)
            clear t2 t3 t5 t6 t7 t8 t9 hJ CG hbo hCE
            go_wp2_with fail
            exact ⟨⟨k + 1, _, by omega, by go_num, P2, hidD ⟨P1.out, P4.out, P6.out, P7.out, P8.out, P9.out, P10.out⟩⟩, by simp [intOf]; omega⟩
          · have OX := hidD t3
            have K6 := hidD t6
            have Y1 := hidD t7
            have Y2 := hidD t8
            have HB := hidD t9
            have HBZ : Hid (b ≤ wr.heap.size) := hidD (Nat.le_of_lt t7.lt)
            generalize wr = V7 at *
            clear t2 t3 t5 t6 t7 t8 t9 hJ
            go_upto_region 13 with fail
            clear hL hk hlt K5q1
            have Y1q0 := Y1.out.cell 0 rfl
            have Y1q1 := Y1.out.cell 1 rfl
            have Y2q0 := Y2.out.cell 0 rfl
            have Y2q1 := Y2.out.cell 1 rfl
            obtain ⟨V8, hV8, R8, d8, Z8⟩ := box_one V7 [.int .i64 a.v, .slice aa a.l.length ca] 24
            obtain ⟨c8, hc8⟩ : ∃ c, c = V7.heap.size := ⟨_, rfl⟩
            rw [← hc8] at R8
            replace HB := hidD (below_on HB.out HBZ.out d8)
            replace HBZ := hidD (Nat.le_trans HBZ.out d8.size)
            replace OX := hidD (OX.out.on d8)
            replace K6 := hidD (K6.out.below d8)
            have cr := HR.out (.slice (some ⟨c8, 0, none⟩) 1 1) V8 HB.out (ss_one R8 (HA.out V8 HB.out))
            clear d8 Z8 R8
            go_wp2_with fail
            rw [← hc8, ← hV8]
            clear hc8 hV8
            refine cr.mono ?_
            rintro e w9 ⟨x9, rfl, d9, o9⟩
            obtain ⟨ax9, cx9, hx9, _⟩ := id (OB.ts o9)
            subst hx9
            have OY := hidD o9
            clear cr Y1q0 Y1q1 Y2q0 Y2q1
            replace HB := hidD (below_on HB.out HBZ.out d9)
            replace HBZ := hidD (Nat.le_trans HBZ.out d9.size)
            replace OX := hidD (OX.out.on d9)
            replace K6 := hidD (K6.out.below d9)
            clear d9 o9
            obtain ⟨V10, hV10, R10, d10, Z10⟩ := box_one w9 [.int .i64 XX.v, .slice ax9 XX.l.length cx9] 24
            obtain ⟨c10, hc10⟩ : ∃ c, c = w9.heap.size := ⟨_, rfl⟩
            rw [← hc10] at R10
            replace HB := hidD (below_on HB.out HBZ.out d10)
            replace HBZ := hidD (Nat.le_trans HBZ.out d10.size)
            replace OX := hidD (OX.out.on d10)
            replace OY := hidD (OY.out.on d10)
            replace K6 := hidD (K6.out.below d10)
            replace R10 := hidD R10
            clear d10 Z10
            go_upto_region 14 with fail
            rw [← hc10, ← hV10]
            clear hc10 hV10
            have K6q0 := K6.out.cell 0 rfl
            have K6q1 := K6.out.cell 1 rfl
            have Rq0 := R10.out.cell 0 rfl
            have Rq1 := R10.out.cell 1 rfl
            have cS := rsameS_any (.slice ax4 XX.l.length cx4) (.slice ax9 XX.l.length cx9) XX.v XX.l V10 (OB.ts OX.out) (OB.ts OY.out)
            go_wp2_with fail
            with_reducible refine cS.mono ?_
            rintro e w11 ⟨rfl, b11⟩
            replace HB := hidD (below_on HB.out HBZ.out b11)
            clear cS b11 K6q0 K6q1 Rq0 Rq1
            go_wp2_with (first | (go_at_call 21; refine (num_any _ _).mono ?_; rintro e ww ⟨rfl, rfl⟩))
            go_ret
            exact ⟨by first | rfl | simp, HB.out⟩
end Go.Proofs.Ytcjopphefmogiaa
