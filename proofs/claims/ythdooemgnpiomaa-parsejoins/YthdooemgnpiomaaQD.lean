/- parse: sees, next, take. -/
import Derived.Test.YthdooemgnpiomaaQC
import Derived.Test.YthdooemgnpiomaaQO
namespace Go.Proofs.Ythdooemgnpiomaa
open Go.RowKit

/-- The next token is one that is looked for. -/
def seesT (p : Pl.Kt → Bool) (l : List T3) : Bool := match l with | [] => false | t :: _ => p (kt3 t)

theorem drop_token (l : List T3) (i : Nat) (t : T3) (h : l[i]? = some t) : l.drop i = t :: l.drop (i + 1) := by
  obtain ⟨hl, rfl⟩ := List.getElem?_eq_some_iff.1 h
  exact List.drop_eq_getElem_cons hl

/-- The token at a place. -/
theorem TSeg.token {w : World} {a : Option Addr} {L cp : Nat} {l : List T3} (h : TSeg w (.slice a L cp) (l.map toZ)) (i : Nat) (t : T3) (hi : l[i]? = some t) :
    ∃ g off, a = some ⟨g, off, none⟩ ∧ g < w.heap.size ∧ L = l.length ∧ w.cell? ⟨g, off + i * 3, none⟩ = some (.int .i64 (t.1 : Int)) ∧ w.cell? ⟨g, off + i * 3 + 1, none⟩ = some (.string t.2.1) ∧ w.cell? ⟨g, off + i * 3 + 2, none⟩ = some (.int .i64 (t.2.2 : Int)) := by
  obtain ⟨a', cap', he, h1, h2, h3, h4⟩ := h
  injection he with e1 e2 e3
  rw [List.length_map] at e2 h4
  have hl := (List.getElem?_eq_some_iff.1 hi).1
  subst e1
  rcases a with _ | ⟨g, off, ar⟩
  · have := (h3 rfl).1
    simp at this
    subst this
    simp at hl
  obtain ⟨rfl, hg, hc⟩ := h4 g off ar rfl (by omega)
  obtain ⟨q1, q2, q3⟩ := hc i (toZ t) (by rw [List.getElem?_map, hi]; rfl)
  exact ⟨g, off, rfl, hg, e2, q1, q2, q3⟩

set_option maxHeartbeats 4000000 in
set_option maxRecDepth 4000 in
theorem psees_any (n : Nat) (sv : Value) (l : List T3) (rest : List Value) (w : World) (i : Nat) (h : Pos n sv rest w i) (hS : TSeg w sv (l.map toZ)) (hi : i ≤ l.length) (fv : Value) (p : Pl.Kt → Bool) (hF : FitsT w fv p) :
    Calls Try.prog 73 #[.pointer (some ⟨n, 0, none⟩), fv] w fun e w' => e = .returned (.bool (seesT p (l.drop i))) ∧ Below w.heap.size w w' := by
  obtain ⟨fk, cap, rfl, hen, hF2⟩ := hF
  obtain ⟨a, cp, hsv, h1, h2, _⟩ := id hS
  rw [List.length_map] at hsv h1
  subst hsv
  obtain ⟨L, hL⟩ : ∃ L, L = l.length := ⟨_, rfl⟩
  have HL : Hid (L = l.length) := hL
  rw [← hL] at h h1 hi hS
  clear hL
  have hov : ∀ W, Below w.heap.size w W → Calls Try.prog 27 #[.pointer (some ⟨n, 0, none⟩)] W fun e w' => e = .returned (.bool (decide (i = L))) ∧ ∃ m, w' = W.drewN m := fun W hb => pover_any n a L cp rest W i (h.below hb)
  obtain ⟨c0, c1, hf, hlt⟩ := h.facts
  by_cases he : i = L
  · have hsee : seesT p (l.drop i) = false := by
      rw [List.drop_of_length_le (by have := HL.out; omega)]
      rfl
    rw [hsee]
    rw [decide_eq_true he] at hov
    have hov' : ∀ m, Calls Try.prog 27 #[.pointer (some ⟨n, 0, none⟩)] (w.drewN m) fun e w' => e = .returned (.bool true) ∧ ∃ k, w' = (w.drewN m).drewN k := fun m => hov _ (below_drewN (Below.refl _ _) m)
    go_enter Try.func73, Try.ntmps73
    go_wp2
    go_quiet (first | (go_at_call 27; exact Calls.quiet_of (hov' _)))
    go_wp2
    go_ret
    exact ⟨rfl, below_drewN (Below.refl _ _) nq⟩
  · have hlt2 : i < L := by omega
    obtain ⟨t, ht⟩ : ∃ t, l[i]? = some t := ⟨l[i]'(by have := HL.out; omega), by simp⟩
    have hsee : seesT p (l.drop i) = p (kt3 t) := by rw [drop_token l i t ht]; rfl
    rw [hsee]
    have hcl := fun W (hb : Below w.heap.size w W) => hF2 W (Ch.below hb) t
    generalize p (kt3 t) = b at *
    rw [decide_eq_false he] at hov
    obtain ⟨g, off, rfl, hg, -, q1, q2, q3⟩ := hS.token i t ht
    have hP : ∀ W, Below w.heap.size w W → Pos n (.slice (some ⟨g, off, none⟩) L cp) rest W i := fun W hb => h.below hb
    clear hsee hF2 hS ht c0 c1
    go_enter Try.func73, Try.ntmps73
    go_wp2_with fail
    obtain ⟨val, hval⟩ : ∃ val : Nat → Value, val = fun jx => match jx with | 0 => .pointer (some ⟨n, 0, none⟩) | 1 => .bool false | 2 => .bool true | 3 => .bool true | 4 => .func (.func fk) #[] cap | 5 => .pointer (some ⟨n, 0, none⟩) | 6 => .pointer (some ⟨n, 0, none⟩) | 7 => .pointer (some ⟨n, 0, none⟩) | 8 => .slice (some ⟨g, off, none⟩) L cp | 9 => .pointer (some ⟨n, 0, none⟩) | 10 => .pointer (some ⟨n, 0, none⟩) | 11 => .pointer (some ⟨n, 1, none⟩) | 12 => .int .i64 (i : Int) | 13 => .pointer (some ⟨g, off + i * 3, none⟩) | 14 => tokV t | 15 => .bool b | 16 => .bool b | 17 => .bool b | _ => undef := ⟨_, rfl⟩
    refine wp_region_fixed (R := fun W => Below w.heap.size w W) val (by kernel_rfl) (by kernel_rfl) (by kernel_rfl) (Below.refl _ _).drew ?step ?done
    case step =>
      subst hval
      intro ix o ho A W hsz hdf hfr hdep hR
      rcases ix with _ | _ | _ | _ | _ | _ | _ | _ | _ | _ | _ | _ | _ | _ | _ | _ | _ | _ | ix
      · injection ho with ho
        subst ho
        have e0 : A.eval (.tmp 0) = .pointer (some ⟨n, 0, none⟩) := (hfr 0 (noDst_spec (by kernel_rfl))).trans rfl
        exact gOp_mv rfl (wanted_plain rfl) (.inl rfl) e0 ⟨_, rfl, rfl, Below.refl _ _, hR⟩
      · injection ho with ho
        subst ho
        have e5 : A.eval (.tmp 5) = .pointer (some ⟨n, 0, none⟩) := hdep ⟨0, .data⟩ (by simp) rfl _ _ rfl rfl
        refine gOp_enter rfl (wanted_plain rfl) 27 #[.pointer (some ⟨n, 0, none⟩)] (run_call _ (fun _ _ => rfl) _ _ rfl _ (by simp [e5])) ?_
        refine (hov W hR).mono ?_
        rintro e w' ⟨rfl, m, rfl⟩
        exact ⟨_, rfl, _, rfl, rfl, below_drewN (Below.refl _ _) m, hR.trans (below_drewN (Below.refl _ _) m)⟩
      · injection ho with ho
        subst ho
        have e6 : A.eval (.tmp 6) = .bool false := hdep ⟨1, .data⟩ (by simp) rfl _ _ rfl rfl
        exact gOp_not rfl (wanted_plain rfl) rfl e6 ⟨_, rfl, rfl, Below.refl _ _, hR⟩
      · injection ho with ho
        subst ho
        have e7 : A.eval (.tmp 7) = .bool true := hdep ⟨2, .data⟩ (by simp) rfl _ _ rfl rfl
        exact gOp_mv rfl (wanted_plain rfl) (.inl rfl) e7 ⟨_, rfl, rfl, Below.refl _ _, hR⟩
      · injection ho with ho
        subst ho
        have e1 : A.eval (.tmp 1) = .func (.func fk) #[] cap := (hfr 1 (noDst_spec (by kernel_rfl))).trans rfl
        exact gOp_mv rfl (wanted_on true 3 8 _ rfl rfl rfl (hdep ⟨3, .guard⟩ (by simp) rfl _ _ rfl rfl)) (.inl rfl) e1 ⟨_, rfl, rfl, Below.refl _ _, hR⟩
      · injection ho with ho
        subst ho
        have e0 : A.eval (.tmp 0) = .pointer (some ⟨n, 0, none⟩) := (hfr 0 (noDst_spec (by kernel_rfl))).trans rfl
        exact gOp_mv rfl (wanted_on true 3 8 _ rfl rfl rfl (hdep ⟨3, .guard⟩ (by simp) rfl _ _ rfl rfl)) (.inl rfl) e0 ⟨_, rfl, rfl, Below.refl _ _, hR⟩
      · injection ho with ho
        subst ho
        have e10 : A.eval (.tmp 10) = .pointer (some ⟨n, 0, none⟩) := hdep ⟨5, .data⟩ (by simp) rfl _ _ rfl rfl
        exact gOp_nil rfl (wanted_on true 3 8 _ rfl rfl rfl (hdep ⟨3, .guard⟩ (by simp) rfl _ _ rfl rfl)) rfl e10 ⟨_, rfl, rfl, Below.refl _ _, hR⟩
      · injection ho with ho
        subst ho
        have e11 : A.eval (.tmp 11) = .pointer (some ⟨n, 0, none⟩) := hdep ⟨6, .data⟩ (by simp) rfl _ _ rfl rfl
        exact gOp_fld (v := .pointer (some ⟨n, 0, none⟩)) rfl (wanted_on true 3 8 _ rfl rfl rfl (hdep ⟨3, .guard⟩ (by simp) rfl _ _ rfl rfl)) rfl e11 (by go_simp) ⟨_, rfl, rfl, Below.refl _ _, hR⟩
      · injection ho with ho
        subst ho
        have e12 : A.eval (.tmp 12) = .pointer (some ⟨n, 0, none⟩) := hdep ⟨7, .data⟩ (by simp) rfl _ _ rfl rfl
        have c0 := (hP W hR).facts.1
        exact gOp_ld (v := .slice (some ⟨g, off, none⟩) L cp) rfl (wanted_on true 3 8 _ rfl rfl rfl (hdep ⟨3, .guard⟩ (by simp) rfl _ _ rfl rfl)) rfl e12 (by go_simp) ⟨_, rfl, rfl, Below.refl _ _, hR⟩
      · injection ho with ho
        subst ho
        have e0 : A.eval (.tmp 0) = .pointer (some ⟨n, 0, none⟩) := (hfr 0 (noDst_spec (by kernel_rfl))).trans rfl
        exact gOp_mv rfl (wanted_on true 3 8 _ rfl rfl rfl (hdep ⟨3, .guard⟩ (by simp) rfl _ _ rfl rfl)) (.inl rfl) e0 ⟨_, rfl, rfl, Below.refl _ _, hR⟩
      · injection ho with ho
        subst ho
        have e14 : A.eval (.tmp 14) = .pointer (some ⟨n, 0, none⟩) := hdep ⟨9, .data⟩ (by simp) rfl _ _ rfl rfl
        exact gOp_nil rfl (wanted_on true 3 8 _ rfl rfl rfl (hdep ⟨3, .guard⟩ (by simp) rfl _ _ rfl rfl)) rfl e14 ⟨_, rfl, rfl, Below.refl _ _, hR⟩
      · injection ho with ho
        subst ho
        have e15 : A.eval (.tmp 15) = .pointer (some ⟨n, 0, none⟩) := hdep ⟨10, .data⟩ (by simp) rfl _ _ rfl rfl
        exact gOp_fld (v := .pointer (some ⟨n, 1, none⟩)) rfl (wanted_on true 3 8 _ rfl rfl rfl (hdep ⟨3, .guard⟩ (by simp) rfl _ _ rfl rfl)) rfl e15 (by go_simp) ⟨_, rfl, rfl, Below.refl _ _, hR⟩
      · injection ho with ho
        subst ho
        have e16 : A.eval (.tmp 16) = .pointer (some ⟨n, 1, none⟩) := hdep ⟨11, .data⟩ (by simp) rfl _ _ rfl rfl
        have c1 := (hP W hR).facts.2.1
        exact gOp_ld (v := .int .i64 (i : Int)) rfl (wanted_on true 3 8 _ rfl rfl rfl (hdep ⟨3, .guard⟩ (by simp) rfl _ _ rfl rfl)) rfl e16 (by go_simp) ⟨_, rfl, rfl, Below.refl _ _, hR⟩
      · injection ho with ho
        subst ho
        have e13 : A.eval (.tmp 13) = .slice (some ⟨g, off, none⟩) L cp := hdep ⟨8, .data⟩ (by simp) rfl _ _ rfl rfl
        have e17 : A.eval (.tmp 17) = .int .i64 (i : Int) := hdep ⟨12, .data⟩ (by simp) rfl _ _ rfl rfl
        have hil : (0 : Int) ≤ (i : Int) ∧ (i : Int) < (L : Int) := by omega
        exact gOp_ix (v := .pointer (some ⟨g, off + i * 3, none⟩)) rfl (wanted_on true 3 8 _ rfl rfl rfl (hdep ⟨3, .guard⟩ (by simp) rfl _ _ rfl rfl)) rfl e13 e17 (by go_simp) ⟨_, rfl, rfl, Below.refl _ _, hR⟩
      · injection ho with ho
        subst ho
        have e18 : A.eval (.tmp 18) = .pointer (some ⟨g, off + i * 3, none⟩) := hdep ⟨13, .data⟩ (by simp) rfl _ _ rfl rfl
        have q1 := (hR.cell hg).trans q1
        have q2 := (hR.cell hg).trans q2
        have q3 := (hR.cell hg).trans q3
        exact gOp_ld (v := tokV t) rfl (wanted_on true 3 8 _ rfl rfl rfl (hdep ⟨3, .guard⟩ (by simp) rfl _ _ rfl rfl)) rfl e18 (by unfold tokV; go_simp) ⟨_, rfl, rfl, Below.refl _ _, hR⟩
      · injection ho with ho
        subst ho
        have e9 : A.eval (.tmp 9) = .func (.func fk) #[] cap := hdep ⟨4, .data⟩ (by simp) rfl _ _ rfl rfl
        have e19 : A.eval (.tmp 19) = tokV t := hdep ⟨14, .data⟩ (by simp) rfl _ _ rfl rfl
        refine gOp_enter rfl (wanted_on true 3 8 _ rfl rfl rfl (hdep ⟨3, .guard⟩ (by simp) rfl _ _ rfl rfl)) fk (#[tokV t] ++ cap) (run_callT fk cap hen 9 _ _ rfl e9 _ (by simp [e19])) ?_
        refine (hcl W hR).mono ?_
        rintro e w' ⟨rfl, hb'⟩
        exact ⟨_, rfl, _, rfl, rfl, hb', hR.trans (hb'.mono hR.size)⟩
      · injection ho with ho
        subst ho
        have e8 : A.eval (.tmp 8) = .bool true := hdep ⟨3, .data⟩ (by simp) rfl _ _ rfl rfl
        have e20 : A.eval (.tmp 20) = .bool b := hdep ⟨15, .data⟩ (by simp) rfl _ _ rfl rfl
        exact gOp_pk (v := .bool b) rfl (wanted_plain rfl) rfl e8 (by first | exact e20 | rfl) ⟨_, rfl, rfl, Below.refl _ _, hR⟩
      · injection ho with ho
        subst ho
        have e21 : A.eval (.tmp 21) = .bool b := hdep ⟨16, .data⟩ (by simp) rfl _ _ rfl rfl
        exact gOp_mv rfl (wanted_plain rfl) (.inr rfl) e21 ⟨_, rfl, rfl, Below.refl _ _, hR⟩
      · simp at ho
    case done =>
      intro W hR
      subst hval
      simp only [putL, Act.put, List.setIfInBounds_toArray, List.set_cons_zero, List.set_cons_succ]
      go_wp2
      go_ret
      exact ⟨rfl, hR⟩
end Go.Proofs.Ythdooemgnpiomaa
