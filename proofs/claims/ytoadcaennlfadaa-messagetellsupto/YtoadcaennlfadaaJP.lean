/- message: what Decode takes is Encode of it (on lists). -/
import Derived.Test.YtoadcaennlfadaaGG
namespace Go.Proofs.Ytoadcaennlfadaa
open Go.RowKit
set_option maxRecDepth 20000

def encG (ns t : List Int) (f : Int) : List Int := if f = 10 then Pl.enc 9 t.length ++ t else Pl.enc 9 (ns.getD f.toNat 0)

theorem getI_err0 {l : List Int} {p m q er : Int} (h : Pl.getI l p = (m, q, er)) (h0 : er ≠ 0) : (Pl.getI l p).2.2 ≠ 0 := by rw [h]; exact h0

structure DecOk (l fs : List Int) (p : Int) (ns t ns' t' : List Int) (p' : Int) : Prop where
  drop : l.drop p.toNat = fs.flatMap (encG ns' t') ++ l.drop p'.toNat
  le : p ≤ p' ∧ p' ≤ l.length
  len : ns'.length = 10
  off : ∀ j : Nat, (j : Int) ∉ fs → ns'.getD j 0 = ns.getD j 0
  offt : (10 : Int) ∉ fs → t' = t
  on : ∀ j : Nat, (j : Int) ∈ fs → j < 10 → 0 ≤ ns'.getD j 0 ∧ ns'.getD j 0 ≤ 2147483647
  ont : (10 : Int) ∈ fs → t'.length ≤ 1024 ∧ ∀ z ∈ t', 0 ≤ z ∧ z ≤ 255

theorem decFs_ok (l : List Int) (ho : ∀ z ∈ l, 0 ≤ z ∧ z ≤ 255) : ∀ (fs : List Int) (p : Int) (ns t ns' t' : List Int) (p' : Int), (∀ f ∈ fs, 0 ≤ f ∧ f ≤ 10) → fs.Nodup → 0 ≤ p → p ≤ l.length → ns.length = 10 → decFs l fs p ns t = (ns', t', p', 0) → DecOk l fs p ns t ns' t' p' := by
  intro fs
  induction fs with
  | nil =>
    intro p ns t ns' t' p' _ _ h0 h1 hn h
    simp only [decFs, Prod.mk.injEq, and_true] at h
    obtain ⟨rfl, rfl, rfl⟩ := h
    exact ⟨by simp, ⟨Int.le_refl _, h1⟩, hn, fun _ _ => rfl, fun _ => rfl, fun j hj => by simp at hj, fun hj => by simp at hj⟩
  | cons f r ih =>
    intro p ns t ns' t' p' hf hnd h0 h1 hn h
    have hfr : ∀ g ∈ r, 0 ≤ g ∧ g ≤ 10 := fun g hg => hf g (List.mem_cons_of_mem _ hg)
    obtain ⟨hfn, hnd'⟩ := List.nodup_cons.1 hnd
    obtain ⟨f0, f1⟩ := hf f (List.mem_cons_self ..)
    by_cases h10 : f = 10
    · subst h10
      obtain ⟨t2, q, er, htx⟩ : ∃ t2 q er, Pl.textI l p 1024 = (t2, q, er) := ⟨_, _, _, rfl⟩
      by_cases he : er = 0
      · subst he
        rw [decFs_text htx] at h
        obtain ⟨pq, ql, tl, to, _, rr, hr, hq⟩ := textI_ok ho htx
        have D := ih q ns t2 ns' t' p' hfr hnd' (by omega) ql hn h
        have htt : t' = t2 := D.offt hfn
        subst htt
        refine ⟨?_, ⟨by have := D.le.1; omega, D.le.2⟩, D.len, fun j hj => D.off j (fun hm => hj (List.mem_cons_of_mem _ hm)), fun hx => absurd (List.mem_cons_self ..) hx, fun j hj hj10 => ?_, fun _ => ⟨tl, to⟩⟩
        · have hqn : q.toNat = p.toNat + (Pl.enc 9 t'.length ++ t').length := by simp only [List.length_append]; omega
          have h2 : l.drop q.toNat = rr := by rw [hqn, ← List.drop_drop, hr]; simp
          have hg : encG ns' t' 10 = Pl.enc 9 t'.length ++ t' := by unfold encG; rw [if_pos rfl]
          rw [List.flatMap_cons, hg, List.append_assoc, ← D.drop, h2, hr]
        · rcases List.mem_cons.1 hj with hj | hj
          · omega
          · exact D.on j hj hj10
      · rw [decFs_textE htx he] at h
        simp only [Prod.mk.injEq] at h
        exact absurd h.2.2.2 he
    · obtain ⟨j, rfl⟩ : ∃ j : Nat, f = (j : Int) := ⟨f.toNat, by omega⟩
      obtain ⟨m, q, er, hg⟩ : ∃ m q er, Pl.getI l p = (m, q, er) := ⟨_, _, _, rfl⟩
      by_cases he : er = 0
      · subst he
        by_cases hm : m ≤ 2147483647
        · rw [decFs_num h10 hg hm] at h
          obtain ⟨_, m0, m1, pq, ql, rr, hr, hq⟩ := Pl.getI_ok l p m q ho hg
          have D := ih q (ns.set j m) t ns' t' p' hfr hnd' (by omega) ql (by rw [List.length_set]; exact hn) h
          have hv : ns'.getD j 0 = m := by
            rw [D.off j hfn]
            simp [List.getD]
            rw [List.getElem?_set_self (by omega)]
            rfl
          refine ⟨?_, ⟨by have := D.le.1; omega, D.le.2⟩, D.len, fun i hi => ?_, fun hx => D.offt (fun hm => hx (List.mem_cons_of_mem _ hm)), fun i hi hi10 => ?_, fun hx => D.ont ?_⟩
          · have hqn : q.toNat = p.toNat + (Pl.enc 9 m).length := by omega
            have h2 : l.drop q.toNat = rr := by rw [hqn, ← List.drop_drop, hr]; simp
            have hge : encG ns' t' (j : Int) = Pl.enc 9 m := by unfold encG; rw [if_neg h10, Int.toNat_natCast, hv]
            rw [List.flatMap_cons, hge, List.append_assoc, ← D.drop, h2, hr]
          · have hij : i ≠ j := fun e => hi (by rw [e]; exact List.mem_cons_self ..)
            rw [D.off i (fun hm => hi (List.mem_cons_of_mem _ hm))]
            simp [List.getD, List.getElem?_set_ne (Ne.symm hij)]
          · rcases List.mem_cons.1 hi with hi | hi
            · have : i = j := by omega
              subst this
              rw [hv]
              exact ⟨m0, hm⟩
            · exact D.on i hi hi10
          · rcases List.mem_cons.1 hx with hx | hx
            · exact absurd hx.symm h10
            · exact hx
        · rw [decFs_numB h10 hg hm] at h
          simp only [Prod.mk.injEq] at h
          exact absurd h.2.2.2 (by decide)
      · rw [decFs_numE h10 hg he] at h
        simp only [Prod.mk.injEq] at h
        exact absurd h.2.2.2 he

theorem used_nodup (k : Int) : (usedP k).Nodup := by
  unfold usedP
  repeat' split
  all_goals decide

theorem used_ne {k : Int} (h1 : 1 ≤ k) (h8 : k ≤ 8) : usedP k ≠ [] := by
  have : k = 1 ∨ k = 2 ∨ k = 3 ∨ k = 4 ∨ k = 5 ∨ k = 6 ∨ k = 7 ∨ k = 8 := by omega
  rcases this with rfl | rfl | rfl | rfl | rfl | rfl | rfl | rfl <;> decide

/-- What Decode takes may be, and its octets are these. -/
theorem dcm_just {l : List Int} (ho : ∀ z ∈ l, 0 ≤ z ∧ z ≤ 255) {x : Mg} {t : List Int} (h : dcm l = (x, t, 0)) : ckM x t = 0 ∧ encM x t = l ∧ (∀ z ∈ t, 0 ≤ z ∧ z ≤ 255) := by
  unfold dcm at h
  by_cases h1 : (tkm l).2 = 0
  · rw [if_pos h1] at h
    by_cases h2 : (tkm l).1.2.2.2 = l.length
    · rw [if_pos h2] at h
      obtain ⟨kd, q0, er0, hg⟩ : ∃ kd q0 er0, Pl.getI l 0 = (kd, q0, er0) := ⟨_, _, _, rfl⟩
      have ht : tkm l = if er0 = 0 then (if 1 ≤ kd ∧ kd ≤ 8 then ((kd, (decFs l (usedP kd) q0 zeros []).1, (decFs l (usedP kd) q0 zeros []).2.1, (decFs l (usedP kd) q0 zeros []).2.2.1), (decFs l (usedP kd) q0 zeros []).2.2.2) else ((0, [], [], 0), 23)) else ((0, [], [], 0), er0) := by
        unfold tkm
        rw [hg]
      by_cases he : er0 = 0
      · subst he
        rw [if_pos rfl] at ht
        by_cases hk : 1 ≤ kd ∧ kd ≤ 8
        · rw [if_pos hk] at ht
          obtain ⟨ns', t', p', er, hd⟩ : ∃ ns' t' p' er, decFs l (usedP kd) q0 zeros [] = (ns', t', p', er) := ⟨_, _, _, _, rfl⟩
          rw [hd] at ht
          rw [ht] at h h1 h2
          simp only at h h1 h2
          subst h1
          simp only [Prod.mk.injEq, and_true] at h
          obtain ⟨rfl, rfl⟩ := h
          obtain ⟨_, k0, k1, q1, q2, rr, hr, hq⟩ := Pl.getI_ok l 0 kd q0 ho hg
          have D := decFs_ok l ho (usedP kd) q0 zeros [] ns' t' p' (used_mem kd) (used_nodup kd) (by omega) q2 rfl hd
          have hnums := mg_nums kd D.len
          have hkk : (mgOf kd ns').k = kd := rfl
          have hne := used_ne hk.1 hk.2
          have hall : ∀ j : Nat, j < 10 → 0 ≤ ns'.getD j 0 ∧ ns'.getD j 0 ≤ 2147483647 := by
            intro j hj
            by_cases hm : (j : Int) ∈ usedP kd
            · exact D.on j hm hj
            · rw [D.off j hm]
              have : j = 0 ∨ j = 1 ∨ j = 2 ∨ j = 3 ∨ j = 4 ∨ j = 5 ∨ j = 6 ∨ j = 7 ∨ j = 8 ∨ j = 9 := by omega
              rcases this with rfl | rfl | rfl | rfl | rfl | rfl | rfl | rfl | rfl | rfl <;> decide
          have hbad : (mgOf kd ns').nums.any badN = false := by
            rw [hnums, List.any_eq_false]
            intro z hz
            obtain ⟨j, hj, rfl⟩ := List.getElem_of_mem hz
            have := hall j (by rw [← D.len]; exact hj)
            simp only [List.getD_eq_getElem?_getD, List.getElem?_eq_getElem hj, Option.getD_some] at this
            simp only [badN, Bool.or_eq_true, decide_eq_true_eq, not_or]
            omega
          have htl : t'.length ≤ 1024 ∧ ∀ z ∈ t', 0 ≤ z ∧ z ≤ 255 := by
            by_cases hm : (10 : Int) ∈ usedP kd
            · exact D.ont hm
            · rw [D.offt hm]
              exact ⟨by simp, by simp⟩
          refine ⟨ck_0 (by rw [hkk]; exact hne) hbad (by omega) ?_ ?_, ?_, htl.2⟩
          · intro j hj
            unfold okF
            rw [hkk, hnums, Int.toNat_natCast]
            by_cases hm : (j : Int) ∈ usedP kd
            · have : (usedP kd).any ((j : Int) == ·) = true := by rw [List.any_eq_true]; exact ⟨j, hm, by simp⟩
              rw [this]; simp
            · rw [D.off j hm]
              have : j = 0 ∨ j = 1 ∨ j = 2 ∨ j = 3 ∨ j = 4 ∨ j = 5 ∨ j = 6 ∨ j = 7 ∨ j = 8 ∨ j = 9 := by omega
              rcases this with rfl | rfl | rfl | rfl | rfl | rfl | rfl | rfl | rfl | rfl <;> simp [zeros]
          · rw [hkk]
            by_cases hm : (10 : Int) ∈ usedP kd
            · right
              rw [List.any_eq_true]
              exact ⟨10, hm, by simp⟩
            · left
              exact D.offt hm
          · unfold encM
            rw [hkk]
            have hfe : (usedP kd).flatMap (encF (mgOf kd ns') t') = (usedP kd).flatMap (encG ns' t') := by
              congr 1
              funext f
              unfold encF encG
              rw [hnums]
            have hdr := D.drop
            rw [h2, show ((l.length : Nat) : Int).toNat = l.length by simp, List.drop_length, List.append_nil] at hdr
            rw [hfe, ← hdr]
            simp only [Int.toNat_zero, List.drop_zero] at hr
            have hqn : q0.toNat = (Pl.enc 9 kd).length := by omega
            rw [hqn]
            conv => lhs; rw [hr]
            conv => rhs; rw [hr]
            simp
        · rw [if_neg hk] at ht
          rw [ht] at h1
          exact absurd h1 (by decide)
      · rw [if_neg he] at ht
        rw [ht] at h1
        exact absurd h1 he
    · rw [if_neg h2] at h
      simp only [Prod.mk.injEq] at h
      exact absurd h.2.2 (by decide)
  · rw [if_neg h1] at h
    simp only [Prod.mk.injEq] at h
    exact absurd h.2.2 h1
end Go.Proofs.Ytoadcaennlfadaa
