/- message: Decode of Encode; cut off; with one more (on lists). -/
import Derived.Test.YtoadcaennlfadaaCP
import Derived.Test.YtoadcaennlfadaaMN6
namespace Go.Proofs.Ytoadcaennlfadaa
open Go.RowKit
set_option maxRecDepth 20000

theorem encF_G (x : Mg) (d : List Int) : encF x d = encG x.nums d := by funext f; unfold encF encG; rfl

theorem list10_ext {a b : List Int} (ha : a.length = 10) (hb : b.length = 10) (h : ∀ j : Nat, j < 10 → a.getD j 0 = b.getD j 0) : a = b := by
  apply List.ext_getElem (by omega)
  intro i h1 h2
  have := h i (by omega)
  rw [getD_at h1, getD_at h2] at this
  exact this

theorem mgOf_nums (x : Mg) : mgOf x.k x.nums = x := rfl
theorem nums_len (x : Mg) : x.nums.length = 10 := rfl

theorem tkm_enc {x : Mg} {d : List Int} (h : ckM x d = 0) (b : List Int) : tkm (encM x d ++ b) = ((x.k, x.nums, d, ((encM x d).length : Int)), 0) := by
  obtain ⟨h1, h2, h3, h4, h5⟩ := ck_zero h
  obtain ⟨k1, k8⟩ := used_kind h1
  have hl : encM x d ++ b = Pl.enc 9 x.k ++ (usedP x.k).flatMap (encG x.nums d) ++ b := by unfold encM; rw [encF_G]
  have hg := Pl.get_put [] ((usedP x.k).flatMap (encG x.nums d) ++ b) x.k (by omega) (by omega)
  simp only [List.nil_append, List.length_nil, Int.ofNat_zero, Int.zero_add, ← List.append_assoc] at hg
  obtain ⟨ns', t', hd, D⟩ := decFs_fwd x.nums d (fun j => num_bd h2 j) h3 (usedP x.k) (Pl.enc 9 x.k) b zeros [] (used_mem x.k) (used_nodup x.k) rfl
  have hn : ns' = x.nums := by
    refine list10_ext D.len (nums_len x) fun j hj => ?_
    by_cases hm : (j : Int) ∈ usedP x.k
    · exact D.on j hm hj
    · rw [D.off j hm]
      have hz : x.nums.getD j 0 = 0 := okF_zero (h4 j hj) (by rw [List.any_eq_false]; intro z hz; simp; intro e; exact hm (e ▸ hz))
      rw [hz]
      have : j = 0 ∨ j = 1 ∨ j = 2 ∨ j = 3 ∨ j = 4 ∨ j = 5 ∨ j = 6 ∨ j = 7 ∨ j = 8 ∨ j = 9 := by omega
      rcases this with rfl | rfl | rfl | rfl | rfl | rfl | rfl | rfl | rfl | rfl <;> rfl
  have ht : t' = d := by
    by_cases hm : (10 : Int) ∈ usedP x.k
    · exact D.ont hm
    · rw [D.offt hm]
      rcases h5 with h5 | h5
      · exact h5.symm
      · exfalso
        rw [List.any_eq_true] at h5
        obtain ⟨z, hz, he⟩ := h5
        simp at he
        exact hm (he ▸ hz)
  subst hn ht
  have hlen : (Pl.enc 9 x.k).length + ((usedP x.k).flatMap (encG x.nums t')).length = (encM x t').length := by unfold encM; rw [encF_G, List.length_append]
  unfold tkm
  rw [hl, hg]
  simp only
  rw [if_pos trivial, if_pos ⟨k1, k8⟩, hd]
  simp only
  rw [hlen]

theorem dcm_enc {x : Mg} {d : List Int} (h : ckM x d = 0) : dcm (encM x d) = (x, d, 0) := by
  have ht := tkm_enc h []
  rw [List.append_nil] at ht
  unfold dcm
  rw [ht]
  simp only
  rw [if_pos trivial, if_pos trivial, mgOf_nums]

theorem dcm_more {x : Mg} {d : List Int} (h : ckM x d = 0) (z : Int) : dcm (encM x d ++ [z]) = (zmg, [], 22) := by
  have ht := tkm_enc h [z]
  unfold dcm
  rw [ht]
  simp only
  rw [if_pos trivial, if_neg (by simp; omega)]

theorem getI_cutA (a c r : List Int) (n : Int) (h0 : 0 ≤ n) (h1 : n ≤ 18446744073709551615) (hr : r ≠ []) (hc : Pl.enc 9 n = c ++ r) : Pl.getI (a ++ c) a.length = (0, 0, 8) := by
  unfold Pl.getI
  rw [if_neg (by simp only [List.length_append]; omega), Int.toNat_natCast, List.drop_left]
  exact Pl.getS_cut 9 n c r a.length 0 (by omega) h0 (by rw [Pl.lim9]; omega) (by omega) hr hc

theorem textI_cutA (a c r t : List Int) (ht : t.length ≤ 1024) (hr : r ≠ []) (hc : Pl.enc 9 t.length ++ t = c ++ r) : (Pl.textI (a ++ c) a.length 1024).2.2 = 8 := by
  rcases Nat.lt_or_ge c.length (Pl.enc 9 t.length).length with hlt | hge
  · have hp : c = (Pl.enc 9 t.length).take c.length := by
      have := congrArg (List.take c.length) hc
      rw [List.take_append_of_le_length (by omega), List.take_left] at this
      exact this.symm
    have hcr : Pl.enc 9 t.length = c ++ (Pl.enc 9 t.length).drop c.length := by
      conv => lhs; rw [← List.take_append_drop c.length (Pl.enc 9 t.length)]
      rw [← hp]
    have hg := getI_cutA a c ((Pl.enc 9 t.length).drop c.length) t.length (by omega) (by omega) (by intro e; have := congrArg List.length e; simp at this; omega) hcr
    unfold Pl.textI
    rw [hg]
    rfl
  · have hp : c = Pl.enc 9 t.length ++ t.take (c.length - (Pl.enc 9 t.length).length) := by
      have := congrArg (List.take c.length) hc
      rw [List.take_left, List.take_append] at this
      rw [List.take_of_length_le hge] at this
      exact this.symm
    have hlr : (Pl.enc 9 t.length).length + t.length = c.length + r.length := by have := congrArg List.length hc; simpa using this
    have hrl : 0 < r.length := List.length_pos_iff.2 hr
    have hg := Pl.get_put a (t.take (c.length - (Pl.enc 9 t.length).length)) t.length (by omega) (by omega)
    rw [List.append_assoc, ← hp] at hg
    unfold Pl.textI
    rw [hg]
    simp only
    rw [if_pos trivial, if_neg (by omega), if_pos (by simp only [List.length_append]; omega)]

theorem decFs_cut (nsT tT : List Int) (hr : ∀ j : Nat, 0 ≤ nsT.getD j 0 ∧ nsT.getD j 0 ≤ 2147483647) (ht : tT.length ≤ 1024) :
    ∀ (fs a ns t : List Int) (n : Nat), (∀ f ∈ fs, 0 ≤ f ∧ f ≤ 10) → a.length ≤ n → n < (a ++ fs.flatMap (encG nsT tT)).length → (decFs ((a ++ fs.flatMap (encG nsT tT)).take n) fs a.length ns t).2.2.2 = 8 := by
  intro fs
  induction fs with
  | nil => intro a ns t n _ h1 h2; simp at h2; omega
  | cons f r ih =>
    intro a ns t n hf h1 h2
    have hfr : ∀ g ∈ r, 0 ≤ g ∧ g ≤ 10 := fun g hg => hf g (List.mem_cons_of_mem _ hg)
    obtain ⟨f0, f1⟩ := hf f (List.mem_cons_self ..)
    rw [List.flatMap_cons, ← List.append_assoc] at h2 ⊢
    rcases Nat.lt_or_ge n (a ++ encG nsT tT f).length with hlt | hge
    · have hcut : (a ++ encG nsT tT f ++ r.flatMap (encG nsT tT)).take n = a ++ (encG nsT tT f).take (n - a.length) := by
        rw [List.take_append_of_le_length (by omega), List.take_append, List.take_of_length_le h1]
      rw [hcut]
      have hsp : encG nsT tT f = (encG nsT tT f).take (n - a.length) ++ (encG nsT tT f).drop (n - a.length) := (List.take_append_drop _ _).symm
      have hne : (encG nsT tT f).drop (n - a.length) ≠ [] := by
        intro e
        have := congrArg List.length e
        simp only [List.length_append] at hlt
        simp at this
        omega
      by_cases h10 : f = 10
      · subst h10
        have hg : encG nsT tT 10 = Pl.enc 9 tT.length ++ tT := by unfold encG; rw [if_pos rfl]
        rw [hg] at hsp hne ⊢
        have hx := textI_cutA a _ _ tT ht hne hsp
        obtain ⟨t2, q, er, he⟩ : ∃ t2 q er, Pl.textI (a ++ (Pl.enc 9 tT.length ++ tT).take (n - a.length)) a.length 1024 = (t2, q, er) := ⟨_, _, _, rfl⟩
        rw [he] at hx
        simp only at hx
        subst hx
        rw [decFs_textE he (by decide)]
      · obtain ⟨j, rfl⟩ : ∃ j : Nat, f = (j : Int) := ⟨f.toNat, by omega⟩
        obtain ⟨hr0, hr1⟩ := hr j
        have hg : encG nsT tT (j : Int) = Pl.enc 9 (nsT.getD j 0) := by unfold encG; rw [if_neg h10, Int.toNat_natCast]
        rw [hg] at hsp hne ⊢
        have hx := getI_cutA a _ _ (nsT.getD j 0) hr0 (num_le64 hr1) hne hsp
        rw [decFs_numE h10 hx (by decide)]
    · have hcut : (a ++ encG nsT tT f ++ r.flatMap (encG nsT tT)).take n = (a ++ encG nsT tT f) ++ (r.flatMap (encG nsT tT)).take (n - (a ++ encG nsT tT f).length) := by
        rw [List.take_append, List.take_of_length_le hge]
      by_cases h10 : f = 10
      · subst h10
        have hg : encG nsT tT 10 = Pl.enc 9 tT.length ++ tT := by unfold encG; rw [if_pos rfl]
        have hx := textI_put a tT ((r.flatMap (encG nsT tT)).take (n - (a ++ encG nsT tT 10).length)) ht
        have hi := ih (a ++ encG nsT tT 10) ns tT n hfr hge h2
        rw [hcut, hg] at hi ⊢
        rw [hg] at hx
        rw [decFs_text hx]
        have hp : ((a ++ (Pl.enc 9 tT.length ++ tT)).length : Int) = (a.length : Int) + ((Pl.enc 9 tT.length).length : Int) + tT.length := by simp only [List.length_append]; omega
        rw [hp] at hi
        exact hi
      · obtain ⟨j, rfl⟩ : ∃ j : Nat, f = (j : Int) := ⟨f.toNat, by omega⟩
        obtain ⟨hr0, hr1⟩ := hr j
        have hg : encG nsT tT (j : Int) = Pl.enc 9 (nsT.getD j 0) := by unfold encG; rw [if_neg h10, Int.toNat_natCast]
        have hx := Pl.get_put a ((r.flatMap (encG nsT tT)).take (n - (a ++ encG nsT tT (j : Int)).length)) (nsT.getD j 0) hr0 (num_le64 hr1)
        have hi := ih (a ++ encG nsT tT (j : Int)) (ns.set j (nsT.getD j 0)) t n hfr hge h2
        rw [hcut, hg] at hi ⊢
        rw [hg] at hx
        rw [decFs_num h10 hx hr1]
        have hp : ((a ++ Pl.enc 9 (nsT.getD j 0)).length : Int) = (a.length : Int) + ((Pl.enc 9 (nsT.getD j 0)).length : Int) := by simp only [List.length_append]; omega
        rw [hp] at hi
        exact hi

theorem dcm_cut {x : Mg} {d : List Int} (h : ckM x d = 0) (n : Nat) (hn : n < (encM x d).length) : dcm ((encM x d).take n) = (zmg, [], 8) := by
  obtain ⟨h1, h2, h3, h4, h5⟩ := ck_zero h
  obtain ⟨k1, k8⟩ := used_kind h1
  have hl : encM x d = Pl.enc 9 x.k ++ (usedP x.k).flatMap (encG x.nums d) := by unfold encM; rw [encF_G]
  have ht : (tkm ((encM x d).take n)).2 = 8 := by
    rcases Nat.lt_or_ge n (Pl.enc 9 x.k).length with hlt | hge
    · have hcut : (encM x d).take n = [] ++ (Pl.enc 9 x.k).take n := by rw [hl, List.take_append_of_le_length (by omega), List.nil_append]
      have hg := getI_cutA [] ((Pl.enc 9 x.k).take n) ((Pl.enc 9 x.k).drop n) x.k (by omega) (by omega) (by intro e; have := congrArg List.length e; simp at this; omega) (List.take_append_drop _ _).symm
      rw [hcut]
      unfold tkm
      simp only [List.length_nil, Int.ofNat_zero] at hg
      rw [hg]
      rfl
    · have hcut : (encM x d).take n = Pl.enc 9 x.k ++ ((usedP x.k).flatMap (encG x.nums d)).take (n - (Pl.enc 9 x.k).length) := by rw [hl, List.take_append, List.take_of_length_le hge]
      have hg := Pl.get_put [] (((usedP x.k).flatMap (encG x.nums d)).take (n - (Pl.enc 9 x.k).length)) x.k (by omega) (by omega)
      simp only [List.nil_append, List.length_nil, Int.ofNat_zero, Int.zero_add] at hg
      have hd := decFs_cut x.nums d (fun j => num_bd h2 j) h3 (usedP x.k) (Pl.enc 9 x.k) zeros [] n (used_mem x.k) hge (by rw [← hl]; exact hn)
      rw [← hl, hcut] at hd
      rw [hcut]
      unfold tkm
      rw [hg]
      simp only
      rw [if_pos trivial, if_pos ⟨k1, k8⟩]
      exact hd
  unfold dcm
  rw [if_neg (by rw [ht]; decide), ht]
end Go.Proofs.Ytoadcaennlfadaa
