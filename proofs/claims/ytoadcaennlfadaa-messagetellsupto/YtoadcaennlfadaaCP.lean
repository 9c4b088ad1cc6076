/- message: octets there and back, cut off, and with one more (on lists). -/
import Derived.Test.YtoadcaennlfadaaJP
import Derived.Test.YtoadcaennlfadaaGE
namespace Go.Proofs.Ytoadcaennlfadaa
open Go.RowKit
set_option maxRecDepth 20000

theorem num_le64 {n : Int} (h : n ≤ 2147483647) : n ≤ 18446744073709551615 := by omega

theorem textI_put (a t b : List Int) (ht : t.length ≤ 1024) : Pl.textI (a ++ (Pl.enc 9 t.length ++ t) ++ b) a.length 1024 = (t, (a.length : Int) + ((Pl.enc 9 t.length).length : Int) + t.length, 0) := by
  have hg := Pl.get_put a (t ++ b) t.length (by omega) (by omega)
  have he : a ++ (Pl.enc 9 t.length ++ t) ++ b = a ++ Pl.enc 9 t.length ++ (t ++ b) := by simp
  rw [he]
  unfold Pl.textI
  rw [hg]
  simp only
  rw [if_pos trivial, if_neg (by omega), if_neg (by simp only [List.length_append]; omega)]
  have h1 : ((a.length : Int) + ((Pl.enc 9 t.length).length : Int)).toNat = (a ++ Pl.enc 9 t.length).length := by simp only [List.length_append]; omega
  rw [h1, List.drop_left]
  simp

structure DecFwd (fs nsT tT : List Int) (ns t ns' t' : List Int) : Prop where
  len : ns'.length = 10
  off : ∀ j : Nat, (j : Int) ∉ fs → ns'.getD j 0 = ns.getD j 0
  on : ∀ j : Nat, (j : Int) ∈ fs → j < 10 → ns'.getD j 0 = nsT.getD j 0
  offt : (10 : Int) ∉ fs → t' = t
  ont : (10 : Int) ∈ fs → t' = tT

theorem decFs_fwd (nsT tT : List Int) (hr : ∀ j : Nat, 0 ≤ nsT.getD j 0 ∧ nsT.getD j 0 ≤ 2147483647) (ht : tT.length ≤ 1024) :
    ∀ (fs a b ns t : List Int), (∀ f ∈ fs, 0 ≤ f ∧ f ≤ 10) → fs.Nodup → ns.length = 10 → ∃ ns' t', decFs (a ++ fs.flatMap (encG nsT tT) ++ b) fs a.length ns t = (ns', t', ((a.length + (fs.flatMap (encG nsT tT)).length : Nat) : Int), 0) ∧ DecFwd fs nsT tT ns t ns' t' := by
  intro fs
  induction fs with
  | nil =>
    intro a b ns t _ _ hn
    exact ⟨ns, t, by simp [decFs], hn, fun _ _ => rfl, fun j hj => by simp at hj, fun _ => rfl, fun hj => by simp at hj⟩
  | cons f r ih =>
    intro a b ns t hf hnd hn
    have hfr : ∀ g ∈ r, 0 ≤ g ∧ g ≤ 10 := fun g hg => hf g (List.mem_cons_of_mem _ hg)
    obtain ⟨hfn, hnd'⟩ := List.nodup_cons.1 hnd
    obtain ⟨f0, f1⟩ := hf f (List.mem_cons_self ..)
    by_cases h10 : f = 10
    · subst h10
      have hg : encG nsT tT 10 = Pl.enc 9 tT.length ++ tT := by unfold encG; rw [if_pos rfl]
      obtain ⟨ns', t', hd, D⟩ := ih (a ++ (Pl.enc 9 tT.length ++ tT)) b ns tT hfr hnd' hn
      have hx := textI_put a tT (r.flatMap (encG nsT tT) ++ b) ht
      have hl : a ++ (10 :: r).flatMap (encG nsT tT) ++ b = a ++ (Pl.enc 9 tT.length ++ tT) ++ (r.flatMap (encG nsT tT) ++ b) := by rw [List.flatMap_cons, hg]; simp only [List.append_assoc]
      have hl2 : a ++ (Pl.enc 9 tT.length ++ tT) ++ r.flatMap (encG nsT tT) ++ b = a ++ (Pl.enc 9 tT.length ++ tT) ++ (r.flatMap (encG nsT tT) ++ b) := by simp only [List.append_assoc]
      have hp : ((a ++ (Pl.enc 9 tT.length ++ tT)).length : Int) = (a.length : Int) + ((Pl.enc 9 tT.length).length : Int) + tT.length := by simp only [List.length_append]; omega
      rw [hl2, hp] at hd
      refine ⟨ns', t', ?_, D.len, fun j hj => D.off j (fun h => hj (List.mem_cons_of_mem _ h)), fun j hj hj10 => ?_, fun h => absurd (List.mem_cons_self ..) h, fun _ => D.offt hfn⟩
      · rw [hl, decFs_text hx, hd, List.flatMap_cons, hg]
        simp only [List.length_append, Prod.mk.injEq, and_true, true_and]
        omega
      · rcases List.mem_cons.1 hj with h | h
        · omega
        · exact D.on j h hj10
    · obtain ⟨j, rfl⟩ : ∃ j : Nat, f = (j : Int) := ⟨f.toNat, by omega⟩
      obtain ⟨hr0, hr1⟩ := hr j
      have hg : encG nsT tT (j : Int) = Pl.enc 9 (nsT.getD j 0) := by unfold encG; rw [if_neg h10, Int.toNat_natCast]
      obtain ⟨ns', t', hd, D⟩ := ih (a ++ Pl.enc 9 (nsT.getD j 0)) b (ns.set j (nsT.getD j 0)) t hfr hnd' (by rw [List.length_set]; exact hn)
      have hx := Pl.get_put a (r.flatMap (encG nsT tT) ++ b) (nsT.getD j 0) hr0 (num_le64 hr1)
      have hl : a ++ ((j : Int) :: r).flatMap (encG nsT tT) ++ b = a ++ Pl.enc 9 (nsT.getD j 0) ++ (r.flatMap (encG nsT tT) ++ b) := by rw [List.flatMap_cons, hg]; simp only [List.append_assoc]
      have hl2 : a ++ Pl.enc 9 (nsT.getD j 0) ++ r.flatMap (encG nsT tT) ++ b = a ++ Pl.enc 9 (nsT.getD j 0) ++ (r.flatMap (encG nsT tT) ++ b) := by simp only [List.append_assoc]
      have hp : ((a ++ Pl.enc 9 (nsT.getD j 0)).length : Int) = (a.length : Int) + ((Pl.enc 9 (nsT.getD j 0)).length : Int) := by simp only [List.length_append]; omega
      rw [hl2, hp] at hd
      refine ⟨ns', t', ?_, D.len, fun i hi => ?_, fun i hi hi10 => ?_, fun h => D.offt (fun hm => h (List.mem_cons_of_mem _ hm)), fun h => D.ont ?_⟩
      · rw [hl, decFs_num h10 hx hr1, hd, List.flatMap_cons, hg]
        simp only [List.length_append, Prod.mk.injEq, and_true, true_and]
        omega
      · have hij : i ≠ j := fun e => hi (by rw [e]; exact List.mem_cons_self ..)
        rw [D.off i (fun hm => hi (List.mem_cons_of_mem _ hm))]
        simp [List.getD, List.getElem?_set_ne (Ne.symm hij)]
      · by_cases hij : i = j
        · subst hij
          rw [D.off i hfn]
          simp only [List.getD_eq_getElem?_getD]
          rw [List.getElem?_set_self (by omega)]
          rfl
        · rcases List.mem_cons.1 hi with h | h
          · omega
          · exact D.on i h hi10
      · rcases List.mem_cons.1 h with h | h
        · exact absurd h.symm h10
        · exact h
end Go.Proofs.Ytoadcaennlfadaa
