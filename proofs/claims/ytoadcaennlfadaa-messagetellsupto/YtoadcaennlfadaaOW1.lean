/- MessageOwn: what stays where a row is spoilt; Encode in one form. -/
import Derived.Test.YtoadcaennlfadaaRF6
import Derived.Test.YtoadcaennlfadaaSM6
import Derived.Test.YtoadcaennlfadaaJP
namespace Go.Proofs.Ytoadcaennlfadaa
open Go.RowKit
set_option maxRecDepth 20000

theorem enc_octs2 {x : Mg} {d : List Int} (h : ckM x d = 0) (ho : ∀ z ∈ d, 0 ≤ z ∧ z ≤ 255) : ∀ z ∈ encM x d, 0 ≤ z ∧ z ≤ 255 := by
  obtain ⟨h1, h2, h3, _, _⟩ := ck_zero h
  obtain ⟨k1, k8⟩ := used_kind h1
  intro z hz
  unfold encM at hz
  rcases List.mem_append.1 hz with hz | hz
  · exact Pl.enc_oct 9 x.k (by omega) (by rw [Pl.lim9]; omega) z hz
  · obtain ⟨f, hf, hzf⟩ := List.mem_flatMap.1 hz
    unfold encF at hzf
    split at hzf
    · rcases List.mem_append.1 hzf with hzf | hzf
      · exact Pl.enc_oct 9 d.length (by omega) (by rw [Pl.lim9]; omega) z hzf
      · exact ho z hzf
    · obtain ⟨n0, n1⟩ := num_bd h2 f.toNat
      exact Pl.enc_oct 9 _ n0 (by rw [Pl.lim9]; omega) z hzf

def encR (x : Mg) (d : List Int) : List Int := if ckM x d = 0 then encM x d else []
theorem encR_octs {x : Mg} {d : List Int} (ho : ∀ z ∈ d, 0 ≤ z ∧ z ≤ 255) : ∀ z ∈ encR x d, 0 ≤ z ∧ z ≤ 255 := by
  unfold encR
  split
  · rename_i h
    exact enc_octs2 h ho
  · simp
theorem mEncode_R (x : Mg) (v : Value) (d : List Int) (w : World) (hs : Seg .u8 w v d) :
    Calls Try.prog 10 #[x.val v] w fun e w' => ∃ v', e = .returned (.tuple #[v', .int .i64 (ckM x d)]) ∧ w'.ownsRow w.heap.size 5 1 v' (encR x d).length (u8s (encR x d)) ∧ Below w.heap.size w w' := by
  unfold encR
  by_cases h : ckM x d = 0
  · rw [if_pos h, h]
    exact mEncode_ok x v d w hs h
  · rw [if_neg h]
    exact (mEncode_bad x v d w hs h).mono fun e w' hh => ⟨_, hh.1, World.ownsRow_nil _ _ _ _, hh.2⟩
theorem rEncode_R (x : Mg) (v : Value) (d : List Int) (w : World) (hs : Seg .u8 w v d) (hd : ∀ z ∈ d, 0 ≤ z ∧ z ≤ 255) :
    Calls Try.prog 11 #[x.val v] w fun e w' => ∃ v', e = .returned (.tuple #[v', .int .i64 (ckM x d)]) ∧ w'.ownsRow w.heap.size 5 1 v' (encR x d).length (u8s (encR x d)) ∧ Below w.heap.size w w' := by
  unfold encR
  by_cases h : ckM x d = 0
  · rw [if_pos h, h]
    exact rEncode_ok x v d w hs hd h
  · rw [if_neg h]
    exact (rEncode_bad x v d w hs hd h).mono fun e w' hh => ⟨_, hh.1, World.ownsRow_nil _ _ _ _, hh.2⟩

theorem own_later {w0 w : World} {B C s1 s2 : Nat} {e1 e2 : TypeId} {v u : Value} {n m : Nat} {xs ys : List Value} (h1 : w0.ownsRow B e1 s1 v n xs) (h2 : w.ownsRow C e2 s2 u m ys) (h : w0.heap.size ≤ C) : u.ownBlock = none ∨ u.ownBlock ≠ v.ownBlock := by
  cases hu : u.ownBlock with
  | none => left; rfl
  | some k =>
    right
    intro e
    have a := (h2.lt k hu).1
    have b := (h1.lt k e.symm).2
    omega
theorem bx_keep {w w' : World} {b B : Nat} {cs : List Value} {T e : TypeId} {v : Value} {n : Nat} {xs : List Value} (h : Bx w b cs T) (ho : w.ownsRow B e 1 v n xs) (hT : T ≠ e) (hg : w.grownBy w' v.ownBlock) : Bx w' b cs T := by
  refine (hg.block b h.lt ?_).trans h
  intro hb
  rcases ho.2 with ⟨rfl, _⟩ | ⟨g, cap, cur, rfl, _, hgg, _⟩
  · simp [Value.ownBlock] at hb
  · simp [Value.ownBlock] at hb
    subst hb
    rw [show w.heap[b]? = some (.cells ⟨cs⟩ T (0, 0)) from h] at hgg
    cases hgg
    exact hT rfl
theorem below_keep {w w1 w2 : World} {B : Nat} {e : TypeId} {v : Value} {n : Nat} {xs : List Value} (h : Below w.heap.size w w1) (ho : w1.ownsRow B e 1 v n xs) (hB : w.heap.size ≤ B) (hg : w1.grownBy w2 v.ownBlock) : Below w.heap.size w w2 :=
  h.grown hg h.size (fun k hk => Nat.le_trans hB (ho.lt k hk).1)
end Go.Proofs.Ytoadcaennlfadaa
