/- ring: SameInts; the reference's Ints of one number; shares of a built ring. -/
import Derived.Test.YtcpcnajifdicmaaRQ
import Derived.Test.YtcpcnajifdicmaaRVp
import Derived.Test.YtcpcnajifdicmaaHG
namespace Go.Proofs.Ytcpcnajifdicmaa
open Go.RowKit Go.Sort Go.Shelf

theorem dgetD_at {l : List Int} {i : Nat} (h : i < l.length) : l.getD i 0 = l[i] := by simp [List.getD, h]
theorem rints1 (s : Nat) (a : Int) (w : World) (hx : s < 18446744073709551616) :
    Calls Try.prog 42 #[.int .u64 s, .slice (some ⟨w.heap.size, 0, none⟩) 1 1] (w.alloc (.cells #[.int .i64 a] 3)) fun e w' => e = .returned (.int .u64 (Hp.ints s [a] : Nat)) ∧ Below w.heap.size w w' := by
  refine (rints_any s _ [a] _ hx (seg_new w [a] _ (by simp))).mono ?_
  rintro e w' ⟨rfl, rfl⟩
  exact ⟨rfl, (Below.refl _ _).alloc (Nat.le_refl _) _⟩

theorem Rp.ids_ring {n : Int} {l : List Rp.Pt} (h : Rp.buildE n l = 0) (h0 : 0 < l.length) : Rp.ids (Rp.ring n l) = l.map (·.1) := by
  have hp := Rp.ring_peopled h h0
  have k3 := (Rp.check_ok (Rp.build_ok h).1).2.2
  unfold Rp.ids
  have hperm : ((Rp.walkL (Rp.ring n l) 0).mergeSort fun x y => decide (x ≤ y)).Perm (l.map (·.1)) := by
    refine (List.mergeSort_perm _ _).trans ?_
    rw [List.perm_ext_iff_of_nodup (Rp.walk_nodup _ _) (Rp.ids_nodup k3)]
    intro y
    rw [Rp.walk_mem 0 hp, Rp.pts_ids h]
  have hs1 : ((Rp.walkL (Rp.ring n l) 0).mergeSort fun x y => decide (x ≤ y)).Pairwise (fun x y => decide (x ≤ y) = true) := by
    refine List.pairwise_mergeSort (fun a b c h1 h2 => ?_) (fun a b => ?_) _
    · simp only [decide_eq_true_iff] at *; omega
    · simp only [Bool.or_eq_true, decide_eq_true_iff]; omega
  have hs2 : (l.map (·.1)).Pairwise (fun x y => decide (x ≤ y) = true) := by
    rw [List.pairwise_map]
    exact (Rp.rises_pair k3).imp fun {x y} hlt => by simp only [decide_eq_true_iff]; omega
  exact hperm.eq_of_pairwise (fun x y _ _ h1 h2 => by simp only [decide_eq_true_iff] at *; omega) hs1 hs2
end Go.Proofs.Ytcpcnajifdicmaa
