/- ring: Build, where it builds. -/
import Derived.Test.YtcpcnajifdicmaaRH
import Derived.Test.YtcpcnajifdicmaaRD
import Derived.Maps.AppendAt
namespace Go.Proofs.Ytcpcnajifdicmaa
open Go.RowKit Go.Sort Go.Shelf
attribute [local go_sem] Oper.semAt_some

theorem cells_two (X : World) (a b : Value) (t : TypeId) : ∀ j u, [a, b][j]? = some u → (X.alloc (.cells #[a, b] t)).cell? ((⟨X.heap.size, 0, none⟩ : Addr).add j) = some u := by
  intro j u hj
  rw [add_plain, World.cell?_alloc_at _ _ _ _ rfl]
  simpa using hj
theorem heap_alloc_lt (W : World) (o : Obj) (b : Nat) (h : b < W.heap.size) : (W.alloc o).heap[b]? = W.heap[b]? := Below.heap_alloc W o b h
theorem grownBy_alloc3 (W : World) (o1 o2 o3 : Obj) : W.grownBy (((W.alloc o1).alloc o2).alloc o3) none :=
  ⟨rfl, rfl, rfl, by simp; omega, fun k hk _ => by rw [heap_alloc_lt _ _ _ (by simp; omega), heap_alloc_lt _ _ _ (by simp; omega), heap_alloc_lt _ _ _ hk]⟩

def KpS (Br : Nat) (W W' : World) : Prop := KpR Br W W' ∧ W.heap.size ≤ W'.heap.size
def rowP (xs : List Rp.Pt) : List Value := xs.flatMap fun x => [.int .u64 x.1, .int .i64 x.2]
theorem rowP_append (xs ys : List Rp.Pt) : rowP (xs ++ ys) = rowP xs ++ rowP ys := by simp [rowP]
theorem rowP_length (xs : List Rp.Pt) : (rowP xs).length = xs.length * 2 := by
  induction xs with
  | nil => rfl
  | cons x r ih => simp only [rowP, List.flatMap_cons, List.length_append, List.length_cons, List.length_nil] at *; omega
theorem Try.infoP : (Try.prog.info? 79).map (fun i => (i.zero, i.size, i.bytes)) = some (some (.agg #[.int .u64 0, .int .i64 0]), 2, 16) := by kernel_rfl

theorem Rp.size_take (n : Int) (l : List Rp.Pt) (k : Nat) (h : k < l.length) : Rp.size n (l.take (k + 1)) = Rp.size n (l.take k) + Rp.each n (l.getD k (0, 0)) := by
  unfold Rp.size
  rw [List.take_succ_eq_append_getElem h, List.map_append, List.sum_append, pgetD_at h]
  simp
theorem Rp.size_le (n : Int) (l : List Rp.Pt) (k : Nat) : Rp.size n (l.take k) ≤ Rp.size n l := by
  unfold Rp.size
  conv => rhs; rw [← List.take_append_drop k l]
  rw [List.map_append, List.sum_append]
  omega
theorem Rp.pts_take (n : Int) (l : List Rp.Pt) (k : Nat) (h : k < l.length) : Rp.pts n (l.take (k + 1)) = Rp.pts n (l.take k) ++ Rp.ptsOf n (l.getD k (0, 0)) := by
  unfold Rp.pts
  rw [List.take_succ_eq_append_getElem h, List.flatMap_append, pgetD_at h]
  simp
theorem Rp.ptsOf_length (n : Int) (b : Rp.Pt) : (Rp.ptsOf n b).length = Rp.each n b := by simp [Rp.ptsOf]
theorem Rp.pts_length (n : Int) (l : List Rp.Pt) : (Rp.pts n l).length = Rp.size n l := by
  unfold Rp.pts Rp.size
  rw [List.length_flatMap]
  congr 1
  exact List.map_congr_left fun b _ => Rp.ptsOf_length n b
theorem Rp.check_ok {l : List Rp.Pt} (h : Rp.checkE l = 0) : l.length ≤ 32 ∧ (∀ b ∈ l, 0 ≤ b.1 ∧ b.1 ≤ 2147483647 ∧ 1 ≤ b.2 ∧ b.2 ≤ 16) ∧ Rp.rises l = true := by
  unfold Rp.checkE at h
  split at h
  · cases h
  · split at h
    · cases h
    · split at h
      · rename_i h1 h2 h3
        refine ⟨by omega, fun b hb => ?_, h3⟩
        have := List.any_eq_false.1 (Bool.not_eq_true _ ▸ h2) b hb
        rw [out_iff] at this
        omega
      · cases h

/-- A box holds a slice that owns just these points; marks lie as they should. -/
def HoldP (n₀ : Nat) (w : World) (Br : Nat) (Ds : List Nat) (xs : List Rp.Pt) (W : World) : Prop :=
  (∃ v, Boxed W Br 24 v ∧ W.ownsRow n₀ 79 2 v xs.length (rowP xs) ∧ v ≠ .slice none 0 0) ∧ Below n₀ w W ∧ Marked Ds W ∧ n₀ ≤ Br

theorem HoldP.own {n₀ : Nat} {w : World} {Br : Nat} {Ds : List Nat} (f : List Rp.Pt → List Rp.Pt) {B : Nat} (hn : n₀ ≤ w.heap.size) (hB : n₀ ≤ B) (hD : ∀ D ∈ Ds, D < B) : OwnFrom B (fun pre W => HoldP n₀ w Br Ds (f pre) W) := by
  intro s X Y row hs hg hr
  obtain ⟨⟨v, h1, h2, h3⟩, h4, h5, h6⟩ := hs
  refine ⟨⟨v, h1.kept hg (fun e => ?_), h2.kept hg ?_, h3⟩, ownFrom_below (β := Unit) hn hB () X Y row h4 hg hr, marked_own Ds B hD () X Y row h5 hg hr, h6⟩
  · obtain ⟨_, o, ho, hc⟩ := hr Br e.symm
    rw [show X.heap[Br]? = _ from h1] at ho
    cases ho
    cases hc
  · rcases h2.2 with ⟨rfl, _⟩ | ⟨g, cap, cur, rfl, _, hgb, _⟩
    · exact .inl rfl
    · refine .inr fun e => ?_
      obtain ⟨_, o, ho, hc⟩ := hr g (by rw [← e]; rfl)
      rw [hgb] at ho
      cases ho
      cases hc
theorem HoldP.grown {n₀ : Nat} {w : World} {Br : Nat} {Ds : List Nat} {xs : List Rp.Pt} {W W' : World} (h : HoldP n₀ w Br Ds xs W) (hn : n₀ ≤ w.heap.size) (hg : W.grownBy W' none) : HoldP n₀ w Br Ds xs W' := by
  obtain ⟨⟨v, h1, h2, h3⟩, h4, h5, h6⟩ := h
  refine ⟨⟨v, h1.kept hg (by simp), h2.kept hg (by cases hv : v.ownBlock <;> simp), h3⟩, h4.grown hg (Nat.le_trans hn h4.size) (fun k e => by cases e), h5.kept fun D hD => hg.block D (h5.lt D hD) (by simp), h6⟩
theorem kpS_t {Br : Nat} {A B C : World} (h : KpS Br A B) (k : KpS Br B C) : KpS Br A C := ⟨h.1.trans k.1, Nat.le_trans h.2 k.2⟩
theorem kpS_b {Br : Nat} {w : World} (W : World) (l : Nat) (o o' : Obj) (_ : w.heap.size ≤ l) (h : W.heap[l]? = some o) (hc : o.isCells = false) (_ : o.isWalk = false) : KpS Br W (W.putObj l o') := by
  refine ⟨fun b c t f hb ht hh => ?_, by simp [World.putObj]⟩
  rw [put_block]
  · exact hh
  · rintro rfl
    rw [h] at hh
    cases hh
    cases hc
theorem kpS_grown {Br : Nat} {W W' : World} (hg : W.grownBy W' none) : KpS Br W W' := ⟨KpR.grown hg, hg.size⟩

end Go.Proofs.Ytcpcnajifdicmaa
