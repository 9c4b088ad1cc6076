/- ring: Build, where it builds. ring: slices.SortFunc of points that one owns. ring: Build of any backends. ring: what a built ring is; alive. -/
import Derived.Test.YtcpcnajifdicmaaRH
import Derived.Test.YtcpcnajifdicmaaRD
import Derived.Maps.AppendAt
import Derived.Shelf.SlSortCmp.InsertionK
import Derived.Shelf.SlGeneric
namespace Go.Proofs.Ytcpcnajifdicmaa
open Go.RowKit Go.Sort Go.Shelf
attribute [local go_sem] Oper.semAt_some

theorem cells_two (X : World) (a b : Value) (t : TypeId) : ∀ j u, [a, b][j]? = some u → (X.alloc (.cells #[a, b] t)).cell? ((⟨X.heap.size, 0, none⟩ : Addr).add j) = some u := by
  intro j u hj
  rw [add_plain, World.cell?_alloc_at _ _ _ _ rfl]
  simpa using hj
theorem heap_alloc_lt (W : World) (o : Obj) (b : Nat) (h : b < W.heap.size) : (W.alloc o).heap[b]? = W.heap[b]? := Below.heap_alloc W o b h
theorem grownBy_alloc3 (W : World) (o1 o2 o3 : Obj) : W.grownBy (((W.alloc o1).alloc o2).alloc o3) none :=
  ⟨rfl, rfl, rfl, by simp; omega, fun k hk _ => by rw [heap_alloc_lt _ _ _ (by simp; omega), heap_alloc_lt _ _ _ (by simp; omega), heap_alloc_lt _ _ _ hk]⟩

def KpS (Br : Nat) (W W' : World) : Prop := KpR Br W W' ∧ W.heap.size ≤ W'.heap.size
def rowP (xs : List Rp.Pt) : List Value := xs.flatMap fun x => [.int .u64 x.1, .int .i64 x.2]
theorem rowP_append (xs ys : List Rp.Pt) : rowP (xs ++ ys) = rowP xs ++ rowP ys := by simp [rowP]
theorem rowP_length (xs : List Rp.Pt) : (rowP xs).length = xs.length * 2 := by
  induction xs with
  | nil => rfl
  | cons x r ih => simp only [rowP, List.flatMap_cons, List.length_append, List.length_cons, List.length_nil] at *; omega
theorem Try.infoP : (Try.prog.info? 79).map (fun i => (i.zero, i.size, i.bytes)) = some (some (.agg #[.int .u64 0, .int .i64 0]), 2, 16) := by kernel_rfl

theorem Rp.size_take (n : Int) (l : List Rp.Pt) (k : Nat) (h : k < l.length) : Rp.size n (l.take (k + 1)) = Rp.size n (l.take k) + Rp.each n (l.getD k (0, 0)) := by
  unfold Rp.size
  rw [List.take_succ_eq_append_getElem h, List.map_append, List.sum_append, pgetD_at h]
  simp
theorem Rp.size_le (n : Int) (l : List Rp.Pt) (k : Nat) : Rp.size n (l.take k) ≤ Rp.size n l := by
  unfold Rp.size
  conv => rhs; rw [← List.take_append_drop k l]
  rw [List.map_append, List.sum_append]
  omega
theorem Rp.pts_take (n : Int) (l : List Rp.Pt) (k : Nat) (h : k < l.length) : Rp.pts n (l.take (k + 1)) = Rp.pts n (l.take k) ++ Rp.ptsOf n (l.getD k (0, 0)) := by
  unfold Rp.pts
  rw [List.take_succ_eq_append_getElem h, List.flatMap_append, pgetD_at h]
  simp
theorem Rp.ptsOf_length (n : Int) (b : Rp.Pt) : (Rp.ptsOf n b).length = Rp.each n b := by simp [Rp.ptsOf]
theorem Rp.pts_length (n : Int) (l : List Rp.Pt) : (Rp.pts n l).length = Rp.size n l := by
  unfold Rp.pts Rp.size
  rw [List.length_flatMap]
  congr 1
  exact List.map_congr_left fun b _ => Rp.ptsOf_length n b
theorem Rp.check_ok {l : List Rp.Pt} (h : Rp.checkE l = 0) : l.length ≤ 32 ∧ (∀ b ∈ l, 0 ≤ b.1 ∧ b.1 ≤ 2147483647 ∧ 1 ≤ b.2 ∧ b.2 ≤ 16) ∧ Rp.rises l = true := by
  unfold Rp.checkE at h
  split at h
  · cases h
  · split at h
    · cases h
    · split at h
      · rename_i h1 h2 h3
        refine ⟨by omega, fun b hb => ?_, h3⟩
        have := List.any_eq_false.1 (Bool.not_eq_true _ ▸ h2) b hb
        rw [out_iff] at this
        omega
      · cases h

/-- A box holds a slice that owns just these points; marks lie as they should. -/
def HoldP (n₀ : Nat) (w : World) (Br : Nat) (Ds : List Nat) (xs : List Rp.Pt) (W : World) : Prop :=
  (∃ v, Boxed W Br 24 v ∧ W.ownsRow n₀ 79 2 v xs.length (rowP xs) ∧ v ≠ .slice none 0 0) ∧ Below n₀ w W ∧ Marked Ds W ∧ n₀ ≤ Br

theorem HoldP.own {n₀ : Nat} {w : World} {Br : Nat} {Ds : List Nat} (f : List Rp.Pt → List Rp.Pt) {B : Nat} (hn : n₀ ≤ w.heap.size) (hB : n₀ ≤ B) (hD : ∀ D ∈ Ds, D < B) : OwnFrom B (fun pre W => HoldP n₀ w Br Ds (f pre) W) := by
  intro s X Y row hs hg hr
  obtain ⟨⟨v, h1, h2, h3⟩, h4, h5, h6⟩ := hs
  refine ⟨⟨v, h1.kept hg (fun e => ?_), h2.kept hg ?_, h3⟩, ownFrom_below (β := Unit) hn hB () X Y row h4 hg hr, marked_own Ds B hD () X Y row h5 hg hr, h6⟩
  · obtain ⟨_, o, ho, hc⟩ := hr Br e.symm
    rw [show X.heap[Br]? = _ from h1] at ho
    cases ho
    cases hc
  · rcases h2.2 with ⟨rfl, _⟩ | ⟨g, cap, cur, rfl, _, hgb, _⟩
    · exact .inl rfl
    · refine .inr fun e => ?_
      obtain ⟨_, o, ho, hc⟩ := hr g (by rw [← e]; rfl)
      rw [hgb] at ho
      cases ho
      cases hc
theorem HoldP.grown {n₀ : Nat} {w : World} {Br : Nat} {Ds : List Nat} {xs : List Rp.Pt} {W W' : World} (h : HoldP n₀ w Br Ds xs W) (hn : n₀ ≤ w.heap.size) (hg : W.grownBy W' none) : HoldP n₀ w Br Ds xs W' := by
  obtain ⟨⟨v, h1, h2, h3⟩, h4, h5, h6⟩ := h
  refine ⟨⟨v, h1.kept hg (by simp), h2.kept hg (by cases hv : v.ownBlock <;> simp), h3⟩, h4.grown hg (Nat.le_trans hn h4.size) (fun k e => by cases e), h5.kept fun D hD => hg.block D (h5.lt D hD) (by simp), h6⟩
theorem kpS_t {Br : Nat} {A B C : World} (h : KpS Br A B) (k : KpS Br B C) : KpS Br A C := ⟨h.1.trans k.1, Nat.le_trans h.2 k.2⟩
theorem kpS_b {Br : Nat} {w : World} (W : World) (l : Nat) (o o' : Obj) (_ : w.heap.size ≤ l) (h : W.heap[l]? = some o) (hc : o.isCells = false) (_ : o.isWalk = false) : KpS Br W (W.putObj l o') := by
  refine ⟨fun b c t f hb ht hh => ?_, by simp [World.putObj]⟩
  rw [put_block]
  · exact hh
  · rintro rfl
    rw [h] at hh
    cases hh
    cases hc
theorem kpS_grown {Br : Nat} {W W' : World} (hg : W.grownBy W' none) : KpS Br W W' := ⟨KpR.grown hg, hg.size⟩

end Go.Proofs.Ytcpcnajifdicmaa

namespace Go.Proofs
end Go.Proofs
namespace Go.Proofs.Ytcpcnajifdicmaa
open Go.RowKit Go.Sort Go.Shelf

theorem aggP (w : World) : (isAgg 79).run Try.prog w = .ok true w := by kernel_rfl
theorem sizeP (w : World) : (Go.sizeOf 79).run Try.prog w = .ok 2 w := by kernel_rfl
def encP (x : Rp.Pt) : List Value := [.int .u64 x.1, .int .i64 x.2]
theorem ltP : ltOf Rp.cf = Rp.lt := by
  funext x y
  exact Rp.cf_lt x y
theorem swoP : SWO (ltOf Rp.cf) := by
  rw [ltP]
  refine ⟨fun x => ?_, fun x y z h k => ?_, fun x y z h k => ?_⟩
  · rw [Rp.lt_false]; omega
  · rw [Rp.lt_iff] at *; omega
  · rw [Rp.lt_false] at *; omega
theorem totP (x y : Rp.Pt) (h : ltOf Rp.cf x y = false) (k : ltOf Rp.cf y x = false) : x = y := by
  rw [ltP, Rp.lt_false] at *
  exact Prod.ext (by omega) (by omega)
theorem mergeP (l : List Rp.Pt) : (l.mergeSort fun x y => !(ltOf Rp.cf) y x) = l.mergeSort Rp.le := by
  have : (fun x y => !(ltOf Rp.cf) y x) = Rp.le := by
    funext x y
    rw [ltP]
    rfl
  rw [this]
theorem cmpP (blk off size : Nat) (w : World) : CmpLays Try.prog 63 #[] encP 2 Rp.cf blk off size w := fun _ _ _ _ x y => order_any x y _

theorem rowP_at (xs : List Rp.Pt) (j : Nat) (h : j < xs.length * 2) : (rowP xs)[j]? = some ((encP xs[j / 2]!)[j % 2]!) := by
  induction xs generalizing j with
  | nil => simp at h
  | cons x r ih =>
    match j with
    | 0 => rfl
    | 1 => rfl
    | j + 2 =>
      have h' : j < r.length * 2 := by simp at h; omega
      have e1 : (j + 2) / 2 = j / 2 + 1 := by omega
      have e2 : (j + 2) % 2 = j % 2 := by omega
      rw [e1, e2]
      show (rowP r)[j]? = _
      rw [ih j h']
      simp
theorem flat_at (d : Array Rp.Pt) (j : Nat) (h : j < d.size * 2) : some ((flatK encP 2 d)[j]!) = (rowP d.toList)[j]? := by
  have e : d[j / 2]! = d.toList[j / 2]! := by rw [getElem!_def, getElem!_def, Array.getElem?_toList]
  rw [get_flatK encP 2 d j h, rowP_at d.toList j (by simpa using h), e]

theorem holds_of_row {W : World} {n₀ g cap : Nat} {d : List Rp.Pt} (h : W.ownsRow n₀ 79 2 (.slice (some ⟨g, 0, none⟩) d.length cap) d.length (rowP d)) : HoldsK encP 2 W g 0 d.toArray ∧ g < W.heap.size := by
  rcases h.2 with ⟨h1, _⟩ | ⟨g3, cap3, cur, h1, _, hgb, _, _, hsz, htk⟩
  · cases h1
  · cases h1
    refine ⟨fun j hj => ?_, (Array.getElem?_eq_some_iff.1 hgb).1⟩
    have hj' : j < d.length * 2 := by simpa using hj
    have e := flat_at d.toArray j (by simpa using hj')
    have hcur : cur[j]? = some ((flatK encP 2 d.toArray)[j]!) := by
      rw [e]
      show _ = (rowP d)[j]?
      rw [← htk, List.getElem?_take_of_lt hj', Array.getElem?_toList]
    refine ⟨?_, ?_⟩
    · rw [Nat.zero_add]
      simp [World.cell?, hgb, hcur]
    · simp [World.frozen?, hgb]

end Go.Proofs.Ytcpcnajifdicmaa

namespace Go.Proofs.Ytcpcnajifdicmaa
open Go.RowKit Go.Sort Go.Shelf

theorem pseg_of_row {W : World} {n₀ : Nat} {v : Value} {d : List Rp.Pt} (h : W.ownsRow n₀ 79 2 v d.length (rowP d)) : PSeg .u64 W v d := by
  rcases h.2 with ⟨rfl, h0⟩ | ⟨g, cap, cur, rfl, _, hgb, hle, hmx, hsz, htk⟩
  · have : d = [] := List.length_eq_zero_iff.1 h0
    subst this
    exact PSeg.nil _ _
  · refine ⟨_, cap, rfl, hle, hmx, (fun h => by cases h), fun g' off ar ha h0 => ?_⟩
    cases ha
    refine ⟨rfl, (Array.getElem?_eq_some_iff.1 hgb).1, fun i hi => ?_⟩
    have key : ∀ c, c < 2 → W.cell? ⟨g, 0 + i * 2 + c, none⟩ = some ((encP d[i]!)[c]!) := by
      intro c hc
      have hj : i * 2 + c < d.length * 2 := by omega
      have e := rowP_at d (i * 2 + c) hj
      rw [show (i * 2 + c) / 2 = i by omega, show (i * 2 + c) % 2 = c by omega] at e
      rw [← e, ← htk, List.getElem?_take_of_lt hj, Array.getElem?_toList, Nat.zero_add]
      simp [World.cell?, hgb]
    have e : d[i]! = d.getD i (0, 0) := by rw [pgetD_at hi, getElem!_pos d i hi]
    have k0 := key 0 (by omega)
    have k1 := key 1 (by omega)
    rw [e] at k0 k1
    exact ⟨k0, k1⟩

end Go.Proofs.Ytcpcnajifdicmaa

namespace Go.Proofs.Ytcpcnajifdicmaa
open Go.RowKit Go.Sort Go.Shelf

theorem Rp.build_ok {n : Int} {l : List Rp.Pt} (h : Rp.buildE n l = 0) : Rp.checkE l = 0 ∧ 1 ≤ n ∧ n ≤ 64 ∧ Rp.size n l ≤ 1024 := by
  unfold Rp.buildE at h
  split at h
  · rename_i h1; exact absurd h h1
  · split at h
    · cases h
    · split at h
      · cases h
      · rename_i h1 h2 h3
        exact ⟨Decidable.of_not_not h1, by omega, by omega, by omega⟩
theorem Rp.ring_eq {n : Int} {l : List Rp.Pt} (h : Rp.buildE n l = 0) : Rp.ring n l = (Rp.pts n l).mergeSort Rp.le := if_pos h
theorem Rp.ring_perm {n : Int} {l : List Rp.Pt} (h : Rp.buildE n l = 0) : (Rp.ring n l).Perm (Rp.pts n l) := by rw [Rp.ring_eq h]; exact List.mergeSort_perm _ _
theorem Rp.ring_pair {n : Int} {l : List Rp.Pt} (h : Rp.buildE n l = 0) : (Rp.ring n l).Pairwise (fun x y => Rp.le x y = true) := by
  rw [Rp.ring_eq h]
  exact List.pairwise_mergeSort Rp.le_trans (fun a b => Rp.le_total a b) _
theorem Rp.ring_length {n : Int} {l : List Rp.Pt} (h : Rp.buildE n l = 0) : (Rp.ring n l).length = Rp.size n l := by rw [(Rp.ring_perm h).length_eq, Rp.pts_length]
theorem Rp.pts_mem {n : Int} {l : List Rp.Pt} {p : Rp.Pt} (h : p ∈ Rp.pts n l) : ∃ b ∈ l, p.2 = b.1 := by
  unfold Rp.pts at h
  rw [List.mem_flatMap] at h
  obtain ⟨b, hb, hp⟩ := h
  unfold Rp.ptsOf at hp
  rw [List.mem_map] at hp
  obtain ⟨k, _, rfl⟩ := hp
  exact ⟨b, hb, rfl⟩
theorem Rp.ring_mem {n : Int} {l : List Rp.Pt} (h : Rp.buildE n l = 0) {p : Rp.Pt} (hp : p ∈ Rp.ring n l) : ∃ b ∈ l, p.2 = b.1 := Rp.pts_mem ((Rp.ring_perm h).mem_iff.1 hp)
theorem Rp.ring_whole {n : Int} {l : List Rp.Pt} (h : Rp.buildE n l = 0) : Rp.wholeE (Rp.ring n l) = 0 := by
  obtain ⟨h1, h2, h3, h4⟩ := Rp.build_ok h
  obtain ⟨k1, k2, k3⟩ := Rp.check_ok h1
  unfold Rp.wholeE
  rw [if_neg (by rw [Rp.ring_length h]; omega), if_neg]
  rw [Rp.sorted_to (Rp.ring_pair h)]
  simp only [Bool.not_true, Bool.or_false, Bool.not_eq_true]
  rw [List.any_eq_false]
  intro p hp
  obtain ⟨b, hb, e⟩ := Rp.ring_mem h hp
  have := k2 b hb
  simp only [decide_eq_true_iff]
  omega
theorem Rp.ring_people {n : Int} {l : List Rp.Pt} (h : Rp.buildE n l = 0) : Rp.peopledE (Rp.ring n l) = if (Rp.ring n l).length = 0 then 71 else 0 := by
  unfold Rp.peopledE
  rw [Rp.ring_whole h, if_neg (by omega)]
theorem Rp.owner_mem {r : List Rp.Pt} (h : Int) (h0 : 0 < r.length) : ∃ p ∈ r, Rp.owner r h = p.2 := by
  have := Rp.place_lt r h h0
  unfold Rp.owner
  rw [pgetD_at this]
  exact ⟨_, List.getElem_mem _, rfl⟩

theorem Rp.alive_e : Rp.buildE 3 [(4, 2)] = 0 := by decide
theorem Rp.alive_len : (Rp.ring 3 [(4, 2)]).length = 6 := by rw [Rp.ring_length Rp.alive_e]; decide
theorem Rp.alive_p : Rp.peopledE (Rp.ring 3 [(4, 2)]) = 0 := by rw [Rp.ring_people Rp.alive_e, if_neg (by rw [Rp.alive_len]; omega)]
theorem Rp.alive_l (h : Int) : Rp.lookI (Rp.ring 3 [(4, 2)]) h = 4 := by
  unfold Rp.lookI
  rw [if_pos Rp.alive_p]
  obtain ⟨p, hp, e⟩ := Rp.owner_mem (r := Rp.ring 3 [(4, 2)]) h (by rw [Rp.alive_len]; omega)
  obtain ⟨b, hb, e2⟩ := Rp.ring_mem Rp.alive_e hp
  simp only [List.mem_singleton] at hb
  rw [e, e2, hb]

end Go.Proofs.Ytcpcnajifdicmaa

