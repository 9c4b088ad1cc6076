/- message: takeMessage. -/
import Derived.Test.YtoadcaennlfadaaMM8
namespace Go.Proofs.Ytoadcaennlfadaa
open Go.RowKit
set_option maxRecDepth 20000

theorem Seg.ch {X : Nat → TypeId → Prop} {k : IntKind} {w w' : World} {v : Value} {l : List Int} (h : Seg k w v l) (hc : Ch X w w') (hne : ∀ b T, v.ownBlock = some b → ¬ X b T) : Seg k w' v l := by
  obtain ⟨a, cap, rfl, h1, h2, h3, h4⟩ := h
  refine ⟨a, cap, rfl, h1, h2, h3, ?_⟩
  intro y hy i hi
  obtain ⟨b, off, rfl, hb, hcell⟩ := seg_at (by omega) h3 h4
  cases hy
  rw [add_plain, cell_heap (w := w) (w' := w')]
  · exact hcell i hi
  · obtain ⟨o, ho⟩ : ∃ o, w.heap[b]? = some o := ⟨w.heap[b], by simp [hb]⟩
    rw [ho]
    exact hc.block b o ho (fun _ T _ _ => hne b T (by simp [Value.ownBlock]))
theorem Ch.grownBy {n : Nat} {w w' : World} (h : Ch (Xn n) w w') : w.grownBy w' (some n) :=
  ⟨h.os, h.tape, h.output, h.size, fun g hg hne => by
    obtain ⟨o, ho⟩ : ∃ o, w.heap[g]? = some o := ⟨w.heap[g], by simp [hg]⟩
    rw [ho]
    exact h.block g o ho (fun _ _ _ _ => fun e => hne (by rw [e]))⟩

/-- Blocks that takeMessage turns. -/
def Xr (n b : Nat) (g : Nat) (_ : TypeId) : Prop := g = n ∨ g = b

/-- How far it has come. -/
structure Tk (w1 wr : World) (n b : Nat) (bv : Value) (l : List Int) (p : Int) (ns t : List Int) (tv : Value) : Prop where
  ch : Ch (Xr n b) w1 wr
  rdg : Rdg wr n bv l p
  box : Bx wr b (ns.map (Value.int .i64)) 83
  len : ns.length = 10
  own : wr.ownsRow w1.heap.size 5 1 tv t.length (u8s t)
  p0 : 0 ≤ p
  p1 : p ≤ l.length

theorem Xn.r {n b : Nat} : ∀ g T, Xn n g T → Xr n b g T := fun _ _ h => .inl h
theorem Tk.text {w1 wr w2 : World} {n b : Nat} {bv : Value} {l : List Int} {p q : Int} {ns t t2 : List Int} {tv tv2 : Value} (h : Tk w1 wr n b bv l p ns t tv) (hnb : n ≠ b) (hc : Ch (Xn n) wr w2) (hr : Rdg w2 n bv l q) (ho : w2.ownsRow wr.heap.size 5 1 tv2 t2.length (u8s t2)) (q0 : 0 ≤ q) (q1 : q ≤ l.length) :
    Tk w1 w2 n b bv l q ns t2 tv2 :=
  ⟨h.ch.trans (hc.mono Xn.r), hr, h.box.ch hc (fun e => hnb e.symm), h.len, ownsRow_lower ho h.ch.size, q0, q1⟩
theorem Tk.number {w1 wr w2 : World} {n b : Nat} {bv : Value} {l : List Int} {p q y : Int} {ns t : List Int} {tv : Value} (h : Tk w1 wr n b bv l p ns t tv) (hnb : n ≠ b) (hn1 : n < w1.heap.size) (hb1 : b < w1.heap.size) (hc : Ch (Xn n) wr w2) (hr : Rdg w2 n bv l q) (q0 : 0 ≤ q) (q1 : q ≤ l.length) (j : Nat)  (hbv : 0 < l.length → bv.ownBlock ≠ some b) :
    Tk w1 (w2.setCell ⟨b, j, none⟩ (.int .i64 y)) n b bv l q (ns.set j y) t tv := by
  have hB := h.box.ch hc (fun e => hnb e.symm)
  have hcs : Ch (Xr n b) w2 (w2.setCell ⟨b, j, none⟩ (.int .i64 y)) := Ch.set hB (.inr rfl) _
  have hcn : Ch (Xn b) w2 (w2.setCell ⟨b, j, none⟩ (.int .i64 y)) := Ch.set hB rfl _
  have ho2 := h.own.kept hc.grownBy (.inr fun he => by have := (h.own.lt _ he).1; omega)
  refine ⟨(h.ch.trans (hc.mono Xn.r)).trans hcs, ⟨hr.box.other hnb _, hr.seg.other hcn hbv, hr.apart⟩, ?_, by rw [List.length_set]; exact h.len, ?_, q0, q1⟩
  · have := hB.set j (.int .i64 y)
    rw [List.map_set]
    exact this
  · exact ownsRow_setCell_other ho2 (fun he => by have := (ho2.lt _ he).1; simp at this; omega) _

/-- What is new may turn, and the block n. -/
def Xw (w : World) (n : Nat) (g : Nat) (_ : TypeId) : Prop := g = n ∨ w.heap.size ≤ g
theorem Ch.shrink {w w' : World} {n : Nat} (h : Ch (Xw w n) w w') : Ch (Xn n) w w' :=
  ⟨h.os, h.tape, h.output, h.size, fun g o ho hx => h.block g o ho (fun cs T r e hX => by
    rcases hX with hX | hX
    · exact hx cs T r e hX
    · have := lt_of_some ho
      omega)⟩
theorem Xw.n {w : World} {n : Nat} : ∀ g T, Xn n g T → Xw w n g T := fun _ _ h => .inl h
theorem Xw.r {w : World} {n b : Nat} (hb : w.heap.size ≤ b) : ∀ g T, Xr n b g T → Xw w n g T := fun _ _ h => h.elim .inl fun h => .inr (by rw [h]; exact hb)
theorem own_here (k n c : Nat) : ∀ b, (Value.slice (some ⟨k, 0, none⟩) n c).ownBlock = some b → k ≤ b := fun b hb => by simp [Value.ownBlock] at hb; omega
set_option maxHeartbeats 4000000 in
theorem usedBy_own (k : Int) (w : World) : Calls Try.prog 49 #[.int .i64 k] w fun e w' => ∃ u, e = .returned u ∧ Seg .i64 w' u (usedP k) ∧ Below w.heap.size w w' ∧ ∀ b, u.ownBlock = some b → w.heap.size ≤ b := by
  have hal : ∀ o, Below w.heap.size w (w.alloc o) := fun o => (Below.refl _ w).alloc (Nat.le_refl _) o
  by_cases h1 : k = 1
  · subst h1
    have hu : usedP 1 = [1, 0, 6] := rfl
    rw [hu]
    have hsg := seg_of_row .i64 w [1, 0, 6] 3 (by decide)
    clear hu
    go_enter Try.func49, Try.ntmps49
    go_wp2
    all_goals (go_ret; exact ⟨_, rfl, hsg, hal _, own_here _ _ _⟩)
  by_cases h8 : k = 8
  · subst h8
    have hu : usedP 8 = [1, 0, 6] := rfl
    rw [hu]
    have hsg := seg_of_row .i64 w [1, 0, 6] 3 (by decide)
    clear hu
    go_enter Try.func49, Try.ntmps49
    go_wp2
    all_goals (go_ret; exact ⟨_, rfl, hsg, hal _, own_here _ _ _⟩)
  by_cases h2 : k = 2
  · subst h2
    have hu : usedP 2 = [1, 0, 2, 3, 6] := rfl
    rw [hu]
    have hsg := seg_of_row .i64 w [1, 0, 2, 3, 6] 3 (by decide)
    clear hu
    go_enter Try.func49, Try.ntmps49
    go_wp2
    all_goals (go_ret; exact ⟨_, rfl, hsg, hal _, own_here _ _ _⟩)
  by_cases h3 : k = 3
  · subst h3
    have hu : usedP 3 = [1, 0, 2, 3, 4, 5, 7, 10] := rfl
    rw [hu]
    have hsg := seg_of_row .i64 w [1, 0, 2, 3, 4, 5, 7, 10] 3 (by decide)
    clear hu
    go_enter Try.func49, Try.ntmps49
    go_wp2
    all_goals (go_ret; exact ⟨_, rfl, hsg, hal _, own_here _ _ _⟩)
  by_cases h4 : k = 4
  · subst h4
    have hu : usedP 4 = [1, 0, 2, 3, 4, 8, 9, 10] := rfl
    rw [hu]
    have hsg := seg_of_row .i64 w [1, 0, 2, 3, 4, 8, 9, 10] 3 (by decide)
    clear hu
    go_enter Try.func49, Try.ntmps49
    go_wp2
    all_goals (go_ret; exact ⟨_, rfl, hsg, hal _, own_here _ _ _⟩)
  by_cases h5 : k = 5
  · subst h5
    have hu : usedP 5 = [1, 0, 2, 3, 4, 5] := rfl
    rw [hu]
    have hsg := seg_of_row .i64 w [1, 0, 2, 3, 4, 5] 3 (by decide)
    clear hu
    go_enter Try.func49, Try.ntmps49
    go_wp2
    all_goals (go_ret; exact ⟨_, rfl, hsg, hal _, own_here _ _ _⟩)
  by_cases h6 : k = 6
  · subst h6
    have hu : usedP 6 = [1, 0, 2, 3, 4] := rfl
    rw [hu]
    have hsg := seg_of_row .i64 w [1, 0, 2, 3, 4] 3 (by decide)
    clear hu
    go_enter Try.func49, Try.ntmps49
    go_wp2
    all_goals (go_ret; exact ⟨_, rfl, hsg, hal _, own_here _ _ _⟩)
  by_cases h7 : k = 7
  · subst h7
    have hu : usedP 7 = [1, 0, 2, 3, 4] := rfl
    rw [hu]
    have hsg := seg_of_row .i64 w [1, 0, 2, 3, 4] 3 (by decide)
    clear hu
    go_enter Try.func49, Try.ntmps49
    go_wp2
    all_goals (go_ret; exact ⟨_, rfl, hsg, hal _, own_here _ _ _⟩)
  have hu : usedP k = [] := by simp [usedP, h1, h2, h3, h4, h5, h6, h7, h8]
  rw [hu]
  go_enter Try.func49, Try.ntmps49
  go_wp2
  all_goals (go_ret; exact ⟨_, rfl, Seg.nil _ _, Below.refl _ _, fun b hb => by simp [Value.ownBlock] at hb⟩)

theorem textI_len (l : List Int) (p : Int) : (Pl.textI l p 1024).1.length ≤ 1024 := by
  unfold Pl.textI
  repeat' split
  · simp
  · simp
  · rw [List.length_take]; omega
  · simp
theorem decFs_text {l r t t2 ns : List Int} {p q : Int} (h : Pl.textI l p 1024 = (t2, q, 0)) : decFs l (10 :: r) p ns t = decFs l r q ns t2 := by
  rw [decFs, if_pos rfl, h]
  rfl
theorem decFs_textE {l r t t2 ns : List Int} {p q er : Int} (h : Pl.textI l p 1024 = (t2, q, er)) (h0 : er ≠ 0) : decFs l (10 :: r) p ns t = (ns, t, p, er) := by
  rw [decFs, if_pos rfl, h]
  simp only
  rw [if_neg h0]
theorem decFs_num {l r t ns : List Int} {p q m : Int} {j : Nat} (hj : (j : Int) ≠ 10) (h : Pl.getI l p = (m, q, 0)) (hm : m ≤ 2147483647) : decFs l ((j : Int) :: r) p ns t = decFs l r q (ns.set j m) t := by
  rw [decFs, if_neg hj, h]
  simp only
  rw [if_pos trivial, if_pos hm]
  rfl
theorem decFs_numB {l r t ns : List Int} {p q m : Int} {j : Nat} (hj : (j : Int) ≠ 10) (h : Pl.getI l p = (m, q, 0)) (hm : ¬ m ≤ 2147483647) : decFs l ((j : Int) :: r) p ns t = (ns, t, p, 4) := by
  rw [decFs, if_neg hj, h]
  simp only
  rw [if_pos trivial, if_neg hm]
theorem decFs_numE {l r t ns : List Int} {p q m er : Int} {j : Nat} (hj : (j : Int) ≠ 10) (h : Pl.getI l p = (m, q, er)) (h0 : er ≠ 0) : decFs l ((j : Int) :: r) p ns t = (ns, t, p, er) := by
  rw [decFs, if_neg hj, h]
  simp only
  rw [if_neg h0]
theorem drop_cons {l : List Int} {k : Nat} (h : k < l.length) : l.drop k = l.getD k 0 :: l.drop (k + 1) := by
  rw [List.drop_eq_getElem_cons h, getD_at h]
end Go.Proofs.Ytoadcaennlfadaa
