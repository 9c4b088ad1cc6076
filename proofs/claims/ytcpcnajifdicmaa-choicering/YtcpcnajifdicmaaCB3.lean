/- choice: the first on a ring. -/
import Derived.Test.YtcpcnajifdicmaaCB2
import Derived.Test.YtcpcnajifdicmaaRW2
import Derived.Test.YtcpcnajifdicmaaGD
namespace Go.Proofs.Ytcpcnajifdicmaa
open Go.RowKit Go.Sort
set_option linter.unusedVariables false
set_option maxRecDepth 20000

theorem lmeets_any (p : Nat) (i x y : Int) (w : World) (hp : w.cell? ⟨p, 0, none⟩ = some (.int .i64 i)) :
    Calls Try.prog 35 #[.agg #[.int .i64 x, .int .i64 y], .pointer (some ⟨p, 0, none⟩)] w fun e w' => e = .returned (.bool (x == i)) ∧ Below w.heap.size w w' := by
  have hb : Below w.heap.size w (w.alloc (.cells #[.int .i64 x, .int .i64 y] 49)) := (Below.refl _ _).alloc (Nat.le_refl _) _
  have hlt : p < w.heap.size := World.block_lt_of_cell? w _ hp
  have hpa : (w.alloc (.cells #[.int .i64 x, .int .i64 y] 49)).cell? ⟨p, 0, none⟩ = some (.int .i64 i) := (hb.cell (p := ⟨p, 0, none⟩) hlt).trans hp
  go_enter Try.func35, Try.ntmps35
  go_wp2
  go_ret
  exact ⟨rfl, hb⟩

theorem lloaded_any (p : Nat) (v : Value) (l : List Rp.Pt) (i : Int) (w : World) (hp : w.cell? ⟨p, 0, none⟩ = some v) (hv : PSeg .i64 w v l) :
    Calls Try.prog 33 #[.int .i64 i, .pointer (some ⟨p, 0, none⟩)] w fun e w' => e = .returned (.bool (Lo.has l i)) ∧ Below w.heap.size w w' := by
  have hA : Below w.heap.size w (w.alloc (.cells #[.int .i64 i] 3)) := (Below.refl _ _).alloc (Nat.le_refl _) _
  have hlt : p < w.heap.size := World.block_lt_of_cell? w _ hp
  have hpa : (w.alloc (.cells #[.int .i64 i] 3)).cell? ⟨p, 0, none⟩ = some v := (hA.cell (p := ⟨p, 0, none⟩) hlt).trans hp
  have hbox := lalloc_box w (.int .i64 i) 3
  have c : Calls Try.prog 34 #[v, .func (.func 35) #[] #[.pointer (some ⟨w.heap.size, 0, none⟩)]] (w.alloc (.cells #[.int .i64 i] 3)) fun e w' => e = .returned (.bool (Lo.has l i)) ∧ Below (w.alloc (.cells #[.int .i64 i] 3)).heap.size (w.alloc (.cells #[.int .i64 i] 3)) w' :=
    containsL1 35 ⟨w.heap.size, 0, none⟩ (fun _ _ => rfl) (fun q => q.1 == i) v l _ (hv.below hA) (fun x y W hW => lmeets_any w.heap.size i x y W ((hW.cell (p := ⟨w.heap.size, 0, none⟩) (World.block_lt_of_cell? _ _ hbox)).trans hbox))
  obtain ⟨a, cap, rfl, h1, h2, h3, h4⟩ := id hv
  clear hv h3 h4 hp hbox
  generalize Lo.has l i = R at *
  go_enter Try.func33, Try.ntmps33
  go_wp2_with fail
  with_reducible refine c.mono ?_
  rintro e w' ⟨rfl, b1⟩
  go_wp2
  go_ret
  exact ⟨rfl, Below.step hA b1⟩

theorem ifind_at {P : Int → Bool} {l : List Int} {k : Nat} (hk : k < l.length) (h : (l.take k).any P = false) (hp : P (l.getD k 0) = true) : l.find? P = some (l.getD k 0) := by
  have e : l.getD k 0 = l[k] := by simp [List.getD, hk]
  rw [e] at hp ⊢
  rw [List.find?_eq_some_iff_getElem]
  refine ⟨hp, k, hk, rfl, fun j hj => ?_⟩
  rw [← Bool.not_eq_true, List.any_eq_true] at h
  have : ¬ P l[j] = true := fun hj2 => h ⟨l[j], by rw [List.mem_take_iff_getElem]; exact ⟨j, by omega, rfl⟩, hj2⟩
  simpa using this
theorem iany_take (P : Int → Bool) (l : List Int) (k : Nat) (h : k < l.length) : (l.take (k + 1)).any P = ((l.take k).any P || P (l.getD k 0)) := by
  have e : l.getD k 0 = l[k] := by simp [List.getD, h]
  rw [List.take_succ_eq_append_getElem h, e]
  simp only [List.any_append, List.any_cons, List.any_nil, Bool.or_false]
theorem ifind_none {P : Int → Bool} {l : List Int} (h : l.any P = false) : l.find? P = none := by
  rw [List.find?_eq_none]
  intro x hx hp
  rw [← Bool.not_eq_true, List.any_eq_true] at h
  exact h ⟨x, hx, hp⟩
theorem irow_cell {w : World} {B : Nat} {v : Value} {ids : List Int} (h : w.ownsRow B 3 1 v ids.length (i64s ids)) (h0 : 0 < ids.length) : ∃ g cap, v = .slice (some ⟨g, 0, none⟩) ids.length cap ∧ ids.length ≤ cap ∧ cap ≤ maxLen ∧ g < w.heap.size ∧ ∀ j, j < ids.length → w.cell? ⟨g, j, none⟩ = some (.int .i64 (ids.getD j 0)) := by
  obtain ⟨g, c, rfl, h1, h2, h3⟩ := lrow_slice h h0
  refine ⟨g, c, rfl, h1, h2, (h.lt g rfl).2, fun j hj => ?_⟩
  rw [h.cellAt j (by omega)]
  simp [i64s, List.getD, hj]

theorem indexI1 (ft : Nat) (p : Addr) (hen : ∀ (args : Array Value) (w' : World), (callFunc ft args).run Try.prog w' = .ok (.enter ft args) w') (P : Int → Bool) (B : Nat) (v : Value) (ids : List Int) (w : World) (hv : w.ownsRow B 3 1 v ids.length (i64s ids))
    (ht : ∀ (x : Int) (W : World), Below w.heap.size w W → Calls Try.prog ft #[.int .i64 x, .pointer (some p)] W fun e w' => e = .returned (.bool (P x)) ∧ Below W.heap.size W w') :
    Calls Try.prog 36 #[v, .func (.func ft) #[] #[.pointer (some p)]] w fun e w' => ∃ r : Int, e = .returned (.int .i64 r) ∧ ((r = -1 ∧ ids.find? P = none) ∨ ∃ j : Nat, r = j ∧ j < ids.length ∧ ids.find? P = some (ids.getD j 0)) ∧ Below w.heap.size w w' := by
  obtain ⟨N, hN⟩ : ∃ N, N = ids.length := ⟨_, rfl⟩
  have HN : Hid (N = ids.length) := hN
  have HV := hidD hv
  have HTT := hidD ht
  obtain ⟨a, cap, rfl, hcap⟩ : ∃ a cap, v = .slice a N cap ∧ N ≤ maxLen := by
    rcases hv.2 with ⟨rfl, h0⟩ | ⟨gg, cc, cur, rfl, _, _, h1, h2, _⟩
    · exact ⟨none, 0, by rw [hN, h0], by rw [hN, h0]; exact Nat.zero_le _⟩
    · exact ⟨_, _, by rw [hN], by rw [hN]; exact Nat.le_trans h1 h2⟩
  unfold maxLen at hcap
  clear hN hv ht
  go_enter Try.func36, Try.ntmps36
  go_wp2_with fail
  go_loopw [8] (fun i wr => ∃ k : Nat, k ≤ N ∧ i = .int .i64 k ∧ Hid ((ids.take k).any P = false) ∧ Below w.heap.size w wr) (fun i _ => N - (intOf i).toNat)
  case atStart => exact ⟨0, Nat.zero_le _, rfl, by simp [Hid], Below.refl _ _⟩
  case round =>
    obtain ⟨k, hk, rfl, hc, hbl⟩ := hrel
    by_cases hlt : k < N
    · obtain ⟨g, c', e1, _, _, hg, hcell⟩ := irow_cell HV.out (by have := HN.out; omega)
      rw [← HN.out] at e1
      cases e1
      have Q1 := (hbl.cell (p := ⟨g, k, none⟩) hg).trans (hcell k (by have := HN.out; omega))
      have hb := HTT.out (ids.getD k 0) wr hbl
      have HT := hidD (iany_take P ids k (by have := HN.out; omega))
      have HA := hidD (fun hp => ifind_at (P := P) (l := ids) (k := k) (by have := HN.out; omega) hc.out hp)
      have HX : Hid (P (ids.getD k 0) = true → ∃ j : Nat, (k : Int) = j ∧ j < ids.length ∧ ids.find? P = some (ids.getD j 0)) := hidD (fun hp => ⟨k, rfl, by have := HN.out; omega, HA.out hp⟩)
      clear hcell HA
      generalize ids.getD k 0 = x at *
      by_cases hq : P x = true
      · rw [hq] at hb
        go_wp2_with fail
        with_reducible refine hb.mono ?_
        rintro e w2 ⟨rfl, b2⟩
        go_wp2
        go_ret
        exact ⟨_, rfl, .inr (HX.out hq), Below.step hbl b2⟩
      · rw [Bool.not_eq_true] at hq
        rw [hq] at hb
        go_wp2_with fail
        with_reducible refine hb.mono ?_
        rintro e w2 ⟨rfl, b2⟩
        have hc2 : Hid ((ids.take (k + 1)).any P = false) := by
          show (ids.take (k + 1)).any P = false
          rw [HT.out, hc.out, hq]
          rfl
        have b3 := Below.step hbl b2
        clear hb hq hbl b2
        go_wp2
        exact ⟨⟨k + 1, by omega, by go_num, hc2, b3⟩, by simp [intOf]; omega⟩
    · have hke : ids.take k = ids := List.take_of_length_le (by have := HN.out; omega)
      rw [hke] at hc
      clear hke
      go_wp2
      go_ret
      exact ⟨_, rfl, .inl ⟨rfl, ifind_none hc.out⟩, hbl⟩
end Go.Proofs.Ytcpcnajifdicmaa
