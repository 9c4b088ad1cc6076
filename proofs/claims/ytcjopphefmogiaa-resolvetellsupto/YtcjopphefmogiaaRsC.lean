/- resolve: backends and snapshots compared; which snapshot may be; weight. -/
import Derived.Test.YtcjopphefmogiaaRsB
import Derived.Laws.StructEq
namespace Go.Proofs.Ytcjopphefmogiaa
open Go.RowKit
set_option linter.unusedVariables false
set_option maxRecDepth 20000

set_option maxHeartbeats 2000000 in
theorem bsame_true (v u : Value) (l : List Rp.Pt) (w : World) (hv : BS w v l) (hu : BS w u l) : Calls Try.prog 23 #[v, u] w fun e w' => e = .returned (.bool true) ∧ Below w.heap.size w w' := by
  have HV := hidD (fun (W : World) (b : Below w.heap.size w W) => hv.below b)
  have HU := hidD (fun (W : World) (b : Below w.heap.size w W) => hu.below b)
  obtain ⟨a, cap, rfl, h1, h2, _, _⟩ := hv
  obtain ⟨b, cap', rfl, g1, g2, _, _⟩ := hu
  obtain ⟨N, hN⟩ : ∃ N, N = l.length := ⟨_, rfl⟩
  rw [← hN] at h1 g1 HV HU ⊢
  replace hN := hidD hN
  unfold maxLen at h2 g2
  have hne : ((N : Int) != (N : Int)) = false := by simp
  go_enter Try.func23, Try.ntmps23
  go_wp2_with fail
  go_loopw [5] (fun i wr => ∃ k : Nat, k ≤ N ∧ i = .int .i64 k ∧ Hid (Below w.heap.size w wr)) (fun i _ => N - (intOf i).toNat)
  case atStart => exact ⟨0, Nat.zero_le _, rfl, hidD (Below.refl _ _)⟩
  case round =>
    obtain ⟨k, hk, rfl, hb⟩ := hrel
    by_cases hlt : k < N
    · obtain ⟨g, off, rfl, hg, hcell⟩ := BS.at (HV.out wr hb.out) k (by have := hN.out; omega)
      obtain ⟨g', off', rfl, hg', hcell'⟩ := BS.at (HU.out wr hb.out) k (by have := hN.out; omega)
      obtain ⟨Q1, Q2⟩ := hcell k (by have := hN.out; omega)
      obtain ⟨R1, R2⟩ := hcell' k (by have := hN.out; omega)
      have i1 : (k : Int) < (N : Int) := by omega
      clear hcell hcell' HV HU
      generalize Rv.g l k = x at *
      go_wp2_with fail
      go_quiet (fail)
      go_wp2
      exact ⟨⟨k + 1, by omega, by go_num, hidD (below_drewN hb.out _)⟩, by simp [intOf]; omega⟩
    · go_wp2
      go_ret
      exact ⟨rfl, hb.out⟩
/-- A snapshot, as a value; in a box. -/
abbrev vS (r : Value) (v : Int) : Value := .agg #[.int .i64 v, r]
abbrev SN : TypeId := 24
/-- One box more. -/
theorem box_one (w : World) (cs : List Value) (T : TypeId) : ∃ W, W = w.alloc (.cells cs.toArray T) ∧ Bo W w.heap.size cs T ∧ Below w.heap.size w W ∧ W.heap.size = w.heap.size + 1 :=
  ⟨_, rfl, Bo.new w cs T, (Below.refl w.heap.size w).alloc (Nat.le_refl _) _, by rw [World.size_alloc]⟩
set_option maxHeartbeats 4000000 in
theorem rchk_any (r : Value) (s : Rv.S) (w : World) (hs : BS w r s.l) : Calls Try.prog 25 #[vS r s.v] w fun e w' => e = .returned (.int .i64 (Rv.chk s)) ∧ Below w.heap.size w w' := by
  obtain ⟨v, l⟩ := s
  dsimp only at hs ⊢
  obtain ⟨W, hW, X, B, Z⟩ := box_one w [.int .i64 v, r] 24
  have c := rcheck12_any r l W (hs.below B)
  have E1 : Hid (v < 0 ∨ 1073741824 < v → Rv.chk ⟨v, l⟩ = 4) := hidD (fun h => if_pos h)
  have E2 : Hid (¬ (v < 0 ∨ 1073741824 < v) → Rv.chk ⟨v, l⟩ = Rp.checkE l) := hidD (fun h => if_neg h)
  generalize Rv.chk ⟨v, l⟩ = E at *
  generalize Rp.checkE l = e0 at *
  have q0 := X.cell 0 rfl
  have q1 := X.cell 1 rfl
  have HB := hidD B
  have HZ : Hid (w.heap.size ≤ W.heap.size) := hidD (by omega)
  obtain ⟨a, cap, rfl, _⟩ := id hs
  obtain ⟨b, hb⟩ : ∃ b, b = w.heap.size := ⟨_, rfl⟩
  rw [← hb] at q0 q1 HB HZ ⊢
  clear X B Z hs
  go_enter Try.func25, Try.ntmps25
  go_upto_region 1 with fail
  rw [← hb, ← hW]
  clear hb hW
  by_cases h1 : v < 0
  · have hE := E1.out (.inl h1)
    subst hE
    go_wp2_with fail
    go_ret
    exact ⟨rfl, HB.out⟩
  by_cases h2 : 1073741824 < v
  · have hE := E1.out (.inr h2)
    subst hE
    go_wp2_with fail
    go_ret
    exact ⟨rfl, HB.out⟩
  have hE := E2.out (by omega)
  subst hE
  go_wp2_with fail
  with_reducible refine c.mono ?_
  rintro e w1 ⟨rfl, b1⟩
  have H1 := hidD (below_on HB.out HZ.out b1)
  clear c b1 E1 E2
  go_wp2_with fail
  go_ret
  exact ⟨rfl, H1.out⟩
/-- Looked for among the first. -/
theorem Rv.wt_at {l : List Rp.Pt} {id : Int} (k : Nat) (hk : k < l.length) (h : ∀ j, j < k → (Rv.g l j).1 ≠ id) (he : (Rv.g l k).1 = id) : Rv.wt l id = (Rv.g l k).2 := by
  induction l generalizing k with
  | nil => simp at hk
  | cons x t ih =>
    cases k with
    | zero =>
      have he' : x.1 = id := he
      unfold Rv.wt
      rw [List.find?_cons_of_pos (by simpa using he')]
      rfl
    | succ k =>
      have h0 : x.1 ≠ id := h 0 (by omega)
      have := ih k (by simpa using hk) (fun j hj => h (j + 1) (by omega)) he
      unfold Rv.wt at this ⊢
      rw [List.find?_cons_of_neg (by simpa using h0)]
      exact this
theorem Rv.wt_no {l : List Rp.Pt} {id : Int} (h : ∀ j, j < l.length → (Rv.g l j).1 ≠ id) : Rv.wt l id = 0 := by
  unfold Rv.wt
  rw [List.find?_eq_none.2]
  intro x hx
  obtain ⟨k, hk, rfl⟩ := List.getElem_of_mem hx
  have := h k hk
  rw [Rv.g_at hk] at this
  simpa using this
set_option maxHeartbeats 4000000 in
theorem rwt_any (r : Value) (v : Int) (l : List Rp.Pt) (q : Int) (w : World) (hs : BS w r l) : Calls Try.prog 30 #[vS r v, .int .i64 q] w fun e w' => e = .returned (.int .i64 (Rv.wt l q)) ∧ Below w.heap.size w w' := by
  obtain ⟨W, hW, X, B, Z⟩ := box_one w [.int .i64 v, r] 24
  have HS := hidD (hs.below B)
  have E1 := hidD (fun k hk h he => Rv.wt_at (l := l) (id := q) k hk h he)
  have E2 := hidD (@Rv.wt_no l q)
  generalize Rv.wt l q = E at *
  have q0 := X.cell 0 rfl
  have q1 := X.cell 1 rfl
  have HB := hidD B
  obtain ⟨a, cap, rfl, h1, h2, _, _⟩ := id hs
  obtain ⟨n, hn⟩ : ∃ n, n = l.length := ⟨_, rfl⟩
  rw [← hn] at h1 HS E1 E2 q1 hW ⊢
  replace hn := hidD hn
  unfold maxLen at h2
  obtain ⟨b, hb⟩ : ∃ b, b = w.heap.size := ⟨_, rfl⟩
  rw [← hb] at q0 q1 HB ⊢
  clear X B Z hs
  go_enter Try.func30, Try.ntmps30
  go_upto_region 1 with fail
  rw [← hb, ← hW]
  clear hb hW
  go_wp2_with fail
  go_loopw [5] (fun i wr => ∃ k : Nat, k ≤ n ∧ i = .int .i64 k ∧ Hid (∀ j, j < k → (Rv.g l j).1 ≠ q) ∧ W = wr) (fun i _ => n - (intOf i).toNat)
  case atStart => exact ⟨0, Nat.zero_le _, rfl, hidD (fun j hj => by omega), rfl⟩
  case round =>
    obtain ⟨k, hk, rfl, hJ, rfl⟩ := hrel
    by_cases hlt : k < n
    · obtain ⟨g, off, rfl, hg, hcell⟩ := BS.at HS.out k (by have := hn.out; omega)
      obtain ⟨t1, t2⟩ := hcell k (by have := hn.out; omega)
      have hi : (k : Int) < (n : Int) := by omega
      have hkw : IntKind.i64.wrap ((k : Int) + 1) = (k : Int) + 1 := by rw [IntKind.wrap_i64]; omega
      have F1 : Hid ((Rv.g l k).1 = q → E = (Rv.g l k).2) := hidD (fun h => E1.out k hlt hJ.out h)
      have F2 : Hid (¬ (Rv.g l k).1 = q → ∀ j, j < k + 1 → (Rv.g l j).1 ≠ q) := hidD (fun h j hj => by
        by_cases e : j = k
        · subst e; exact h
        · exact hJ.out j (by omega))
      clear hcell E1 E2
      obtain ⟨x1, hx1⟩ : ∃ x1, x1 = (Rv.g l k).1 := ⟨_, rfl⟩
      obtain ⟨x2, hx2⟩ : ∃ x2, x2 = (Rv.g l k).2 := ⟨_, rfl⟩
      rw [← hx1] at t1 F1 F2
      rw [← hx2] at t2 F1
      clear hx1 hx2 hJ
      by_cases he : x1 = q
      · have hE := F1.out he
        subst hE he
        clear F1 F2
        go_wp2_with fail
        go_ret
        exact ⟨rfl, HB.out⟩
      · have hd : (x1 == q) = false := by simpa using he
        have J2 := hidD (F2.out he)
        clear F1 F2 he
        go_wp2_with fail
        exact ⟨⟨k + 1, by omega, by go_num, J2, (by first | rfl | trivial)⟩, by simp [intOf]; omega⟩
    · have hkn : k = n := by omega
      have hE := E2.out (fun j hj => hJ.out j (by have := hn.out; omega))
      subst hE
      clear E1 E2 hJ
      go_wp2_with fail
      go_ret
      exact ⟨rfl, HB.out⟩
end Go.Proofs.Ytcjopphefmogiaa
