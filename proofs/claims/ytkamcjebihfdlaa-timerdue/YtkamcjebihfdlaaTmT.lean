/- timers: slices.DeleteFunc over a row of one's own. -/
import Derived.Test.YtkamcjebihfdlaaTmR
import Derived.Test.YtkamcjebihfdlaaTmQ
import Derived.Laws.IdiomCopy
import Derived.Lib.SliceRun
namespace Go.Proofs.Ytkamcjebihfdlaa
open Go.RowKit
set_option linter.unusedVariables false
set_option maxRecDepth 20000

theorem zeroT (w : World) : (zeroValue 31).run Try.prog w = .ok (.agg #[.int .i64 0, .int .i64 0]) w := by kernel_rfl
theorem run_clear_t (w : World) (ty : TypeId) (b o n c : Nat) (hn : 0 < n) (hc : ∀ j, j < n * 2 → (w.cell? ⟨b, o + j, none⟩).isSome = true) (hf : ∀ j, j < n * 2 → w.frozen? ⟨b, o + j, none⟩ = false) :
    (Builtin.clear_ #[22] ty #[.slice (some ⟨b, o, none⟩) n c]).run Try.prog w = .ok (.tuple #[]) (w.setCells b o (List.replicate (n * 2) (.int .i64 0))) := by
  have hzc : (Builtin.zeroCells (Value.agg #[.int .i64 0, .int .i64 0]).cells n).toList = List.replicate (n * 2) (.int .i64 0) := by
    simp [Builtin.zeroCells, Value.cells]
    apply List.ext_getElem
    · simp
    · intro i h1 h2
      simp
      rcases Nat.mod_two_eq_zero_or_one i with e | e <;> simp [e]
  have hst := run_storeCells_cells (P := Try.prog) b o (List.replicate (n * 2) (.int .i64 0)) 0 w (by simpa using hc) (by simpa using hf) (by intro v hv'; rw [List.eq_of_mem_replicate hv']; rfl)
  simp only [Nat.add_zero] at hst
  obtain ⟨m, rfl⟩ : ∃ m, n = m + 1 := ⟨n - 1, by omega⟩
  simp [Builtin.clear_, run_underlying Try.underlying22, hzc, hst]
theorem own_cut {W : World} {B g n cap m : Nat} {T : TypeId} {s : Nat} {xs : List Value} (h : W.ownsRow B T s (.slice (some ⟨g, 0, none⟩) n cap) n xs) (hm : m ≤ n) : W.ownsRow B T s (.slice (some ⟨g, 0, none⟩) m cap) m (xs.take (m * s)) := by
  have hms : m * s ≤ n * s := Nat.mul_le_mul_right _ hm
  refine ⟨by rw [List.length_take, h.1]; omega, .inr ?_⟩
  rcases h.2 with ⟨h1, _⟩ | ⟨g2, cap2, cur, h1, hB, hb, hc1, hc2, hs, ht⟩
  · cases h1
  · cases h1
    refine ⟨g, cap, cur, rfl, hB, hb, by omega, hc2, hs, ?_⟩
    rw [← ht, List.take_take]
    congr 1
    omega
theorem own_setCells {B g n cap k s : Nat} {T : TypeId} : ∀ (vs : List Value) (o : Nat) (W : World) (xs : List Value), W.ownsRow B T s (.slice (some ⟨g, 0, none⟩) n cap) k xs → o + vs.length ≤ k * s →
    ∃ ys, (W.setCells g o vs).ownsRow B T s (.slice (some ⟨g, 0, none⟩) n cap) k ys ∧ ∀ q, q ≤ o → ys.take q = xs.take q
  | [], o, W, xs, h, _ => ⟨xs, h, fun _ _ => rfl⟩
  | v :: r, o, W, xs, h, hl => by
    simp only [List.length_cons] at hl
    obtain ⟨ys, h1, h2⟩ := own_setCells r (o + 1) (W.setCell ⟨g, o, none⟩ v) (xs.set o v) (own_setCell h o (by omega) v) (by omega)
    refine ⟨ys, h1, fun q hq => ?_⟩
    rw [h2 q (by omega), List.take_set_of_le (by omega)]
theorem cg_setCells {g : Nat} : ∀ (vs : List Value) (o : Nat) (W : World), Cg g W (W.setCells g o vs)
  | [], _, _ => Cg.refl _ _
  | v :: r, o, W => (Cg.set W o v).trans (cg_setCells r (o + 1) _)
/-- The first so many behind a row that was cleared. -/
theorem OT.cleared {W : World} {B g n cap i : Nat} {L : List Ti.T} (h : OT W B (.slice (some ⟨g, 0, none⟩) n cap) L) (hn : L.length = n) (hi : i ≤ n) : OT (W.setCells g (i * 2) (List.replicate ((n - i) * 2) (.int .i64 0))) B (.slice (some ⟨g, 0, none⟩) i cap) (L.take i) := by
  subst hn
  obtain ⟨ys, h1, h2⟩ := own_setCells (List.replicate ((L.length - i) * 2) (.int .i64 0)) (i * 2) W (tsL L) h (by rw [List.length_replicate]; omega)
  have h3 := own_cut h1 hi
  rw [h2 _ (Nat.le_refl _)] at h3
  unfold OT
  rw [tsL_take, List.length_take, Nat.min_eq_left hi]
  exact h3
theorem Ti.filter_next (P : Ti.T → Bool) (l : List Ti.T) (j : Nat) (hj : j < l.length) : (l.take (j + 1)).filter (fun x => !P x) = if P (Ti.g l j) = true then (l.take j).filter (fun x => !P x) else (l.take j).filter (fun x => !P x) ++ [Ti.g l j] := by
  rw [List.take_succ_eq_append_getElem hj, List.filter_append, ← Ti.g_at hj]
  by_cases h : P (Ti.g l j) = true
  · rw [if_pos h, List.filter_cons_of_neg (by rw [h]; decide)]
    simp
  · rw [if_neg h, List.filter_cons_of_pos (by simpa using h)]
    simp
theorem Ti.g_drop {L l : List Ti.T} {j : Nat} (h : L.drop j = l.drop j) : Ti.g L j = Ti.g l j := by
  have := congrArg (fun m : List Ti.T => m.getD 0 Ti.t0) h
  simpa [Ti.g, List.getD] using this
set_option maxHeartbeats 8000000 in
theorem delT (ft : Nat) (p : Addr) (hen : ∀ (args : Array Value) (w' : World), (callFunc ft args).run Try.prog w' = .ok (.enter ft args) w') (P : Ti.T → Bool) (B : Nat) (v : Value) (l : List Ti.T) (w : World) (h : OT w B v l) (hB : B ≤ w.heap.size) (hl : l.length ≤ 1048576)
    (ht : ∀ (x : Ti.T) (W : World), x ∈ l → (∀ g, v.ownBlock = some g → Cg g w W) → Calls Try.prog ft #[vT x, .pointer (some p)] W fun e w' => e = .returned (.bool (P x)) ∧ Below W.heap.size W w') :
    Calls Try.prog 36 #[v, .func (.func ft) #[] #[.pointer (some p)]] w fun e w' => ∃ v', e = .returned v' ∧ OT w' B v' (l.filter fun x => !P x) ∧ Below B w w' ∧ w.grownBy w' v.ownBlock := by
  have cI := idxT1 ft p hen P v l w h.ts (fun x W hx b => ht x W hx (fun g _ => Cg.of_below b))
  have HT := hidD ht
  have H := hidD h
  have HBB := hidD hB
  obtain ⟨a0, cap, rfl, _, _, _, _⟩ := id h.ts
  clear h ht
  go_enter Try.func36, Try.ntmps36
  go_wp2_with fail
  with_reducible refine cI.mono ?_
  rintro e w1 ⟨r, rfl, hr, b1⟩
  clear cI
  rcases hr with ⟨rfl, hr⟩ | ⟨k, hk, rfl, hk1, hk2⟩
  · have HE : Hid (OT w1 B (.slice a0 l.length cap) (l.filter fun x => !P x) ∧ Below B w w1 ∧ w.grownBy w1 (Value.slice a0 l.length cap).ownBlock) := hidD (by
      rw [List.filter_eq_self.2 (fun x hx => by
        have := List.any_eq_false.1 hr x hx
        simpa using this)]
      exact ⟨own_below H.out b1, below_low b1 hB, grown_row (grown_of_below b1) _⟩)
    clear HT H b1 hr
    go_wp2_with fail
    go_ret
    exact ⟨_, rfl, HE.out⟩
  obtain ⟨g, cap9, e0, hg1, hg2, hc1, hc2⟩ := H.out.lies (by omega)
  injection e0 with e01 e02 e03
  subst e01 e03
  clear e02
  obtain ⟨N, hN⟩ : ∃ N, N = l.length := ⟨_, rfl⟩
  have HTK : Hid (l.take k = (l.take (k + 1)).filter fun x => !P x) := hidD (by
    rw [Ti.filter_next P l k hk, if_pos hk1, List.filter_eq_self.2 (fun x hx => by
        have := List.any_eq_false.1 hk2 x hx
        simpa using this)])
  have H1 : Hid (OT w1 B (.slice (some ⟨g, 0, none⟩) N cap) l) := hidD (by rw [hN]; exact own_below H.out b1)
  have C1 := hidD (Cg.of_below b1 (b := g))
  have G1 := hidD (Nat.lt_of_lt_of_le hg2 b1.size)
  have HT2 : Hid (∀ (x : Ti.T) (W : World), x ∈ l → Cg g w W → Calls Try.prog ft #[vT x, .pointer (some p)] W fun e w' => e = .returned (.bool (P x)) ∧ Below W.heap.size W w') := hidD (fun x W hx hc => HT.out x W hx (fun b hb => by cases hb; exact hc))
  rw [← hN] at hl hc1 hk ⊢
  unfold maxLen at hc2
  have dk : ((k : Int) == -1) = false := by simp
  replace hN := hidD hN
  clear H b1 HT hk1 hk2
  go_wp2_with fail
  go_loopw [5, 6] (fun si sj wr => ∃ (i j : Nat) (L : List Ti.T), i < j ∧ j ≤ N ∧ si = .int .i64 (i : Int) ∧ sj = .int .i64 (j : Int) ∧ Hid (OT wr B (.slice (some ⟨g, 0, none⟩) N cap) L ∧ L.length = N ∧ L.take i = (l.take j).filter (fun x => !P x) ∧ L.drop j = l.drop j ∧ Cg g w wr ∧ g < wr.heap.size)) (fun _ sj _ => N - (intOf sj).toNat)
  case atStart => exact ⟨k, k + 1, l, by omega, by omega, rfl, by first | rfl | go_num, hidD ⟨H1.out, hN.out.symm, HTK.out, rfl, C1.out, G1.out⟩⟩
  case round =>
    clear H1 C1 G1 HTK dk
    obtain ⟨i, j, L, hij, hj, rfl, rfl, hJ⟩ := hrel
    obtain ⟨j1, j2, j3, j4, j5, j6⟩ := hJ.out
    by_cases hlt : j < N
    · have hji : (j : Int) < (N : Int) := by omega
      have hii : (i : Int) < (N : Int) := by omega
      have hiN : i < N := by omega
      obtain ⟨r1, r2, _, _⟩ := j1.at j (by omega)
      rw [Ti.g_drop j4] at r1 r2
      have hx0 : Ti.g l j ∈ l := by rw [Ti.g_at (by have := hN.out; omega)]; exact List.getElem_mem _
      have HF := hidD (Ti.filter_next P l j (by have := hN.out; omega))
      have HD : Hid (L.drop (j + 1) = l.drop (j + 1)) := hidD (by have := congrArg (List.drop 1) j4; rwa [List.drop_drop, List.drop_drop] at this)
      obtain ⟨x, hx⟩ : ∃ x, x = Ti.g l j := ⟨_, rfl⟩
      rw [← hx] at r1 r2 hx0 HF
      have cF := HT2.out x (wr.alloc (.cells #[.int .i64 x.at', .int .i64 x.id'] 31)) hx0 (j5.trans (Cg.alloc _ _))
      obtain ⟨y, hy⟩ : ∃ y, y = P x := ⟨_, rfl⟩
      rw [← hy] at cF HF
      have J1 : Hid (OT (wr.alloc (.cells #[.int .i64 x.at', .int .i64 x.id'] 31)) B (.slice (some ⟨g, 0, none⟩) N cap) L) := hidD (j1.alloc (.cells #[.int .i64 x.at', .int .i64 x.id'] 31))
      have X1 := hidD (Bo.new wr [.int .i64 x.at', .int .i64 x.id'] 31)
      have J2 := hidD j2
      have J3 := hidD j3
      have J5 := hidD (j5.trans (Cg.alloc wr (.cells #[.int .i64 x.at', .int .i64 x.id'] 31)))
      have J6 : Hid (g < (wr.alloc (.cells #[.int .i64 x.at', .int .i64 x.id'] 31)).heap.size) := hidD (by rw [World.size_alloc]; omega)
      have HGX : Hid (wr.heap.size ≠ g) := hidD (by omega)
      replace hx := hidD hx
      replace hy := hidD hy
      clear j1 j2 j3 j4 j5 j6 hJ hx0
      obtain ⟨xa, xi⟩ := x
      dsimp only at r1 r2 cF J1 X1 J5 J6
      go_wp2_with fail
      generalize wr.heap.size = bx at *
      generalize wr.alloc (.cells #[.int .i64 xa, .int .i64 xi] 31) = wa at *
      with_reducible refine cF.mono ?_
      rintro e w2 ⟨rfl, b2⟩
      have K1 : Hid (OT w2 B (.slice (some ⟨g, 0, none⟩) N cap) L) := hidD (own_below J1.out b2)
      have K5 := hidD (J5.out.trans (Cg.of_below b2))
      have K6 := hidD (Nat.lt_of_lt_of_le J6.out b2.size)
      have x2 : Bo w2 bx [.int .i64 xa, .int .i64 xi] 31 := X1.out.below b2
      have q1 := x2.cell 0 rfl
      have q2 := x2.cell 1 rfl
      clear cF b2 J1 J5 J6 X1 r1 r2 x2
      cases y
      · have HF2 := hidD (HF.out.trans (if_neg (by decide)))
        obtain ⟨s1, s2, f1, f2⟩ := K1.out.at i (by rw [J2.out]; exact hiN)
        have PU := hidD (K1.out.put i (by rw [J2.out]; exact hiN) ⟨xa, xi⟩)
        have PC := hidD (K5.out.trans (putT_cg w2 g i ⟨xa, xi⟩))
        have PS := hidD (Nat.lt_of_lt_of_le K6.out (putT_cg w2 g i ⟨xa, xi⟩).size)
        have L1 : Hid ((L.set i ⟨xa, xi⟩).take (i + 1) = (l.take (j + 1)).filter fun x => !P x) := hidD (by
          rw [HF2.out, ← J3.out, List.take_succ_eq_append_getElem (by rw [List.length_set, J2.out]; exact hiN), List.take_set_of_le (Nat.le_refl _), List.getElem_set_self])
        have L2 : Hid ((L.set i ⟨xa, xi⟩).drop (j + 1) = l.drop (j + 1)) := hidD (by rw [List.drop_set_of_lt (by omega)]; exact HD.out)
        have L3 : Hid ((L.set i ⟨xa, xi⟩).length = N) := hidD (by rw [List.length_set]; exact J2.out)
        have hgx := HGX.out
        have hgx2 : ¬ g = bx := fun e => hgx e.symm
        clear HF HF2 HD J2 J3 K1 K5 K6
        go_wp2_with fail
        exact ⟨⟨i + 1, j + 1, _, by omega, by omega, by go_num, by go_num, hidD ⟨PU.out, L3.out, L1.out, L2.out, PC.out, PS.out⟩⟩, by simp [intOf]; omega⟩
      · have HF2 := hidD (HF.out.trans (if_pos rfl))
        have L1 : Hid (L.take i = (l.take (j + 1)).filter fun x => !P x) := hidD (by rw [HF2.out]; exact J3.out)
        clear HF HF2 J3 q1 q2
        go_wp2_with fail
        exact ⟨⟨i, j + 1, L, by omega, by omega, by first | rfl | go_num, by go_num, hidD ⟨K1.out, J2.out, L1.out, HD.out, K5.out, K6.out⟩⟩, by simp [intOf]; omega⟩
    · have hjN : j = N := by omega
      have hji : ¬ (j : Int) < (N : Int) := by omega
      have htk : l.take j = l := List.take_of_length_le (by have := hN.out; omega)
      rw [htk] at j3
      obtain ⟨n, hn⟩ : ∃ n, n = N - i := ⟨_, rfl⟩
      have hiN : (i : Int) ≤ (N : Int) := by omega
      have hiC : (i : Int) ≤ (cap : Int) := by omega
      have hiN2 : i ≤ N := by omega
      have hiC2 : i ≤ cap := by omega
      have hcl : ∀ ty, (Builtin.clear_ #[22] ty #[.slice (some ⟨g, i * 2, none⟩) n (cap - i)]).run Try.prog wr = .ok (.tuple #[]) (wr.setCells g (i * 2) (List.replicate (n * 2) (.int .i64 0))) := fun ty => run_clear_t wr ty g (i * 2) n (cap - i) (by omega) (fun q hq => by
        obtain ⟨s1, s2, _, _⟩ := OT.at j1 (i + q / 2) (by omega)
        rcases Nat.mod_two_eq_zero_or_one q with e | e
        · rw [show i * 2 + q = (i + q / 2) * 2 by omega, s1]; rfl
        · rw [show i * 2 + q = (i + q / 2) * 2 + 1 by omega, s2]; rfl) (fun q hq => by
        obtain ⟨_, _, s1, s2⟩ := OT.at j1 (i + q / 2) (by omega)
        rcases Nat.mod_two_eq_zero_or_one q with e | e
        · rw [show i * 2 + q = (i + q / 2) * 2 by omega, s1]
        · rw [show i * 2 + q = (i + q / 2) * 2 + 1 by omega, s2])
      have HE : Hid (OT (wr.setCells g (i * 2) (List.replicate (n * 2) (.int .i64 0))) B (.slice (some ⟨g, 0, none⟩) i cap) (l.filter fun x => !P x)) := hidD (by
        rw [← j3, hn]
        exact j1.cleared j2 hiN2)
      have HC := hidD (j5.trans (cg_setCells (g := g) (List.replicate (n * 2) (.int .i64 0)) (i * 2) wr))
      have hnN : ((N : Int) - (i : Int)).toNat = n := by omega
      have hcN : ((cap : Int) - (i : Int)).toNat = cap - i := by omega
      have hn2 : N - i = n := hn.symm
      replace hn := hidD hn
      clear j1 j2 j3 j4 j5 j6 hJ htk
      go_wp2_with fail
      go_ret
      exact ⟨_, rfl, HE.out, HC.out.below hg1 HBB.out (Below.refl _ _), grown_cg (grown_row (grown_of_below (Below.refl _ w)) _) HC.out (.inl rfl)⟩
end Go.Proofs.Ytkamcjebihfdlaa
