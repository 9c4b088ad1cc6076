/- breaker: acts: slices of them, handed in; IndexFunc, ContainsFunc with a state. -/
import Derived.Test.YtkfkhhhoboenkaaBR
import Derived.Test.YtkfkhhhoboenkaaOpenK
namespace Go.Proofs.Ytkfkhhhoboenkaa
open Go.ChangeShapes Go.WideShapes Go.ChangeAt Go.RowKit Go.Deep
set_option linter.unusedVariables false
set_option maxRecDepth 20000

def Br.ac0 : Br.Ac := ⟨0, 0, false, false⟩
abbrev vA (a : Br.Ac) : Value := .agg #[.int .i64 a.k, .int .i64 a.t, .bool a.p, .bool a.g]
def AAt (w : World) (g off i : Nat) (a : Br.Ac) : Prop :=
  w.cell? ⟨g, off + i * 4, none⟩ = some (.int .i64 a.k) ∧ w.cell? ⟨g, off + i * 4 + 1, none⟩ = some (.int .i64 a.t) ∧ w.cell? ⟨g, off + i * 4 + 2, none⟩ = some (.bool a.p) ∧ w.cell? ⟨g, off + i * 4 + 3, none⟩ = some (.bool a.g)
def ASeg (w : World) (v : Value) (l : List Br.Ac) : Prop :=
  ∃ (a : Option Addr) (cap : Nat), v = .slice a l.length cap ∧ l.length ≤ cap ∧ cap ≤ maxLen ∧ (a = none → l = [] ∧ cap = 0) ∧
    ∀ g off ar, a = some ⟨g, off, ar⟩ → 0 < l.length → ar = none ∧ g < w.heap.size ∧ ∀ i, i < l.length → AAt w g off i (l.getD i Br.ac0)
theorem AAt.below {w w' : World} {g off i : Nat} {a : Br.Ac} (h : AAt w g off i a) (hg : g < w.heap.size) (hb : Below w.heap.size w w') : AAt w' g off i a :=
  ⟨(hb.cell hg).trans h.1, (hb.cell hg).trans h.2.1, (hb.cell hg).trans h.2.2.1, (hb.cell hg).trans h.2.2.2⟩
theorem ASeg.below {w w' : World} {v : Value} {l : List Br.Ac} (h : ASeg w v l) (hb : Below w.heap.size w w') : ASeg w' v l := by
  obtain ⟨a, cap, h1, h2, h3, h4, h5⟩ := h
  refine ⟨a, cap, h1, h2, h3, h4, fun g off ar ha h0 => ?_⟩
  obtain ⟨k1, k2, k3⟩ := h5 g off ar ha h0
  exact ⟨k1, Nat.lt_of_lt_of_le k2 hb.size, fun i hi => (k3 i hi).below k2 hb⟩
theorem ASeg.nil (w : World) : ASeg w (.slice none 0 0) [] := ⟨none, 0, rfl, Nat.le_refl _, Nat.zero_le _, fun _ => ⟨rfl, rfl⟩, fun g off ar ha => by cases ha⟩
/-- Where there is one, where they lie. -/
theorem aseg_at {w : World} {v : Value} {l : List Br.Ac} (h0 : 0 < l.length) (h : ASeg w v l) :
    ∃ g off cap, v = .slice (some ⟨g, off, none⟩) l.length cap ∧ g < w.heap.size ∧ ∀ i, i < l.length → AAt w g off i (l.getD i Br.ac0) := by
  obtain ⟨a, cap, rfl, _, _, h3, h4⟩ := h
  rcases a with _ | ⟨g, off, ar⟩
  · have := (h3 rfl).1; subst this; simp at h0
  · obtain ⟨rfl, q2, q3⟩ := h4 g off ar rfl h0
    exact ⟨g, off, cap, rfl, q2, q3⟩
theorem agetD_at {l : List Br.Ac} {i : Nat} (h : i < l.length) : l.getD i Br.ac0 = l[i] := by simp [List.getD, h]
theorem rany_take (f : Nat → Bool) (k : Nat) : (List.range (k + 1)).any f = ((List.range k).any f || f k) := by
  rw [List.range_succ, List.any_append]; simp
theorem rany_at (f : Nat → Bool) (n k : Nat) (h : k < n) (hf : f k = true) : (List.range n).any f = true := by
  rw [List.any_eq_true]
  exact ⟨k, List.mem_range.2 h, hf⟩

theorem fields_acts : ∃ f0 f1 f2 f3 : Field, Try.prog.underlying 55 = some (.struct #[f0, f1, f2, f3]) ∧ (f0.offset = 0 ∧ f1.offset = 1 ∧ f2.offset = 2 ∧ f3.offset = 3) ∧ (f0.type = 3 ∧ f1.type = 3 ∧ f2.type = 4 ∧ f3.type = 4) :=
  ⟨_, _, _, _, Try.underlying55, ⟨rfl, rfl, rfl, rfl⟩, ⟨rfl, rfl, rfl, rfl⟩⟩
set_option maxHeartbeats 1000000 in
theorem open_acts {H : Type} {enc : TypeId × Value → H} {W : World} {base : Nat} {v : Value} {d : DataW H} {p : List MemPlace} (hval : Value.okWide Try.prog W .any base 46 v)
    (h : DataW.Trod enc Try.prog W 0 (fun _ => true) true 46 v d p) :
    ∃ l : List Br.Ac, ASeg W v l ∧ (∀ t ∈ l, (Lit.int .i64 t.k).wf = true ∧ (Lit.int .i64 t.t).wf = true) ∧ (d = .nil ∧ l = [] ∨ ∃ elems spare, d = .slice elems spare ∧ l.length = elems.length) := by
  obtain ⟨a, len, cap, rfl⟩ := okWide_slice Try.underlying46 hval
  obtain ⟨fuel, hf⟩ := h
  obtain ⟨f0, f1, f2, f3, he, ⟨o0, o1, o2, o3⟩, ⟨y0, y1, y2, y3⟩⟩ := fields_acts
  have ce : Try.prog.cellsOf 55 = 4 := by kernel_rfl
  have c3 : Try.prog.cellsOf 3 = 1 := by kernel_rfl
  have c4 : Try.prog.cellsOf 4 = 1 := by kernel_rfl
  rcases open_slice Try.underlying46 hf with ⟨hcs, hx⟩ | ⟨x, l, c, m, n, D, Pl, hcs, hb, hl, hm, hmm, hx, hr⟩
  · simp [Value.cells] at hcs
    obtain ⟨rfl, rfl, rfl⟩ := hcs
    simp only [Prod.mk.injEq] at hx
    exact ⟨[], ASeg.nil _, (fun t ht => by cases ht), .inl ⟨hx.1, rfl⟩⟩
  · simp [Value.cells] at hcs
    obtain ⟨rfl, rfl, rfl⟩ := hcs
    simp only [if_true] at hmm
    have each : ∀ i, i < len → ∃ t : Br.Ac, (W.cell? (x.add (i * 4)) = some (.int .i64 t.k) ∧ W.cell? (x.add (i * 4 + 1)) = some (.int .i64 t.t) ∧ W.cell? (x.add (i * 4 + 2)) = some (.bool t.p) ∧ W.cell? (x.add (i * 4 + 3)) = some (.bool t.g)) ∧ (Lit.int .i64 t.k).wf = true ∧ (Lit.int .i64 t.t).wf = true := by
      intro i hi
      obtain ⟨cs', h1, h2⟩ := hr i (by omega)
      rw [ce] at h1
      obtain ⟨_, hlen, hcell⟩ := World.cells?_some h1
      obtain ⟨xs, k, hk, hxy, _, hxl, hf⟩ := DataW.trod_struct he h2
      match xs, hxl, cs', hlen with
      | [z0, z1, z2, z3], _, [v0, v1, v2, v3], _ =>
        have g0 := hf 0 f0 rfl
        have g1 := hf 1 f1 rfl
        have g2 := hf 2 f2 rfl
        have g3 := hf 3 f3 rfl
        simp [o0, o1, o2, o3, y0, y1, y2, y3, c3, c4] at g0 g1 g2 g3
        have e0 := hcell 0 (by omega)
        have e1 := hcell 1 (by omega)
        have e2 := hcell 2 (by omega)
        have e3 := hcell 3 (by omega)
        rw [add_add] at e0 e1 e2 e3
        obtain ⟨n0, hn0, _, hw0⟩ := DataW.trod_int Try.underlying3 g0
        obtain ⟨n1, hn1, _, hw1⟩ := DataW.trod_int Try.underlying3 g1
        obtain ⟨n2, hn2, _⟩ := DataW.trod_bool Try.underlying4 g2
        obtain ⟨n3, hn3, _⟩ := DataW.trod_bool Try.underlying4 g3
        simp only [List.cons.injEq, and_true] at hn0 hn1 hn2 hn3
        subst hn0 hn1 hn2 hn3
        exact ⟨⟨n0, n1, n2, n3⟩, ⟨by simpa using e0, by simpa using e1, by simpa using e2, by simpa using e3⟩, hw0, hw1⟩
    haveI : Inhabited Br.Ac := ⟨Br.ac0⟩
    obtain ⟨q, hq⟩ := choose_lt each
    have hlen : ((List.range len).map q).length = len := by simp
    refine ⟨(List.range len).map q, ⟨some x, cap, by rw [hlen], by rw [hlen]; exact hl, hm, (fun h => by cases h), fun g off ar ha h00 => ?_⟩, ?_, ?_⟩
    · cases ha
      have h0 : 0 < len := by rw [hlen] at h00; exact h00
      have hc0 := (hq 0 h0).1.1
      have har : ar = none := by simpa [Addr.add] using World.cell?_spot hc0
      subst har
      refine ⟨rfl, by simpa [Addr.add] using World.block_lt_of_cell? W _ hc0, fun i hi => ?_⟩
      rw [hlen] at hi
      obtain ⟨⟨a1, a2, a3, a4⟩, _⟩ := hq i hi
      rw [add_plain] at a1 a2 a3 a4
      have e : ((List.range len).map q).getD i Br.ac0 = q i := by rw [agetD_at (by rw [hlen]; exact hi)]; simp
      rw [e]
      exact ⟨a1, by rw [Nat.add_assoc]; exact a2, by rw [Nat.add_assoc]; exact a3, by rw [Nat.add_assoc]; exact a4⟩
    · intro t ht
      obtain ⟨i, hi, rfl⟩ := List.mem_map.1 ht
      exact (hq i (List.mem_range.1 hi)).2
    · simp only [Prod.mk.injEq] at hx
      exact .inr ⟨_, _, hx.1, by simp⟩

theorem indexA0 (ft : Nat) (hen : ∀ (args : Array Value) (w' : World), (callFunc ft args).run Try.prog w' = .ok (.enter ft args) w') (P : Nat → Bool) (J : Nat → World → Prop) (v : Value) (l : List Br.Ac) (w : World) (hv : ASeg w v l) (h0 : J 0 w)
    (hJ : ∀ k W, k < l.length → J k W → ASeg W v l ∧ Calls Try.prog ft #[vA (l.getD k Br.ac0)] W fun e w' => e = .returned (.bool (P k)) ∧ J (k + 1) w') :
    Calls Try.prog 40 #[v, .func (.func ft) #[] #[]] w fun e w' => ∃ r : Int, e = .returned (.int .i64 r) ∧ (decide (0 ≤ r) = (List.range l.length).any P) ∧ ∃ k, J k w' := by
  obtain ⟨N, hN⟩ : ∃ N, N = l.length := ⟨_, rfl⟩
  obtain ⟨a, cap, hva, h1, h2, h3, h4⟩ := id hv
  rw [← hN] at hva h1 ⊢
  subst hva
  unfold maxLen at h2
  have HN : Hid (N = l.length) := hN
  have HJ := hidD hJ
  clear hN hv h3 h4 hJ
  go_enter Try.func40, Try.ntmps40
  go_wp2_with fail
  go_loopw [8] (fun i wr => ∃ k : Nat, k ≤ N ∧ i = .int .i64 k ∧ Hid ((List.range k).any P = false) ∧ Hid (J k wr)) (fun i _ => N - (intOf i).toNat)
  case atStart => exact ⟨0, Nat.zero_le _, rfl, by simp [Hid], hidD h0⟩
  case round =>
    clear h0
    obtain ⟨k, hk, rfl, hc, hj⟩ := hrel
    by_cases hlt : k < N
    · obtain ⟨hs, hb⟩ := HJ.out k wr (by have := HN.out; omega) hj.out
      obtain ⟨g, off, cap', e1, hg, hcell⟩ := aseg_at (by have := HN.out; omega) hs
      rw [← HN.out] at e1
      cases e1
      obtain ⟨Q1, Q2, Q3, Q4⟩ := hcell k (by have := HN.out; omega)
      have HT := hidD (rany_take P k)
      have HA := hidD (rany_at P N k hlt)
      clear hcell hs
      generalize l.getD k Br.ac0 = x at *
      by_cases hq : P k = true
      · rw [hq] at hb
        go_wp2_with fail
        with_reducible refine hb.mono ?_
        rintro e w2 ⟨rfl, b2⟩
        have hb2 := hidD b2
        clear b2
        go_wp2
        go_ret
        exact ⟨_, rfl, by rw [HA.out hq]; exact decide_eq_true (by omega), _, hb2.out⟩
      · rw [Bool.not_eq_true] at hq
        rw [hq] at hb
        go_wp2_with fail
        with_reducible refine hb.mono ?_
        rintro e w2 ⟨rfl, b2⟩
        have hc2 : Hid ((List.range (k + 1)).any P = false) := by
          show (List.range (k + 1)).any P = false
          rw [HT.out, hc.out, hq]
          rfl
        have hb2 := hidD b2
        clear hb hq b2
        go_wp2
        exact ⟨⟨k + 1, by omega, by go_num, hc2, hb2⟩, by simp [intOf]; omega⟩
    · have hke : k = N := by omega
      subst hke
      have hc2 := hc
      clear hc
      go_wp2
      go_ret
      exact ⟨_, rfl, by rw [hc2.out]; rfl, _, hj.out⟩
theorem containsA0 (ft : Nat) (hen : ∀ (args : Array Value) (w' : World), (callFunc ft args).run Try.prog w' = .ok (.enter ft args) w') (P : Nat → Bool) (J : Nat → World → Prop) (v : Value) (l : List Br.Ac) (w : World) (hv : ASeg w v l) (h0 : J 0 w)
    (hJ : ∀ k W, k < l.length → J k W → ASeg W v l ∧ Calls Try.prog ft #[vA (l.getD k Br.ac0)] W fun e w' => e = .returned (.bool (P k)) ∧ J (k + 1) w') :
    Calls Try.prog 36 #[v, .func (.func ft) #[] #[]] w fun e w' => e = .returned (.bool ((List.range l.length).any P)) ∧ ∃ k, J k w' := by
  have c := indexA0 ft hen P J v l w hv h0 hJ
  clear hJ hv h0
  generalize (List.range l.length).any P = b at *
  go_enter Try.func36, Try.ntmps36
  go_wp2_with fail
  with_reducible refine c.mono ?_
  rintro e w' ⟨r, rfl, hr, b1⟩
  subst hr
  have hb1 := hidD b1
  clear b1
  go_wp2
  go_ret
  exact ⟨rfl, hb1.out⟩

theorem indexA1 (ft : Nat) (p : Addr) (hen : ∀ (args : Array Value) (w' : World), (callFunc ft args).run Try.prog w' = .ok (.enter ft args) w') (P : Nat → Bool) (J : Nat → World → Prop) (v : Value) (l : List Br.Ac) (w : World) (hv : ASeg w v l) (h0 : J 0 w)
    (hJ : ∀ k W, k < l.length → J k W → ASeg W v l ∧ Calls Try.prog ft #[vA (l.getD k Br.ac0), .pointer (some p)] W fun e w' => e = .returned (.bool (P k)) ∧ J (k + 1) w') :
    Calls Try.prog 40 #[v, .func (.func ft) #[] #[.pointer (some p)]] w fun e w' => ∃ r : Int, e = .returned (.int .i64 r) ∧ (decide (0 ≤ r) = (List.range l.length).any P) ∧ ∃ k, J k w' := by
  obtain ⟨N, hN⟩ : ∃ N, N = l.length := ⟨_, rfl⟩
  obtain ⟨a, cap, hva, h1, h2, h3, h4⟩ := id hv
  rw [← hN] at hva h1 ⊢
  subst hva
  unfold maxLen at h2
  have HN : Hid (N = l.length) := hN
  have HJ := hidD hJ
  clear hN hv h3 h4 hJ
  go_enter Try.func40, Try.ntmps40
  go_wp2_with fail
  go_loopw [8] (fun i wr => ∃ k : Nat, k ≤ N ∧ i = .int .i64 k ∧ Hid ((List.range k).any P = false) ∧ Hid (J k wr)) (fun i _ => N - (intOf i).toNat)
  case atStart => exact ⟨0, Nat.zero_le _, rfl, by simp [Hid], hidD h0⟩
  case round =>
    clear h0
    obtain ⟨k, hk, rfl, hc, hj⟩ := hrel
    by_cases hlt : k < N
    · obtain ⟨hs, hb⟩ := HJ.out k wr (by have := HN.out; omega) hj.out
      obtain ⟨g, off, cap', e1, hg, hcell⟩ := aseg_at (by have := HN.out; omega) hs
      rw [← HN.out] at e1
      cases e1
      obtain ⟨Q1, Q2, Q3, Q4⟩ := hcell k (by have := HN.out; omega)
      have HT := hidD (rany_take P k)
      have HA := hidD (rany_at P N k hlt)
      clear hcell hs
      generalize l.getD k Br.ac0 = x at *
      by_cases hq : P k = true
      · rw [hq] at hb
        go_wp2_with fail
        with_reducible refine hb.mono ?_
        rintro e w2 ⟨rfl, b2⟩
        have hb2 := hidD b2
        clear b2
        go_wp2
        go_ret
        exact ⟨_, rfl, by rw [HA.out hq]; exact decide_eq_true (by omega), _, hb2.out⟩
      · rw [Bool.not_eq_true] at hq
        rw [hq] at hb
        go_wp2_with fail
        with_reducible refine hb.mono ?_
        rintro e w2 ⟨rfl, b2⟩
        have hc2 : Hid ((List.range (k + 1)).any P = false) := by
          show (List.range (k + 1)).any P = false
          rw [HT.out, hc.out, hq]
          rfl
        have hb2 := hidD b2
        clear hb hq b2
        go_wp2
        exact ⟨⟨k + 1, by omega, by go_num, hc2, hb2⟩, by simp [intOf]; omega⟩
    · have hke : k = N := by omega
      subst hke
      have hc2 := hc
      clear hc
      go_wp2
      go_ret
      exact ⟨_, rfl, by rw [hc2.out]; rfl, _, hj.out⟩
theorem containsA1 (ft : Nat) (p : Addr) (hen : ∀ (args : Array Value) (w' : World), (callFunc ft args).run Try.prog w' = .ok (.enter ft args) w') (P : Nat → Bool) (J : Nat → World → Prop) (v : Value) (l : List Br.Ac) (w : World) (hv : ASeg w v l) (h0 : J 0 w)
    (hJ : ∀ k W, k < l.length → J k W → ASeg W v l ∧ Calls Try.prog ft #[vA (l.getD k Br.ac0), .pointer (some p)] W fun e w' => e = .returned (.bool (P k)) ∧ J (k + 1) w') :
    Calls Try.prog 36 #[v, .func (.func ft) #[] #[.pointer (some p)]] w fun e w' => e = .returned (.bool ((List.range l.length).any P)) ∧ ∃ k, J k w' := by
  have c := indexA1 ft p hen P J v l w hv h0 hJ
  clear hJ hv h0
  generalize (List.range l.length).any P = b at *
  go_enter Try.func36, Try.ntmps36
  go_wp2_with fail
  with_reducible refine c.mono ?_
  rintro e w' ⟨r, rfl, hr, b1⟩
  subst hr
  have hb1 := hidD b1
  clear b1
  go_wp2
  go_ret
  exact ⟨rfl, hb1.out⟩
end Go.Proofs.Ytkfkhhhoboenkaa
