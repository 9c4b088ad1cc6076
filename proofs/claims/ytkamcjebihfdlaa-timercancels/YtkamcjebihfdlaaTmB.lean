/- timers: compared; which are a queue, by the reference. -/
import Derived.Test.YtkamcjebihfdlaaTmA
import Derived.Laws.StructEq
import Derived.Deep.RegionHeld
namespace Go.Proofs.Ytkamcjebihfdlaa
open Go.RowKit
set_option linter.unusedVariables false
set_option maxRecDepth 20000

set_option maxHeartbeats 2000000 in
theorem tsame_true (v u : Value) (l : List Ti.T) (w : World) (hv : TS w v l) (hu : TS w u l) : Calls Try.prog 20 #[v, u] w fun e w' => e = .returned (.bool true) ∧ Below w.heap.size w w' := by
  have HV := hidD (fun (W : World) (b : Below w.heap.size w W) => hv.below b)
  have HU := hidD (fun (W : World) (b : Below w.heap.size w W) => hu.below b)
  obtain ⟨a, cap, rfl, h1, h2, _, _⟩ := hv
  obtain ⟨b, cap', rfl, g1, g2, _, _⟩ := hu
  obtain ⟨N, hN⟩ : ∃ N, N = l.length := ⟨_, rfl⟩
  rw [← hN] at h1 g1 HV HU ⊢
  replace hN := hidD hN
  unfold maxLen at h2 g2
  have hne : ((N : Int) != (N : Int)) = false := by simp
  go_enter Try.func20, Try.ntmps20
  go_wp2_with fail
  go_loopw [5] (fun i wr => ∃ k : Nat, k ≤ N ∧ i = .int .i64 k ∧ Hid (Below w.heap.size w wr)) (fun i _ => N - (intOf i).toNat)
  case atStart => exact ⟨0, Nat.zero_le _, rfl, hidD (Below.refl _ _)⟩
  case round =>
    obtain ⟨k, hk, rfl, hb⟩ := hrel
    by_cases hlt : k < N
    · obtain ⟨g, off, rfl, hg, hcell⟩ := TS.at (HV.out wr hb.out) k (by have := hN.out; omega)
      obtain ⟨g', off', rfl, hg', hcell'⟩ := TS.at (HU.out wr hb.out) k (by have := hN.out; omega)
      obtain ⟨Q1, Q2⟩ := hcell k (by have := hN.out; omega)
      obtain ⟨R1, R2⟩ := hcell' k (by have := hN.out; omega)
      have i1 : (k : Int) < (N : Int) := by omega
      clear hcell hcell' HV HU
      generalize Ti.g l k = x at *
      go_wp2_with fail
      go_quiet (fail)
      go_wp2
      exact ⟨⟨k + 1, by omega, by go_num, hidD (below_drewN hb.out _)⟩, by simp [intOf]; omega⟩
    · go_wp2
      go_ret
      exact ⟨rfl, hb.out⟩

def Ti.heapB (l : List Ti.T) : Bool := (List.range l.length).all fun i => i == 0 || !Ti.ah (Ti.g l i) (Ti.g l (Ti.pa i))
def Ti.chkE (l : List Ti.T) : Int := if 1024 < l.length then 3 else if l.all Ti.may = false then 4 else if decide (l.map Ti.T.id').Nodup = false then 6 else if Ti.heapB l = false then 9 else 0
theorem Ti.heapB_iff {l : List Ti.T} : Ti.heapB l = true ↔ Ti.heap l := by
  unfold Ti.heapB Ti.heap
  rw [List.all_eq_true]
  constructor
  · intro h i h0 hi
    have := h i (List.mem_range.2 hi)
    simp only [Bool.or_eq_true, beq_iff_eq, Bool.not_eq_true'] at this
    rcases this with e | e
    · omega
    · exact e
  · intro h i hi
    simp only [Bool.or_eq_true, beq_iff_eq, Bool.not_eq_true']
    by_cases e : i = 0
    · exact .inl e
    · exact .inr (h i (by omega) (List.mem_range.1 hi))
theorem Ti.all_may {l : List Ti.T} (h : ∀ k, k < l.length → Ti.may (Ti.g l k) = true) : l.all Ti.may = true := by
  rw [List.all_eq_true]
  intro x hx
  obtain ⟨k, hk, rfl⟩ := List.getElem_of_mem hx
  have := h k hk
  rwa [Ti.g_at hk] at this
theorem Ti.not_may {l : List Ti.T} {k : Nat} (hk : k < l.length) (h : Ti.may (Ti.g l k) = false) : l.all Ti.may = false := by
  rw [← Bool.not_eq_true, List.all_eq_true]
  intro e
  rw [Ti.g_at hk] at h
  rw [e _ (List.getElem_mem hk)] at h
  cases h
theorem Ti.ids_apart {l : List Ti.T} (h : ∀ i k, k < i → i < l.length → (Ti.g l i).id' ≠ (Ti.g l k).id') : (l.map Ti.T.id').Nodup := by
  rw [List.nodup_iff_pairwise_ne, List.pairwise_iff_getElem]
  intro i j hi hj hij
  rw [List.length_map] at hi hj
  have := h j i hij hj
  rw [Ti.g_at hj, Ti.g_at hi] at this
  simp only [List.getElem_map]
  exact Ne.symm this
theorem Ti.ids_twice {l : List Ti.T} {i k : Nat} (hk : k < i) (hi : i < l.length) (h : (Ti.g l i).id' = (Ti.g l k).id') : decide (l.map Ti.T.id').Nodup = false := by
  rw [decide_eq_false_iff_not, List.nodup_iff_pairwise_ne, List.pairwise_iff_getElem]
  intro e
  have := e k i (by rw [List.length_map]; omega) (by rw [List.length_map]; omega) hk
  simp only [List.getElem_map] at this
  rw [Ti.g_at hi, Ti.g_at (by omega)] at h
  exact this h.symm
theorem Ti.chk_count {l : List Ti.T} (h : 1024 < l.length) : Ti.chkE l = 3 := if_pos h
theorem Ti.chk_range {l : List Ti.T} (h : ¬ 1024 < l.length) (h2 : l.all Ti.may = false) : Ti.chkE l = 4 := by unfold Ti.chkE; rw [if_neg h, if_pos h2]
theorem Ti.chk_twice {l : List Ti.T} (h : ¬ 1024 < l.length) (h2 : l.all Ti.may = true) (h3 : decide (l.map Ti.T.id').Nodup = false) : Ti.chkE l = 6 := by unfold Ti.chkE; rw [if_neg h, if_neg (by rw [h2]; decide), if_pos h3]
theorem Ti.chk_heap {l : List Ti.T} (h : ¬ 1024 < l.length) (h2 : l.all Ti.may = true) (h3 : (l.map Ti.T.id').Nodup) (h4 : ¬ Ti.heap l) : Ti.chkE l = 9 := by
  unfold Ti.chkE
  rw [if_neg h, if_neg (by rw [h2]; decide), if_neg (by rw [decide_eq_true h3]; decide), if_pos (by rw [← Bool.not_eq_true, Ti.heapB_iff]; exact h4)]
theorem Ti.chk_ok {l : List Ti.T} (h : ¬ 1024 < l.length) (h2 : l.all Ti.may = true) (h3 : (l.map Ti.T.id').Nodup) (h4 : Ti.heap l) : Ti.chkE l = 0 := by
  unfold Ti.chkE
  rw [if_neg h, if_neg (by rw [h2]; decide), if_neg (by rw [decide_eq_true h3]; decide), if_neg (by rw [Ti.heapB_iff.2 h4]; decide)]
theorem Ti.chk_zero {l : List Ti.T} (h : Ti.chkE l = 0) : l.length ≤ 1024 ∧ l.all Ti.may = true ∧ (l.map Ti.T.id').Nodup ∧ Ti.heap l := by
  unfold Ti.chkE at h
  split at h
  · cases h
  · split at h
    · cases h
    · split at h
      · cases h
      · split at h
        · cases h
        · rename_i h1 h2 h3 h4
          exact ⟨by omega, by simpa using h2, by simpa using h3, Ti.heapB_iff.1 (by simpa using h4)⟩
theorem Ti.nodup_of {l : List Ti.T} (h : (l.map Ti.T.id').Nodup) : l.Nodup := by
  rw [List.nodup_iff_pairwise_ne] at *
  rw [List.pairwise_map] at h
  exact h.imp fun hab e => hab (by rw [e])

set_option maxHeartbeats 8000000 in
theorem rcheck_any (v : Value) (l : List Ti.T) (w : World) (hs : TS w v l) : Calls Try.prog 24 #[v] w fun e w' => e = .returned (.int .i64 (Ti.chkE l)) ∧ Below w.heap.size w w' := by
  have HV := hidD (fun (W : World) (b : Below w.heap.size w W) => hs.below b)
  obtain ⟨a, cap, rfl, h1, h2, _, _⟩ := hs
  unfold maxLen at h2
  have C1 := hidD (@Ti.chk_count l)
  have C2 := hidD (@Ti.chk_range l)
  have C3 := hidD (@Ti.chk_twice l)
  have C4 := hidD (@Ti.chk_heap l)
  have C5 := hidD (@Ti.chk_ok l)
  generalize Ti.chkE l = E at *
  obtain ⟨N, hN⟩ : ∃ N, N = l.length := ⟨_, rfl⟩
  rw [← hN] at h1 HV C1 C2 C3 C4 C5 ⊢
  replace hN := hidD hN
  obtain ⟨B, hB⟩ : ∃ B, B = w.heap.size := ⟨_, rfl⟩
  rw [← hB] at HV ⊢
  replace hB := hidD hB
  by_cases hbig : 1024 < N
  · have hE := C1.out hbig
    subst hE
    clear C1 C2 C3 C4 C5
    go_enter Try.func24, Try.ntmps24
    go_wp2_with fail
    go_ret
    exact ⟨rfl, Below.refl _ _⟩
  replace C2 := hidD (C2.out hbig)
  replace C3 := hidD (C3.out hbig)
  replace C4 := hidD (C4.out hbig)
  replace C5 := hidD (C5.out hbig)
  have hsm : N ≤ 1024 := by omega
  clear C1 hbig
  go_enter Try.func24, Try.ntmps24
  go_wp2_with fail
  go_loopw [3] (fun i wr => ∃ k : Nat, k ≤ N ∧ i = .int .i64 k ∧ Hid ((∀ j, j < k → Ti.may (Ti.g l j) = true) ∧ Below B w wr ∧ B ≤ wr.heap.size)) (fun i _ => 2000 - (intOf i).toNat)
  case atStart => exact ⟨0, Nat.zero_le _, rfl, hidD ⟨fun j hj => by omega, Below.refl _ _, by rw [hB.out]; exact Nat.le_refl _⟩⟩
  case round =>
    obtain ⟨k, hk, rfl, hJ⟩ := hrel
    obtain ⟨j1, j2, j3⟩ := hJ.out
    by_cases hlt : k < N
    · obtain ⟨g, off, rfl, hg, hcell⟩ := TS.at (HV.out wr j2) k (by have := hN.out; omega)
      obtain ⟨q1, q2⟩ := hcell k (by have := hN.out; omega)
      have hi : (k : Int) < (N : Int) := by omega
      have cM := rmay_any (Ti.g l k) wr
      have HM : Hid (Ti.may (Ti.g l k) = true → ∀ j, j < k + 1 → Ti.may (Ti.g l j) = true) := hidD (fun h j hj => by
        by_cases e : j = k
        · subst e; exact h
        · exact j1 j (by omega))
      have HX : Hid (Ti.may (Ti.g l k) = false → E = 4) := hidD (fun h => C2.out (Ti.not_may (by have := hN.out; omega) h))
      have J2 := hidD j2
      have J3 := hidD j3
      clear j1 j2 j3 hJ hcell C2 C3 C4 C5
      generalize Ti.may (Ti.g l k) = y at *
      generalize Ti.g l k = x at *
      obtain ⟨xa, xi⟩ := x
      dsimp only at q1 q2
      go_wp2_with fail
      with_reducible refine cM.mono ?_
      rintro e w2 ⟨rfl, h2⟩
      have K2 := hidD (below_on J2.out J3.out h2)
      have K3 := hidD (Nat.le_trans J3.out h2.size)
      clear cM h2 q1 q2
      cases y
      · have hE := HX.out rfl
        subst hE
        go_wp2_with fail
        go_ret
        exact ⟨rfl, K2.out⟩
      · go_wp2_with fail
        exact ⟨⟨k + 1, by omega, by go_num, hidD ⟨HM.out (by first | rfl | trivial), K2.out, K3.out⟩⟩, by simp [intOf]; omega⟩
    · have hke : k = N := by omega
      subst hke
      have HMAY := hidD (Ti.all_may (l := l) (fun j hj => j1 j (by have := hN.out; omega)))
      replace C3 := hidD (C3.out HMAY.out)
      replace C4 := hidD (C4.out HMAY.out)
      replace C5 := hidD (C5.out HMAY.out)
      have J2 := hidD j2
      have J3 := hidD j3
      clear j1 j2 j3 hJ C2
      go_wp2_with fail
      go_loopw [4] (fun i wr2 => ∃ m : Nat, m ≤ k ∧ i = .int .i64 m ∧ Hid ((∀ i j, j < i → i < m → (Ti.g l i).id' ≠ (Ti.g l j).id') ∧ Below B w wr2 ∧ B ≤ wr2.heap.size)) (fun i _ => 2000 - (intOf i).toNat)
      case atStart => exact ⟨0, Nat.zero_le _, rfl, hidD ⟨fun i j _ hj => by omega, J2.out, J3.out⟩⟩
      case round =>
        clear J2 J3
        obtain ⟨m, hm, rfl, hJ⟩ := hrel
        by_cases hlm : m < k
        · have hi : (m : Int) < (k : Int) := by omega
          have JJ := hidD hJ.out.1
          go_wp2_with fail
          go_loopw [5] (fun i wr3 => ∃ q : Nat, q ≤ m ∧ i = .int .i64 q ∧ Hid ((∀ j, j < q → (Ti.g l m).id' ≠ (Ti.g l j).id') ∧ Below B w wr3 ∧ B ≤ wr3.heap.size)) (fun i _ => 2000 - (intOf i).toNat)
          case atStart => exact ⟨0, Nat.zero_le _, rfl, hidD ⟨fun j hj => by omega, hJ.out.2⟩⟩
          case round =>
            clear hJ
            obtain ⟨q, hq, rfl, hQ⟩ := hrel
            obtain ⟨q1, q2, q3⟩ := hQ.out
            by_cases hlq : q < m
            · obtain ⟨g, off, rfl, hg, hcell⟩ := TS.at (HV.out _ q2) m (by have := hN.out; omega)
              obtain ⟨_, t1⟩ := hcell m (by have := hN.out; omega)
              obtain ⟨_, t2⟩ := hcell q (by have := hN.out; omega)
              have hiq : (q : Int) < (m : Int) := by omega
              have HT : Hid ((Ti.g l m).id' = (Ti.g l q).id' → E = 6) := hidD (fun h => C3.out (Ti.ids_twice hlq (by have := hN.out; omega) h))
              have HS : Hid (¬ (Ti.g l m).id' = (Ti.g l q).id' → ∀ j, j < q + 1 → (Ti.g l m).id' ≠ (Ti.g l j).id') := hidD (fun h j hj => by
                by_cases e : j = q
                · subst e; exact h
                · exact q1 j (by omega))
              have Q2 := hidD q2
              have Q3 := hidD q3
              clear q1 q2 q3 hQ hcell C3 C4 C5
              by_cases heq : (Ti.g l m).id' = (Ti.g l q).id'
              · have hE := HT.out heq
                subst hE
                rw [heq] at t1
                clear HS HT heq
                generalize (Ti.g l q).id' = y at *
                go_wp2_with fail
                go_quiet (fail)
                go_wp2_with fail
                go_ret
                exact ⟨rfl, below_drewN Q2.out _⟩
              · have HS2 := hidD (HS.out heq)
                have d : ((Ti.g l m).id' == (Ti.g l q).id') = false := by simpa using heq
                clear HS HT heq
                generalize (Ti.g l q).id' = y at *
                generalize (Ti.g l m).id' = x at *
                go_wp2_with fail
                go_quiet (fail)
                go_wp2_with fail
                exact ⟨⟨q + 1, by omega, by go_num, hidD ⟨HS2.out, below_drewN Q2.out _, Q3.out⟩⟩, by simp [intOf]; omega⟩
            · have hqm : q = m := by omega
              subst hqm
              have HN2 : Hid (∀ i j, j < i → i < q + 1 → (Ti.g l i).id' ≠ (Ti.g l j).id') := hidD (fun i j hj hi2 => by
                by_cases e : i = q
                · subst e; exact q1 j hj
                · exact JJ.out i j hj (by omega))
              have Q2 := hidD q2
              have Q3 := hidD q3
              clear q1 q2 q3 hQ
              go_wp2_with fail
              exact ⟨⟨q + 1, by omega, by go_num, hidD ⟨HN2.out, Q2.out, Q3.out⟩⟩, by simp [intOf]; omega⟩
        · have hmk : m = k := by omega
          subst hmk
          have HND := hidD (Ti.ids_apart (l := l) (fun i j hj hi => hJ.out.1 i j hj (by have := hN.out; omega)))
          replace C4 := hidD (C4.out HND.out)
          replace C5 := hidD (C5.out HND.out)
          have J2 := hidD hJ.out.2.1
          have J3 := hidD hJ.out.2.2
          clear hJ C3
          go_wp2_with fail
          go_loopw [6] (fun i wr3 => ∃ q : Nat, 1 ≤ q ∧ (q ≤ m ∨ q = 1) ∧ i = .int .i64 q ∧ Hid ((∀ j, 0 < j → j < q → Ti.ah (Ti.g l j) (Ti.g l (Ti.pa j)) = false) ∧ Below B w wr3 ∧ B ≤ wr3.heap.size)) (fun i _ => 2000 - (intOf i).toNat)
          case atStart => exact ⟨1, Nat.le_refl _, .inr rfl, rfl, hidD ⟨fun j h0 h1 => by omega, J2.out, J3.out⟩⟩
          case round =>
            clear J2 J3
            obtain ⟨q, hq1, hqm, rfl, hQ⟩ := hrel
            obtain ⟨j1, j2, j3⟩ := hQ.out
            by_cases hlq : q < m
            · obtain ⟨g, off, rfl, hg, hcell⟩ := TS.at (HV.out _ j2) q (by have := hN.out; omega)
              obtain ⟨t1, t2⟩ := hcell q (by have := hN.out; omega)
              have hpq : Ti.pa q < q := by show (q - 1) / 2 < q; omega
              obtain ⟨u1, u2⟩ := hcell (Ti.pa q) (by have := hN.out; omega)
              have hiq : (q : Int) < (m : Int) := by omega
              obtain ⟨p, hp⟩ : ∃ p, p = Ti.pa q := ⟨_, rfl⟩
              rw [← hp] at u1 u2
              obtain ⟨d, hd⟩ : ∃ d, d = q - 1 := ⟨_, rfl⟩
              have e1 : IntKind.i64.wrap ((q : Int) - 1) = (d : Int) := by rw [show (q : Int) - 1 = (d : Int) by omega]; exact wrap_ok (by omega) (by omega)
              have e2 : Int.tdiv (d : Int) 2 = (p : Int) := by rw [show Int.tdiv (d : Int) 2 = ((d / 2 : Nat) : Int) from rfl, hp, hd]
              have hpm : p < m := by omega
              have e3 : IntKind.i64.wrap (p : Int) = (p : Int) := wrap_ok (by omega) (by omega)
              have HS : Hid (Ti.ah (Ti.g l q) (Ti.g l p) = false → ∀ j, 0 < j → j < q + 1 → Ti.ah (Ti.g l j) (Ti.g l (Ti.pa j)) = false) := hidD (fun h j h0 h1 => by
                by_cases e : j = q
                · subst e; rw [← hp]; exact h
                · exact j1 j h0 (by omega))
              have HX : Hid (Ti.ah (Ti.g l q) (Ti.g l p) = true → E = 9) := hidD (fun h => C4.out (fun hh => by
                have := hh q (by omega) (by have := hN.out; omega)
                rw [← hp, h] at this
                cases this))
              have Q2 := hidD j2
              have Q3 := hidD j3
              have cA := hidD (rahead_any (Ti.g l q) (Ti.g l p))
              have hii : (p : Int) < (m : Int) := by omega
              clear j1 j2 j3 hQ hcell C4 C5 hp hd
              generalize Ti.ah (Ti.g l q) (Ti.g l p) = y at *
              generalize Ti.g l q = xq at *
              generalize Ti.g l p = xp at *
              obtain ⟨qa, qi⟩ := xq
              obtain ⟨pa, pi⟩ := xp
              dsimp only at t1 t2 u1 u2
              clear hpq
              go_wp2_with fail
              go_region_with (go_at_call 26; refine (cA.out _).mono ?_; rintro e w9 ⟨rfl, h9⟩; have K2 := hidD (below_on (belowD_drew Q2.out) Q3.out h9); have K3 := hidD (Nat.le_trans Q3.out h9.size); clear h9)
              all_goals (
                cases y
                · go_wp2_with fail
                  exact ⟨⟨q + 1, by omega, by omega, by go_num, hidD ⟨HS.out (by first | rfl | trivial), K2.out, K3.out⟩⟩, by simp [intOf]; omega⟩
                · have hE := HX.out rfl
                  subst hE
                  go_wp2_with fail
                  go_ret
                  exact ⟨rfl, K2.out⟩)
            · have hE := C5.out (fun i h0 hi => j1 i h0 (by have := hN.out; omega))
              subst hE
              have Q2 := hidD j2
              clear j1 j2 j3 hQ C4 C5
              go_wp2_with fail
              go_ret
              exact ⟨rfl, Q2.out⟩
end Go.Proofs.Ytkamcjebihfdlaa
