/- timers: Add, by the reference (over a contract of put). -/
import Derived.Test.YtkamcjebihfdlaaTmB
namespace Go.Proofs.Ytkamcjebihfdlaa
open Go.RowKit
set_option linter.unusedVariables false
set_option maxRecDepth 20000

/-- What put does (text TmC). -/
def RPut : Prop := ∀ (B : Nat) (v : Value) (l : List Ti.T) (t : Ti.T) (w : World), OT w B v l → B ≤ w.heap.size → l.length ≤ 1048576 →
    Calls Try.prog 32 #[v, vT t] w fun e w' => ∃ v', e = .returned v' ∧ OT w' B v' (Ti.put l t) ∧ Below B w w'
theorem own_lower' {W : World} {B C : Nat} {e : TypeId} {s : Nat} {v : Value} {k : Nat} {xs : List Value} (h : W.ownsRow B e s v k xs) (hC : C ≤ B) : W.ownsRow C e s v k xs := by
  refine ⟨h.1, ?_⟩
  rcases h.2 with hn | ⟨g, cap, cur, rfl, hB, hgg, rest⟩
  · exact .inl hn
  · exact .inr ⟨g, cap, cur, rfl, by omega, hgg, rest⟩
/-- Timer by timer. -/
def Ti.addGo (out : List Ti.T) : List Ti.T → List Ti.T × Int
  | [] => (out, 0)
  | x :: r => if out.length = 1024 then ([], 3) else if Ti.may x = false then ([], 4) else if (out.any fun y => decide (y.id' = x.id')) = true then ([], 6) else Ti.addGo (Ti.put out x) r
def Ti.addE (l more : List Ti.T) : Int := if Ti.chkE l = 0 then (Ti.addGo l more).2 else Ti.chkE l
def Ti.addR (l more : List Ti.T) : List Ti.T := if Ti.chkE l = 0 then (Ti.addGo l more).1 else []
theorem Ti.addGo_cons (out : List Ti.T) (x : Ti.T) (r : List Ti.T) : (out.length = 1024 → Ti.addGo out (x :: r) = ([], 3)) ∧ (¬ out.length = 1024 → Ti.may x = false → Ti.addGo out (x :: r) = ([], 4)) ∧ (¬ out.length = 1024 → Ti.may x = true → (out.any fun y => decide (y.id' = x.id')) = true → Ti.addGo out (x :: r) = ([], 6)) ∧
    (¬ out.length = 1024 → Ti.may x = true → (out.any fun y => decide (y.id' = x.id')) = false → Ti.addGo out (x :: r) = Ti.addGo (Ti.put out x) r) := by
  refine ⟨fun h => ?_, fun h h2 => ?_, fun h h2 h3 => ?_, fun h h2 h3 => ?_⟩
  · show (if out.length = 1024 then _ else _) = _; rw [if_pos h]
  · show (if out.length = 1024 then _ else _) = _; rw [if_neg h, if_pos h2]
  · show (if out.length = 1024 then _ else _) = _; rw [if_neg h, if_neg (by rw [h2]; decide), if_pos h3]
  · show (if out.length = 1024 then _ else _) = _; rw [if_neg h, if_neg (by rw [h2]; decide), if_neg (by rw [h3]; decide)]
theorem Ti.drop_at {l : List Ti.T} {k : Nat} (h : k < l.length) : l.drop k = Ti.g l k :: l.drop (k + 1) := by
  rw [List.drop_eq_getElem_cons h, Ti.g_at h]
theorem Ti.any_id {l : List Ti.T} {i : Int} {k : Nat} (hk : k < l.length) (h : (Ti.g l k).id' = i) : (l.any fun y => decide (y.id' = i)) = true := by
  rw [List.any_eq_true]
  rw [Ti.g_at hk] at h
  exact ⟨l[k], List.getElem_mem hk, decide_eq_true h⟩
theorem Ti.none_id {l : List Ti.T} {i : Int} (h : ∀ k, k < l.length → ¬ (Ti.g l k).id' = i) : (l.any fun y => decide (y.id' = i)) = false := by
  rw [← Bool.not_eq_true, List.any_eq_true]
  rintro ⟨x, hx, hd⟩
  obtain ⟨k, hk, rfl⟩ := List.getElem_of_mem hx
  have := h k hk
  rw [Ti.g_at hk] at this
  exact this (of_decide_eq_true hd)

set_option maxHeartbeats 8000000 in
theorem radd_of (RP : RPut) (v u : Value) (l more : List Ti.T) (w : World) (hs : TS w v l) (hm : TS w u more) (hlen : l.length ≤ 8796093022208) :
    Calls Try.prog 11 #[v, u] w fun e w' => ∃ r, e = .returned (.tuple #[r, .int .i64 (Ti.addE l more)]) ∧ Below w.heap.size w w' ∧ OT w' w.heap.size r (Ti.addR l more) := by
  have CK := rcheck_any v l w hs
  have CO := hidD (fun (W : World) (b : Below w.heap.size w W) => rown_any v l W (hs.below b) hlen)
  have HM := hidD (fun (W : World) (b : Below w.heap.size w W) => hm.below b)
  have A0 : Hid (Ti.chkE l = 0 → Ti.addE l more = (Ti.addGo l more).2 ∧ Ti.addR l more = (Ti.addGo l more).1) := hidD (fun h => ⟨if_pos h, if_pos h⟩)
  have A1 : Hid (¬ Ti.chkE l = 0 → Ti.addE l more = Ti.chkE l ∧ Ti.addR l more = []) := hidD (fun h => ⟨if_neg h, if_neg h⟩)
  have AL := hidD (@Ti.chk_zero l)
  generalize Ti.addE l more = E at *
  generalize Ti.addR l more = R at *
  obtain ⟨ck, hck⟩ : ∃ ck, ck = Ti.chkE l := ⟨_, rfl⟩
  rw [← hck] at CK A0 A1 AL
  clear hck
  obtain ⟨a, cap, rfl, a1, a2, _, _⟩ := id hs
  obtain ⟨b, cap', rfl, b1, b2, _, _⟩ := id hm
  unfold maxLen at a2 b2
  obtain ⟨M, hM⟩ : ∃ M, M = more.length := ⟨_, rfl⟩
  rw [← hM] at b1 HM ⊢
  replace hM := hidD hM
  obtain ⟨B, hB⟩ : ∃ B, B = w.heap.size := ⟨_, rfl⟩
  rw [← hB] at CK CO HM ⊢
  replace hB := hidD hB
  clear hs hm
  go_enter Try.func11, Try.ntmps11
  go_wp2_with fail
  with_reducible refine CK.mono ?_
  rintro e w1 ⟨rfl, h1⟩
  have HB := hidD h1
  have HBS : Hid (B ≤ w1.heap.size) := hidD (by rw [hB.out]; exact h1.size)
  clear CK h1
  by_cases hk0 : ck = 0
  case neg =>
    obtain ⟨hE, hR⟩ := A1.out hk0
    subst hE hR
    have hk1 : (E != 0) = true := by simp [hk0]
    clear A0 A1 AL hk0
    go_wp2_with fail
    go_ret2
    exact ⟨_, rfl, HB.out, World.ownsRow_nil _ _ _ _⟩
  subst hk0
  obtain ⟨hE, hR⟩ := A0.out rfl
  have hL := (AL.out rfl).1
  clear A0 A1 AL
  have cO := CO.out w1 HB.out
  clear CO
  obtain ⟨G, hG⟩ : ∃ G, G = Ti.addGo l more := ⟨_, rfl⟩
  rw [← hG] at hE hR
  replace hG := hidD hG
  replace hE := hidD hE
  replace hR := hidD hR
  go_wp2_with fail
  refine cO.mono ?_
  rintro e w2 ⟨v7, rfl, o2, h2⟩
  have HO2 : Hid (OT w2 B v7 l) := hidD (own_lower' o2 HBS.out)
  replace HB := hidD (below_on HB.out HBS.out h2)
  replace HBS := hidD (Nat.le_trans HBS.out h2.size)
  clear o2 h2 cO
  go_wp2_with fail
  go_loopw [7, 8] (fun s i wr => ∃ (k : Nat) (O : List Ti.T), k ≤ M ∧ i = .int .i64 (k : Int) ∧ Hid (OT wr B s O ∧ O.length ≤ 1024 ∧ Ti.addGo O (more.drop k) = G ∧ Below B w wr ∧ B ≤ wr.heap.size)) (fun _ i _ => M - (intOf i).toNat)
  case atStart => exact ⟨0, l, Nat.zero_le _, rfl, hidD ⟨HO2.out, hL, by rw [List.drop_zero]; exact hG.out.symm, HB.out, HBS.out⟩⟩
  case round =>
    clear HO2 HB HBS
    obtain ⟨k, O, hk, rfl, hJ⟩ := hrel
    obtain ⟨j1, j2, j3, j4, j5⟩ := hJ.out
    obtain ⟨a7, c7, rfl, d1, d2, _, _⟩ := id j1.ts
    unfold maxLen at d2
    by_cases hlt : k < M
    · have hd := Ti.drop_at (l := more) (k := k) (by have := hM.out; omega)
      rw [hd] at j3
      clear hd
      obtain ⟨g1, g2, g3, g4⟩ := Ti.addGo_cons O (Ti.g more k) (more.drop (k + 1))
      rw [j3] at g1 g2 g3 g4
      replace g1 := hidD g1
      replace g2 := hidD g2
      replace g3 := hidD g3
      replace g4 := hidD g4
      have hi : (k : Int) < (M : Int) := by omega
      have hkw : IntKind.i64.wrap ((k : Int) + 1) = (k : Int) + 1 := by rw [IntKind.wrap_i64]; omega
      obtain ⟨gm, off, rfl, hgm, hcell⟩ := TS.at (HM.out wr j4) k (by have := hM.out; omega)
      obtain ⟨t1, t2⟩ := hcell k (by have := hM.out; omega)
      have HT2 := hidD hcell
      obtain ⟨n, hn⟩ : ∃ n, n = O.length := ⟨_, rfl⟩
      have J1 := hidD j1
      have J2 := hidD j2
      have J4 := hidD j4
      have J5 := hidD j5
      rw [← hn] at j2 d1 g1 g2 g3 g4 ⊢
      replace hn := hidD hn
      clear j1 j3 j4 j5 hJ hcell
      by_cases hn1 : n = 1024
      · have hr := g1.out hn1
        rw [hr] at hE hR
        have hE2 := hE.out
        have hR2 := hR.out
        dsimp only at hE2 hR2
        subst hE2 hR2 hn1
        clear g1 g2 g3 g4 hr hE hR
        go_wp2_with fail
        go_ret2
        exact ⟨_, rfl, J4.out, World.ownsRow_nil _ _ _ _⟩
      have hn2 : ((n : Int) == 1024) = false := by simp; omega
      have cM := rmay_any (Ti.g more k) wr
      obtain ⟨x, hx⟩ : ∃ x, x = Ti.g more k := ⟨_, rfl⟩
      rw [← hx] at cM g2 g3 g4 t1 t2
      replace hx := hidD hx
      obtain ⟨xa, xi⟩ := x
      dsimp only at t1 t2
      obtain ⟨y, hy⟩ : ∃ y, y = Ti.may ⟨xa, xi⟩ := ⟨_, rfl⟩
      rw [← hy] at cM g2 g3 g4
      clear hy
      go_wp2_with fail
      with_reducible refine cM.mono ?_
      rintro e w3 ⟨rfl, h3⟩
      have K1 := hidD (own_below J1.out h3)
      have K4 := hidD (below_on J4.out J5.out h3)
      have K5 := hidD (Nat.le_trans J5.out h3.size)
      clear cM h3 t1 t2
      cases y
      · have hr := g2.out hn1 rfl
        rw [hr] at hE hR
        have hE2 := hE.out
        have hR2 := hR.out
        dsimp only at hE2 hR2
        subst hE2 hR2
        clear g1 g2 g3 g4 hr hE hR
        go_wp2_with fail
        go_ret2
        exact ⟨_, rfl, K4.out, World.ownsRow_nil _ _ _ _⟩
      replace g3 := hidD (g3.out hn1 rfl)
      replace g4 := hidD (g4.out hn1 rfl)
      clear g1 g2
      go_wp2_with fail
      go_loopw [9] (fun i wr2 => ∃ q : Nat, q ≤ n ∧ i = .int .i64 (q : Int) ∧ Hid ((∀ j, j < q → ¬ (Ti.g O j).id' = xi) ∧ OT wr2 B (.slice a7 O.length c7) O ∧ Below B w wr2 ∧ B ≤ wr2.heap.size)) (fun i _ => 2000 - (intOf i).toNat)
      case atStart => exact ⟨0, Nat.zero_le _, rfl, hidD ⟨fun j hj => by omega, K1.out, K4.out, K5.out⟩⟩
      case round =>
        clear K1 K4 K5 J1 J4 J5
        obtain ⟨q, hq, rfl, hQ⟩ := hrel
        obtain ⟨j1, j2', j4, j5⟩ := hQ.out
        obtain ⟨gm2, off2, e3, hgm2, hcell⟩ := TS.at (HM.out wr j4) k (by have := hM.out; omega)
        cases e3
        obtain ⟨t1, t2⟩ := hcell k (by have := hM.out; omega)
        rw [← hx.out] at t1 t2
        dsimp only at t1 t2
        by_cases hlq : q < n
        · obtain ⟨go, offo, rfl, hgo, hco⟩ := TS.at j2'.ts q (by have := hn.out; omega)
          obtain ⟨_, u2⟩ := hco q (by have := hn.out; omega)
          have hiq : (q : Int) < (n : Int) := by omega
          have HY : Hid ((Ti.g O q).id' = xi → G = ([], 6)) := hidD (fun h => g3.out (Ti.any_id (by have := hn.out; omega) h))
          have HN : Hid (¬ (Ti.g O q).id' = xi → ∀ j, j < q + 1 → ¬ (Ti.g O j).id' = xi) := hidD (fun h j hj => by
            by_cases e : j = q
            · subst e; exact h
            · exact j1 j (by omega))
          have Q2 := hidD j2'
          have Q4 := hidD j4
          have Q5 := hidD j5
          clear j1 j2' j4 j5 hQ hcell hco t1 g3 g4
          obtain ⟨z, hz⟩ : ∃ z, z = (Ti.g O q).id' := ⟨_, rfl⟩
          rw [← hz] at u2 HY HN
          clear hz
          by_cases hzx : z = xi
          · have hr := HY.out hzx
            rw [hr] at hE hR
            have hE2 := hE.out
            have hR2 := hR.out
            dsimp only at hE2 hR2
            subst hE2 hR2 hzx
            clear HY HN hr hE hR
            go_wp2_with fail
            go_quiet (fail)
            go_wp2_with fail
            go_ret2
            exact ⟨_, rfl, below_drewN Q4.out _, World.ownsRow_nil _ _ _ _⟩
          · have HN2 := hidD (HN.out hzx)
            have d : (z == xi) = false := by simpa using hzx
            clear HY HN hzx
            go_wp2_with fail
            go_quiet (fail)
            go_wp2_with fail
            exact ⟨⟨q + 1, by omega, by go_num, hidD ⟨HN2.out, Q2.out, below_drewN Q4.out _, Q5.out⟩⟩, by simp [intOf]; omega⟩
        · have hqn : q = n := by omega
          have HGO := hidD (g4.out (Ti.none_id (fun j hj => j1 j (by have := hn.out; omega))))
          have cP := RP B (.slice a7 O.length c7) O ⟨xa, xi⟩ wr j2' j5 (by have := hn.out; omega)
          have Q4 := hidD j4
          have Q5 := hidD j5
          rw [← hn.out] at cP
          clear j1 j2' j4 j5 hQ hcell g3 g4
          go_wp2_with fail
          refine cP.mono ?_
          rintro e w5 ⟨v', rfl, o5, h5⟩
          have R4 := hidD (below_then Q4.out h5)
          have R5 := hidD (Nat.le_trans Q5.out h5.size)
          have R1 := hidD o5
          have R2 : Hid ((Ti.put O ⟨xa, xi⟩).length ≤ 1024) := hidD (by rw [Ti.put_len]; have := hn.out; omega)
          clear cP h5 o5 t1 t2
          go_wp2_with fail
          exact ⟨⟨k + 1, Ti.put O ⟨xa, xi⟩, by omega, by go_num, hidD ⟨R1.out, R2.out, HGO.out.symm, R4.out, R5.out⟩⟩, by simp [intOf]; omega⟩
    · have hke : k = M := by omega
      subst hke
      have hd : more.drop k = [] := by rw [List.drop_eq_nil_iff]; have := hM.out; omega
      rw [hd] at j3
      have j3' : (O, (0 : Int)) = G := j3
      rw [← j3'] at hE hR
      have hE2 := hE.out
      have hR2 := hR.out
      dsimp only at hE2 hR2
      subst hE2 hR2
      have HE := hidD (And.intro j4 j1)
      clear j1 j2 j3 j4 j5 hJ hE hR
      go_wp2_with fail
      go_ret2
      exact ⟨_, rfl, HE.out.1, HE.out.2⟩
end Go.Proofs.Ytkamcjebihfdlaa
