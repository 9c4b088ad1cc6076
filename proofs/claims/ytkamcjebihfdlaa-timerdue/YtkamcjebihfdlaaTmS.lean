/- timers: Due (the code's). -/
import Derived.Test.YtkamcjebihfdlaaTmR
namespace Go.Proofs.Ytkamcjebihfdlaa
open Go.RowKit
set_option linter.unusedVariables false
set_option maxRecDepth 20000

set_option maxHeartbeats 8000000 in
theorem due_any (v : Value) (l : List Ti.T) (t : Int) (w : World) (hs : TS w v l) (hlen : l.length ≤ 8796093022208) :
    Calls Try.prog 14 #[v, .int .i64 t] w fun e w' => ∃ r s, e = .returned (.tuple #[r, s, .int .i64 (Ti.chkE l)]) ∧ Below w.heap.size w w' ∧ OT w' w.heap.size r (Ti.dueL l t) ∧ w'.ownsRow w.heap.size 3 1 s (Ti.dueI l t).length (i64s (Ti.dueI l t)) := by
  have CK := check_any v l w hs
  have CO := hidD (fun (W : World) (b : Below w.heap.size w W) => clone_t v l W (hs.below b) hlen)
  have A0 : Hid (Ti.chkE l = 0 → Ti.dueL l t = (Ti.due t l.length l).1 ∧ Ti.dueI l t = (Ti.due t l.length l).2) := hidD (fun h => ⟨if_pos h, if_pos h⟩)
  have A1 : Hid (¬ Ti.chkE l = 0 → Ti.dueL l t = [] ∧ Ti.dueI l t = []) := hidD (fun h => ⟨if_neg h, if_neg h⟩)
  have AL := hidD (@Ti.chk_zero l)
  generalize Ti.dueL l t = E at *
  generalize Ti.dueI l t = R at *
  generalize Ti.chkE l = ck at *
  obtain ⟨a, cap, rfl, a1, a2, _, _⟩ := id hs
  unfold maxLen at a2
  obtain ⟨B, hB⟩ : ∃ B, B = w.heap.size := ⟨_, rfl⟩
  rw [← hB] at CK CO ⊢
  replace hB := hidD hB
  clear hs
  go_enter Try.func14, Try.ntmps14
  go_wp2_with fail
  with_reducible refine CK.mono ?_
  rintro e w1 ⟨rfl, h1⟩
  have HB := hidD h1
  have HBS : Hid (B ≤ w1.heap.size) := hidD (by rw [hB.out]; exact h1.size)
  clear CK h1
  by_cases hk0 : ck = 0
  case neg =>
    obtain ⟨hE, hR⟩ := A1.out hk0
    subst hE hR
    have hk1 : (ck != 0) = true := by simp [hk0]
    clear A0 A1 AL hk0
    go_wp2_with fail
    go_ret3
    exact ⟨_, _, rfl, HB.out, World.ownsRow_nil _ _ _ _, World.ownsRow_nil _ _ _ _⟩
  subst hk0
  obtain ⟨hE, hR⟩ := A0.out rfl
  have hL := (AL.out rfl).1
  have HND := hidD (AL.out rfl).2.2.1
  clear A0 A1 AL
  replace hE := hidD hE
  replace hR := hidD hR
  have cO := CO.out w1 HB.out
  clear CO
  go_wp2_with fail
  refine cO.mono ?_
  rintro e w2 ⟨v8, rfl, o2, h2⟩
  have HO2 : Hid (OT w2 B v8 l) := hidD (own_lower' o2 HBS.out)
  replace HB := hidD (below_on HB.out HBS.out h2)
  replace HBS := hidD (Nat.le_trans HBS.out h2.size)
  clear o2 h2 cO
  go_wp2_with fail
  go_loopw [8, 9] (fun s i wr => ∃ (f : Nat) (O : List Ti.T) (D : List Int), Hid (OT wr B s O ∧ wr.ownsRow B 3 1 i D.length (i64s D) ∧ O.length ≤ f ∧ f ≤ 1024 ∧ D.length + f ≤ 1024 ∧ (Ti.due t f O).1 = E ∧ D ++ (Ti.due t f O).2 = R ∧ Below B w wr ∧ B ≤ wr.heap.size ∧ (O.map Ti.T.id').Nodup)) (fun s _ _ => match s with | .slice _ n _ => n | _ => 0)
  case atStart => exact ⟨l.length, l, [], hidD ⟨HO2.out, World.ownsRow_nil _ _ _ _, Nat.le_refl _, hL, by simpa using hL, hE.out.symm, hR.out.symm, HB.out, HBS.out, HND.out⟩⟩
  case round =>
    clear HO2 HB HBS hE hR HND
    obtain ⟨f, O, D, hJ⟩ := hrel
    obtain ⟨j1, j2, j3, j4, j5, j6, j7, j8, j9, j10⟩ := hJ.out
    obtain ⟨a8, c8, rfl, d1, d2, _, _⟩ := id j1.ts
    obtain ⟨a9, c9, rfl, e1, e2, _, _⟩ := id (Seg.own j2)
    unfold maxLen at d2 e2
    by_cases h0 : O.length = 0
    case pos =>
      rw [Ti.due_stop (.inl h0)] at j6 j7
      have HE := hidD (And.intro j8 (And.intro j1 (And.intro j2 (And.intro j6 j7))))
      rw [h0]
      clear j1 j2 j3 j4 j5 j6 j7 j8 j9 j10 hJ
      go_wp2_with fail
      go_ret3
      refine ⟨_, _, rfl, HE.out.1, ?_, ?_⟩
      · have := HE.out.2.1
        rw [← HE.out.2.2.2.1]
        unfold OT at this ⊢
        rw [h0] at this ⊢
        exact this
      · rw [← HE.out.2.2.2.2]
        simpa using HE.out.2.2.1
    obtain ⟨g, off, rfl, hg, hcell⟩ := TS.at j1.ts 0 (by omega)
    obtain ⟨t1, t2⟩ := hcell 0 (by omega)
    rw [Nat.zero_mul, Nat.add_zero] at t1 t2
    have hpos : (0 : Int) < (O.length : Int) := by omega
    have hpos2 : 0 < O.length := by omega
    obtain ⟨x, hx⟩ : ∃ x, x = Ti.g O 0 := ⟨_, rfl⟩
    rw [← hx] at t1 t2
    replace hx := hidD hx
    by_cases hat : x.at' ≤ t
    case neg =>
      rw [Ti.due_stop (.inr (by rw [← hx.out]; exact hat))] at j6 j7
      have HE := hidD (And.intro j8 (And.intro j1 (And.intro j2 (And.intro j6 j7))))
      obtain ⟨xa, xi⟩ := x
      dsimp only at t1 t2 hat
      clear j1 j2 j3 j4 j5 j6 j7 j8 j9 j10 hJ hcell
      generalize O.length = n at *
      go_wp2_with fail
      go_ret3
      refine ⟨_, _, rfl, HE.out.1, ?_, ?_⟩
      · rw [← HE.out.2.2.2.1]
        exact HE.out.2.1
      · rw [← HE.out.2.2.2.2]
        simpa using HE.out.2.2.1
    obtain ⟨f', rfl⟩ : ∃ f', f = f' + 1 := ⟨f - 1, by omega⟩
    rw [Ti.due_go hpos2 (by rw [← hx.out]; exact hat), ← hx.out] at j6 j7
    obtain ⟨xa, xi⟩ := x
    dsimp only at t1 t2 hat j6 j7
    have hb0 := (Below.refl wr.heap.size wr).alloc (Nat.le_refl _) (.cells #[.int .i64 xi] 3)
    have S1 : Hid (Seg .i64 (wr.alloc (.cells #[.int .i64 xi] 3)) (.slice (some ⟨wr.heap.size, 0, none⟩) 1 1) [xi]) := hidD (seg_new wr [xi] 3 (by simp))
    have O1 : Hid ((wr.alloc (.cells #[.int .i64 xi] 3)).ownsRow B 3 1 (.slice a9 D.length c9) D.length (i64s D)) := hidD (own_below j2 hb0)
    have O2 : Hid (OT (wr.alloc (.cells #[.int .i64 xi] 3)) B (.slice (some ⟨g, off, none⟩) O.length c8) O) := hidD (own_below j1 hb0)
    have B1 : Hid (Below B w (wr.alloc (.cells #[.int .i64 xi] 3))) := hidD (below_on j8 j9 hb0)
    have B2 : Hid (B ≤ (wr.alloc (.cells #[.int .i64 xi] 3)).heap.size) := hidD (Nat.le_trans j9 hb0.size)
    have HJ := hidD (And.intro j3 (And.intro j4 (And.intro j5 (And.intro j6 j7))))
    have hD : D.length ≤ 1024 := by omega
    have hO : O.length ≤ 1024 := by omega
    have HGB : Hid (B ≤ g) := hidD (j1.lt g rfl).1
    have HN0 := hidD j10
    have HN1 := hidD (Ti.take_nodup hpos2 j10)
    clear j1 j2 j3 j4 j5 j6 j7 j8 j9 j10 hJ hcell hb0
    obtain ⟨W3, hW3⟩ : ∃ W3, W3 = wr.alloc (.cells #[.int .i64 xi] 3) := ⟨_, rfl⟩
    rw [← hW3] at S1 O1 O2 B1 B2
    go_wp2_with (first | (at_builtin; rw [← hW3]; refine wpList_append_ints W3 rfl _ _ rfl B (.slice a9 D.length c9) (.slice (some ⟨wr.heap.size, 0, none⟩) 1 1) D [xi] rfl O1.out rfl S1.out (by simp; omega) B2.out ?_; intro v2 w6 hown' hB6 hgrow))
    have P1 : OT w6 B (.slice (some ⟨g, off, none⟩) O.length c8) O := O2.out.kept hgrow (by
      refine .inr (fun e => ?_)
      have := own_apart O2.out O1.out (by decide) g rfl
      exact this (by rw [← e]; rfl))
    have B6 := below_then B1.out hB6
    have B7 : B ≤ w6.heap.size := Nat.le_trans B2.out hB6.size
    have cT := take_any B _ O w6 P1 B7 hpos2 (by omega) HN0.out
    have HB6 := hidD B6
    have HB7 := hidD B7
    have HO6 := hidD hown'
    have HP1 := hidD P1
    clear S1 O1 O2 B1 B2 hW3 hB6 hgrow P1 B6 B7 hown' t1 t2
    refine cT.mono ?_
    rintro e w7 ⟨v', rfl, o7, hcg⟩
    have hc7 := hcg g rfl
    have R1 := hidD o7
    have R2 := hidD (own_cg' HO6.out hc7 (own_apart HP1.out HO6.out (by decide) g rfl))
    have R3 := hidD (hc7.below (B := B) HGB.out HB7.out HB6.out)
    have R4 := hidD (Nat.le_trans HB7.out hc7.size)
    have hn' := hidD (Ti.take_len O)
    obtain ⟨a7, c7, rfl, _⟩ := id o7.ts
    have HQ := HJ.out
    clear cT hcg hc7 o7 HJ HB6 HB7 HO6 HP1
    go_wp2_with fail
    refine ⟨⟨f', Ti.take O, D ++ [xi], hidD ⟨R1.out, R2.out, by have := hn'.out; omega, by omega, by rw [List.length_append, List.length_singleton]; omega, HQ.2.2.2.1, ?_, R3.out, R4.out, HN1.out⟩⟩, ?_⟩
    · rw [List.append_assoc]
      exact HQ.2.2.2.2
    · dsimp only
      have := hn'.out
      omega
end Go.Proofs.Ytkamcjebihfdlaa
