/- histo: Merge. -/
import Derived.Test.YthdaldgmolhljaaHsG
namespace Go.Proofs.Ythdaldgmolhljaa
open Go.RowKit
set_option linter.unusedVariables false
set_option maxRecDepth 20000

/-- Histograms in a row: each read as it lies. -/
def HRow (W : World) (g : Nat) (l : List Hi.H) : Prop := g < W.heap.size ∧ ∀ k, k < l.length → ∃ (a : Option Addr) (cap : Nat), W.cell? ⟨g, k * 2, none⟩ = some (.slice a (l.getD k Hi.H.z).c.length cap) ∧ W.cell? ⟨g, k * 2 + 1, none⟩ = some (.int .i64 (l.getD k Hi.H.z).t) ∧ Seg .i64 W (.slice a (l.getD k Hi.H.z).c.length cap) (l.getD k Hi.H.z).c
theorem cell_below {W W' : World} {p : Addr} {v : Value} (h : W.cell? p = some v) (hb : Below W.heap.size W W') : W'.cell? p = some v := (hb.cell (World.block_lt_of_cell? W _ h)).trans h
theorem HRow.below {W W' : World} {g : Nat} {l : List Hi.H} (h : HRow W g l) (hb : Below W.heap.size W W') : HRow W' g l :=
  ⟨Nat.lt_of_lt_of_le h.1 hb.size, fun k hk => by
    obtain ⟨a, cap, h1, h2, h3⟩ := h.2 k hk
    exact ⟨a, cap, cell_below h1 hb, cell_below h2 hb, h3.below hb⟩⟩
theorem Hi.mer_cases (l : List Hi.H) : (∀ j, j < l.length → (∀ i, i < j → Hi.chk (l.getD i Hi.H.z) = 0) → ¬ Hi.chk (l.getD j Hi.H.z) = 0 → Hi.merE l = Hi.chk (l.getD j Hi.H.z) ∧ Hi.merR l = Hi.H.z) ∧
    ((∀ j, j < l.length → Hi.chk (l.getD j Hi.H.z) = 0) → 1073741824 < Hi.tot l l.length → Hi.merE l = 72 ∧ Hi.merR l = Hi.H.z) ∧
    ((∀ j, j < l.length → Hi.chk (l.getD j Hi.H.z) = 0) → ¬ 1073741824 < Hi.tot l l.length → Hi.merE l = 0 ∧ Hi.merR l = ⟨Hi.merC l l.length, Hi.tot l l.length⟩) := by
  have key : ∀ x, Hi.merE l = x → ¬ x = 0 → Hi.merE l = x ∧ Hi.merR l = Hi.H.z := fun x e hx => ⟨e, if_neg (by rw [e]; exact hx)⟩
  have none : (∀ j, j < l.length → Hi.chk (l.getD j Hi.H.z) = 0) → ¬ l.any (fun h => decide (Hi.chk h ≠ 0)) = true := fun h e => by
    obtain ⟨x, hx, hc⟩ := List.any_eq_true.1 e
    obtain ⟨k, hk, rfl⟩ := List.getElem_of_mem hx
    have := h k hk
    simp [List.getD, hk] at this hc
    exact hc this
  refine ⟨fun j hj _ hc => ?_, fun h1 h2 => ?_, fun h1 h2 => ?_⟩
  · have h9 : Hi.chk (l.getD j Hi.H.z) = 9 := by rcases Hi.chk_two (l.getD j Hi.H.z) with e | e; exact absurd e hc; exact e
    rw [h9]
    refine key 9 (if_pos (List.any_eq_true.2 ⟨l.getD j Hi.H.z, ?_, decide_eq_true hc⟩)) (by decide)
    simp [List.getD, hj]
  · exact key 72 (by unfold Hi.merE; rw [if_neg (none h1), if_pos h2]) (by decide)
  · have e : Hi.merE l = 0 := by unfold Hi.merE; rw [if_neg (none h1), if_neg h2]
    exact ⟨e, if_pos e⟩
theorem Hi.fits_take {c d : List Int} {t u : Int} (hc : c.length = 0 ∨ c.length = 81) (hd : d.length = 0 ∨ d.length = 81) (h1 : Hi.fits c t) (h2 : Hi.fits d u) : Hi.fits (Hi.take c d) (t + u) := by
  unfold Hi.take
  split
  · intro j
    have := h1 j
    have := h2 j
    omega
  · intro j
    have hl := Hi.pad_len hc
    rw [← Hi.onto_both (by rw [hl]; omega)]
    exact Hi.fits_onto hl (Hi.fits_pad h1) (fun j => h2 j) _ j
theorem Hi.fits_mer {l : List Hi.H} (h : ∀ j, j < l.length → Hi.chk (l.getD j Hi.H.z) = 0) (k : Nat) (hk : k ≤ l.length) : Hi.fits (Hi.merC l k) (Hi.tot l k) ∧ ((Hi.merC l k).length = 0 ∨ (Hi.merC l k).length = 81) := by
  induction k with
  | zero => exact ⟨fun j => ⟨Int.le_refl 0, Int.le_refl 0⟩, .inl rfl⟩
  | succ k ih =>
    obtain ⟨a, b⟩ := ih (by omega)
    have hc := h k (by omega)
    exact ⟨Hi.fits_take b (Hi.chk_zero hc).1 a (Hi.fits_chk hc), Hi.take_len b (Hi.chk_zero hc).1⟩

theorem Hi.tot_some {l : List Hi.H} (k : Nat) (hk : k ≤ l.length) (h : ∀ j, j < k → Hi.chk (l.getD j Hi.H.z) = 0) : 0 ≤ Hi.tot l k ∧ Hi.tot l k ≤ 1073741824 * k := by
  induction k with
  | zero => exact ⟨Int.le_refl 0, Int.le_refl 0⟩
  | succ k ih =>
    have := ih (by omega) (fun j hj => h j (by omega))
    obtain ⟨_, _, _, a, b⟩ := Hi.chk_zero (h k (by omega))
    show 0 ≤ Hi.tot l k + (l.getD k Hi.H.z).t ∧ Hi.tot l k + (l.getD k Hi.H.z).t ≤ 1073741824 * ((k + 1 : Nat) : Int)
    omega
set_option maxHeartbeats 8000000 in
theorem merge_any (g n cap : Nat) (l : List Hi.H) (w : World) (hr : HRow w g l) (hl : n = l.length) (hcap : n ≤ cap) (hn : n ≤ 1048576) :
    Calls Try.prog 18 #[.slice (some ⟨g, 0, none⟩) n cap] w fun e w' => ∃ r, e = .returned (.tuple #[vH r (Hi.merR l).t, .int .i64 (Hi.merE l)]) ∧ Below w.heap.size w w' ∧ OR w.heap.size w' r (Hi.merR l).c := by
  obtain ⟨g1, g2, g3⟩ := Hi.mer_cases l
  rw [← hl] at g1 g2 g3
  replace g1 := hidD g1
  replace g2 := hidD g2
  replace g3 := hidD g3
  generalize Hi.merE l = E at *
  generalize Hi.merR l = R at *
  have HRR : Hid (∀ k, k < n → ∃ (a : Option Addr) (cap : Nat), ∀ W, Below w.heap.size w W → W.cell? ⟨g, k * 2, none⟩ = some (.slice a (l.getD k Hi.H.z).c.length cap) ∧ W.cell? ⟨g, k * 2 + 1, none⟩ = some (.int .i64 (l.getD k Hi.H.z).t) ∧ Seg .i64 W (.slice a (l.getD k Hi.H.z).c.length cap) (l.getD k Hi.H.z).c) := hidD (fun k hk => by
    obtain ⟨a, cap, h1, h2, h3⟩ := hr.2 k (by omega)
    exact ⟨a, cap, fun W b => ⟨cell_below h1 b, cell_below h2 b, h3.below b⟩⟩)
  have HT := hidD (fun h => Hi.tot_up (l := l) h n (by omega))
  have HF := hidD (fun h => Hi.fits_mer (l := l) h)
  rw [← hl] at HT HF
  have HL := hidD hl
  obtain ⟨N, hN⟩ : ∃ N, N = w.heap.size := ⟨_, rfl⟩
  have X0 := hidD (Bo.new w (hL (.slice none 0 0) 0) 24)
  have HB := hidD ((Below.refl w.heap.size w).alloc (Nat.le_refl _) (.cells (hL (.slice none 0 0) 0).toArray 24))
  obtain ⟨W0, hW0⟩ : ∃ W0, W0 = w.alloc (.cells (hL (.slice none 0 0) 0).toArray 24) := ⟨_, rfl⟩
  rw [← hW0] at X0 HB
  have HGN : Hid (g < w.heap.size) := hidD hr.1
  rw [← hN] at X0 HB HRR HGN ⊢
  simp only [hL] at hW0
  clear hr hl
  go_enter Try.func18, Try.ntmps18
  go_wp2_with fail
  rw [← hN, ← hW0]
  clear hN hW0
  go_loopw [4, 13] (fun s i wr => ∃ k : Nat, k ≤ n ∧ s = .int .i64 (Hi.tot l k) ∧ i = .int .i64 (k : Int) ∧ Hid ((∀ j, j < k → Hi.chk (l.getD j Hi.H.z) = 0) ∧ Below N w wr ∧ Bo wr N (hL (.slice none 0 0) 0) 24)) (fun _ i _ => 2000000 - (intOf i).toNat)
  case atStart => exact ⟨0, Nat.zero_le _, rfl, rfl, hidD ⟨fun j hj => by omega, HB.out, X0.out⟩⟩
  case round =>
    clear HB X0
    obtain ⟨k, hk, rfl, rfl, hJ⟩ := hrel
    obtain ⟨j1, j2, j3⟩ := hJ.out
    by_cases hlt : k < n
    · obtain ⟨a, rc, hq⟩ := HRR.out k hlt
      obtain ⟨q1, q2, q3⟩ := hq wr j2
      clear hq
      have hi : (k : Int) < (n : Int) := by omega
      obtain ⟨x, hx⟩ : ∃ x, x = l.getD k Hi.H.z := ⟨_, rfl⟩
      rw [← hx] at q1 q2 q3
      replace hx := hidD hx
      obtain ⟨d, t⟩ := x
      dsimp only at q1 q2 q3
      have HX := hidD (Hi.chk_zero (h := ⟨d, t⟩))
      have J1 := hidD j1
      have LN : N < wr.heap.size := j3.lt
      have B1 := hidD ((Below.refl wr.heap.size wr).alloc (Nat.le_refl _) (.cells #[.slice a d.length rc, .int .i64 t] 24))
      have X1 := hidD (Bo.new wr (hL (.slice a d.length rc) t) 24)
      have cK := check_any (.slice a d.length rc) ⟨d, t⟩ (wr.alloc (.cells #[.slice a d.length rc, .int .i64 t] 24)) (q3.below B1.out)
      obtain ⟨W1, hW1⟩ : ∃ W1, W1 = wr.alloc (.cells #[.slice a d.length rc, .int .i64 t] 24) := ⟨_, rfl⟩
      have X1' : Hid (Bo W1 wr.heap.size [.slice a d.length rc, .int .i64 t] 24) := hidD (by rw [hW1]; exact X1.out)
      rw [← hW1] at cK B1
      have B2 := hidD (below_on j2 (Nat.le_of_lt LN) B1.out)
      have X0 := hidD (j3.below B1.out)
      have LW : Hid (wr.heap.size ≤ W1.heap.size) := hidD B1.out.size
      obtain ⟨ck, hck⟩ : ∃ ck, ck = Hi.chk ⟨d, t⟩ := ⟨_, rfl⟩
      rw [← hck] at cK
      have HG1 : Hid (¬ ck = 0 → E = ck ∧ R = Hi.H.z) := hidD (fun h => by rw [hck, hx.out]; exact g1.out k hlt j1 (by rw [← hx.out, ← hck]; exact h))
      have HJ1 : Hid (ck = 0 → ∀ j, j < k + 1 → Hi.chk (l.getD j Hi.H.z) = 0) := hidD (fun h j hj => by
        by_cases e : j = k
        · subst e
          rw [← hx.out, ← hck]
          exact h
        · exact j1 j (by omega))
      have HTK : Hid (Hi.tot l (k + 1) = Hi.tot l k + t) := hidD (by
        show Hi.tot l k + (l.getD k Hi.H.z).t = _
        rw [← hx.out])
      have HTR : Hid (0 ≤ Hi.tot l k ∧ Hi.tot l k ≤ 1073741824 * k) := hidD (by
        have := Hi.tot_some (l := l) k (by have := HL.out; omega) j1
        omega)
      replace hck := hidD hck
      clear j1 j2 j3 hJ hx q3 X1
      generalize d.length = dl at *
      go_wp2_with fail
      rw [← hW1]
      clear hW1
      with_reducible refine cK.mono ?_
      rintro e w2 ⟨rfl, h2⟩
      replace B2 := hidD (below_on B2.out (by have := LW.out; omega) h2)
      replace X0 := hidD (X0.out.below h2)
      have X1 := hidD (X1'.out.below h2)
      clear X1' cK h2
      have r0 := X1.out.cell 0 rfl
      have r1 := X1.out.cell 1 rfl
      have q0 := X0.out.cell 0 rfl
      have q1' := X0.out.cell 1 rfl
      have f0 := X0.out.frozen 0
      have f1 := X0.out.frozen 1
      by_cases hc : ck = 0
      case neg =>
        obtain ⟨hE, hR⟩ := HG1.out hc
        subst hE hR
        have hk1 : (E != 0) = true := by simp [hc]
        have S := hidD (put2_bo (.slice none 0 0) (.int .i64 0) X0.out)
        have SB := hidD ((put2_cg w2 N (.slice none 0 0) (.int .i64 0)).below (B := N) (by omega) (by have := X0.out.lt; omega) B2.out)
        clear g1 g2 g3 hc
        go_wp2_with fail
        refine bodyPost_ret (ret_h rfl rfl S.out) rfl ?_
        exact ⟨_, rfl, SB.out, .inl ⟨rfl, rfl⟩⟩
      subst hc
      have ht := HX.out hck.out.symm
      have ht0 := ht.2.2.2.1
      have ht1 := ht.2.2.2.2
      try dsimp only at ht0 ht1
      obtain ⟨s0, s1⟩ := HTR.out
      have hw : IntKind.i64.wrap (Hi.tot l k + t) = Hi.tot l k + t := wrap_ok (by omega) (by omega)
      clear ht g1 g2 g3 HT HF
      generalize Hi.tot l k = tk at *
      go_wp2_with fail
      exact ⟨⟨k + 1, by omega, by rw [HTK.out], by go_num, hidD ⟨HJ1.out (by first | rfl | trivial), B2.out, X0.out⟩⟩, by simp [intOf]; omega⟩
    · have hke : k = n := by omega
      subst hke
      have J1 := hidD j1
      clear hJ j1
      obtain ⟨s0, _, s1⟩ := HT.out J1.out k (Nat.le_refl _)
      have q0 := j3.cell 0 rfl
      have q1 := j3.cell 1 rfl
      have f0 := j3.frozen 0
      have f1 := j3.frozen 1
      by_cases hbig : 1073741824 < Hi.tot l k
      case pos =>
        obtain ⟨hE, hR⟩ := g2.out J1.out hbig
        subst hE hR
        have S := hidD (put2_bo (.slice none 0 0) (.int .i64 0) j3)
        have SB := hidD ((put2_cg wr N (.slice none 0 0) (.int .i64 0)).below (B := N) (by omega) (by have := j3.lt; omega) j2)
        clear g1 g2 g3 j2 j3 HT HF
        generalize Hi.tot l k = tk at *
        go_wp2_with fail
        refine bodyPost_ret (ret_h rfl rfl S.out) rfl ?_
        exact ⟨_, rfl, SB.out, .inl ⟨rfl, rfl⟩⟩
      obtain ⟨hE, hR⟩ := g3.out J1.out (by omega)
      subst hE hR
      obtain ⟨T, hT⟩ : ∃ T, T = wr.heap.size := ⟨_, rfl⟩
      obtain ⟨W2, hW2⟩ : ∃ W2, W2 = wr.alloc (.cells #[.slice none 0 0, .int .i64 0] 55) := ⟨_, rfl⟩
      have hT2 : Hid (TL W2 T [] 0) := hidD (by rw [hW2, hT]; exact .inl ⟨rfl, Bo.new wr [.slice none 0 0, .int .i64 0] 55⟩)
      have hb2 : Below wr.heap.size wr W2 := by rw [hW2]; exact (Below.refl _ _).alloc (Nat.le_refl _) _
      have HB2 := hidD (below_on j2 (Nat.le_of_lt j3.lt) hb2)
      have Y0 := hidD (j3.below hb2)
      have hNT : N < T := by rw [hT]; exact j3.lt
      have HTOT := hidD hbig
      obtain ⟨tk, htk⟩ : ∃ tk, tk = Hi.tot l k := ⟨_, rfl⟩
      rw [← htk] at s0 s1 hbig HTOT
      replace htk := hidD htk
      clear g1 g2 g3 hb2 j2 j3 q0 q1 f0 f1
      have HTW := hidD (And.intro hT hW2)
      rw [← htk.out]
      go_wp2_with fail
      rw [← hT, ← hW2]
      clear hT hW2 HTW
      have HTL := hidD hT2.out.lt
      go_loopw [33] (fun i wr => ∃ j : Nat, j ≤ k ∧ i = .int .i64 (j : Int) ∧ Hid (TL wr T (Hi.merC l j) (Hi.tot l j) ∧ Below N w wr ∧ Bo wr N (hL (.slice none 0 0) 0) 24)) (fun i _ => 2000000 - (intOf i).toNat)
      case atStart => exact ⟨0, Nat.zero_le _, rfl, hidD ⟨hT2.out, HB2.out, Y0.out⟩⟩
      case round =>
        clear hT2 HB2 Y0 HTL
        obtain ⟨j, hj, rfl, hJ⟩ := hrel
        obtain ⟨j1, j2, j3⟩ := hJ.out
        obtain ⟨f1, f2⟩ := HF.out J1.out j hj
        obtain ⟨_, t1, _⟩ := HT.out J1.out j hj
        rw [← htk.out] at t1
        by_cases hlt : j < k
        · obtain ⟨a, rc, hq⟩ := HRR.out j hlt
          obtain ⟨q1, q2, q3⟩ := hq _ j2
          have hi : (j : Int) < (k : Int) := by omega
          have hck := J1.out j hlt
          have HMC : Hi.merC l (j + 1) = Hi.take (Hi.merC l j) (l.getD j Hi.H.z).c := rfl
          have HTK : Hi.tot l (j + 1) = Hi.tot l j + (l.getD j Hi.H.z).t := rfl
          obtain ⟨x, hx⟩ : ∃ x, x = l.getD j Hi.H.z := ⟨_, rfl⟩
          rw [← hx] at q1 q2 q3 hck HMC HTK
          have hq3 : ∀ W', Below N w W' → Seg .i64 W' (.slice a x.c.length rc) x.c := fun W' b => by rw [hx]; exact (hq W' b).2.2
          obtain ⟨d, t⟩ := x
          dsimp only at q1 q2 q3 hq3 HMC HTK
          have LN : N < wr.heap.size := j3.lt
          have LT : T < wr.heap.size := j1.lt
          have B1 := (Below.refl wr.heap.size wr).alloc (Nat.le_refl _) (.cells #[.slice a d.length rc, .int .i64 t] 24)
          have X1 := Bo.new wr (hL (.slice a d.length rc) t) 24
          obtain ⟨W3, hW3⟩ : ∃ W3, W3 = wr.alloc (.cells #[.slice a d.length rc, .int .i64 t] 24) := ⟨_, rfl⟩
          have X1' : Hid (Bo W3 wr.heap.size [.slice a d.length rc, .int .i64 t] 24) := hidD (by rw [hW3]; exact X1)
          rw [← hW3] at B1
          have B2 := below_on j2 (Nat.le_of_lt LN) B1
          have hTL3 : TL W3 T (Hi.merC l j) (Hi.tot l j) := by
            rcases j1 with ⟨z1, z2⟩ | ⟨G, z1, z2, z3, z4⟩
            · exact .inl ⟨z1, z2.below B1⟩
            · exact .inr ⟨G, z1, z2, z3.below B1, z4.below B1⟩
          have cT := take_any T (Hi.merC l j) (Hi.tot l j) (.slice a d.length rc) ⟨d, t⟩ W3 hTL3 hck f1 (by omega) (hq3 W3 B2) (fun W' b => hq3 W' (below_then B2 (below_low b (by omega))))
          have HB3 := hidD B2
          have Y3 := hidD (j3.below B1)
          replace HMC := hidD HMC
          replace HTK := hidD HTK
          clear j1 j2 j3 hJ f1 f2 t1 hq hck hx hq3 B1 X1 B2 hTL3 q3
          have r0 := X1'.out.cell 0 rfl
          have r1 := X1'.out.cell 1 rfl
          dsimp only at cT
          generalize d.length = dl at *
          go_wp2_with fail
          rw [← hW3]
          clear hW3
          with_reducible refine cT.mono ?_
          rintro e w4 ⟨rfl, h4, h5⟩
          have HB4 := hidD (below_then HB3.out (below_low h4 (by omega)))
          have Y4 := hidD (Y3.out.under h4 (by omega))
          have H5 := hidD h5
          clear cT h4 h5
          go_wp2_with fail
          exact ⟨⟨j + 1, by omega, by go_num, hidD ⟨by rw [HMC.out, HTK.out]; exact H5.out, HB4.out, Y4.out⟩⟩, by simp [intOf]; omega⟩
        · have hke : j = k := by omega
          subst hke
          obtain ⟨r, b1, b2⟩ := j1.own
          have b2' := b2
          obtain ⟨ra, rca, hre, _⟩ := b2.seg
          have r0 := b1.cell 0 rfl
          have r1 := b1.cell 1 rfl
          have q0 := j3.cell 0 rfl
          have q1 := j3.cell 1 rfl
          have f0 := j3.frozen 0
          have f1' := j3.frozen 1
          have S := hidD (put2_bo r (.int .i64 (Hi.tot l j)) j3)
          have SB := hidD ((put2_cg wr N r (.int .i64 (Hi.tot l j))).below (B := N) (Nat.le_refl _) (Nat.le_of_lt j3.lt) j2)
          have SG := hidD (b2.cg (put2_cg wr N r (.int .i64 (Hi.tot l j))) (by omega))
          subst hre
          have HE : Hid (j = l.length) := hidD HL.out
          clear j1 j2 j3 hJ b1 b2 b2' HT HF f1 f2
          generalize (Hi.merC l j).length = ml at *
          go_wp2_with fail
          refine bodyPost_ret (ret_h rfl rfl S.out) rfl ?_
          exact ⟨_, rfl, SB.out, SG.out.lower (by omega)⟩
end Go.Proofs.Ythdaldgmolhljaa
