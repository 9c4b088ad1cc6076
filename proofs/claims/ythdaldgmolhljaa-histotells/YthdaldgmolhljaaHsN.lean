/- histo: the reference's Merge. -/
import Derived.Test.YthdaldgmolhljaaHsM
import Derived.Deep.CutBlock
namespace Go.Proofs.Ythdaldgmolhljaa
open Go.RowKit
set_option linter.unusedVariables false
set_option maxRecDepth 20000

theorem Hi.anyC_zero {l : List Hi.H} (k : Nat) (hk : k ≤ l.length) (hc : ∀ j, j < k → Hi.chk (l.getD j Hi.H.z) = 0) (h : Hi.anyC l k = false) : Hi.tot l k = 0 := by
  induction k with
  | zero => rfl
  | succ k ih =>
    rw [Hi.anyC_next l k (by omega), Bool.or_eq_false_iff, decide_eq_false_iff_not] at h
    have h1 := ih (by omega) (fun j hj => hc j (by omega)) h.1
    obtain ⟨_, _, h3, _, _⟩ := Hi.chk_zero (hc k (by omega))
    have h0 : (l.getD k Hi.H.z).c.length = 0 := by omega
    rw [h0] at h3
    have h4 : (0 : Int) = (l.getD k Hi.H.z).t := h3
    show Hi.tot l k + (l.getD k Hi.H.z).t = 0
    omega
theorem Hi.onto_take {c d : List Int} (hc : c.length = 81) (hd : d.length = 0 ∨ d.length = 81) : Hi.onto c d d.length = Hi.take c d := by
  unfold Hi.take
  have hp : Hi.pad c = c := if_neg (by omega)
  rcases hd with hd | hd
  · rw [if_pos hd, hd]
    rfl
  · rw [if_neg (by omega), hp, Hi.onto_both (by omega)]
theorem Hi.refC_len' {l : List Hi.H} (k : Nat) (h : ∀ j, j < k → Hi.chk (l.getD j Hi.H.z) = 0) : (Hi.refC l k).length = 81 := by
  induction k with
  | zero => exact Hi.zeros_len
  | succ k ih =>
    have h1 := ih (fun j hj => h j (by omega))
    have h2 := (Hi.chk_zero (h k (by omega))).1
    show (Hi.take (Hi.refC l k) (l.getD k Hi.H.z).c).length = 81
    rw [← Hi.onto_take h1 h2, Hi.onto_len, h1]
theorem Hi.refC_fits {l : List Hi.H} (k : Nat) (h : ∀ j, j < k → Hi.chk (l.getD j Hi.H.z) = 0) : Hi.fits (Hi.refC l k) (Hi.tot l k) := by
  induction k with
  | zero => exact fun j => by rw [show Hi.refC l 0 = Hi.zeros from rfl, Hi.zeros_at]; exact ⟨Int.le_refl 0, Int.le_refl 0⟩
  | succ k ih =>
    have hc := h k (by omega)
    exact Hi.fits_take (.inr (Hi.refC_len' k (fun j hj => h j (by omega)))) (Hi.chk_zero hc).1 (ih (fun j hj => h j (by omega))) (Hi.fits_chk hc)
theorem Hi.chk_out (l : List Hi.H) (j : Nat) (hj : l.length ≤ j) : Hi.chk (l.getD j Hi.H.z) = 0 := by
  rw [List.getD, List.getElem?_eq_none hj]
  decide
theorem Hi.mer_ends {l : List Hi.H} (h : ∀ j, j < l.length → Hi.chk (l.getD j Hi.H.z) = 0) : (Hi.anyC l l.length = false → Hi.merC l l.length = [] ∧ Hi.tot l l.length = 0) ∧ (Hi.anyC l l.length = true → Hi.merC l l.length = Hi.refC l l.length) := by
  have h' : ∀ j, Hi.chk (l.getD j Hi.H.z) = 0 := fun j => by
    by_cases hj : j < l.length
    · exact h j hj
    · exact Hi.chk_out l j (by omega)
  have hm := Hi.mer_ref h' l.length (Nat.le_refl _)
  refine ⟨fun e => ⟨?_, Hi.anyC_zero _ (Nat.le_refl _) h e⟩, fun e => ?_⟩
  · rw [hm, e]; rfl
  · rw [hm, e]; rfl

set_option maxHeartbeats 8000000 in
theorem rmerge_any (g n cap : Nat) (l : List Hi.H) (w : World) (hr : HRow w g l) (hl : n = l.length) (hcap : n ≤ cap) (hn : n ≤ 1048576) :
    Calls Try.prog 19 #[.slice (some ⟨g, 0, none⟩) n cap] w fun e w' => ∃ r, e = .returned (.tuple #[vH r (Hi.merR l).t, .int .i64 (Hi.merE l)]) ∧ Below w.heap.size w w' ∧ OR w.heap.size w' r (Hi.merR l).c := by
  obtain ⟨g1, g2, g3⟩ := Hi.mer_cases l
  have hends := Hi.mer_ends (l := l)
  rw [← hl] at g1 g2 g3 hends
  replace g1 := hidD g1
  replace g2 := hidD g2
  replace g3 := hidD g3
  have HEND := hidD hends
  clear hends
  generalize Hi.merE l = E at *
  generalize Hi.merR l = R at *
  have HRR : Hid (∀ k, k < n → ∃ (a : Option Addr) (cap : Nat), ∀ W, Below w.heap.size w W → W.cell? ⟨g, k * 2, none⟩ = some (.slice a (l.getD k Hi.H.z).c.length cap) ∧ W.cell? ⟨g, k * 2 + 1, none⟩ = some (.int .i64 (l.getD k Hi.H.z).t) ∧ Seg .i64 W (.slice a (l.getD k Hi.H.z).c.length cap) (l.getD k Hi.H.z).c) := hidD (fun k hk => by
    obtain ⟨a, cap, h1, h2, h3⟩ := hr.2 k (by omega)
    exact ⟨a, cap, fun W b => ⟨cell_below h1 b, cell_below h2 b, h3.below b⟩⟩)
  have HT := hidD (fun h => Hi.tot_up (l := l) h n (by omega))
  rw [← hl] at HT
  have HL := hidD hl
  obtain ⟨N, hN⟩ : ∃ N, N = w.heap.size := ⟨_, rfl⟩
  have X0 := hidD (Bo.new w (hL (.slice none 0 0) 0) 24)
  have HB := hidD ((Below.refl w.heap.size w).alloc (Nat.le_refl _) (.cells (hL (.slice none 0 0) 0).toArray 24))
  obtain ⟨W0, hW0⟩ : ∃ W0, W0 = w.alloc (.cells (hL (.slice none 0 0) 0).toArray 24) := ⟨_, rfl⟩
  rw [← hW0] at X0 HB
  have HGN : Hid (g < w.heap.size) := hidD hr.1
  rw [← hN] at X0 HB HRR HGN ⊢
  simp only [hL] at hW0
  clear hr hl
  go_enter Try.func19, Try.ntmps19
  go_wp2_with fail
  rw [← hN, ← hW0]
  clear hN hW0
  go_loopw [4] (fun i wr => ∃ k : Nat, k ≤ n ∧ i = .int .i64 (k : Int) ∧ Hid ((∀ j, j < k → Hi.chk (l.getD j Hi.H.z) = 0) ∧ Below N w wr ∧ Bo wr N (hL (.slice none 0 0) 0) 24)) (fun i _ => 2000000 - (intOf i).toNat)
  case atStart => exact ⟨0, Nat.zero_le _, rfl, hidD ⟨fun j hj => by omega, HB.out, X0.out⟩⟩
  case round =>
    clear HB X0
    obtain ⟨k, hk, rfl, hJ⟩ := hrel
    obtain ⟨j1, j2, j3⟩ := hJ.out
    have q0 := j3.cell 0 rfl
    have q1' := j3.cell 1 rfl
    have f0 := j3.frozen 0
    have f1 := j3.frozen 1
    have S := hidD (put2_bo (.slice none 0 0) (.int .i64 0) j3)
    have SB := hidD ((put2_cg wr N (.slice none 0 0) (.int .i64 0)).below (B := N) (by omega) (by have := j3.lt; omega) j2)
    by_cases hlt : k < n
    · obtain ⟨a, rc, hq⟩ := HRR.out k hlt
      obtain ⟨q1, q2, q3⟩ := hq wr j2
      clear hq S SB q0 q1' f0 f1
      have hi : (k : Int) < (n : Int) := by omega
      obtain ⟨x, hx⟩ : ∃ x, x = l.getD k Hi.H.z := ⟨_, rfl⟩
      rw [← hx] at q1 q2 q3
      replace hx := hidD hx
      obtain ⟨d, t⟩ := x
      dsimp only at q1 q2 q3
      have LN : N < wr.heap.size := j3.lt
      have cK := rcheck_any (.slice a d.length rc) ⟨d, t⟩ wr q3
      have C9 := Hi.chk_two ⟨d, t⟩
      obtain ⟨ck, hck⟩ : ∃ ck, ck = Hi.chk ⟨d, t⟩ := ⟨_, rfl⟩
      rw [← hck] at cK C9
      have HG1 : Hid (¬ ck = 0 → E = ck ∧ R = Hi.H.z) := hidD (fun h => by rw [hck, hx.out]; exact g1.out k hlt j1 (by rw [← hx.out, ← hck]; exact h))
      have HJ1 : Hid (ck = 0 → ∀ j, j < k + 1 → Hi.chk (l.getD j Hi.H.z) = 0) := hidD (fun h j hj => by
        by_cases e : j = k
        · subst e
          rw [← hx.out, ← hck]
          exact h
        · exact j1 j (by omega))
      replace hck := hidD hck
      have B2 := hidD j2
      have X0 := hidD j3
      clear j1 j2 j3 hJ hx q3
      generalize d.length = dl at *
      go_wp2_with fail
      with_reducible refine cK.mono ?_
      rintro e w2 ⟨rfl, h2⟩
      replace B2 := hidD (below_on B2.out (Nat.le_of_lt LN) h2)
      replace X0 := hidD (X0.out.below h2)
      clear cK h2
      rcases C9 with rfl | rfl
      · clear g1 g2 g3 HT
        go_wp2_with fail
        exact ⟨⟨k + 1, by omega, by go_num, hidD ⟨HJ1.out (by first | rfl | trivial), B2.out, X0.out⟩⟩, by simp [intOf]; omega⟩
      · obtain ⟨hE, hR⟩ := HG1.out (by decide)
        subst hE hR
        have q0 := X0.out.cell 0 rfl
        have q1' := X0.out.cell 1 rfl
        have f0 := X0.out.frozen 0
        have f1 := X0.out.frozen 1
        have S := hidD (put2_bo (.slice none 0 0) (.int .i64 0) X0.out)
        have SB := hidD ((put2_cg w2 N (.slice none 0 0) (.int .i64 0)).below (B := N) (by omega) (by have := X0.out.lt; omega) B2.out)
        clear g1 g2 g3 HT
        go_wp2_with fail
        refine bodyPost_ret (ret_h rfl rfl S.out) rfl ?_
        exact ⟨_, rfl, SB.out, .inl ⟨rfl, rfl⟩⟩
    · have hke : k = n := by omega
      subst hke
      have J1 := hidD j1
      have J2 := hidD j2
      have J3 := hidD j3
      clear hJ j1 j2 j3
      go_wp2_with fail
      go_loopw [5, 6, 7] (fun al so i wr2 => ∃ j : Nat, j ≤ k ∧ al = .int .i64 (Hi.tot l j) ∧ so = .bool (Hi.anyC l j) ∧ i = .int .i64 (j : Int) ∧ Hid (Hi.tot l j ≤ 1073741824) ∧ wr = wr2) (fun _ _ i _ => 2000000 - (intOf i).toNat)
      case atStart => exact ⟨0, Nat.zero_le _, rfl, rfl, rfl, hidD (by show (0 : Int) ≤ _; decide), rfl⟩
      case round =>
        obtain ⟨j, hj, rfl, rfl, rfl, htj, rfl⟩ := hrel
        have q0 := J3.out.cell 0 rfl
        have q1' := J3.out.cell 1 rfl
        have f0 := J3.out.frozen 0
        have f1 := J3.out.frozen 1
        have S := hidD (put2_bo (.slice none 0 0) (.int .i64 0) J3.out)
        have SB := hidD ((put2_cg wr N (.slice none 0 0) (.int .i64 0)).below (B := N) (by omega) (by have := J3.out.lt; omega) J2.out)
        obtain ⟨s0, s1, _⟩ := HT.out J1.out j hj
        replace s1 := hidD s1
        by_cases hlt : j < k
        · obtain ⟨a, rc, hq⟩ := HRR.out j hlt
          obtain ⟨q1, q2, _⟩ := hq wr J2.out
          have hi : (j : Int) < (k : Int) := by omega
          have HA := hidD (Hi.anyC_next l j (by have := HL.out; omega))
          have HN1 : Hid (Hi.tot l (j + 1) = Hi.tot l j + (l.getD j Hi.H.z).t) := hidD rfl
          have HUP := hidD (HT.out J1.out (j + 1) hlt).2.1
          obtain ⟨_, _, _, t0, t1⟩ := Hi.chk_zero (J1.out j hlt)
          generalize l.getD j Hi.H.z = x at *
          obtain ⟨d, t⟩ := x
          dsimp only at q1 q2 t0 t1
          replace HA : Hid (Hi.anyC l (j + 1) = (Hi.anyC l j || decide (0 < d.length))) := HA
          have hT0 := htj.out
          generalize d.length = dl at *
          by_cases hbig : 1073741824 < Hi.tot l j + t
          · obtain ⟨hE, hR⟩ := g2.out J1.out (by have := HN1.out; have := HUP.out; dsimp only at *; omega)
            subst hE hR
            have hb2 : 1073741824 - Hi.tot l j < t := by omega
            clear g1 g2 g3 HT HA HN1 HUP s1
            generalize Hi.tot l j = tj at *
            go_wp2_with fail
            refine bodyPost_ret (ret_h rfl rfl S.out) rfl ?_
            exact ⟨_, rfl, SB.out, .inl ⟨rfl, rfl⟩⟩
          · have hb2 : ¬ 1073741824 - Hi.tot l j < t := by omega
            have hn2 : Hid (Hi.tot l (j + 1) ≤ 1073741824) := hidD (by have := HN1.out; dsimp only at *; omega)
            have hw : IntKind.i64.wrap (Hi.tot l j + t) = Hi.tot l j + t := wrap_ok (by omega) (by omega)
            replace HN1 : Hid (Hi.tot l (j + 1) = Hi.tot l j + t) := HN1
            clear g1 g2 g3 HT HUP s1 S SB q0 q1' f0 f1 htj
            by_cases hso : Hi.anyC l j = true
            · have HB := hidD HA.out
              rw [hso, Bool.true_or] at HB
              rw [hso]
              clear HA
              generalize Hi.tot l j = tj at *
              go_wp2_with fail
              exact ⟨⟨j + 1, by omega, by rw [HN1.out], by rw [HB.out], by go_num, hn2, trivial⟩, by simp [intOf]; omega⟩
            · rw [Bool.not_eq_true] at hso
              have HB := hidD HA.out
              rw [hso, Bool.false_or] at HB
              rw [hso]
              clear HA
              generalize Hi.tot l j = tj at *
              by_cases hd : 0 < dl
              · rw [decide_eq_true hd] at HB
                go_wp2_with fail
                exact ⟨⟨j + 1, by omega, by rw [HN1.out], by rw [HB.out], by go_num, hn2, trivial⟩, by simp [intOf]; omega⟩
              · rw [decide_eq_false hd] at HB
                go_wp2_with fail
                exact ⟨⟨j + 1, by omega, by rw [HN1.out], by rw [HB.out], by go_num, hn2, trivial⟩, by simp [intOf]; omega⟩
        · have hke : j = k := by omega
          subst hke
          obtain ⟨hE, hR⟩ := g3.out J1.out (by have := htj.out; omega)
          subst hE hR
          by_cases hso : Hi.anyC l j = true
          case neg =>
            rw [Bool.not_eq_true] at hso
            have he := HEND.out J1.out
            obtain ⟨e1, e2⟩ := he.1 hso
            replace e1 := hidD e1
            replace e2 := hidD e2
            rw [hso]
            clear g1 g2 g3 HT s1 he HEND htj s0
            go_wp2_with fail
            refine bodyPost_ret (ret_h rfl rfl S.out) rfl ?_
            exact ⟨.slice none 0 0, by dsimp only; rw [e2.out]; rfl, SB.out, .inl ⟨e1.out, rfl⟩⟩
          have he := hidD ((HEND.out J1.out).2 hso)
          rw [hso]
          have cO := rown_any (.slice none 0 0) ⟨[], Hi.tot l j⟩ wr (Seg.nil _ _) (.inl rfl)
          dsimp only at cO
          clear g1 g2 g3 HT s1 HEND S SB q0 q1' f0 f1
          obtain ⟨tj, htj2⟩ : ∃ tj, tj = Hi.tot l j := ⟨_, rfl⟩
          rw [← htj2] at cO
          rw [← htj2]
          replace htj2 := hidD htj2
          go_wp2_with fail
          refine cO.mono ?_
          rintro e w2 ⟨r, rfl, h2, o2⟩
          clear cO
          obtain ⟨G, hG1, rfl, hG3⟩ : ∃ G, wr.heap.size ≤ G ∧ r = gR G ∧ Bo w2 G (i64s (Hi.refC l 0)) tI := by
            rcases o2 with ⟨e1, _⟩ | ⟨G, e1, _, e3, e4⟩
            · have := congrArg List.length e1; simp [Hi.pad, Hi.zeros] at this
            · exact ⟨G, e1, e3, e4⟩
          have hNG : N < G := by have := J3.out.lt; omega
          have hNW : N < w2.heap.size := by have := J3.out.lt; have := h2.size; omega
          have HB2 := below_on J2.out (Nat.le_of_lt J3.out.lt) h2
          have Y1 := J3.out.below h2
          have hb := (Below.refl w2.heap.size w2).alloc (Nat.le_refl _) (.cells #[gR G, .int .i64 tj] 24)
          have B1 := Bo.new w2 (hL (gR G) tj) 24
          obtain ⟨b, hb'⟩ : ∃ b, b = w2.heap.size := ⟨_, rfl⟩
          obtain ⟨W3, hW3⟩ : ∃ W3, W3 = w2.alloc (.cells #[gR G, .int .i64 tj] 24) := ⟨_, rfl⟩
          have B2 : Bo W3 b (hL (gR G) tj) 24 := by rw [hW3, hb']; exact B1
          rw [← hW3] at hb
          have hbG : G < b := by rw [hb']; exact hG3.lt
          have HI : Hid (Bo W3 b (hL (gR G) tj) 24 ∧ Bo W3 G (i64s (Hi.refC l 0)) tI ∧ Bo W3 N (hL (.slice none 0 0) 0) 24 ∧ Below N w W3) := hidD ⟨B2, hG3.below hb, Y1.below hb, below_on HB2 (by omega) hb⟩
          clear h2 o2 hG3 HB2 Y1 hb B1 B2 hNW J2 J3
          go_wp2_with fail
          rw [← hb', ← hW3]
          clear hb' hW3
          go_loopw [9] (fun i wr => ∃ m : Nat, m ≤ j ∧ i = .int .i64 (m : Int) ∧ Hid (Bo wr b (hL (gR G) tj) 24 ∧ Bo wr G (i64s (Hi.refC l m)) tI ∧ Bo wr N (hL (.slice none 0 0) 0) 24 ∧ Below N w wr)) (fun i _ => 2000000 - (intOf i).toNat)
          case atStart => exact ⟨0, Nat.zero_le _, rfl, HI⟩
          case round =>
            clear HI
            obtain ⟨m, hm, rfl, hJ⟩ := hrel
            by_cases hlt : m < j
            · obtain ⟨a, rc, hq⟩ := HRR.out m hlt
              have HQQ := hidD hq
              have hi : (m : Int) < (j : Int) := by omega
              have hck := J1.out m hlt
              have HTK : Hid (Hi.tot l (m + 1) = Hi.tot l m + (l.getD m Hi.H.z).t) := hidD rfl
              have h81 := Hi.refC_len' m (fun i hi => J1.out i (by omega))
              have hft := Hi.refC_fits m (fun i hi => J1.out i (by omega))
              have HRC : Hid (Hi.refC l (m + 1) = Hi.take (Hi.refC l m) (l.getD m Hi.H.z).c) := hidD rfl
              have htm : Hi.tot l m ≤ 1073741824 := by
                have h1 := htj.out
                have h2 := (Hi.tot_up (l := l) (fun k hk => J1.out k (by have := HL.out; omega)) j (by have := HL.out; omega) m hm).2.1
                omega
              generalize l.getD m Hi.H.z = x at *
              obtain ⟨d, t⟩ := x
              obtain ⟨d1, d2, _, _, _⟩ := Hi.chk_zero hck
              dsimp only at d1 d2 HRC
              replace HQQ : Hid (∀ W, Below N w W → W.cell? ⟨g, m * 2, none⟩ = some (.slice a d.length rc) ∧ W.cell? ⟨g, m * 2 + 1, none⟩ = some (.int .i64 t) ∧ Seg .i64 W (.slice a d.length rc) d) := HQQ
              obtain ⟨dl, hdl⟩ : ∃ dl, dl = d.length := ⟨_, rfl⟩
              rw [← hdl] at HQQ d1
              replace hdl := hidD hdl
              have HD2 := hidD d2
              have HFT := hidD hft
              have H81 := hidD h81
              obtain ⟨c, hc⟩ : ∃ c, c = Hi.refC l m := ⟨_, rfl⟩
              rw [← hc] at hJ HFT H81 HRC
              clear hq d2 hft h81 hc hck
              go_wp2_with fail
              go_loopw [10] (fun i wr => ∃ q : Nat, q ≤ dl ∧ i = .int .i64 (q : Int) ∧ Hid (Bo wr b (hL (gR G) tj) 24 ∧ Bo wr G (i64s (Hi.onto c d q)) tI ∧ Bo wr N (hL (.slice none 0 0) 0) 24 ∧ Below N w wr)) (fun i _ => 100 - (intOf i).toNat)
              case atStart => exact ⟨0, Nat.zero_le _, rfl, hJ⟩
              case round =>
                clear hJ
                obtain ⟨q, hq, rfl, hJ⟩ := hrel
                obtain ⟨j1, j2, j3, j4⟩ := hJ.out
                obtain ⟨p0, _, p2⟩ := HQQ.out wr j4
                by_cases hlq : q < dl
                · have hL81 : dl = 81 := by omega
                  obtain ⟨gb, off, rfl, hg, Q⟩ := Seg.atE p2 q (by have := hdl.out; omega)
                  have r0 := j1.cell 0 rfl
                  have hol : (Hi.onto c d q).length = 81 := by rw [Hi.onto_len]; exact H81.out
                  have z := bo_int j2 q (by omega)
                  have fz := j2.frozen q
                  have hv := Hi.fits_onto (d := d) (t := Hi.tot l m) (u := 1073741824) H81.out HFT.out HD2.out q q
                  have hd0 := HD2.out q
                  have HX : Hid (Hi.onto c d (q + 1) = (Hi.onto c d q).set q ((Hi.onto c d q).getD q 0 + d.getD q 0)) := hidD rfl
                  have hw : IntKind.i64.wrap ((Hi.onto c d q).getD q 0 + d.getD q 0) = (Hi.onto c d q).getD q 0 + d.getD q 0 := wrap_ok (by omega) (by omega)
                  have K2 := bo_put j2 q ((Hi.onto c d q).getD q 0 + d.getD q 0)
                  rw [← HX.out] at K2
                  have KC := Cg.set (b := G) wr q (.int .i64 ((Hi.onto c d q).getD q 0 + d.getD q 0))
                  have HJ2 := hidD (And.intro (KC.bo (by omega) j1) (And.intro K2 (And.intro (KC.bo (by omega) j3) (KC.below (B := N) (by omega) (by have := j3.lt; omega) j4))))
                  have hiq : (q : Int) < (dl : Int) := by omega
                  subst hL81
                  clear j1 j2 j3 j4 hJ K2 KC p2 hv hd0 HX hol
                  generalize (Hi.onto c d q).getD q 0 = y at *
                  generalize d.getD q 0 = x at *
                  go_upto_block 7 with fail
                  go_cut [] (fun wx => wx = (wr.setCell ⟨G, q, none⟩ (.int .i64 (y + x))).drew)
                  case first =>
                    clear HJ2 HQQ HD2 HFT H81 HRC HTK htm J1 he HRR hdl htj HL htj2
                    go_wp2_with fail
                    go_region_with (fail)
                    all_goals (
                      go_wp2
                      go_meet
                      first | trivial | rfl | exact ⟨rfl⟩)
                  case rest =>
                    subst hcut
                    go_wp2_with fail
                    exact ⟨⟨q + 1, by omega, by go_num, hidD ⟨HJ2.out.1, HJ2.out.2.1, HJ2.out.2.2.1, belowD_drew HJ2.out.2.2.2⟩⟩, by simp [intOf]; omega⟩
                · have hql : q = dl := by omega
                  subst hql
                  have HE := hidD (And.intro j1 (And.intro j2 (And.intro j3 j4)))
                  have hot : Hid (Hi.onto c d q = Hi.refC l (m + 1)) := hidD (by rw [HRC.out, hdl.out]; exact Hi.onto_take H81.out (by have := hdl.out; omega))
                  clear j1 j2 j3 j4 hJ p2
                  go_wp2_with fail
                  exact ⟨⟨m + 1, by omega, by go_num, hidD ⟨HE.out.1, by rw [← hot.out]; exact HE.out.2.1, HE.out.2.2.1, HE.out.2.2.2⟩⟩, by simp [intOf]; omega⟩
            · have hke : m = j := by omega
              subst hke
              obtain ⟨j1, j2, j3, j4⟩ := hJ.out
              have r0 := j1.cell 0 rfl
              have r1 := j1.cell 1 rfl
              have q0 := j3.cell 0 rfl
              have q1 := j3.cell 1 rfl
              have f0 := j3.frozen 0
              have f1 := j3.frozen 1
              have S := hidD (put2_bo (gR G) (.int .i64 tj) j3)
              have SB := hidD ((put2_cg wr N (gR G) (.int .i64 tj)).below (B := N) (by omega) (by have := j3.lt; omega) j4)
              have SG := hidD ((put2_cg wr N (gR G) (.int .i64 tj)).bo (c := G) (by omega) j2)
              have H81 := hidD (Hi.refC_len' m (fun i hi => J1.out i (by omega)))
              clear j1 j2 j3 j4 hJ
              go_wp2_with fail
              refine bodyPost_ret (ret_h rfl rfl S.out) rfl ?_
              exact ⟨_, by rw [htj2.out]; rfl, SB.out, .inr ⟨G, by omega, by rw [he.out]; exact H81.out, rfl, by rw [he.out]; exact SG.out⟩⟩
end Go.Proofs.Ythdaldgmolhljaa
