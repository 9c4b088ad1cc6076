/- timers: Check, First, Clone (the code's). -/
import Derived.Test.YtkamcjebihfdlaaTmO
import Derived.Test.YtkamcjebihfdlaaTmC
import Derived.Test.YtkamcjebihfdlaaTmE
import Derived.Lib.SliceRun
namespace Go.Proofs.Ytkamcjebihfdlaa
open Go.RowKit
set_option linter.unusedVariables false
set_option maxRecDepth 20000

theorem hown_len_le (l : List Ti.T) : (Ti.uq l).length ≤ l.length := by
  have key : ∀ (m acc : List Int), (m.foldl Ti.meet acc).length ≤ acc.length + m.length := by
    intro m
    induction m with
    | nil => intro acc; simp
    | cons y r ih =>
      intro acc
      rw [List.foldl_cons]
      have h1 := ih (Ti.meet acc y)
      have h2 : (Ti.meet acc y).length ≤ acc.length + 1 := by unfold Ti.meet; split <;> simp
      simp only [List.length_cons]
      omega
  have := key (l.map Ti.T.id') []
  simpa [Ti.uq] using this
set_option maxHeartbeats 8000000 in
theorem check_any (v : Value) (l : List Ti.T) (w : World) (hs : TS w v l) : Calls Try.prog 23 #[v] w fun e w' => e = .returned (.int .i64 (Ti.chkE l)) ∧ Below w.heap.size w w' := by
  have HV := hidD (fun (W : World) (b : Below w.heap.size w W) => hs.below b)
  have cC := containsT0 41 (fun _ _ => rfl) (fun x => !Ti.may x) v l w hs (fun x W _ _ => within1_t x W)
  have HAB : Hid (l.any (fun x => !Ti.may x) = !l.all Ti.may) := hidD (by rw [List.not_all_eq_any_not])
  rw [HAB.out] at cC
  have CI : Hid (l.all Ti.may = true → l.length ≤ 1048576 → ∀ W, Below w.heap.size w W → Calls Try.prog 28 #[v] W fun e w' => e = .returned (.map (some W.heap.size)) ∧ MS w' W.heap.size l.length (Ti.uq l).length (Ti.uq l) ∧ Below W.heap.size W w') := hidD fun h hl W b => ids_any v l W (hs.below b) (fun x hx => Ti.wf_may (List.all_eq_true.1 h x hx)) hl
  have HUQ := hidD (Ti.uq_len l)
  obtain ⟨a, cap, rfl, h1, h2, _, _⟩ := hs
  unfold maxLen at h2
  have C1 := hidD (@Ti.chk_count l)
  have C2 := hidD (@Ti.chk_range l)
  have C3 := hidD (@Ti.chk_twice l)
  have C4 := hidD (@Ti.chk_heap l)
  have C5 := hidD (@Ti.chk_ok l)
  generalize Ti.chkE l = E at *
  obtain ⟨N, hN⟩ : ∃ N, N = l.length := ⟨_, rfl⟩
  rw [← hN] at h1 HV C1 C2 C3 C4 C5 cC CI HUQ ⊢
  replace hN := hidD hN
  obtain ⟨B, hB⟩ : ∃ B, B = w.heap.size := ⟨_, rfl⟩
  rw [← hB] at HV cC CI ⊢
  replace hB := hidD hB
  by_cases hbig : 1024 < N
  · have hE := C1.out hbig
    subst hE
    clear C1 C2 C3 C4 C5 cC CI
    go_enter Try.func23, Try.ntmps23
    go_wp2_with fail
    go_ret
    exact ⟨rfl, Below.refl _ _⟩
  replace C2 := hidD (C2.out hbig)
  replace C3 := hidD (C3.out hbig)
  replace C4 := hidD (C4.out hbig)
  replace C5 := hidD (C5.out hbig)
  have hsm : N ≤ 1024 := by omega
  clear C1 hbig
  generalize hya : l.all Ti.may = ya at *
  replace hya := hidD hya
  go_enter Try.func23, Try.ntmps23
  go_wp2_with fail
  with_reducible refine cC.mono ?_
  rintro e w1 ⟨rfl, b1⟩
  have B1 := hidD b1
  clear cC b1
  cases ya
  · have hE := C2.out rfl
    subst hE
    clear C2 C3 C4 C5 CI
    go_wp2_with fail
    go_ret
    exact ⟨rfl, B1.out⟩
  replace C3 := hidD (C3.out rfl)
  replace C4 := hidD (C4.out rfl)
  replace C5 := hidD (C5.out rfl)
  have cI := CI.out rfl (by omega) w1 B1.out
  clear C2 CI HAB
  have B1S : Hid (B ≤ w1.heap.size) := hidD (by rw [hB.out]; exact B1.out.size)
  go_wp2_with fail
  with_reducible refine cI.mono ?_
  rintro e w2 ⟨rfl, m2, b2⟩
  have B2 := hidD (below_on B1.out B1S.out b2)
  have B2S := hidD (Nat.le_trans B1S.out b2.size)
  obtain ⟨D, hown, _, hsz⟩ := m2
  have HOW := hidD hown
  have HSZ := hidD hsz
  clear cI b2 B1 B1S hown hsz
  generalize hu : (Ti.uq l).length = u at *
  replace hu := hidD hu
  have hun : u ≤ N := by
    by_cases h : u ≤ N
    · exact h
    · exfalso
      have k := hown_len_le l
      have := hN.out
      have := hu.out
      omega
  by_cases hlu : u < N
  · have hE := C3.out (by have := HUQ.out; rw [decide_eq_true hlu] at this; have := this.symm; simpa using this)
    subst hE
    have hlu2 : (u : Int) < (N : Int) := by omega
    clear C3 C4 C5 HUQ hu hun
    go_wp2_with (first | (at_len; refine wpList_len_own _ rfl _ 57 rfl 3 60 Try.underlying57 unitElem _ _ D rfl HOW.out ?_; rw [HSZ.out]))
    go_ret
    exact ⟨rfl, B2.out⟩
  have HND : (l.map Ti.T.id').Nodup := by have := HUQ.out; rw [decide_eq_false hlu] at this; have := this.symm; simpa using this
  replace C4 := hidD (C4.out HND)
  replace C5 := hidD (C5.out HND)
  have hlu2 : ¬ (u : Int) < (N : Int) := by omega
  clear C3 HND HUQ hu
  go_wp2_with (first | (at_len; refine wpList_len_own _ rfl _ 57 rfl 3 60 Try.underlying57 unitElem _ _ D rfl HOW.out ?_; rw [HSZ.out]))
  clear HOW HSZ
  go_loopw [3] (fun i wr3 => ∃ q : Nat, 1 ≤ q ∧ (q ≤ N ∨ q = 1) ∧ i = .int .i64 q ∧ Hid ((∀ j, 0 < j → j < q → Ti.ah (Ti.g l j) (Ti.g l (Ti.pa j)) = false) ∧ Below B w wr3 ∧ B ≤ wr3.heap.size)) (fun i _ => 2000 - (intOf i).toNat)
  case atStart => exact ⟨1, Nat.le_refl _, .inr rfl, rfl, hidD ⟨fun j h0 h1 => by omega, B2.out, B2S.out⟩⟩
  case round =>
    clear B2 B2S
    obtain ⟨q, hq1, hqm, rfl, hQ⟩ := hrel
    obtain ⟨j1, j2, j3⟩ := hQ.out
    by_cases hlq : q < N
    · obtain ⟨g, off, rfl, hg, hcell⟩ := TS.at (HV.out _ j2) q (by have := hN.out; omega)
      obtain ⟨t1, t2⟩ := hcell q (by have := hN.out; omega)
      have hpq : Ti.pa q < q := by show (q - 1) / 2 < q; omega
      obtain ⟨u1, u2⟩ := hcell (Ti.pa q) (by have := hN.out; omega)
      have hiq : (q : Int) < (N : Int) := by omega
      obtain ⟨p, hp⟩ : ∃ p, p = Ti.pa q := ⟨_, rfl⟩
      rw [← hp] at u1 u2
      have cB := hidD (fun W => above_t q (by omega) (by omega) W)
      rw [show (((q - 1) / 2 : Nat)) = p from hp.symm] at cB
      have hpm : p < N := by omega
      have hii : (p : Int) < (N : Int) := by omega
      have HS : Hid (Ti.ah (Ti.g l q) (Ti.g l p) = false → ∀ j, 0 < j → j < q + 1 → Ti.ah (Ti.g l j) (Ti.g l (Ti.pa j)) = false) := hidD (fun h j h0 h1 => by
        by_cases e : j = q
        · subst e; rw [← hp]; exact h
        · exact j1 j h0 (by omega))
      have HX : Hid (Ti.ah (Ti.g l q) (Ti.g l p) = true → E = 9) := hidD (fun h => C4.out (fun hh => by
        have := hh q (by omega) (by have := hN.out; omega)
        rw [← hp, h] at this
        cases this))
      have Q2 := hidD j2
      have Q3 := hidD j3
      have cA := hidD (compareB (Ti.g l q) (Ti.g l p))
      have HLT := hidD (Ti.cf_lt (Ti.g l q) (Ti.g l p))
      clear j1 j2 j3 hQ hcell C4 C5 hp
      generalize Ti.ah (Ti.g l q) (Ti.g l p) = y at *
      generalize Ti.g l q = xq at *
      generalize Ti.g l p = xp at *
      obtain ⟨qa, qi⟩ := xq
      obtain ⟨pa, pi⟩ := xp
      dsimp only at t1 t2 u1 u2
      generalize Ti.cf ⟨qa, qi⟩ ⟨pa, pi⟩ = c at *
      clear hpq
      go_upto_region 10 with fail
      go_cut [31] (fun v wx => v = .bool y ∧ Below wr.heap.size wr wx)
      case first =>
        clear HS HX Q2 Q3
        have hg2 : g < wr.drew.heap.size := hg
        have hlt := HLT.out
        go_region_held (fun w' => w'.cell? ⟨g, off + q * 2, none⟩ = some (.int .i64 qa) ∧ w'.cell? ⟨g, off + q * 2 + 1, none⟩ = some (.int .i64 qi) ∧ w'.cell? ⟨g, off + p * 2, none⟩ = some (.int .i64 pa) ∧ w'.cell? ⟨g, off + p * 2 + 1, none⟩ = some (.int .i64 pi)) (first | exact ⟨t1, t2, u1, u2⟩ | assumption | exact ⟨(H9.out.cell (p := ⟨g, off + q * 2, none⟩) hg2).trans t1, (H9.out.cell (p := ⟨g, off + q * 2 + 1, none⟩) hg2).trans t2, (H9.out.cell (p := ⟨g, off + p * 2, none⟩) hg2).trans u1, (H9.out.cell (p := ⟨g, off + p * 2 + 1, none⟩) hg2).trans u2⟩)
          ((first | (go_at_call 42; refine (cB.out _).mono ?_; rintro e w9 ⟨rfl, rfl⟩) | (go_at_call 39; refine (cA.out _).mono ?_; rintro e w9 ⟨rfl, h9⟩; have H9 := hidD h9; clear h9)))
        all_goals (
          go_wp2
          go_meet
          exact ⟨by first | rfl | rw [hlt], below_undrew H9.out⟩)
      case rest =>
        obtain ⟨rfl, h9⟩ := hcut
        generalize wc = w9 at *
        have K2 := hidD (below_on Q2.out Q3.out h9)
        have K3 := hidD (Nat.le_trans Q3.out h9.size)
        clear h9 cA cB HLT
        cases y
        · go_wp2_with fail
          exact ⟨⟨q + 1, by omega, by omega, by go_num, hidD ⟨HS.out (by first | rfl | trivial), K2.out, K3.out⟩⟩, by simp [intOf]; omega⟩
        · have hE := HX.out rfl
          subst hE
          go_wp2_with fail
          go_ret
          exact ⟨rfl, K2.out⟩
    · have hE := C5.out (fun i h0 hi => j1 i h0 (by have := hN.out; omega))
      subst hE
      have Q2 := hidD j2
      clear j1 j2 j3 hQ C4 C5
      go_wp2_with fail
      go_ret
      exact ⟨rfl, Q2.out⟩
set_option maxHeartbeats 4000000 in
theorem first_any (v : Value) (l : List Ti.T) (w : World) (hs : TS w v l) :
    Calls Try.prog 12 #[v] w fun e w' => e = .returned (.tuple #[vT (Ti.firR l), .int .i64 (Ti.firE l)]) ∧ Below w.heap.size w w' := by
  have HB := hidD ((Below.refl w.heap.size w).alloc (Nat.le_refl _) (.cells #[.int .i64 0, .int .i64 0] 31))
  have X0 := hidD (Bo.new w [.int .i64 0, .int .i64 0] 31)
  have CK := check_any v l (w.alloc (.cells #[.int .i64 0, .int .i64 0] 31)) (hs.below HB.out)
  have HV := hidD (fun (W : World) (b : Below w.heap.size w W) => hs.below b)
  obtain ⟨W0, hW0⟩ : ∃ W0, W0 = w.alloc (.cells #[.int .i64 0, .int .i64 0] 31) := ⟨_, rfl⟩
  have HS : Hid (w.heap.size + 1 = W0.heap.size) := hidD (by rw [hW0, World.size_alloc])
  replace X0 : Hid (Bo W0 w.heap.size [.int .i64 0, .int .i64 0] 31) := hidD (by rw [hW0]; exact X0.out)
  rw [← hW0] at HB CK
  have A1 : Hid (¬ Ti.chkE l = 0 → Ti.firE l = Ti.chkE l ∧ Ti.firR l = Ti.t0) := hidD (fun h => by
    have e : Ti.firE l = Ti.chkE l := if_neg h
    exact ⟨e, if_neg (by rw [e]; exact h)⟩)
  have A2 : Hid (Ti.chkE l = 0 → l.length = 0 → Ti.firE l = 71 ∧ Ti.firR l = Ti.t0) := hidD (fun h h2 => by
    have e : Ti.firE l = 71 := by unfold Ti.firE; rw [if_pos h, if_pos h2]
    exact ⟨e, if_neg (by rw [e]; decide)⟩)
  have A3 : Hid (Ti.chkE l = 0 → ¬ l.length = 0 → Ti.firE l = 0 ∧ Ti.firR l = Ti.g l 0) := hidD (fun h h2 => by
    have e : Ti.firE l = 0 := by unfold Ti.firE; rw [if_pos h, if_neg h2]
    exact ⟨e, if_pos e⟩)
  generalize Ti.firE l = E at *
  generalize Ti.firR l = R at *
  obtain ⟨ck, hck⟩ : ∃ ck, ck = Ti.chkE l := ⟨_, rfl⟩
  rw [← hck] at CK A1 A2 A3
  obtain ⟨a, cap, rfl, a1, a2, _, _⟩ := id hs
  unfold maxLen at a2
  obtain ⟨N, hN⟩ : ∃ N, N = w.heap.size := ⟨_, rfl⟩
  rw [← hN] at X0 HB HV HS ⊢
  clear hs hck
  go_enter Try.func12, Try.ntmps12
  go_wp2_with fail
  rw [← hN, ← hW0]
  clear hN hW0
  with_reducible refine CK.mono ?_
  rintro e w1 ⟨rfl, h1⟩
  replace HB := hidD (below_on HB.out (by have := HS.out; omega) h1)
  replace X0 := hidD (X0.out.below h1)
  have q0 := X0.out.cell 0 rfl
  have q1 := X0.out.cell 1 rfl
  have f0 := X0.out.frozen 0
  have f1 := X0.out.frozen 1
  clear CK h1 HS
  by_cases hk : ck = 0
  case neg =>
    obtain ⟨hE, hR⟩ := A1.out hk
    subst hE hR
    have hk1 : (E != 0) = true := by simp [hk]
    have S := hidD (put2t_bo (.int .i64 0) (.int .i64 0) X0.out)
    have SB := hidD ((put2t_cg w1 N (.int .i64 0) (.int .i64 0)).below (B := N) (Nat.le_refl _) (Nat.le_of_lt X0.out.lt) HB.out)
    clear A1 A2 A3 hk
    go_wp2_with fail
    refine bodyPost_ret (ret_t rfl rfl S.out) rfl ?_
    exact ⟨rfl, SB.out⟩
  subst hk
  by_cases h0 : l.length = 0
  case pos =>
    obtain ⟨hE, hR⟩ := A2.out rfl h0
    subst hE hR
    rw [h0]
    have S := hidD (put2t_bo (.int .i64 0) (.int .i64 0) X0.out)
    have SB := hidD ((put2t_cg w1 N (.int .i64 0) (.int .i64 0)).below (B := N) (Nat.le_refl _) (Nat.le_of_lt X0.out.lt) HB.out)
    clear A1 A2 A3
    go_wp2_with fail
    refine bodyPost_ret (ret_t rfl rfl S.out) rfl ?_
    exact ⟨rfl, SB.out⟩
  obtain ⟨hE, hR⟩ := A3.out rfl h0
  subst hE hR
  obtain ⟨g, off, rfl, hg, hcell⟩ := TS.at (HV.out w1 HB.out) 0 (by omega)
  obtain ⟨t1, t2⟩ := hcell 0 (by omega)
  rw [Nat.zero_mul, Nat.add_zero] at t1 t2
  have d0 : ((l.length : Int) == 0) = false := by simp; exact fun e => h0 (by rw [e]; rfl)
  have hpos : (0 : Int) < (l.length : Int) := by omega
  have S := hidD (put2t_bo (.int .i64 (Ti.g l 0).at') (.int .i64 (Ti.g l 0).id') X0.out)
  have SB := hidD ((put2t_cg w1 N (.int .i64 (Ti.g l 0).at') (.int .i64 (Ti.g l 0).id')).below (B := N) (Nat.le_refl _) (Nat.le_of_lt X0.out.lt) HB.out)
  clear A1 A2 A3 hcell HV
  obtain ⟨x, hx⟩ : ∃ x, x = Ti.g l 0 := ⟨_, rfl⟩
  rw [← hx] at t1 t2 S SB
  replace hx := hidD hx
  obtain ⟨xa, xi⟩ := x
  dsimp only at t1 t2 S SB
  generalize l.length = n at *
  go_wp2_with fail
  refine bodyPost_ret (ret_t rfl rfl S.out) rfl ?_
  exact ⟨by rw [← hx.out]; rfl, SB.out⟩


theorem own_made (w : World) : OT (w.alloc (.cells #[] 31)) w.heap.size (.slice (some ⟨w.heap.size, 0, none⟩) 0 0) [] := by
  exact World.ownsRow_made w #[] 0 (Nat.le_refl _) (Nat.zero_le _) (by simp)
set_option maxHeartbeats 2000000 in
theorem clone_t (v : Value) (l : List Ti.T) (w : World) (hs : TS w v l) (hz : l.length ≤ 8796093022208) :
    Calls Try.prog 27 #[v] w fun e w' => ∃ v', e = .returned v' ∧ OT w' w.heap.size v' l ∧ Below w.heap.size w w' := by
  have HS := hidD (fun (W : World) (b : Below w.heap.size w W) => hs.below b)
  have HO := hidD (own_made w)
  have HB := hidD ((Below.refl w.heap.size w).alloc (Nat.le_refl _) (.cells #[] 31))
  have HSZ : Hid (w.heap.size ≤ (w.alloc (.cells #[] 31)).heap.size) := hidD HB.out.size
  have q22 : ∀ (w : World) (a : Option Addr) (n c n' c' : Nat), (binOp .eql 22 (.slice a n c) (.slice none n' c')).run Try.prog w = .ok (.bool a.isNone) w := fun w a n c n' c' => Lib.run_eql_slice_nil w _ _ a n c n' c' Try.underlying22
  obtain ⟨a, cap, rfl, h1, h2, h3, _⟩ := hs
  unfold maxLen at h2
  rcases a with _ | y
  · have h4 := (h3 rfl).1
    subst h4
    clear HS HO h3
    go_enter Try.func27, Try.ntmps27
    go_wp2_with fail
    go_ret
    exact ⟨_, rfl, World.ownsRow_nil _ _ _ _, Below.refl _ _⟩
  · clear h3
    go_enter Try.func27, Try.ntmps27
    go_wp2_with (first | (at_builtin; refine wpList_append_tm _ rfl _ _ rfl w.heap.size _ (.slice (some y) l.length cap) [] l rfl HO.out rfl (HS.out _ HB.out) (by simp; omega) HSZ.out ?_; intro v2 w6 hown' hB6 hgrow))
    go_ret
    exact ⟨_, rfl, hown', below_then HB.out hB6⟩
end Go.Proofs.Ytkamcjebihfdlaa
