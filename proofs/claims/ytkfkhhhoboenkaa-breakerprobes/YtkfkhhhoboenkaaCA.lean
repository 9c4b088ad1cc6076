/- breaker: Run. -/
import Derived.Test.YtkfkhhhoboenkaaBZ
import Derived.Deep.AppendLies
namespace Go.Proofs.Ytkfkhhhoboenkaa
open Go.RowKit
set_option linter.unusedVariables false
set_option maxRecDepth 20000

theorem keep6 {D : Nat} {W W' : World} {v0 v1 v2 v3 v4 v8 : Value} (h : W.cell? ⟨D, 0, none⟩ = some v0 ∧ W.cell? ⟨D, 1, none⟩ = some v1 ∧ W.cell? ⟨D, 2, none⟩ = some v2 ∧ W.cell? ⟨D, 3, none⟩ = some v3 ∧ W.cell? ⟨D, 4, none⟩ = some v4 ∧ W.cell? ⟨D, 8, none⟩ = some v8) (e : W'.heap[D]? = W.heap[D]?) : W'.cell? ⟨D, 0, none⟩ = some v0 ∧ W'.cell? ⟨D, 1, none⟩ = some v1 ∧ W'.cell? ⟨D, 2, none⟩ = some v2 ∧ W'.cell? ⟨D, 3, none⟩ = some v3 ∧ W'.cell? ⟨D, 4, none⟩ = some v4 ∧ W'.cell? ⟨D, 8, none⟩ = some v8 := by
  simp only [World.cell?] at h ⊢
  rw [e]
  exact h
theorem own_base {B B' : Nat} {e : TypeId} {z : Nat} {w : World} {v : Value} {k : Nat} {xs : List Value} (h : w.ownsRow B' e z v k xs) (hB : B ≤ B') : w.ownsRow B e z v k xs := by
  refine ⟨h.1, ?_⟩
  rcases h.2 with h2 | ⟨g, cap, cur, hv, hb, hr⟩
  · exact .inl h2
  · exact .inr ⟨g, cap, cur, hv, Nat.le_trans hB hb, hr⟩
theorem own_sl {B : Nat} {e : TypeId} {z : Nat} {w : World} {v : Value} {k : Nat} {xs : List Value} (h : w.ownsRow B e z v k xs) : ∃ a c, v = .slice a k c := by
  rcases h.2 with ⟨rfl, h0⟩ | ⟨g, cap, cur, rfl, _⟩
  · exact ⟨none, 0, by rw [h0]⟩
  · exact ⟨_, _, rfl⟩
theorem own_put5 {C N : Nat} {e : TypeId} {z : Nat} {w : World} {v : Value} {k : Nat} {xs : List Value} (b : Br.St) (h : w.ownsRow (C + 1) e z v k xs) (hC : N + 2 ≤ C) : (put5 w (N + 1) b).ownsRow N e z v k xs := by
  have hc := put5_cg w (N + 1) b
  refine own_base (B' := C + 1) ?_ (by omega)
  refine h.kept (row := some (N + 1)) ⟨hc.os, hc.tape, hc.output, hc.size, fun b hb hne => hc.block b hb (fun e => hne (by rw [e]))⟩ ?_
  cases hv : v.ownBlock with
  | none => exact .inl rfl
  | some b => exact .inr (fun e => by have := (h.lt b hv).1; cases e; omega)
theorem Try.infoJ : (Try.prog.info? 3).map (fun i => (i.zero, i.size, i.bytes)) = some (some (.int .i64 0), 1, 8) := by kernel_rfl

set_option maxHeartbeats 4000000 in
theorem run_any (s : Br.Se) (v : Value) (l : List Br.Ac) (w : World) (hv : ASeg w v l) : Calls Try.prog 21 #[vS s, v] w fun e w' => ∃ v', e = .returned (.tuple #[vB (Br.endR2 s l), v', .int .i64 (Br.runE s l)]) ∧ w'.ownsRow w.heap.size 3 1 v' (Br.toldR s l).length (i64s (Br.toldR s l)) ∧ Below w.heap.size w w' := by
  obtain ⟨i0, hi, hz0, hz1, hz2⟩ := info_parts Try.infoJ
  have cm := fun W (hW : Below w.heap.size w W) => mayRun_any s v l W (hv.below hW)
  obtain ⟨W0, hW0, X0, X1, HB, HS⟩ := two_boxes w (sL s) (bL Br.zero) 25 23
  have HV := hidD hv
  obtain ⟨av, cv, rfl, _, q2, _, _⟩ := hv
  unfold maxLen at q2
  have HE0 : Hid (Br.runE s l ≠ 0 → Br.endR2 s l = Br.zero ∧ Br.toldR s l = []) := hidD (fun h => ⟨if_neg h, if_neg h⟩)
  have HE1 : Hid (Br.runE s l = 0 → Br.endR2 s l = Br.st s l l.length ∧ Br.toldR s l = Br.tolds s l l.length) := hidD (fun h => ⟨if_pos h, if_pos h⟩)
  have HCH : Hid (Br.runE s l = 0 → ∀ k, k < l.length → Br.chk (Br.st s l k) s (l.getD k Br.ac0).t = 0) := hidD (fun h k hk => Br.st_chk h k hk)
  have HKD : Hid (Br.runE s l = 0 → ∀ k, k < l.length → (l.getD k Br.ac0).k = 1 ∨ (l.getD k Br.ac0).k = 2 ∨ (l.getD k Br.ac0).k = 3) := hidD (fun h k hk => Br.kind_range (Br.runE_zero h).2.2.1 k hk)
  have HLN : Hid (Br.runE s l = 0 → l.length ≤ 512) := hidD (fun h => (Br.runE_zero h).2.1)
  generalize Br.runE s l = E at *
  generalize Br.endR2 s l = FE at *
  generalize Br.toldR s l = FT at *
  simp only [bL, sL, Br.zero] at hW0
  obtain ⟨N, hN⟩ : ∃ N, N = w.heap.size := ⟨_, rfl⟩
  have c := cm W0 HB
  rw [← hN] at X0 X1 HB HS ⊢
  clear cm
  obtain ⟨n, hn⟩ : ∃ n, n = l.length := ⟨_, rfl⟩
  rw [← hn] at c ⊢
  have HN := hidD hn
  clear hn
  go_enter Try.func21, Try.ntmps21
  go_wp2_with fail
  rw [← hN, ← hW0]
  have HNW := hidD hN
  clear hN hW0
  with_reducible refine c.mono ?_
  rintro e w1 ⟨rfl, h1⟩
  clear c
  replace X0 := X0.below h1
  replace X1 := X1.below h1
  replace HB := below_on HB (by omega) h1
  have hs := h1.size
  rw [HS] at hs
  clear HS h1
  by_cases hE : E = 0
  case neg =>
    obtain ⟨e1, e2⟩ := HE0.out hE
    subst e1 e2
    have hk1 : (E != 0) = true := by simp [hE]
    have S := hidD (put5_bo Br.zero X1)
    have SB := hidD ((put5_cg w1 (N + 1) Br.zero).below (B := N) (by omega) (by omega) HB)
    have r0 := X1.cell 0 rfl
    have r1 := X1.cell 1 rfl
    have r2 := X1.cell 2 rfl
    have r3 := X1.cell 3 rfl
    have r4 := X1.cell 4 rfl
    have f0 := X1.frozen 0
    have f1 := X1.frozen 1
    have f2 := X1.frozen 2
    have f3 := X1.frozen 3
    have f4 := X1.frozen 4
    clear X0 X1 HB hE HE0 HE1 HCH HKD HLN HV hs
    go_wp2_with fail
    refine bodyPost_ret (ret_cell2 rfl rfl S.out) rfl ?_
    exact ⟨_, rfl, World.ownsRow_nil _ _ _ _, SB.out⟩
  subst hE
  obtain ⟨e1, e2⟩ := HE1.out rfl
  have HCK := hidD (HCH.out rfl)
  have HKK := hidD (HKD.out rfl)
  have hln : n ≤ 512 := by rw [HN.out]; exact HLN.out rfl
  rw [← HN.out] at e1 e2
  subst e1 e2
  clear HE0 HE1 HCH HKD HLN
  have p0 := X0.cell 0 rfl
  have p1 := X0.cell 1 rfl
  have p2 := X0.cell 2 rfl
  have Y := hidD (Bo.new w1 [.int .i64 0, .int .i64 0, .int .i64 0, .int .i64 0, .int .i64 0, .int .i64 s.f, .int .i64 s.o, .int .i64 s.p, .slice none 0 0] 66)
  have X1' := hidD (X1.alloc (.cells #[.int .i64 0, .int .i64 0, .int .i64 0, .int .i64 0, .int .i64 0, .int .i64 s.f, .int .i64 s.o, .int .i64 s.p, .slice none 0 0] 66))
  have HB' := hidD (HB.alloc (by omega) (.cells #[.int .i64 0, .int .i64 0, .int .i64 0, .int .i64 0, .int .i64 0, .int .i64 s.f, .int .i64 s.o, .int .i64 s.p, .slice none 0 0] 66))
  have hs' : (w1.alloc (.cells #[.int .i64 0, .int .i64 0, .int .i64 0, .int .i64 0, .int .i64 0, .int .i64 s.f, .int .i64 s.o, .int .i64 s.p, .slice none 0 0] 66)).heap.size = w1.heap.size + 1 := by simp
  clear X0 X1 HB
  go_upto_region 5 with fail
  generalize w1.alloc (.cells #[.int .i64 0, .int .i64 0, .int .i64 0, .int .i64 0, .int .i64 0, .int .i64 s.f, .int .i64 s.o, .int .i64 s.p, .slice none 0 0] 66) = W1 at *
  generalize w1.heap.size = C at *
  have hsC : N + 2 ≤ C := hs
  clear p0 p1 p2 hs
  go_wp2_with fail
  go_loopw [23] (fun i wr => ∃ (k : Nat) (tv : Value), k ≤ n ∧ i = .int .i64 k ∧ Hid (Bo wr C (cL (Br.st s l k) s [tv]) 66) ∧ Hid (wr.ownsRow (C + 1) 3 1 tv k (i64s (Br.tolds s l k))) ∧ Hid (Bo wr (N + 1) (bL Br.zero) 23) ∧ Hid (Below N w wr)) (fun i _ => n - (intOf i).toNat)
  case atStart => exact ⟨0, _, Nat.zero_le _, rfl, Y, hidD (World.ownsRow_nil _ _ _ _), X1', HB'⟩
  case round =>
    clear Y X1' HB' hs'
    obtain ⟨k, tv, hk, rfl, BW, OWN, RES, HBW⟩ := hrel
    have hCw := BW.out.lt
    obtain ⟨ta, tc, rfl⟩ := own_sl OWN.out
    by_cases hlt : k < n
    · obtain ⟨g0, off, cap', e1, hg, hcell⟩ := aseg_at (by have := HN.out; omega) (HV.out.below (HNW.out ▸ HBW.out))
      rw [← HN.out] at e1
      cases e1
      obtain ⟨Q1, Q2, Q3, Q4⟩ := hcell k (by have := HN.out; omega)
      have hck := HCK.out k (by have := HN.out; omega)
      have hkk := HKK.out k (by have := HN.out; omega)
      have HST := hidD (Br.st_succ s l k (by have := HN.out; omega))
      have HTO := hidD (Br.told_succ s l k)
      clear hcell HCK HKK
      generalize l.getD k Br.ac0 = a at *
      generalize Br.st s l k = b at *
      generalize Br.tolds s l k = tol at *
      have HND : Hid (some wr.heap.size ≠ (Value.slice ta k tc).ownBlock) := hidD (fun e => by have := (OWN.out.lt _ e.symm).2; omega)
      have HNC : Hid (some C ≠ (Value.slice ta k tc).ownBlock) := hidD (fun e => by have := (OWN.out.lt _ e.symm).1; omega)
      have HNR : Hid (some (N + 1) ≠ (Value.slice ta k tc).ownBlock) := hidD (fun e => by have := (OWN.out.lt _ e.symm).1; omega)
      have HGR : Hid (∀ j, (Value.slice ta k tc).ownBlock = some j → N ≤ j) := hidD (fun j hj => by have := (OWN.out.lt _ hj).1; omega)
      have CDO := fun W (hW : Bo W C (cL b s [.slice ta k tc]) 66) => do_any C b s [.slice ta k tc] a W hW hkk hck
      generalize Br.step s b a = ba at *
      obtain ⟨b2, r⟩ := ba
      dsimp only at CDO HST HTO
      replace BW := hidD (BW.out.alloc (.cells #[.int .i64 a.k, .int .i64 a.t, .bool a.p, .bool a.g] 55))
      replace OWN := hidD (OWN.out.alloc (.cells #[.int .i64 a.k, .int .i64 a.t, .bool a.p, .bool a.g] 55))
      replace RES := hidD (RES.out.alloc (.cells #[.int .i64 a.k, .int .i64 a.t, .bool a.p, .bool a.g] 55))
      replace HBW := hidD (HBW.out.alloc (by omega) (.cells #[.int .i64 a.k, .int .i64 a.t, .bool a.p, .bool a.g] 55))
      have XA := hidD (Bo.new wr [.int .i64 a.k, .int .i64 a.t, .bool a.p, .bool a.g] 55)
      have hsA : (wr.alloc (.cells #[.int .i64 a.k, .int .i64 a.t, .bool a.p, .bool a.g] 55)).heap.size = wr.heap.size + 1 := by simp
      clear hkk hck
      have HCDO := hidD CDO
      clear CDO
      go_upto_region 8 with fail
      generalize wr.alloc (.cells #[.int .i64 a.k, .int .i64 a.t, .bool a.p, .bool a.g] 55) = W1 at *
      generalize wr.heap.size = D at *
      clear Q1 Q2 Q3 Q4 hg
      have hD1 : D < W1.heap.size := by omega
      have hDC : D ≠ C := by omega
      have CDO := hidD (HCDO.out _ BW.out.drew)
      have x0 := XA.out.drew.cell 0 rfl
      have x1 := XA.out.drew.cell 1 rfl
      have x2 := XA.out.drew.cell 2 rfl
      have x3 := XA.out.drew.cell 3 rfl
      have t80 := BW.out.drew.cell 8 rfl
      clear HCDO XA BW
      refine wp_region_held_drew (S := (fun w' => w'.cell? ⟨D, 0, none⟩ = some (.int .i64 a.k) ∧ w'.cell? ⟨D, 1, none⟩ = some (.int .i64 a.t) ∧ w'.cell? ⟨D, 2, none⟩ = some (.bool a.p) ∧ w'.cell? ⟨D, 3, none⟩ = some (.bool a.g))) (by kernel_rfl) (by exact ⟨x0, x1, x2, x3⟩) (fun hHeld => ?_)
      refine wpAnyH_take (i := 0) (oi := { dst := some 27, op := Op.fieldAddr 66 (Operand.tmp 8) 1, type := _, pos := _, after := _, guard := _ }) (v := ?_) rfl (by kernel_rfl) (by kernel_rfl) (by kernel_rfl) (fun _ _ _ h => h) (Or.inl ⟨by rfl, ?_⟩) (by assumption) ?_
      rotate_left
      · intro w hSw
        (try dsimp only at hSw)
        go_simp
        all_goals with_reducible rfl
      try simp only [Act.put, List.setIfInBounds_toArray, List.set_cons_zero, List.set_cons_succ]
      refine wpAnyH_take (i := 2) (oi := { dst := some 29, op := Op.load 55 (Operand.tmp 10), type := _, pos := _, after := _, guard := _ }) (v := ?_) rfl (by kernel_rfl) (by kernel_rfl) (by kernel_rfl) (fun _ _ _ h => h) (Or.inl ⟨by rfl, ?_⟩) (by assumption) ?_
      rotate_left
      · intro w hSw
        (try dsimp only at hSw)
        go_simp
        all_goals with_reducible rfl
      try simp only [Act.put, List.setIfInBounds_toArray, List.set_cons_zero, List.set_cons_succ]
      refine wpAnyH_ready (rs := [1, 3]) (by kernel_rfl) (by simp) ?_
      refine AllReadyH.cons rfl (fun K hK => ?_) (AllReadyH.cons rfl (fun K hK => ?_) AllReadyH.nil)
      · go_simp
        refine hK.out _ _ ?_ (fun hHeld => ?_)
        · (try dsimp only)
          assumption
        clear hK K
        refine wpAnyH_ready (rs := [3]) (by kernel_rfl) (by simp) ?_
        refine AllReadyH.cons rfl (fun K hK => ?_) AllReadyH.nil
        go_simp
        go_wp2_with (go_at_call 33; with_reducible refine CDO.out.mono ?_; rintro e ww ⟨rfl, bb, cc⟩)
        refine hK.out _ _ ?_ (fun hHeld => ?_)
        · (try dsimp only)
          exact keep4 (by assumption) (cc.block D hD1 hDC)
        clear hK K
        have t8 := bb.cell 8 rfl
        have BB := hidD bb
        have OW := hidD (own_cg OWN.out.drew cc)
        have RR := hidD (cc.bo (show N + 1 ≠ C by omega) RES.out.drew)
        have HH := hidD (cc.below (B := N) (by omega) (show N ≤ W1.heap.size by omega) (belowD_drew HBW.out))
        have hsz := cc.size
        have hD2 : D < ww.heap.size := Nat.lt_of_lt_of_le hD1 hsz
        have hC2 := bb.lt
        have hN2 : N + 1 < ww.heap.size := by omega
        clear bb cc hsz
        refine wpAnyH_ready (rs := [4]) (by kernel_rfl) (by simp) ?_
        refine AllReadyH.cons rfl (fun K hK => ?_) AllReadyH.nil
        go_simp
        refine hK.out _ _ ?_ (fun hHeld => ?_)
        · (try dsimp only)
          exact keep4 (by assumption) (Below.heap_alloc ww _ D hD2)
        clear hK K
        have t8b := (BB.out.alloc (.cells #[.int .i64 r] 3)).cell 8 rfl
        refine wpAnyH_ready (rs := [5]) (by kernel_rfl) (by simp) ?_
        refine AllReadyH.cons rfl (fun K hK => ?_) AllReadyH.nil
        refine step_append_lies (o := { dst := some 32, op := .call { callee := .builtin .append, args := #[.tmp 28, .tmp 31], argTypes := #[47, 47] }, type := _, pos := _, after := _, guard := none }) _ rfl (.tmp 28) (.tmp 31) 47 rfl (C + 1) 3 i0 _ 1 8 Try.underlying47 hi hz0 hz1 hz2 rfl (by decide) (.slice ta k tc) k (i64s tol) rfl (OW.out.alloc _) ⟨ww.heap.size, 0, none⟩ 1 1 [.int .i64 r] rfl rfl (World.news_of_block (heap_alloc_new ww _)) (by simp [Value.oneCell']) (by decide) (by unfold maxLen; omega) (by omega) (by simp; omega) _ rfl ?_
        intro g cp w6 hown6 hgr6 hat6 hlt6
        refine hK.out _ _ ?_ (fun hHeld => ?_)
        · (try dsimp only)
          exact keep4 (by assumption) (hgr6.block D (by simp; omega) HND.out)
        clear hK K
        have B6 : Bo w6 C (cL b2 s [.slice ta k tc]) 66 := (hgr6.block C (by simp; omega) HNC.out).trans (BB.out.alloc _)
        have R6 := hidD ((show Bo w6 (N + 1) (bL Br.zero) 23 from (hgr6.block (N + 1) (by simp; omega) HNR.out).trans (RR.out.alloc _)))
        have H6 := hidD ((HH.out.alloc (by omega) (.cells #[.int .i64 r] 3)).grown hgr6 (by simp; omega) (fun j hj => HGR.out j hj))
        have O6 := hidD hown6
        have y8 := B6.cell 8 rfl
        have yf := B6.frozen 8
        have B6h := hidD B6
        have sz6 := hgr6.size
        clear B6 hown6 hgr6 hat6 hlt6
        refine wpAnyH_take (i := 6) (oi := { dst := some 33, op := Op.fieldAddr 66 (Operand.tmp 8) 1, type := _, pos := _, after := _, guard := _ }) (v := ?_) rfl (by kernel_rfl) (by kernel_rfl) (by kernel_rfl) (fun _ _ _ h => h) (Or.inl ⟨by rfl, ?_⟩) (by assumption) ?_
        rotate_left
        · intro w hSw
          (try dsimp only at hSw)
          go_simp
          all_goals with_reducible rfl
        try simp only [Act.put, List.setIfInBounds_toArray, List.set_cons_zero, List.set_cons_succ]
        refine wpAnyH_ready (rs := [7]) (by kernel_rfl) (by simp) ?_
        refine AllReadyH.cons rfl (fun K hK => ?_) AllReadyH.nil
        go_simp
        refine hK.out _ _ ?_ (fun hHeld => ?_)
        · (try dsimp only)
          exact keep4 (by assumption) (heap_setCell_other w6 ⟨C, 8, none⟩ D _ hDC)
        clear hK K
        refine wpAnyH_done (by kernel_rfl) ?_ _
        have L1 := hidD (B6h.out.set 8 (.slice (some ⟨g, 0, none⟩) (k + 1) cp))
        have LC := Cg.set w6 8 (.slice (some ⟨g, 0, none⟩) (k + 1) cp) (b := C)
        have L2 := hidD (own_cg O6.out LC)
        have L3 := hidD (LC.bo (show N + 1 ≠ C by omega) R6.out)
        have L4 := hidD (LC.below (B := N) (by omega) (by simp at sz6; omega) H6.out)
        clear LC y8 yf B6h O6 R6 H6 t8 t8b
        go_wp2
        exact ⟨⟨k + 1, _, by omega, by go_num, by rw [HST.out]; exact L1, by rw [HTO.out, show i64s (tol ++ [r]) = i64s tol ++ [.int .i64 r] from by simp [i64s]]; exact L2, L3, L4⟩, by simp [intOf]; omega⟩
      · go_simp
        go_wp2_with (go_at_call 33; with_reducible refine CDO.out.mono ?_; rintro e ww ⟨rfl, bb, cc⟩)
        refine hK.out _ _ ?_ (fun hHeld => ?_)
        · (try dsimp only)
          exact keep4 (by assumption) (cc.block D hD1 hDC)
        clear hK K
        have t8 := bb.cell 8 rfl
        have BB := hidD bb
        have OW := hidD (own_cg OWN.out.drew cc)
        have RR := hidD (cc.bo (show N + 1 ≠ C by omega) RES.out.drew)
        have HH := hidD (cc.below (B := N) (by omega) (show N ≤ W1.heap.size by omega) (belowD_drew HBW.out))
        have hsz := cc.size
        have hD2 : D < ww.heap.size := Nat.lt_of_lt_of_le hD1 hsz
        have hC2 := bb.lt
        have hN2 : N + 1 < ww.heap.size := by omega
        clear bb cc hsz
        refine wpAnyH_ready (rs := [1, 4]) (by kernel_rfl) (by simp) ?_
        refine AllReadyH.cons rfl (fun K hK => ?_) (AllReadyH.cons rfl (fun K hK => ?_) AllReadyH.nil)
        · go_simp
          refine hK.out _ _ ?_ (fun hHeld => ?_)
          · (try dsimp only)
            assumption
          clear hK K
          refine wpAnyH_ready (rs := [4]) (by kernel_rfl) (by simp) ?_
          refine AllReadyH.cons rfl (fun K hK => ?_) AllReadyH.nil
          go_simp
          refine hK.out _ _ ?_ (fun hHeld => ?_)
          · (try dsimp only)
            exact keep4 (by assumption) (Below.heap_alloc ww _ D hD2)
          clear hK K
          have t8b := (BB.out.alloc (.cells #[.int .i64 r] 3)).cell 8 rfl
          refine wpAnyH_ready (rs := [5]) (by kernel_rfl) (by simp) ?_
          refine AllReadyH.cons rfl (fun K hK => ?_) AllReadyH.nil
          refine step_append_lies (o := { dst := some 32, op := .call { callee := .builtin .append, args := #[.tmp 28, .tmp 31], argTypes := #[47, 47] }, type := _, pos := _, after := _, guard := none }) _ rfl (.tmp 28) (.tmp 31) 47 rfl (C + 1) 3 i0 _ 1 8 Try.underlying47 hi hz0 hz1 hz2 rfl (by decide) (.slice ta k tc) k (i64s tol) rfl (OW.out.alloc _) ⟨ww.heap.size, 0, none⟩ 1 1 [.int .i64 r] rfl rfl (World.news_of_block (heap_alloc_new ww _)) (by simp [Value.oneCell']) (by decide) (by unfold maxLen; omega) (by omega) (by simp; omega) _ rfl ?_
          intro g cp w6 hown6 hgr6 hat6 hlt6
          refine hK.out _ _ ?_ (fun hHeld => ?_)
          · (try dsimp only)
            exact keep4 (by assumption) (hgr6.block D (by simp; omega) HND.out)
          clear hK K
          have B6 : Bo w6 C (cL b2 s [.slice ta k tc]) 66 := (hgr6.block C (by simp; omega) HNC.out).trans (BB.out.alloc _)
          have R6 := hidD ((show Bo w6 (N + 1) (bL Br.zero) 23 from (hgr6.block (N + 1) (by simp; omega) HNR.out).trans (RR.out.alloc _)))
          have H6 := hidD ((HH.out.alloc (by omega) (.cells #[.int .i64 r] 3)).grown hgr6 (by simp; omega) (fun j hj => HGR.out j hj))
          have O6 := hidD hown6
          have y8 := B6.cell 8 rfl
          have yf := B6.frozen 8
          have B6h := hidD B6
          have sz6 := hgr6.size
          clear B6 hown6 hgr6 hat6 hlt6
          refine wpAnyH_take (i := 6) (oi := { dst := some 33, op := Op.fieldAddr 66 (Operand.tmp 8) 1, type := _, pos := _, after := _, guard := _ }) (v := ?_) rfl (by kernel_rfl) (by kernel_rfl) (by kernel_rfl) (fun _ _ _ h => h) (Or.inl ⟨by rfl, ?_⟩) (by assumption) ?_
          rotate_left
          · intro w hSw
            (try dsimp only at hSw)
            go_simp
            all_goals with_reducible rfl
          try simp only [Act.put, List.setIfInBounds_toArray, List.set_cons_zero, List.set_cons_succ]
          refine wpAnyH_ready (rs := [7]) (by kernel_rfl) (by simp) ?_
          refine AllReadyH.cons rfl (fun K hK => ?_) AllReadyH.nil
          go_simp
          refine hK.out _ _ ?_ (fun hHeld => ?_)
          · (try dsimp only)
            exact keep4 (by assumption) (heap_setCell_other w6 ⟨C, 8, none⟩ D _ hDC)
          clear hK K
          refine wpAnyH_done (by kernel_rfl) ?_ _
          have L1 := hidD (B6h.out.set 8 (.slice (some ⟨g, 0, none⟩) (k + 1) cp))
          have LC := Cg.set w6 8 (.slice (some ⟨g, 0, none⟩) (k + 1) cp) (b := C)
          have L2 := hidD (own_cg O6.out LC)
          have L3 := hidD (LC.bo (show N + 1 ≠ C by omega) R6.out)
          have L4 := hidD (LC.below (B := N) (by omega) (by simp at sz6; omega) H6.out)
          clear LC y8 yf B6h O6 R6 H6 t8 t8b
          go_wp2
          exact ⟨⟨k + 1, _, by omega, by go_num, by rw [HST.out]; exact L1, by rw [HTO.out, show i64s (tol ++ [r]) = i64s tol ++ [.int .i64 r] from by simp [i64s]]; exact L2, L3, L4⟩, by simp [intOf]; omega⟩
        · go_simp
          refine hK.out _ _ ?_ (fun hHeld => ?_)
          · (try dsimp only)
            exact keep4 (by assumption) (Below.heap_alloc ww _ D hD2)
          clear hK K
          have t8b := (BB.out.alloc (.cells #[.int .i64 r] 3)).cell 8 rfl
          refine wpAnyH_ready (rs := [1]) (by kernel_rfl) (by simp) ?_
          refine AllReadyH.cons rfl (fun K hK => ?_) AllReadyH.nil
          go_simp
          refine hK.out _ _ ?_ (fun hHeld => ?_)
          · (try dsimp only)
            assumption
          clear hK K
          refine wpAnyH_ready (rs := [5]) (by kernel_rfl) (by simp) ?_
          refine AllReadyH.cons rfl (fun K hK => ?_) AllReadyH.nil
          refine step_append_lies (o := { dst := some 32, op := .call { callee := .builtin .append, args := #[.tmp 28, .tmp 31], argTypes := #[47, 47] }, type := _, pos := _, after := _, guard := none }) _ rfl (.tmp 28) (.tmp 31) 47 rfl (C + 1) 3 i0 _ 1 8 Try.underlying47 hi hz0 hz1 hz2 rfl (by decide) (.slice ta k tc) k (i64s tol) rfl (OW.out.alloc _) ⟨ww.heap.size, 0, none⟩ 1 1 [.int .i64 r] rfl rfl (World.news_of_block (heap_alloc_new ww _)) (by simp [Value.oneCell']) (by decide) (by unfold maxLen; omega) (by omega) (by simp; omega) _ rfl ?_
          intro g cp w6 hown6 hgr6 hat6 hlt6
          refine hK.out _ _ ?_ (fun hHeld => ?_)
          · (try dsimp only)
            exact keep4 (by assumption) (hgr6.block D (by simp; omega) HND.out)
          clear hK K
          have B6 : Bo w6 C (cL b2 s [.slice ta k tc]) 66 := (hgr6.block C (by simp; omega) HNC.out).trans (BB.out.alloc _)
          have R6 := hidD ((show Bo w6 (N + 1) (bL Br.zero) 23 from (hgr6.block (N + 1) (by simp; omega) HNR.out).trans (RR.out.alloc _)))
          have H6 := hidD ((HH.out.alloc (by omega) (.cells #[.int .i64 r] 3)).grown hgr6 (by simp; omega) (fun j hj => HGR.out j hj))
          have O6 := hidD hown6
          have y8 := B6.cell 8 rfl
          have yf := B6.frozen 8
          have B6h := hidD B6
          have sz6 := hgr6.size
          clear B6 hown6 hgr6 hat6 hlt6
          refine wpAnyH_take (i := 6) (oi := { dst := some 33, op := Op.fieldAddr 66 (Operand.tmp 8) 1, type := _, pos := _, after := _, guard := _ }) (v := ?_) rfl (by kernel_rfl) (by kernel_rfl) (by kernel_rfl) (fun _ _ _ h => h) (Or.inl ⟨by rfl, ?_⟩) (by assumption) ?_
          rotate_left
          · intro w hSw
            (try dsimp only at hSw)
            go_simp
            all_goals with_reducible rfl
          try simp only [Act.put, List.setIfInBounds_toArray, List.set_cons_zero, List.set_cons_succ]
          refine wpAnyH_ready (rs := [7]) (by kernel_rfl) (by simp) ?_
          refine AllReadyH.cons rfl (fun K hK => ?_) AllReadyH.nil
          go_simp
          refine hK.out _ _ ?_ (fun hHeld => ?_)
          · (try dsimp only)
            exact keep4 (by assumption) (heap_setCell_other w6 ⟨C, 8, none⟩ D _ hDC)
          clear hK K
          refine wpAnyH_done (by kernel_rfl) ?_ _
          have L1 := hidD (B6h.out.set 8 (.slice (some ⟨g, 0, none⟩) (k + 1) cp))
          have LC := Cg.set w6 8 (.slice (some ⟨g, 0, none⟩) (k + 1) cp) (b := C)
          have L2 := hidD (own_cg O6.out LC)
          have L3 := hidD (LC.bo (show N + 1 ≠ C by omega) R6.out)
          have L4 := hidD (LC.below (B := N) (by omega) (by simp at sz6; omega) H6.out)
          clear LC y8 yf B6h O6 R6 H6 t8 t8b
          go_wp2
          exact ⟨⟨k + 1, _, by omega, by go_num, by rw [HST.out]; exact L1, by rw [HTO.out, show i64s (tol ++ [r]) = i64s tol ++ [.int .i64 r] from by simp [i64s]]; exact L2, L3, L4⟩, by simp [intOf]; omega⟩
    · have hke : k = n := by omega
      subst hke
      have hlq := hidD (Br.told_length s l k)
      generalize hbq : Br.st s l k = b at *
      generalize htq : Br.tolds s l k = tol at *
      have HBq := hidD hbq
      have HTq := hidD htq
      clear hbq htq
      have z0 := BW.out.drew.cell 0 rfl
      have z1 := BW.out.drew.cell 1 rfl
      have z2 := BW.out.drew.cell 2 rfl
      have z3 := BW.out.drew.cell 3 rfl
      have z4 := BW.out.drew.cell 4 rfl
      have z8 := BW.out.drew.cell 8 rfl
      have HCL : Hid (C < wr.heap.size) := hidD hCw
      have r0 := RES.out.cell 0 rfl
      have r1 := RES.out.cell 1 rfl
      have r2 := RES.out.cell 2 rfl
      have r3 := RES.out.cell 3 rfl
      have r4 := RES.out.cell 4 rfl
      have f0 := RES.out.frozen 0
      have f1 := RES.out.frozen 1
      have f2 := RES.out.frozen 2
      have f3 := RES.out.frozen 3
      have f4 := RES.out.frozen 4
      have SS := hidD (put5_bo b RES.out).drew
      have FO := hidD (own_put5 (C := C) (N := N) b OWN.out hsC).drew
      have FB := hidD (belowD_drew ((put5_cg wr (N + 1) b).below (B := N) (by omega) (by have := HBW.out.size; have := HNW.out; omega) HBW.out))
      clear OWN RES HBW BW HV
      go_upto_region 10 with fail
      refine wp_region_held_drew (S := (fun w' => w'.cell? ⟨C, 0, none⟩ = some (.int .i64 b.m) ∧ w'.cell? ⟨C, 1, none⟩ = some (.int .i64 b.f) ∧ w'.cell? ⟨C, 2, none⟩ = some (.int .i64 b.u) ∧ w'.cell? ⟨C, 3, none⟩ = some (.int .i64 b.p) ∧ w'.cell? ⟨C, 4, none⟩ = some (.int .i64 b.w) ∧ w'.cell? ⟨C, 8, none⟩ = some (.slice ta k tc))) (by kernel_rfl) (by exact ⟨z0, z1, z2, z3, z4, z8⟩) (fun hHeld => ?_)
      refine wpAnyH_take (i := 0) (oi := { dst := some 35, op := Op.fieldAddr 66 (Operand.tmp 8) 0, type := _, pos := _, after := _, guard := _ }) (v := ?_) rfl (by kernel_rfl) (by kernel_rfl) (by kernel_rfl) (fun _ _ _ h => h) (Or.inl ⟨by rfl, ?_⟩) (by assumption) ?_
      rotate_left
      · intro w hSw
        (try dsimp only at hSw)
        go_simp
        all_goals with_reducible rfl
      try simp only [Act.put, List.setIfInBounds_toArray, List.set_cons_zero, List.set_cons_succ]
      refine wpAnyH_take (i := 1) (oi := { dst := some 36, op := Op.fieldAddr 58 (Operand.tmp 35) 0, type := _, pos := _, after := _, guard := _ }) (v := ?_) rfl (by kernel_rfl) (by kernel_rfl) (by kernel_rfl) (fun _ _ _ h => h) (Or.inl ⟨by rfl, ?_⟩) (by assumption) ?_
      rotate_left
      · intro w hSw
        (try dsimp only at hSw)
        go_simp
        all_goals with_reducible rfl
      try simp only [Act.put, List.setIfInBounds_toArray, List.set_cons_zero, List.set_cons_succ]
      refine wpAnyH_take (i := 2) (oi := { dst := some 37, op := Op.load 23 (Operand.tmp 36), type := _, pos := _, after := _, guard := _ }) (v := ?_) rfl (by kernel_rfl) (by kernel_rfl) (by kernel_rfl) (fun _ _ _ h => h) (Or.inl ⟨by rfl, ?_⟩) (by assumption) ?_
      rotate_left
      · intro w hSw
        (try dsimp only at hSw)
        go_simp
        all_goals with_reducible rfl
      try simp only [Act.put, List.setIfInBounds_toArray, List.set_cons_zero, List.set_cons_succ]
      refine wpAnyH_take (i := 3) (oi := { dst := some 38, op := Op.fieldAddr 66 (Operand.tmp 8) 1, type := _, pos := _, after := _, guard := _ }) (v := ?_) rfl (by kernel_rfl) (by kernel_rfl) (by kernel_rfl) (fun _ _ _ h => h) (Or.inl ⟨by rfl, ?_⟩) (by assumption) ?_
      rotate_left
      · intro w hSw
        (try dsimp only at hSw)
        go_simp
        all_goals with_reducible rfl
      try simp only [Act.put, List.setIfInBounds_toArray, List.set_cons_zero, List.set_cons_succ]
      refine wpAnyH_take (i := 4) (oi := { dst := some 39, op := Op.load 47 (Operand.tmp 38), type := _, pos := _, after := _, guard := _ }) (v := ?_) rfl (by kernel_rfl) (by kernel_rfl) (by kernel_rfl) (fun _ _ _ h => h) (Or.inl ⟨by rfl, ?_⟩) (by assumption) ?_
      rotate_left
      · intro w hSw
        (try dsimp only at hSw)
        go_simp
        all_goals with_reducible rfl
      try simp only [Act.put, List.setIfInBounds_toArray, List.set_cons_zero, List.set_cons_succ]
      refine wpAnyH_ready (rs := [5]) (by kernel_rfl) (by simp) ?_
      refine AllReadyH.cons rfl (fun K hK => ?_) AllReadyH.nil
      go_simp
      refine hK.out _ _ ?_ (fun hHeld => ?_)
      · (try dsimp only)
        exact keep6 (by assumption) ((put5_cg wr (N + 1) b).block C HCL.out (by omega))
      clear hK K
      refine wpAnyH_take (i := 6) (oi := { dst := some 5, op := Op.assign (Operand.tmp 39), type := _, pos := _, after := _, guard := _ }) (v := ?_) rfl (by kernel_rfl) (by kernel_rfl) (by kernel_rfl) (fun _ _ _ h => h) (Or.inl ⟨by rfl, ?_⟩) (by assumption) ?_
      rotate_left
      · intro w hSw
        (try dsimp only at hSw)
        go_simp
        all_goals with_reducible rfl
      try simp only [Act.put, List.setIfInBounds_toArray, List.set_cons_zero, List.set_cons_succ]
      refine wpAnyH_take (i := 7) (oi := { dst := some 6, op := Op.assign (Operand.const (Value.int IntKind.i64 0)), type := _, pos := _, after := _, guard := _ }) (v := ?_) rfl (by kernel_rfl) (by kernel_rfl) (by kernel_rfl) (fun _ _ _ h => h) (Or.inl ⟨by rfl, ?_⟩) (by assumption) ?_
      rotate_left
      · intro w hSw
        (try dsimp only at hSw)
        go_simp
        all_goals with_reducible rfl
      try simp only [Act.put, List.setIfInBounds_toArray, List.set_cons_zero, List.set_cons_succ]
      refine wpAnyH_done (by kernel_rfl) ?_ _
      go_wp2_with fail
      refine bodyPost_ret (ret_cell2 rfl rfl SS.out) rfl ?_
      exact ⟨_, by rw [HBq.out]; rfl, by rw [HTq.out, hlq.out]; exact FO.out, FB.out⟩
end Go.Proofs.Ytkfkhhhoboenkaa
