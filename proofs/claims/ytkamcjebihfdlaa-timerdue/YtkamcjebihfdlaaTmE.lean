/- timers: First and Cancel, by the reference. -/
import Derived.Test.YtkamcjebihfdlaaTmD
namespace Go.Proofs.Ytkamcjebihfdlaa
open Go.RowKit
set_option linter.unusedVariables false
set_option maxRecDepth 20000

theorem ret_t {fn : Func} {k m : Nat} (h : fn.results = #[.cell k 31, .tmp m]) {W : World} {tmps : Array Value} {b : Nat} {x0 x1 : Value} (ht : tmps.getD k undef = .pointer (some ⟨b, 0, none⟩))
    (hB : Bo W b [x0, x1] 31) : (results fn tmps).run Try.prog W = .ok (.tuple #[.agg #[x0, x1], tmps.getD m undef]) W := by
  have h0 := hB.cell 0 rfl
  have h1 := hB.cell 1 rfl
  clear hB
  rw [Array.getD_eq_getD_getElem?] at ht
  simp [results, h]
  go_simp
abbrev put2t (w : World) (b : Nat) (x y : Value) : World := (w.setCell ⟨b, 0, none⟩ x).setCell ⟨b, 1, none⟩ y
theorem put2t_bo {w : World} {b : Nat} {u v : Value} {T : TypeId} (x y : Value) (h : Bo w b [u, v] T) : Bo (put2t w b x y) b [x, y] T := (h.set 0 x).set 1 y
theorem put2t_cg (w : World) (b : Nat) (x y : Value) : Cg b w (put2t w b x y) := (Cg.set w 0 x).trans (Cg.set _ 1 y)
def Ti.firE (l : List Ti.T) : Int := if Ti.chkE l = 0 then (if l.length = 0 then 71 else 0) else Ti.chkE l
def Ti.firR (l : List Ti.T) : Ti.T := if Ti.firE l = 0 then Ti.g l 0 else Ti.t0

set_option maxHeartbeats 4000000 in
theorem rfirst_any (v : Value) (l : List Ti.T) (w : World) (hs : TS w v l) :
    Calls Try.prog 13 #[v] w fun e w' => e = .returned (.tuple #[vT (Ti.firR l), .int .i64 (Ti.firE l)]) ∧ Below w.heap.size w w' := by
  have HB := hidD ((Below.refl w.heap.size w).alloc (Nat.le_refl _) (.cells #[.int .i64 0, .int .i64 0] 31))
  have X0 := hidD (Bo.new w [.int .i64 0, .int .i64 0] 31)
  have CK := rcheck_any v l (w.alloc (.cells #[.int .i64 0, .int .i64 0] 31)) (hs.below HB.out)
  have HV := hidD (fun (W : World) (b : Below w.heap.size w W) => hs.below b)
  obtain ⟨W0, hW0⟩ : ∃ W0, W0 = w.alloc (.cells #[.int .i64 0, .int .i64 0] 31) := ⟨_, rfl⟩
  have HS : Hid (w.heap.size + 1 = W0.heap.size) := hidD (by rw [hW0, World.size_alloc])
  replace X0 : Hid (Bo W0 w.heap.size [.int .i64 0, .int .i64 0] 31) := hidD (by rw [hW0]; exact X0.out)
  rw [← hW0] at HB CK
  have A1 : Hid (¬ Ti.chkE l = 0 → Ti.firE l = Ti.chkE l ∧ Ti.firR l = Ti.t0) := hidD (fun h => by
    have e : Ti.firE l = Ti.chkE l := if_neg h
    exact ⟨e, if_neg (by rw [e]; exact h)⟩)
  have A2 : Hid (Ti.chkE l = 0 → l.length = 0 → Ti.firE l = 71 ∧ Ti.firR l = Ti.t0) := hidD (fun h h2 => by
    have e : Ti.firE l = 71 := by unfold Ti.firE; rw [if_pos h, if_pos h2]
    exact ⟨e, if_neg (by rw [e]; decide)⟩)
  have A3 : Hid (Ti.chkE l = 0 → ¬ l.length = 0 → Ti.firE l = 0 ∧ Ti.firR l = Ti.g l 0) := hidD (fun h h2 => by
    have e : Ti.firE l = 0 := by unfold Ti.firE; rw [if_pos h, if_neg h2]
    exact ⟨e, if_pos e⟩)
  generalize Ti.firE l = E at *
  generalize Ti.firR l = R at *
  obtain ⟨ck, hck⟩ : ∃ ck, ck = Ti.chkE l := ⟨_, rfl⟩
  rw [← hck] at CK A1 A2 A3
  obtain ⟨a, cap, rfl, a1, a2, _, _⟩ := id hs
  unfold maxLen at a2
  obtain ⟨N, hN⟩ : ∃ N, N = w.heap.size := ⟨_, rfl⟩
  rw [← hN] at X0 HB HV HS ⊢
  clear hs hck
  go_enter Try.func13, Try.ntmps13
  go_wp2_with fail
  rw [← hN, ← hW0]
  clear hN hW0
  with_reducible refine CK.mono ?_
  rintro e w1 ⟨rfl, h1⟩
  replace HB := hidD (below_on HB.out (by have := HS.out; omega) h1)
  replace X0 := hidD (X0.out.below h1)
  have q0 := X0.out.cell 0 rfl
  have q1 := X0.out.cell 1 rfl
  have f0 := X0.out.frozen 0
  have f1 := X0.out.frozen 1
  clear CK h1 HS
  by_cases hk : ck = 0
  case neg =>
    obtain ⟨hE, hR⟩ := A1.out hk
    subst hE hR
    have hk1 : (E != 0) = true := by simp [hk]
    have S := hidD (put2t_bo (.int .i64 0) (.int .i64 0) X0.out)
    have SB := hidD ((put2t_cg w1 N (.int .i64 0) (.int .i64 0)).below (B := N) (Nat.le_refl _) (Nat.le_of_lt X0.out.lt) HB.out)
    clear A1 A2 A3 hk
    go_wp2_with fail
    refine bodyPost_ret (ret_t rfl rfl S.out) rfl ?_
    exact ⟨rfl, SB.out⟩
  subst hk
  by_cases h0 : l.length = 0
  case pos =>
    obtain ⟨hE, hR⟩ := A2.out rfl h0
    subst hE hR
    rw [h0]
    have S := hidD (put2t_bo (.int .i64 0) (.int .i64 0) X0.out)
    have SB := hidD ((put2t_cg w1 N (.int .i64 0) (.int .i64 0)).below (B := N) (Nat.le_refl _) (Nat.le_of_lt X0.out.lt) HB.out)
    clear A1 A2 A3
    go_wp2_with fail
    refine bodyPost_ret (ret_t rfl rfl S.out) rfl ?_
    exact ⟨rfl, SB.out⟩
  obtain ⟨hE, hR⟩ := A3.out rfl h0
  subst hE hR
  obtain ⟨g, off, rfl, hg, hcell⟩ := TS.at (HV.out w1 HB.out) 0 (by omega)
  obtain ⟨t1, t2⟩ := hcell 0 (by omega)
  rw [Nat.zero_mul, Nat.add_zero] at t1 t2
  have d0 : ((l.length : Int) == 0) = false := by simp; exact fun e => h0 (by rw [e]; rfl)
  have hpos : (0 : Int) < (l.length : Int) := by omega
  have S := hidD (put2t_bo (.int .i64 (Ti.g l 0).at') (.int .i64 (Ti.g l 0).id') X0.out)
  have SB := hidD ((put2t_cg w1 N (.int .i64 (Ti.g l 0).at') (.int .i64 (Ti.g l 0).id')).below (B := N) (Nat.le_refl _) (Nat.le_of_lt X0.out.lt) HB.out)
  clear A1 A2 A3 hcell HV
  obtain ⟨x, hx⟩ : ∃ x, x = Ti.g l 0 := ⟨_, rfl⟩
  rw [← hx] at t1 t2 S SB
  replace hx := hidD hx
  obtain ⟨xa, xi⟩ := x
  dsimp only at t1 t2 S SB
  generalize l.length = n at *
  go_wp2_with fail
  refine bodyPost_ret (ret_t rfl rfl S.out) rfl ?_
  exact ⟨by rw [← hx.out]; rfl, SB.out⟩

/-- Cancel: those that stay put anew; how many went. -/
def Ti.off (ids : List Int) (x : Ti.T) : Bool := ids.contains x.id'
def Ti.gone (ids : List Int) (l : List Ti.T) : Nat := (l.filter (Ti.off ids)).length
def Ti.canR (l : List Ti.T) (ids : List Int) : List Ti.T := if Ti.chkE l = 0 then Ti.puts [] (Ti.rest ids l) else []
def Ti.canN (l : List Ti.T) (ids : List Int) : Int := if Ti.chkE l = 0 then (Ti.gone ids l : Nat) else 0
theorem Ti.rest_next (ids : List Int) (l : List Ti.T) (k : Nat) (hk : k < l.length) : Ti.puts [] (Ti.rest ids (l.take (k + 1))) = (if Ti.off ids (Ti.g l k) = true then Ti.puts [] (Ti.rest ids (l.take k)) else Ti.put (Ti.puts [] (Ti.rest ids (l.take k))) (Ti.g l k)) := by
  unfold Ti.rest Ti.puts
  rw [List.take_succ_eq_append_getElem hk, List.filter_append, List.foldl_append, ← Ti.g_at hk]
  unfold Ti.off
  by_cases h : ids.contains (Ti.g l k).id' = true
  · rw [if_pos h, List.filter_cons_of_neg (by rw [h]; decide)]
    rfl
  · rw [if_neg h, List.filter_cons_of_pos (by rw [Bool.not_eq_true] at h; rw [h]; decide)]
    rfl
theorem Ti.gone_next (ids : List Int) (l : List Ti.T) (k : Nat) (hk : k < l.length) : Ti.gone ids (l.take (k + 1)) = Ti.gone ids (l.take k) + (if Ti.off ids (Ti.g l k) = true then 1 else 0) := by
  unfold Ti.gone
  rw [List.take_succ_eq_append_getElem hk, List.filter_append, List.length_append, ← Ti.g_at hk]
  by_cases h : Ti.off ids (Ti.g l k) = true
  · rw [if_pos h, List.filter_cons_of_pos h]
    rfl
  · rw [if_neg h, List.filter_cons_of_neg h]
    rfl
theorem Ti.gone_le (ids : List Int) (l : List Ti.T) : Ti.gone ids l ≤ l.length := List.length_filter_le _ _
theorem Ti.puts_len (l : List Ti.T) : (Ti.puts [] l).length = l.length := by rw [(Ti.puts_perm l []).length_eq, List.append_nil]
theorem Ti.rest_len (ids : List Int) (l : List Ti.T) : (Ti.rest ids l).length ≤ l.length := List.length_filter_le _ _
/-- Looked for among the first. -/
def Ti.seen (ids : List Int) (i : Int) (q : Nat) : Bool := (ids.take q).any fun z => decide (z = i)
theorem Ti.seen_next (ids : List Int) (i : Int) (q : Nat) (hq : q < ids.length) : Ti.seen ids i (q + 1) = (Ti.seen ids i q || decide (ids.getD q 0 = i)) := dany_take _ ids q hq
theorem Ti.seen_all (ids : List Int) (x : Ti.T) : Ti.seen ids x.id' ids.length = Ti.off ids x := by
  unfold Ti.seen Ti.off
  rw [List.take_length, Bool.eq_iff_iff, List.any_eq_true, List.contains_iff_mem]
  constructor
  · rintro ⟨z, hz, hd⟩
    rw [← of_decide_eq_true hd]
    exact hz
  · intro h
    exact ⟨_, h, decide_eq_true rfl⟩

set_option maxHeartbeats 8000000 in
theorem rcancel_of (RP : RPut) (v u : Value) (l : List Ti.T) (ids : List Int) (w : World) (hs : TS w v l) (hm : Seg .i64 w u ids) :
    Calls Try.prog 17 #[v, u] w fun e w' => ∃ r, e = .returned (.tuple #[r, .int .i64 (Ti.canN l ids), .int .i64 (Ti.chkE l)]) ∧ Below w.heap.size w w' ∧ OT w' w.heap.size r (Ti.canR l ids) := by
  have CK := rcheck_any v l w hs
  have HV := hidD (fun (W : World) (b : Below w.heap.size w W) => hs.below b)
  have HM := hidD (fun (W : World) (b : Below w.heap.size w W) => hm.below b)
  have A0 : Hid (Ti.chkE l = 0 → Ti.canN l ids = (Ti.gone ids l : Nat) ∧ Ti.canR l ids = Ti.puts [] (Ti.rest ids l)) := hidD (fun h => ⟨if_pos h, if_pos h⟩)
  have A1 : Hid (¬ Ti.chkE l = 0 → Ti.canN l ids = 0 ∧ Ti.canR l ids = []) := hidD (fun h => ⟨if_neg h, if_neg h⟩)
  have AL := hidD (@Ti.chk_zero l)
  generalize Ti.canN l ids = E at *
  generalize Ti.canR l ids = R at *
  generalize Ti.chkE l = ck at *
  obtain ⟨a, cap, rfl, a1, a2, _, _⟩ := id hs
  obtain ⟨b, cap', rfl, b1, b2, _, _⟩ := id hm
  unfold maxLen at a2 b2
  obtain ⟨M, hM⟩ : ∃ M, M = ids.length := ⟨_, rfl⟩
  rw [← hM] at b1 HM ⊢
  replace hM := hidD hM
  obtain ⟨n, hn⟩ : ∃ n, n = l.length := ⟨_, rfl⟩
  rw [← hn] at a1 HV AL CK ⊢
  replace hn := hidD hn
  obtain ⟨B, hB⟩ : ∃ B, B = w.heap.size := ⟨_, rfl⟩
  rw [← hB] at CK HV HM ⊢
  replace hB := hidD hB
  clear hs hm
  go_enter Try.func17, Try.ntmps17
  go_wp2_with fail
  with_reducible refine CK.mono ?_
  rintro e w1 ⟨rfl, h1⟩
  have HB := hidD h1
  have HBS : Hid (B ≤ w1.heap.size) := hidD (by rw [hB.out]; exact h1.size)
  clear CK h1
  by_cases hk0 : ck = 0
  case neg =>
    obtain ⟨hE, hR⟩ := A1.out hk0
    subst hE hR
    have hk1 : (ck != 0) = true := by simp [hk0]
    clear A0 A1 AL hk0
    go_wp2_with fail
    go_ret3
    exact ⟨_, rfl, HB.out, World.ownsRow_nil _ _ _ _⟩
  subst hk0
  obtain ⟨hE, hR⟩ := A0.out rfl
  have hL := (AL.out rfl).1
  clear A0 A1 AL
  replace hE := hidD hE
  replace hR := hidD hR
  go_wp2_with fail
  go_loopw [8, 9, 10] (fun s c i wr => ∃ k : Nat, k ≤ n ∧ c = .int .i64 (Ti.gone ids (l.take k) : Nat) ∧ i = .int .i64 (k : Int) ∧ Hid (OT wr B s (Ti.puts [] (Ti.rest ids (l.take k))) ∧ Below B w wr ∧ B ≤ wr.heap.size)) (fun _ _ i _ => n - (intOf i).toNat)
  case atStart => exact ⟨0, Nat.zero_le _, by simp [Ti.gone], rfl, hidD ⟨World.ownsRow_nil _ _ _ _, HB.out, HBS.out⟩⟩
  case round =>
    clear HB HBS
    obtain ⟨k, hk, rfl, rfl, hJ⟩ := hrel
    by_cases hlt : k < n
    · have hi : (k : Int) < (n : Int) := by omega
      have hgl := Ti.gone_le ids (l.take k)
      rw [List.length_take] at hgl
      have HGN := hidD (Ti.gone_next ids l k (by have := hn.out; omega))
      have HRN := hidD (Ti.rest_next ids l k (by have := hn.out; omega))
      obtain ⟨O, hO⟩ : ∃ O, O = Ti.puts [] (Ti.rest ids (l.take k)) := ⟨_, rfl⟩
      have hol : O.length ≤ 1024 := by
        rw [hO, Ti.puts_len]
        have := Ti.rest_len ids (l.take k)
        rw [List.length_take] at this
        omega
      rw [← hO] at hJ HRN
      clear hO
      obtain ⟨c, hc⟩ : ∃ c, c = Ti.gone ids (l.take k) := ⟨_, rfl⟩
      rw [← hc] at HGN hgl ⊢
      have hcn : c ≤ 1024 := by omega
      clear hc hgl
      obtain ⟨x, hx⟩ : ∃ x, x = Ti.g l k := ⟨_, rfl⟩
      rw [← hx] at HGN HRN
      replace hx := hidD hx
      have HSA := hidD (Ti.seen_all ids x)
      rw [← hM.out] at HSA
      obtain ⟨xa, xi⟩ := x
      go_wp2_with fail
      go_loopw [11, 12] (fun of i wr2 => ∃ q : Nat, q ≤ M ∧ of = .bool (Ti.seen ids xi q) ∧ i = .int .i64 (q : Int) ∧ Hid (OT wr2 B u8 O ∧ Below B w wr2 ∧ B ≤ wr2.heap.size)) (fun _ i _ => M - (intOf i).toNat)
      case atStart => exact ⟨0, Nat.zero_le _, rfl, rfl, hJ⟩
      case round =>
        clear hJ
        obtain ⟨q, hq, rfl, rfl, hJ⟩ := hrel
        obtain ⟨j1, j2, j3⟩ := hJ.out
        by_cases hlq : q < M
        · have hiq : (q : Int) < (M : Int) := by omega
          have hqw : IntKind.i64.wrap ((q : Int) + 1) = (q : Int) + 1 := by rw [IntKind.wrap_i64]; omega
          have HSN := hidD (Ti.seen_next ids xi q (by have := hM.out; omega))
          have J1 := hidD j1
          have J2 := hidD j2
          have J3 := hidD j3
          by_cases hsq : Ti.seen ids xi q = true
          · rw [hsq] at HSN ⊢
            have hsn := hidD (HSN.out.trans (Bool.true_or _))
            clear HSN j1 j2 j3 hJ hsq
            go_wp2_with fail
            go_quiet (fail)
            go_wp2_with fail
            exact ⟨⟨q + 1, by omega, by rw [hsn.out], by go_num, hidD ⟨J1.out, below_drewN J2.out _, J3.out⟩⟩, by simp [intOf]; omega⟩
          · rw [Bool.not_eq_true] at hsq
            rw [hsq] at HSN ⊢
            have hsn := hidD (HSN.out.trans (Bool.false_or _))
            obtain ⟨gb, offb, rfl, hgb, Q⟩ := Seg.atE (HM.out wr j2) q (by have := hM.out; omega)
            obtain ⟨ga, offa, rfl, hga, hcell⟩ := TS.at (HV.out wr j2) k (by have := hn.out; omega)
            obtain ⟨_, t2⟩ := hcell k (by have := hn.out; omega)
            rw [← hx.out] at t2
            dsimp only at t2
            clear HSN j1 j2 j3 hJ hsq hcell
            generalize ids.getD q 0 = z at *
            by_cases hzx : z = xi
            · subst hzx
              replace hsn := hidD (hsn.out.trans (decide_eq_true rfl))
              go_wp2_with fail
              go_quiet (fail)
              go_wp2_with fail
              exact ⟨⟨q + 1, by omega, by rw [hsn.out] <;> simp, by go_num, hidD ⟨J1.out, below_drewN J2.out _, J3.out⟩⟩, by simp [intOf]; omega⟩
            · replace hsn := hidD (hsn.out.trans (decide_eq_false hzx))
              have d : (z == xi) = false := by simpa using hzx
              go_wp2_with fail
              go_quiet (fail)
              go_wp2_with fail
              exact ⟨⟨q + 1, by omega, by rw [hsn.out], by go_num, hidD ⟨J1.out, below_drewN J2.out _, J3.out⟩⟩, by simp [intOf]; omega⟩
        · have hqm : q = M := by omega
          have hsa : Ti.seen ids xi q = Ti.off ids ⟨xa, xi⟩ := by rw [hqm]; exact HSA.out
          rw [hsa]
          obtain ⟨y, hy⟩ : ∃ y, y = Ti.off ids ⟨xa, xi⟩ := ⟨_, rfl⟩
          rw [← hy] at HGN HRN ⊢
          clear hsa HSA hy
          cases y
          · have HR2 := hidD (HRN.out.trans (if_neg (by decide)))
            have HG2 := hidD (HGN.out.trans (congrArg (c + ·) (if_neg (by decide))))
            obtain ⟨ga, offa, rfl, hga, hcell⟩ := TS.at (HV.out wr j2) k (by have := hn.out; omega)
            obtain ⟨t1, t2⟩ := hcell k (by have := hn.out; omega)
            rw [← hx.out] at t1 t2
            dsimp only at t1 t2
            obtain ⟨a8, c8, rfl, d1, d2, _, _⟩ := id j1.ts
            have cP := RP B _ O ⟨xa, xi⟩ wr j1 j3 (by omega)
            have J2 := hidD j2
            have J3 := hidD j3
            clear HGN HRN j1 j2 j3 hJ hcell
            go_wp2_with fail
            refine cP.mono ?_
            rintro e w5 ⟨v', rfl, o5, h5⟩
            have R4 := hidD (below_then J2.out h5)
            have R5 := hidD (Nat.le_trans J3.out h5.size)
            have R1 := hidD o5
            clear cP h5 o5 t1 t2
            go_wp2_with fail
            exact ⟨⟨k + 1, by omega, by rw [HG2.out] <;> simp, by go_num, hidD ⟨by rw [HR2.out]; exact R1.out, R4.out, R5.out⟩⟩, by simp [intOf]; omega⟩
          · have HR2 := hidD (HRN.out.trans (if_pos rfl))
            have HG2 := hidD (HGN.out.trans (congrArg (c + ·) (if_pos rfl)))
            have J1 := hidD j1
            have J2 := hidD j2
            have J3 := hidD j3
            clear HGN HRN j1 j2 j3 hJ
            go_wp2_with fail
            exact ⟨⟨k + 1, by omega, by rw [HG2.out] <;> go_num, by go_num, hidD ⟨by rw [HR2.out]; exact J1.out, J2.out, J3.out⟩⟩, by simp [intOf]; omega⟩
    · have hke : k = n := by omega
      obtain ⟨j1, j2, j3⟩ := hJ.out
      have htk : l.take k = l := List.take_of_length_le (by have := hn.out; omega)
      rw [htk] at j1 ⊢
      have HE := hidD (And.intro j2 j1)
      clear j1 j2 j3 hJ htk
      go_wp2_with fail
      go_ret3
      exact ⟨_, by rw [hE.out]; rfl, HE.out.1, by rw [hR.out]; exact HE.out.2⟩
end Go.Proofs.Ytkamcjebihfdlaa
