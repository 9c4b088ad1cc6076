/- TimerCancels: behind a cancel all others are there, in their order, and none of these: for every row of timers and every IDs that fit a machine. -/
import Derived.Test.YtkamcjebihfdlaaRows
import Derived.BigQuiet
import Derived.Deep.QuietTactic
import Derived.WalkKit
import Derived.ProofKit
import Derived.OpenShut
import Derived.ShutString
import Derived.Test.YtkamcjebihfdlaaTmZ
import Derived.Test.YtkamcjebihfdlaaOpenTm
namespace Go.Proofs.Ytkamcjebihfdlaa.timerCancels
open Go.ChangeShapes Go.WideShapes Go.ChangeAt Go.RowKit
open Go.ChangeMaps (open_string shut_string)
set_option linter.unusedVariables false
set_option maxRecDepth 20000

theorem Ti.canN_is {l : List Ti.T} (ids : List Int) (h : Ti.chkE l = 0) : Ti.canN l ids = ((Ti.orR l).length : Int) - ((Ti.rest ids (Ti.orR l)).length : Int) := by
  have h1 := Ti.gone_is (l := l) ids
  have h2 := Ti.or_len h
  have h3 : (Ti.rest ids (Ti.orR l)).length = (Ti.rest ids l).length := by
    rw [Ti.orR, if_pos h]
    unfold Ti.rest
    exact ((Ti.ord_perm l).filter _).length_eq
  rw [Ti.canN, if_pos h, h3, h2]
  omega
theorem Ti.rest_step (ids : List Int) (l : List Ti.T) (k : Nat) (hk : k < l.length) : Ti.rest ids (l.take (k + 1)) = if Ti.off ids (Ti.g l k) = true then Ti.rest ids (l.take k) else Ti.rest ids (l.take k) ++ [Ti.g l k] := Ti.filter_next (Ti.off ids) l k hk
set_option maxHeartbeats 16000000 in
theorem can_walk (v0 v1 : Value) (l : List Ti.T) (ids : List Int) (w : World) (hs : TS w v0 l) (hi : Seg .i64 w v1 ids) (z0 : l.length ≤ 8796093022208) (hwf : ∀ i ∈ ids, (Lit.int .i64 i).wf = true) :
    Calls Try.prog 6 #[v0, v1] w fun e w' => e = .returned (.bool true) ∧ Below w.heap.size w w' := by
  have cal := calive w
  have HS := hidD (fun (W : World) (b : Below w.heap.size w W) => hs.below b)
  have CC := hidD (fun (W : World) (b : Below w.heap.size w W) => ccan v0 v1 l ids W (hs.below b) (hi.below b) z0 hwf)
  have CR := hidD (fun (x : Value) (W : World) (h : TS W x l) => order_any x l W h)
  have CR2 := hidD (fun (x : Value) (W : World) (h : TS W x (Ti.canR l ids)) => order_any x (Ti.canR l ids) W h)
  have HM := hidD (fun (W : World) (b : Below w.heap.size w W) => hi.below b)
  have D0 : Hid (Ti.chkE l = 0 → Ti.chkE (Ti.canR l ids) = 0 ∧ Ti.canN l ids = ((Ti.orR l).length : Int) - ((Ti.rest ids (Ti.orR l)).length : Int) ∧ Ti.orR (Ti.canR l ids) = Ti.rest ids (Ti.orR l) ∧ (Ti.orR l).length ≤ 1024) := hidD (fun h => ⟨Ti.can_chk ids h, Ti.canN_is ids h, Ti.can_all ids h, by rw [Ti.or_len h]; exact (Ti.chk_zero h).1⟩)
  have D1 : Hid (¬ Ti.chkE l = 0 → (Ti.canR l ids).length = 0 ∧ Ti.canN l ids = 0) := hidD (fun h => by rw [Ti.canR, if_neg h, Ti.canN, if_neg h]; exact ⟨rfl, rfl⟩)
  generalize Ti.canN l ids = nC at *
  generalize Ti.chkE (Ti.canR l ids) = ck2 at *
  generalize Ti.orR (Ti.canR l ids) = rR2 at *
  generalize Ti.canR l ids = rC at *
  generalize Ti.orR l = rR at *
  generalize Ti.chkE l = ck at *
  obtain ⟨a0, c0, rfl, _⟩ := id hs
  obtain ⟨a1, c1, rfl, dM, dI, _⟩ := id hi
  obtain ⟨M, hM⟩ : ∃ M, M = ids.length := ⟨_, rfl⟩
  rw [← hM] at CC HM dM ⊢
  replace hM := hidD hM
  unfold maxLen at dI
  clear hs hi z0 hwf
  go_enter Try.func6, Try.ntmps6
  go_wp2_with fail
  with_reducible refine cal.mono ?_
  rintro e w1 ⟨rfl, b1⟩
  have B1 := hidD b1
  clear cal b1
  go_wp2_with fail
  refine (CC.out w1 B1.out).mono ?_
  rintro e w2 ⟨rd, rfl, b2, od⟩
  have B2 := hidD (below_then B1.out (below_low b2 B1.out.size))
  have OC := hidD od
  obtain ⟨aOC, cOC, rfl, _⟩ := id od.ts
  clear b2 od CC
  go_wp2_with fail
  refine (CR.out _ w2 (HS.out w2 B2.out)).mono ?_
  rintro e w3 ⟨rr, rfl, b3, orr⟩
  have B3 := hidD (below_then B2.out (below_low b3 B2.out.size))
  replace OC := hidD (OC.out.on b3)
  have OR := hidD orr
  obtain ⟨aOR, cOR, rfl, dON, dOR, _⟩ := id orr.ts
  unfold maxLen at dOR
  clear b3 orr CR HS
  by_cases hk : ck = 0
  case neg =>
    obtain ⟨e1, e2⟩ := D1.out hk
    have hk1 : (ck != 0) = true := by simp [hk]
    rw [e1, e2]
    clear D0 D1 CR2 hk e1 e2 OC OR HM
    go_wp2_with (first | (go_at_call 21; refine (num_any _ _).mono ?_; rintro e ww ⟨rfl, rfl⟩))
    go_ret
    exact ⟨by first | rfl | simp, B3.out⟩
  subst hk
  obtain ⟨e1, e2, e3, e4⟩ := D0.out rfl
  subst e1
  have cR := hidD (fun (W : World) (b : Below w3.heap.size w3 W) => CR2.out (.slice aOC rC.length cOC) W (OC.out.ts.below b))
  rw [e3] at cR
  have HE2 := hidD e2
  obtain ⟨n, hn⟩ : ∃ n, n = rR.length := ⟨_, rfl⟩
  rw [← hn] at dON e4 HE2 ⊢
  have HV : Hid (∀ W, Below w3.heap.size w3 W → TS W (.slice aOR n cOR) rR) := hidD (fun W b => by rw [hn]; exact OR.out.ts.below b)
  have HM3 : Hid (∀ W, Below w3.heap.size w3 W → Seg .i64 W (.slice a1 M c1) ids) := hidD (fun W b => HM.out W (below_then B3.out (below_low b B3.out.size)))
  replace hn := hidD hn
  have HB0 := hidD (Below.refl w3.heap.size w3)
  have HB1 := hidD (Nat.le_refl w3.heap.size)
  clear D0 D1 CR2 e2 e3 OC OR HM
  go_wp2_with (first | (go_at_call 21; refine (num_any _ _).mono ?_; rintro e ww ⟨rfl, rfl⟩))
  go_loopw [10, 11] (fun s i wr => ∃ k : Nat, k ≤ n ∧ i = .int .i64 (k : Int) ∧ Hid (OT wr w3.heap.size s (Ti.rest ids (rR.take k)) ∧ Below w3.heap.size w3 wr ∧ w3.heap.size ≤ wr.heap.size)) (fun _ i _ => n - (intOf i).toNat)
  case atStart => exact ⟨0, Nat.zero_le _, rfl, hidD ⟨World.ownsRow_nil _ _ _ _, HB0.out, HB1.out⟩⟩
  case round =>
    clear HB0 HB1
    obtain ⟨k, hk, rfl, hJ⟩ := hrel
    by_cases hlt : k < n
    · have hi : (k : Int) < (n : Int) := by omega
      have hkw : IntKind.i64.wrap ((k : Int) + 1) = (k : Int) + 1 := by rw [IntKind.wrap_i64]; omega
      have HRN := hidD (Ti.rest_step ids rR k (by have := hn.out; omega))
      have hol : (Ti.rest ids (rR.take k)).length ≤ 1024 := by
        have := Ti.rest_len ids (rR.take k)
        rw [List.length_take] at this
        omega
      generalize Ti.rest ids (rR.take k) = O at *
      obtain ⟨x, hx⟩ : ∃ x, x = Ti.g rR k := ⟨_, rfl⟩
      rw [← hx] at HRN
      replace hx := hidD hx
      have HSA := hidD (Ti.seen_all ids x)
      rw [← hM.out] at HSA
      obtain ⟨xa, xi⟩ := x
      go_wp2_with fail
      go_loopw [12, 13] (fun of i wr2 => ∃ q : Nat, q ≤ M ∧ of = .bool (Ti.seen ids xi q) ∧ i = .int .i64 (q : Int) ∧ Hid (OT wr2 w3.heap.size u10 O ∧ Below w3.heap.size w3 wr2 ∧ w3.heap.size ≤ wr2.heap.size)) (fun _ i _ => M - (intOf i).toNat)
      case atStart => exact ⟨0, Nat.zero_le _, rfl, rfl, hJ⟩
      case round =>
        clear hJ
        obtain ⟨q, hq, rfl, rfl, hJ⟩ := hrel
        obtain ⟨j1, j2, j3⟩ := hJ.out
        by_cases hlq : q < M
        · have hiq : (q : Int) < (M : Int) := by omega
          have hqw : IntKind.i64.wrap ((q : Int) + 1) = (q : Int) + 1 := by rw [IntKind.wrap_i64]; omega
          have HSN := hidD (Ti.seen_next ids xi q (by have := hM.out; omega))
          have J1 := hidD j1
          have J2 := hidD j2
          have J3 := hidD j3
          by_cases hsq : Ti.seen ids xi q = true
          · rw [hsq] at HSN ⊢
            have hsn := hidD (HSN.out.trans (Bool.true_or _))
            clear HSN j1 j2 j3 hJ hsq
            go_wp2_with fail
            go_quiet (fail)
            go_wp2_with fail
            exact ⟨⟨q + 1, by omega, by rw [hsn.out], by go_num, hidD ⟨J1.out, below_drewN J2.out _, J3.out⟩⟩, by simp [intOf]; omega⟩
          · rw [Bool.not_eq_true] at hsq
            rw [hsq] at HSN ⊢
            have hsn := hidD (HSN.out.trans (Bool.false_or _))
            obtain ⟨gb, offb, rfl, hgb, Q⟩ := Seg.atE (HM3.out _ j2) q (by have := hM.out; omega)
            obtain ⟨ga, offa, rfl, hga, hcell⟩ := TS.at (HV.out _ j2) k (by have := hn.out; omega)
            obtain ⟨_, t2⟩ := hcell k (by have := hn.out; omega)
            rw [← hx.out] at t2
            dsimp only at t2
            clear HSN j1 j2 j3 hJ hsq hcell
            generalize ids.getD q 0 = z at *
            by_cases hzx : z = xi
            · subst hzx
              replace hsn := hidD (hsn.out.trans (decide_eq_true rfl))
              go_wp2_with fail
              go_quiet (fail)
              go_wp2_with fail
              exact ⟨⟨q + 1, by omega, by rw [hsn.out] <;> simp, by go_num, hidD ⟨J1.out, below_drewN J2.out _, J3.out⟩⟩, by simp [intOf]; omega⟩
            · replace hsn := hidD (hsn.out.trans (decide_eq_false hzx))
              have d : (z == xi) = false := by simpa using hzx
              go_wp2_with fail
              go_quiet (fail)
              go_wp2_with fail
              exact ⟨⟨q + 1, by omega, by rw [hsn.out], by go_num, hidD ⟨J1.out, below_drewN J2.out _, J3.out⟩⟩, by simp [intOf]; omega⟩
        · have hqm : q = M := by omega
          have hsa : Ti.seen ids xi q = Ti.off ids ⟨xa, xi⟩ := by rw [hqm]; exact HSA.out
          rw [hsa]
          obtain ⟨y, hy⟩ : ∃ y, y = Ti.off ids ⟨xa, xi⟩ := ⟨_, rfl⟩
          rw [← hy] at HRN ⊢
          clear hsa HSA hy
          cases y
          · have HR2 := hidD (HRN.out.trans (if_neg (by decide)))
            obtain ⟨ga, offa, rfl, hga, hcell⟩ := TS.at (HV.out _ j2) k (by have := hn.out; omega)
            obtain ⟨t1, t2⟩ := hcell k (by have := hn.out; omega)
            rw [← hx.out] at t1 t2
            dsimp only at t1 t2
            have hb0 := (Below.refl wr.heap.size wr).alloc (Nat.le_refl _) (.cells #[.int .i64 xa, .int .i64 xi] 31)
            obtain ⟨Y, hY⟩ : ∃ Y, Y = wr.alloc (.cells #[.int .i64 xa, .int .i64 xi] 31) := ⟨_, rfl⟩
            rw [← hY] at hb0
            have Q0 : Bo Y wr.heap.size [.int .i64 xa, .int .i64 xi] 31 := by rw [hY]; exact Bo.new wr _ _
            have O1 := hidD (j1.on hb0)
            have T1 : Hid (TS Y (.slice (some ⟨wr.heap.size, 0, none⟩) 1 1) [⟨xa, xi⟩]) := hidD ⟨some ⟨wr.heap.size, 0, none⟩, 1, rfl, Nat.le_refl _, by unfold maxLen; decide, fun e => (by cases e), fun g off ar e h0 => by
              cases e
              refine ⟨rfl, Q0.lt, fun i hi => ?_⟩
              obtain rfl : i = 0 := by simpa using hi
              exact ⟨Q0.cell 0 rfl, Q0.cell 1 rfl⟩⟩
            have K2 := hidD (below_on j2 j3 hb0)
            have K3 := hidD (Nat.le_trans j3 hb0.size)
            clear HRN j1 j2 j3 hJ hcell hb0 Q0
            go_wp2_with (first | (at_builtin; rw [← hY]; refine wpList_append_tm Y rfl _ _ rfl w3.heap.size u10 (.slice (some ⟨wr.heap.size, 0, none⟩) 1 1) O [⟨xa, xi⟩] rfl O1.out rfl T1.out (by simp only [List.length_singleton]; omega) K3.out ?_; intro v2 w6 hown' hB6 hgrow))
            exact ⟨⟨k + 1, by omega, by go_num, hidD ⟨by rw [HR2.out]; exact hown', below_then K2.out hB6, Nat.le_trans K3.out hB6.size⟩⟩, by simp [intOf]; omega⟩
          · have HR2 := hidD (HRN.out.trans (if_pos rfl))
            have J1 := hidD j1
            have J2 := hidD j2
            have J3 := hidD j3
            clear HRN j1 j2 j3 hJ
            go_wp2_with fail
            exact ⟨⟨k + 1, by omega, by go_num, hidD ⟨by rw [HR2.out]; exact J1.out, J2.out, J3.out⟩⟩, by simp [intOf]; omega⟩
    · have hke : k = n := by omega
      obtain ⟨j1, j2, j3⟩ := hJ.out
      have htk : rR.take k = rR := List.take_of_length_le (by have := hn.out; omega)
      rw [htk] at j1
      have cR1 := cR.out wr j2
      have hle : (Ti.rest ids rR).length ≤ n := by
        rw [hn.out]
        exact Ti.rest_len ids rR
      generalize Ti.rest ids rR = S at *
      obtain ⟨aW, cW, rfl, _⟩ := id j1.ts
      have hsub : IntKind.i64.wrap ((n : Int) - (S.length : Int)) = nC := by
        rw [HE2.out]
        exact wrap_ok (by omega) (by omega)
      have J1 := hidD j1
      have J2 := hidD (below_then B3.out (below_low j2 B3.out.size))
      clear j1 j2 j3 hJ htk cR HV HM3 HE2
      have hke2 : ¬ (k : Int) < (n : Int) := by omega
      go_wp2_with fail
      refine cR1.mono ?_
      rintro e w5 ⟨rs, rfl, b5, os⟩
      replace J1 := hidD (J1.out.on b5)
      have J5 := hidD (below_then J2.out (below_low b5 J2.out.size))
      have OS := hidD os
      obtain ⟨aS, cS, rfl, _⟩ := id os.ts
      have cE := tsame_true _ _ S w5 OS.out.ts J1.out.ts
      clear cR1 b5 os
      go_wp2_with (first | (go_at_call 21; refine (num_any _ _).mono ?_; rintro e ww ⟨rfl, rfl⟩))
      with_reducible refine cE.mono ?_
      rintro e w6 ⟨rfl, b6⟩
      have J6 := hidD (below_then J5.out (below_low b6 J5.out.size))
      clear cE b6 OS J1
      go_wp2_with fail
      go_ret
      exact ⟨by first | rfl | simp, J6.out⟩
theorem walk {w : World} (v0 : Value) (l0 : List Ti.T) (hs0 : TS w v0 l0) (ho0 : ∀ x, x ∈ l0 → okTimer x) (z0 : l0.length ≤ 8796093022208)
    (v3 : Value) (l3 : List Int) (hs3 : Seg .i64 w v3 l3) (ho3 : ∀ z ∈ l3, -9223372036854775808 ≤ z ∧ z ≤ 9223372036854775807) (z3 : l3.length ≤ 17592186043904) :
    Calls Try.prog 6 #[v0, v3] w fun e w' => e = .returned (.bool true) ∧ Below w.heap.size w w' :=
  can_walk v0 v3 l0 l3 w hs0 hs3 z0 (fun i hi => wf_range (ho3 i hi))

set_option maxRecDepth 100000 in
theorem lifted (os : Os) (started : os.Started) (H : Type) (enc : TypeId × Value → H) :
    ReturnsInHanded {} Try.checked os 6 .any (Rows.timerCancelsSpec.pre6 enc Try.prog Try.f6 Rows.timerCancelsRow.domain false) (Rows.timerCancelsSpec.post enc Try.prog Try.f6 false true false false) := by
  refine returnsInHanded_of_change_sized (C := Try.checked) own started (by kernel_rfl) Try.func6
    (ChangeSpec.witness6 (enc := enc) (C := Try.checked) false ⟨#[], #[.slice none 0 0, .slice none 0 0], []⟩ 8 (by kernel_rfl) (by kernel_rfl) (by kernel_rfl) (by kernel_rfl)) ?_
  intro W base args ds gs before hval0 hW hcnd hsz0 _
  have hval : ∀ (j : Nat) t v, Try.f6.params[j]? = some t → args[j]? = some v → Value.okWide Try.prog W .any base t v := hval0
  have hsz : (DataW.weightsEach Try.prog (Try.f6.params.toList ++ Rows.timerCancelsSpec.plain.varTypes Try.prog) (ds ++ gs)).all (· ≤ reachBytes) = true := hsz0
  have hW' := hW
  obtain ⟨p, q, hA0, hV, rfl, hfz, hnd⟩ := hW
  have hA : DataW.TrodAll enc Try.prog W 0 (fun _ => true) true Try.f6.params.toList args.toList ds p := hA0
  rw [Try.params6] at hA hval hsz
  obtain ⟨v0, vs0, d0, ds0, p0, q0, hargs, rfl, rfl, h0, r0⟩ := trodAll_cons hA
  obtain ⟨v1, vs1, d1, ds1, p1, q1, rfl, rfl, rfl, h1, r1⟩ := trodAll_cons r0
  obtain ⟨rfl, rfl, rfl⟩ := trodAll_nil r1
  obtain rfl : args = #[v0, v1] := by cases args; simp_all
  obtain ⟨rfl, rfl⟩ := trodVars_none hV
  have k0 := h0
  have lt0 : ∀ x ∈ p0, x.block < W.heap.size := by obtain ⟨m, hm⟩ := k0; exact DataW.trod_lt m _ _ _ hm
  obtain ⟨l0, hs0, ho0, e0⟩ := open_timers (hval 0 22 v0 rfl rfl) h0
  have z0 : l0.length ≤ 8796093022208 := by
    rcases e0 with ⟨_, rfl⟩ | ⟨elems, spare, rfl, hl⟩
    · simp
    · have := sized_slice hsz (j := 0) (t := 22) (e := 31) rfl rfl Try.underlying22
      rw [Try.bytesT] at this
      simp only [reachBytes] at this
      omega
  have k1 := h1
  have lt1 : ∀ x ∈ p1, x.block < W.heap.size := by obtain ⟨m, hm⟩ := k1; exact DataW.trod_lt m _ _ _ hm
  obtain ⟨l1, hs1, ho1, e1⟩ := open_numbers (hval 1 23 v1 rfl rfl) h1
  have z1 : l1.length ≤ 17592186043904 := by
    rcases e1 with ⟨_, rfl⟩ | ⟨elems, spare, rfl, hl⟩
    · simp
    · have := sized_slice hsz (j := 1) (t := 23) (e := 3) rfl rfl Try.underlying23
      rw [Try.bytesI] at this
      simp only [reachBytes] at this
      omega
  clear hA0 hval0
  refine (walk v0 l0 hs0 ho0 z0 v1 l1 hs1 ho1 z1).mono fun e W' ⟨he, bel⟩ => ?_
  subst he
  exact ⟨_, rfl, _, _, _, [], _, [], hW', trodAll_mk1 (shut_bool Try.underlying4 _), (trodAll_cons_mk (Below.trod laidOut (by kernel_rfl) (of_decide_eq_true (by kernel_rfl)) k0 bel lt0) (trodAll_cons_mk (Below.trod laidOut (by kernel_rfl) (of_decide_eq_true (by kernel_rfl)) k1 bel lt1) trodAll_mk0)), rfl, bel.frame _, fun h => by cases h⟩

theorem over : Rows.timerCancelsRow.holds Try.pinned (OpenSpec.ofChange Rows.timerCancelsSpec) :=
  OpenClaim.holds_of_wide 6 Try.f6 rfl rfl rfl rfl rfl rfl rfl ⟨rfl, rfl, rfl, rfl, rfl⟩ rfl rfl rfl rfl rfl (by kernel_rfl) Try.func6 (by kernel_rfl)
    (of_decide_eq_true (by kernel_rfl)) (by unfold Func.isWrapper; first | (rw [if_pos (by decide +kernel)]; kernel_rfl) | (rw [if_neg (by decide +kernel)]; exact ⟨rfl, rfl⟩))
    (fun os started H enc _ => lifted os started H enc)
end Go.Proofs.Ytkamcjebihfdlaa.timerCancels

namespace Go.Proofs.Ytkamcjebihfdlaa
/-- THE STATEMENT. -/
theorem timerCancels_holds : Rows.TimerCancelsSaid := timerCancels.over
#print axioms timerCancels_holds
end Go.Proofs.Ytkamcjebihfdlaa
