/- For all uint64 states and all lists of ints: of the numbers that the first 100 make, from 1 to 1000, Below tells as many draws, each below its number, each the one that a draw by itself tells from the state that the draws ahead leave, and the state behind them all is Skip's (the law DrawGoes answers true), and the arguments stay: without a bound. -/
import Derived.Test.YtjdbfilbjpfajaaRows
import Derived.WalkKit
import Derived.ProofKit
import Derived.OpenShut
import Derived.ShutString
import Derived.Deep.DeepCutAuto
import Derived.BigQuiet
import Derived.Deep.QuietTactic
import Derived.Test.YtjdbfilbjpfajaaDG
import Derived.Test.YtjdbfilbjpfajaaOpenN
namespace Go.Proofs.Ytjdbfilbjpfajaa.drawGoes
open Go.ChangeShapes Go.WideShapes Go.ChangeAt Go.RowKit
open Go.ChangeMaps (open_string shut_string)
set_option linter.unusedVariables false
set_option maxRecDepth 20000

theorem drewD {B : Nat} {a w : World} (h : Below B a w) (n : Nat) : Below B a (w.drewN n) := h.trans ⟨rfl, rfl, rfl, Nat.le_refl _, fun _ _ => rfl⟩
theorem num_same (n : Int) (w : World) : Calls Try.prog 16 #[.int .i64 n] w fun e w' => e = .returned (.int .i64 n) ∧ w' = w := (num_any n w).mono fun _ _ h => ⟨h.1, h.2.symm⟩
/-- What becomes of a number: from 1 to 1000. -/
def thr (x : Int) : Int := 1 + (x.tmod 1000 + 1000) % 1000
theorem thr_in (x : Int) : 1 ≤ thr x ∧ thr x ≤ 1000 := by unfold thr; omega
theorem thous (a : Int) : -999 ≤ a.tmod 1000 ∧ a.tmod 1000 ≤ 999 := by
  have h1 := Int.tmod_lt_of_pos a (show (0 : Int) < 1000 by decide)
  have h2 := Int.lt_tmod_of_pos a (show (0 : Int) < 1000 by decide)
  omega
theorem thr_good (l : List Int) : (l.map thr).any badB = false := by
  rw [List.any_eq_false]
  intro x hx
  obtain ⟨y, _, rfl⟩ := List.mem_map.1 hx
  have := thr_in y
  unfold badB
  simp
  omega
theorem thr_snoc {l : List Int} {k : Nat} (h : k < l.length) : (l.take k).map thr ++ [thr (l.getD k 0)] = (l.take (k + 1)).map thr := by
  rw [List.take_succ_eq_append_getElem h, List.map_append, dgetD_at h]; rfl
theorem below1_good (t : Nat) (z : Int) (w : World) (ht : t < 18446744073709551616) (h1 : 1 ≤ z) (h2 : z ≤ 1048576) :
    Calls Try.prog 11 #[.int .u64 t, .slice (some ⟨w.heap.size, 0, none⟩) 1 1] (w.alloc (.cells #[.int .i64 z] 3)) fun e w' => ∃ v', e = .returned (.tuple #[.int .u64 (Hp.nx t : Nat), v', .int .i64 0]) ∧ Seg .i64 w' v' [(Hp.one t z.toNat : Int)] ∧ Below w.heap.size w w' := by
  have hg : ¬([z].any badB = true) := by simp [badB]; omega
  refine (below1_any t z w ht).mono ?_
  rintro e w' ⟨v', rfl, hs, hb⟩
  refine ⟨v', ?_, ?_, hb⟩
  · rw [belS, belE, if_neg hg, if_neg hg, show ([z] : List Int).length = 0 + 1 from rfl, Hp.skip_succ, Hp.skip_zero ht]
  · rw [belL, if_neg hg] at hs
    exact hs

set_option maxHeartbeats 4000000 in
theorem walk_v (s : Nat) (v : Value) (l : List Int) (w : World) (hs : s < 18446744073709551616) (hv : Seg .i64 w v l) :
    Calls Try.prog 7 #[.int .u64 s, v] w fun e w' => e = .returned (.bool true) ∧ Below w.heap.size w w' := by
  have c0 := alive_any w
  have HS := hidD hv
  have HK := hidD (Hp.skip_zero hs)
  obtain ⟨a, cap, rfl, h1, h2, _, _⟩ := hv
  obtain ⟨N, hN⟩ : ∃ N, N = l.length := ⟨_, rfl⟩
  rw [← hN] at h1 ⊢
  have HN := hidD hN
  unfold maxLen at h2
  clear hN
  go_enter Try.func7, Try.ntmps7
  go_wp2_with (go_at_call 21; with_reducible refine c0.mono ?_; rintro e w1 ⟨rfl, b1⟩)
  generalize hgw : w.heap.size = g at *
  go_loopw [5, 6] (fun o i wr => ∃ (k : Nat), k ≤ N ∧ k ≤ 100 ∧ i = .int .i64 k ∧ wr.ownsRow g 3 1 o k (i64s ((l.take k).map thr)) ∧ Below g w wr) (fun _ i _ => 100 - (intOf i).toNat)
  case atStart => exact ⟨0, Nat.zero_le _, Nat.zero_le _, rfl, World.ownsRow_nil _ _ _ _, b1⟩
  case round =>
    obtain ⟨k, hk, hk2, rfl, hr, hbel⟩ := hrel
    by_cases hlt : k < N ∧ k < 100
    · obtain ⟨hlt1, hlt2⟩ := hlt
      obtain ⟨a', cap', he, _, _, h13, h14⟩ := HS.out.below (by rw [hgw]; exact hbel)
      injection he with e1 e2 e3
      subst e1 e3
      clear e2
      obtain ⟨b, off, rfl, hb, hcell⟩ := seg_at (l := l) (by have := HN.out; omega) h13 h14
      have Q1 := hcell k (by have := HN.out; omega)
      have HT := hidD (thr_snoc (l := l) (k := k) (by have := HN.out; omega))
      have hlk : ((l.take k).map thr).length = k := by rw [List.length_map, List.length_take]; have := HN.out; omega
      have hr2 : wr.ownsRow g 3 1 u5 ((l.take k).map thr).length (i64s ((l.take k).map thr)) := by rw [hlk]; exact hr
      have HLK := hidD hlk
      have hth := thous (l.getD k 0)
      have hsz := hbel.size
      have HZ : Hid (1 + (l.getD k 0).tmod 1000 % 1000 = thr (l.getD k 0)) := by
        show _ = _
        unfold thr
        omega
      clear hcell h13 h14 hr hlk c0
      generalize (l.take k).map thr = L at *
      generalize l.getD k 0 = x at *
      go_wp2_with (at_builtin; refine wpList_append_ints _ rfl _ _ rfl g _ _ L [_] rfl (hr2.alloc _) rfl (seg_one _ _) (by have := HLK.out; simp; omega) (by simp; omega) ?_; intro v' w2 hown1 hb1 _)
      have HO : w2.ownsRow g 3 1 v' (k + 1) (i64s ((l.take (k + 1)).map thr)) := by
        rw [HZ.out, List.length_append, HLK.out, HT.out] at hown1
        exact hown1
      have hbd : Below g w w2 := (hbel.alloc (by omega) _).trans hb1
      clear hown1 hb1 hr2 hbel HT HZ
      go_wp2
      exact ⟨⟨k + 1, by omega, by omega, by go_num, HO, hbd⟩, by simp [intOf]; omega⟩
    · go_upto_region 5 with fail
      go_cut [26] (fun b wx => b = .bool false ∧ wr = wx)
      case first =>
        by_cases hkn : k < N
        · have hk100 : k = 100 := by omega
          subst hk100
          go_wp2
          go_meet
          exact ⟨by first | rfl | (congr 1; exact decide_eq_false (by omega)), rfl⟩
        · go_wp2
          go_meet
          exact ⟨by first | rfl | (congr 1; exact decide_eq_false (by omega)), rfl⟩
      case rest =>
        obtain ⟨rfl, hwc⟩ := hcut
        subst hwc
        have hlk : ((l.take k).map thr).length = k := by rw [List.length_map, List.length_take]; have := HN.out; omega
        have hgood := thr_good (l.take k)
        have HIN : Hid (∀ j, j < k → 1 ≤ ((l.take k).map thr).getD j 0 ∧ ((l.take k).map thr).getD j 0 ≤ 1000) := by
          intro j hj
          rw [dgetD_at (by rw [hlk]; exact hj), List.getElem_map]
          exact thr_in _
        generalize (l.take k).map thr = own at *
        have hso : Seg .i64 wr u5 own := Seg.own (by rw [hlk]; exact hr)
        have cB := below_good s u5 own wr hs hso (by omega) hgood
        have HSO := hidD hso
        have HLK := hidD hlk
        rw [hlk] at cB
        have HG := hidD (bel_get s own hs)
        have hbl := bel_length s own
        rw [hlk] at hbl
        have HBL := hidD hbl
        obtain ⟨ao, co, ho, _⟩ := id hso
        rw [hlk] at ho
        subst ho
        clear hbl hlk hgood hso hr c0 hlt
        generalize bel s own = all at *
        generalize hSk : Hp.skip s k = Sk at *
        have HSK := hidD hSk
        clear hSk
        go_wp2_with fail
        with_reducible refine cB.mono ?_
        rintro e w2 ⟨va, rfl, hra, hb2⟩
        have cS := skip_any s k w2
        rw [if_pos (by omega), Int.toNat_natCast, HSK.out] at cS
        have hsa : Seg .i64 w2 va all := Seg.own (by rw [HBL.out]; exact hra)
        have HSA := hidD hsa
        have HSO2 := hidD (HSO.out.below hb2)
        obtain ⟨aa, ca, ha, _⟩ := id hsa
        rw [HBL.out] at ha
        subst ha
        have HB2 := hidD (hbel.trans (hb2.mono (by rw [← hgw]; exact hbel.size)))
        clear hsa hra cB hb2 hbel HSO
        go_wp2_with (first | (go_at_call 19; with_reducible refine cS.mono ?_; rintro e w3 ⟨rfl, rfl⟩) | (go_at_call 16; refine (num_any _ _).mono ?_; rintro e w4 ⟨rfl, rfl⟩))
        clear cS
        generalize hg2 : w2.heap.size = g2 at *
        go_loopw [12, 13] (fun st i wx => ∃ (j t : Nat), j ≤ k ∧ i = .int .i64 j ∧ st = .int .u64 t ∧ Hid (t = Hp.skip s j) ∧ Below g2 w2 wx) (fun _ i _ => k - (intOf i).toNat)
        case atStart => exact ⟨0, s, Nat.zero_le _, rfl, rfl, HK.out.symm, Below.refl _ _⟩
        case round =>
          obtain ⟨j, t, hj, rfl, rfl, HT, hbx⟩ := hrel
          by_cases hlt : j < k
          · have HSA3 := hidD (HSA.out.below (by rw [hg2]; exact hbx))
            obtain ⟨ao', co', he, _, _, h13, h14⟩ := HSO2.out.below (by rw [hg2]; exact hbx)
            injection he with e1 e2 e3
            subst e1 e3
            clear e2
            obtain ⟨bo, oo, rfl, hbo, hco⟩ := seg_at (l := own) (by rw [HLK.out]; omega) h13 h14
            have Q1 := hco j (by rw [HLK.out]; exact hlt)
            obtain ⟨g3, g4⟩ := HIN.out j hlt
            have hgj := HG.out j (by rw [HLK.out]; exact hlt)
            rw [← HT.out] at hgj
            have hda : all.getD j 0 = (Hp.one t (own.getD j 0).toNat : Int) := by simp [List.getD, hgj]
            have ht : t < 18446744073709551616 := by rw [HT.out]; exact Hp.skip_lt _ _
            have c1 := below1_good t (own.getD j 0) wr ht g3 (by omega)
            have hone := Hp.one_lt t (n := (own.getD j 0).toNat) (by omega)
            have HT2 : Hid (Hp.nx t = Hp.skip s (j + 1)) := by
              show _ = _
              rw [Hp.skip_succ, HT.out]
            have HOC := hidD hco
            have HDA := hidD hda
            clear h13 h14 hco hgj hda
            have hone2 : (Hp.one t (own.getD j 0).toNat : Int) < own.getD j 0 := by omega
            clear hone
            generalize own.getD j 0 = z at *
            generalize Hp.one t z.toNat = q at *
            generalize Hp.nx t = t2 at *
            go_wp2_with fail
            with_reducible refine c1.mono ?_
            rintro e w3 ⟨v3, rfl, h3, hb3⟩
            have hb33 : Below g2 w2 w3 := hbx.trans (hb3.mono (by rw [← hg2]; exact hbx.size))
            obtain ⟨a3, c3, rfl, _, hc3, k3, k4⟩ := h3
            obtain ⟨b3, o3, rfl, hb30, hc30⟩ := seg_at (l := [(q : Int)]) (by simp) k3 k4
            have P1 := hc30 0 (by simp)
            simp only [List.getD_cons_zero, Nat.add_zero] at P1
            obtain ⟨aa', ca', hea, _, _, m3, m4⟩ := HSA3.out.below hb3
            injection hea with e1 e2 e3
            subst e1 e3
            clear e2
            obtain ⟨ba, oa, rfl, hba, hca⟩ := seg_at (l := all) (by rw [HBL.out]; omega) m3 m4
            have P2 := hca j (by rw [HBL.out]; exact hlt)
            rw [HDA.out] at P2
            have P3 : w3.cell? ⟨bo, oo + j, none⟩ = some (.int .i64 z) := by rw [hb3.cell hbo]; exact Q1
            unfold maxLen at hc3
            clear k3 k4 m3 m4 hca hc30 HSA3 HDA c1 Q1 hbx HOC
            have cn := hidD (fun W => num_same 0 W)
            have d1 : decide ((q : Int) < 0) = false := decide_eq_false (by omega)
            have d2 : decide (z ≤ (q : Int)) = false := decide_eq_false (by omega)
            go_wp2_with fail
            go_quiet (first | (go_at_call 16; exact Calls.quiet_of_same (cn.out _)))
            go_wp2
            exact ⟨⟨j + 1, t2, by omega, by go_num, rfl, HT2, drewD hb33 _⟩, by simp [intOf]; omega⟩
          · have hje : j = k := by omega
            subst hje
            have ht := HT.out
            rw [HSK.out] at ht
            subst ht
            go_wp2
            go_ret
            exact ⟨by simp, by rw [hgw]; exact HB2.out.trans (hbx.mono (by rw [← hgw, ← hg2]; exact HB2.out.size))⟩

theorem walk (x : Int) (w0 : (Lit.int .u64 x).wf = true) (v : Value) (l : List Int) {w : World} (hv : Seg .i64 w v l) (ho : ∀ z ∈ l, -9223372036854775808 ≤ z ∧ z ≤ 9223372036854775807) :
    Calls Try.prog 7 #[.int .u64 x, v] w fun e w' => e = .returned (.bool true) ∧ Below w.heap.size w w' := by
  have hx := bounds_u64 w0
  clear w0
  obtain ⟨s, rfl⟩ := Int.eq_ofNat_of_zero_le hx.1
  exact walk_v s v l w (by omega) hv

set_option maxRecDepth 100000 in
theorem lifted (os : Os) (started : os.Started) (H : Type) (enc : TypeId × Value → H) :
    ReturnsInHanded {} Try.checked os 7 .any (Rows.drawGoesSpec.pre6 enc Try.prog Try.f7 Rows.drawGoesRow.domain false) (Rows.drawGoesSpec.post enc Try.prog Try.f7 false true false false) := by
  refine returnsInHanded_of_change (C := Try.checked) own started (by kernel_rfl) Try.func7
    (ChangeSpec.witness6 (enc := enc) (C := Try.checked) false ⟨#[], #[.int .u64 0, .slice none 0 0], []⟩ 8 (by kernel_rfl) (by kernel_rfl) (by kernel_rfl) (by kernel_rfl)) ?_
  intro W base args ds gs before hval0 hW hcnd _
  have hval : ∀ (j : Nat) t v, Try.f7.params[j]? = some t → args[j]? = some v → Value.okWide Try.prog W .any base t v := hval0
  have hW' := hW
  obtain ⟨p, q, hA0, hV, rfl, hfz, hnd⟩ := hW
  have hA : DataW.TrodAll enc Try.prog W 0 (fun _ => true) true Try.f7.params.toList args.toList ds p := hA0
  rw [Try.params7] at hA hval
  obtain ⟨v0, vs0, d0, ds0, p0, q0, hargs, rfl, rfl, h0, r0⟩ := trodAll_cons hA
  obtain ⟨v1, vs1, d1, ds1, p1, q1, rfl, rfl, rfl, h1, r1⟩ := trodAll_cons r0
  obtain ⟨rfl, rfl, rfl⟩ := trodAll_nil r1
  obtain rfl : args = #[v0, v1] := by cases args; simp_all
  obtain ⟨rfl, rfl⟩ := trodVars_none hV
  obtain ⟨a0, rfl, rfl, rfl, w0⟩ := open_int Try.underlying22 (hval 0 22 v0 rfl rfl) h0
  have k1 := h1
  have lt1 : ∀ x ∈ p1, x.block < W.heap.size := by obtain ⟨m, hm⟩ := k1; exact DataW.trod_lt m _ _ _ hm
  obtain ⟨l1, hs1, ho1, e1⟩ := open_numbers (hval 1 25 v1 rfl rfl) h1
  clear hA0 hval0
  refine (walk a0 w0 v1 l1 hs1 ho1).mono fun e W' ⟨he, bel⟩ => ?_
  subst he
  exact ⟨_, rfl, _, _, _, [], _, [], hW', trodAll_mk1 (shut_bool Try.underlying4 _), (trodAll_cons_mk (shut_int Try.underlying22 w0) (trodAll_cons_mk (Below.trod laidOut (by kernel_rfl) (of_decide_eq_true (by kernel_rfl)) k1 bel lt1) trodAll_mk0)), rfl, bel.frame _, fun h => by cases h⟩

theorem over : Rows.drawGoesRow.holds Try.pinned (OpenSpec.ofChange Rows.drawGoesSpec) :=
  OpenClaim.holds_of_wide 7 Try.f7 rfl rfl rfl rfl rfl rfl rfl ⟨rfl, rfl, rfl, rfl, rfl⟩ rfl rfl rfl rfl rfl (by kernel_rfl) Try.func7 (by kernel_rfl)
    (of_decide_eq_true (by kernel_rfl)) (by unfold Func.isWrapper; first | (rw [if_pos (by decide +kernel)]; kernel_rfl) | (rw [if_neg (by decide +kernel)]; exact ⟨rfl, rfl⟩))
    (fun os started H enc _ => lifted os started H enc)
end Go.Proofs.Ytjdbfilbjpfajaa.drawGoes

namespace Go.Proofs.Ytjdbfilbjpfajaa
/-- THE STATEMENT. -/
theorem drawGoes_holds : Rows.DrawGoesSaid := drawGoes.over
#print axioms drawGoes_holds
end Go.Proofs.Ytjdbfilbjpfajaa
