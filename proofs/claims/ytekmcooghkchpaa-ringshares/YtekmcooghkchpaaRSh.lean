/- For all ints points and keys and all backends: each key is somebody's, and shares are as many as keys (the law RingShares answers true), and the arguments stay: without a bound. -/
import Derived.Test.YtekmcooghkchpaaRows
import Derived.BigQuiet
import Derived.Deep.QuietTactic
import Derived.WalkKit
import Derived.ProofKit
import Derived.OpenShut
import Derived.ShutString
import Derived.Test.YtekmcooghkchpaaRR
import Derived.Test.YtekmcooghkchpaaOpenP
namespace Go.Proofs.Ytekmcooghkchpaa.ringShares
open Go.ChangeShapes Go.WideShapes Go.ChangeAt Go.RowKit
open Go.ChangeMaps (open_string shut_string)
open Go.Sort Go.Shelf
set_option linter.unusedVariables false
set_option maxRecDepth 20000

set_option maxRecDepth 100000 in
set_option maxHeartbeats 8000000 in
theorem walk_v (pn keys : Int) (v : Value) (l r : List Rp.Pt) (E : Int) (K : Nat) (w : World) (hv : PSeg .i64 w v l) (hbad : E ≠ 0 → r = []) (hgood : E = 0 → l.length ≤ 32) (hk1 : (wrap64 (keys.tmod 200 + 200)).tmod 200 = (K : Int)) (hK : K < 200)
    (CB : ∀ w' : World, Below w.heap.size w w' → Calls Try.prog 10 #[.int .i64 pn, v] w' fun e w'' => ∃ v', e = .returned (.tuple #[v', .int .i64 E]) ∧ PSeg .u64 w'' v' r ∧ Below w'.heap.size w' w'')
    (CS : E = 0 → 0 < l.length → ∀ (v' : Value) (w' : World), PSeg .u64 w' v' r → Calls Try.prog 16 #[v', .int .i64 (K : Int)] w' fun e w'' => ∃ v2, e = .returned (.tuple #[v2, .int .i64 0]) ∧ Seg .i64 w'' v2 (l.map fun b => (Rp.cnt r K b.1 : Int)) ∧ Below w'.heap.size w' w'')
    (CL : E = 0 → 0 < l.length → ∀ (h : Int) (v' : Value) (w' : World), PSeg .u64 w' v' r → Calls Try.prog 12 #[v', .int .u64 h] w' fun e w'' => e = .returned (.tuple #[.int .i64 (Rp.owner r h), .int .i64 0]) ∧ Below w'.heap.size w' w'') :
    Calls Try.prog 7 #[.int .i64 pn, v, .int .i64 keys] w fun e w' => e = .returned (.bool true) ∧ Below w.heap.size w w' := by
  obtain ⟨a, cap, rfl, h1, h2, h3, h4⟩ := id hv
  have HV := hidD hv
  obtain ⟨N, hN⟩ : ∃ N, N = l.length := ⟨_, rfl⟩
  have HN := hidD hN
  have HB := hidD hbad
  have HG := hidD hgood
  rw [← hN] at h1 CB CS CL ⊢
  unfold maxLen at h2
  have H3 := hidD CS
  have H4 := hidD CL
  clear hN hv h3 h4 hbad hgood CS CL
  have c0 := alive_any w
  go_enter Try.func7, Try.ntmps7
  go_wp2_with fail
  with_reducible refine c0.mono ?_
  rintro e w1 ⟨rfl, b1⟩
  have c1 := CB w1 b1
  clear CB c0
  go_wp2_with fail
  with_reducible refine c1.mono ?_
  rintro e w2 ⟨v', rfl, p2, b2⟩
  clear c1
  have B2 := hidD (Below.step b1 b2)
  clear b1 b2
  obtain ⟨ra, rcap, rfl, -⟩ := id p2
  have HP := hidD p2
  obtain ⟨RL, hRL⟩ : ∃ RL, RL = r.length := ⟨_, rfl⟩
  rw [← hRL] at HP p2 ⊢
  have HRL := hidD hRL
  clear hRL
  by_cases hE : E = 0
  · subst hE
    have hN32 := HG.out rfl
    rw [← HN.out] at hN32
    by_cases hN0 : N = 0
    · subst hN0
      clear HG HB H3 H4
      go_wp2_with (go_at_call 19; refine (num_any _ _).mono ?_; rintro e w4 ⟨rfl, rfl⟩)
      go_ret
      exact ⟨rfl, B2.out⟩
    · have hb0 : ((N : Int) == 0) = false := by simp; omega
      have cs := H3.out rfl (by omega) _ w2 p2
      have cl := fun h => H4.out rfl (by omega) h (.slice ra RL rcap)
      have HCL := hidD cl
      clear HG HB H3 H4 cl p2
      go_wp2_with (first | (go_at_call 19; refine (num_any _ _).mono ?_; rintro e w4 ⟨rfl, rfl⟩))
      with_reducible refine cs.mono ?_
      rintro e w3 ⟨v2, rfl, s3, b3⟩
      have hsl : (l.map fun b => (Rp.cnt r K b.1 : Int)).length = N := by rw [List.length_map]; exact HN.out.symm
      obtain ⟨sa, scap, rfl, -⟩ := id s3
      rw [hsl] at s3 ⊢
      have HS3 := hidD s3
      have B3 := hidD (Below.step B2.out b3)
      have HP3 := hidD (HP.out.below b3)
      obtain ⟨i0, hi, hz0, hz1, hz2⟩ := info_parts Try.infoI
      obtain ⟨w4, hmk, hown4, hg4⟩ := run_make_full (P := Try.prog) w3 w3.heap.size 35 3 i0 (.int .i64 0) 1 Try.underlying35 hi hz0 hz1 .i64 .i64 N (by rw [hz2]; omega) (by unfold maxLen; omega) (Nat.le_refl _)
      have hb4 : Below w3.heap.size w3 w4 := (Below.refl _ _).grown hg4 (Nat.le_refl _) (fun k hk => by cases hk)
      have hzero : Hid (∀ j, j < N → (madeCells (Value.int .i64 0).cells (N * 1)).toList[j]? = some (.int .i64 0)) := hidD (fun j hj => by simp [madeCells, Value.cells, hj, Nat.mod_one])
      have hne : ((N : Int) != (N : Int)) = false := by simp
      clear cs hi hz0 hz1 hz2 hg4 hsl s3 b3
      go_wp2_with (first | (go_at_call 19; refine (num_any _ _).mono ?_; rintro e w5 ⟨rfl, rfl⟩))
      obtain ⟨G, hG⟩ : ∃ G, G = w3.heap.size := ⟨_, rfl⟩
      have hGw : w.heap.size ≤ G := by rw [hG]; exact B3.out.size
      rw [← hG] at hown4 ⊢
      have HG2 := hidD hG
      clear hG hmk
      go_loopw [12] (fun i wr => ∃ k : Nat, k ≤ K ∧ i = .int .i64 k ∧ (∃ ys : List Value, wr.ownsRow G 3 1 (.slice (some ⟨G, 0, none⟩) N N) N ys ∧ Hid (∀ j, j < N → ys[j]? = some (.int .i64 (Rp.cnt r k (l.getD j (0, 0)).1 : Nat)))) ∧ Below G w3 wr) (fun i _ => K - (intOf i).toNat)
      case atStart => exact ⟨0, Nat.zero_le _, rfl, ⟨_, hown4, hidD (fun j hj => by rw [hzero.out j hj]; rfl)⟩, by rw [HG2.out]; exact hb4⟩
      case round =>
        clear hown4
        obtain ⟨k, hk, rfl, ⟨ys, hys, HY⟩, hbl⟩ := hrel
        obtain ⟨wo, rfl⟩ : ∃ wo, wo = wr := ⟨_, rfl⟩
        have hbl3 : Below w3.heap.size w3 wo := by rw [← HG2.out]; exact hbl
        have hGo : G ≤ wo.heap.size := by rw [HG2.out]; exact hbl3.size
        by_cases hlt : k < K
        · have cI := rints1 2 (k : Int) wo (by decide)
          have cl := fun w5 (b : Below wo.heap.size wo w5) => HCL.out (Rp.key k) w5 (HP3.out.below (Below.step hbl3 b))
          obtain ⟨o, ho⟩ : ∃ o, o = Rp.owner r (Rp.key k) := ⟨_, rfl⟩
          rw [← ho] at cl
          have HO := hidD ho
          have hkey : Rp.key k = ((Hp.ints 2 [(k : Int)] : Nat) : Int) := rfl
          rw [hkey] at cl
          have HC1 : Hid (∀ y, Rp.cnt r (k + 1) y = Rp.cnt r k y + if o = y then 1 else 0) := hidD (fun y => by rw [ho]; exact Rp.cnt_succ r k y)
          have HCle := hidD (fun y => Rp.cnt_le r k y)
          have HBL3 := hidD hbl3
          have HYS := hidD hys
          clear hkey ho hys hbl3
          generalize Hp.ints 2 [(k : Int)] = hh at *
          go_wp2_with fail
          refine cI.mono ?_
          rintro e w5 ⟨rfl, b5⟩
          have cl2 := cl w5 b5
          clear cl cI
          go_wp2_with fail
          with_reducible refine cl2.mono ?_
          rintro e w6 ⟨rfl, b6⟩
          have b56 := Below.step b5 b6
          have hys6 := own_below HYS.out b56
          have hb6 : Below w3.heap.size w3 w6 := Below.step HBL3.out b56
          clear cl2 b5 b6 b56
          go_wp2_with fail
          go_loopw [15] (fun i wr => ∃ q : Nat, q ≤ N ∧ i = .int .i64 q ∧ (∃ ys2 : List Value, wr.ownsRow G 3 1 (.slice (some ⟨G, 0, none⟩) N N) N ys2 ∧ Hid (∀ j, j < N → ys2[j]? = some (.int .i64 (Rp.cnt r (if j < q then k + 1 else k) (l.getD j (0, 0)).1 : Nat)))) ∧ Below w3.heap.size w3 wr) (fun i _ => N - (intOf i).toNat)
          case atStart => exact ⟨0, Nat.zero_le _, rfl, ⟨ys, hys6, hidD (fun j hj => by rw [if_neg (by omega)]; exact HY.out j hj)⟩, hb6⟩
          case round =>
            clear hys6 hb6
            obtain ⟨q, hq, rfl, ⟨ys2, hy2, HY2⟩, hb7⟩ := hrel
            by_cases hlq : q < N
            · obtain ⟨a', cap', e1, _, _, h3, h4⟩ := HV.out.below (Below.step B3.out hb7)
              rw [← HN.out] at e1
              cases e1
              obtain ⟨g, off, rfl, hg, hcell⟩ := pseg_at (l := l) (by have := HN.out; omega) h3 h4
              have Q1 := (hcell q (by have := HN.out; omega)).1
              have hyl : ys2.length = N := by have := hy2.1; omega
              obtain ⟨C, hC⟩ : ∃ C, C = Rp.cnt r k (l.getD q (0, 0)).1 := ⟨_, rfl⟩
              have Q2 : wr.cell? ⟨G, q, none⟩ = some (.int .i64 (C : Int)) := by
                rw [hy2.cellAt q (by omega), HY2.out q hlq, if_neg (by omega), hC]
              have hf := hy2.frozenAt q
              have hCk : C ≤ k := by rw [hC]; exact HCle.out _
              have hw1 : IntKind.i64.wrap ((C : Int) + 1) = ((C + 1 : Nat) : Int) := by rw [IntKind.wrap_i64]; omega
              have i1 : (q : Int) < (N : Int) := by omega
              have HB7 := hidD hb7
              by_cases hox : (l.getD q (0, 0)).1 = o
              · have hst := hy2.stored q (.int .i64 ((C + 1 : Nat) : Int))
                have HO2 := hidD hst.1
                have hb8 := hidD (hb7.grown hst.2 hb7.size (fun j e => by cases e; rw [← HG2.out]; exact Nat.le_refl _))
                have HY3 : Hid (∀ j, j < N → (ys2.set q (.int .i64 ((C + 1 : Nat) : Int)))[j]? = some (.int .i64 (Rp.cnt r (if j < q + 1 then k + 1 else k) (l.getD j (0, 0)).1 : Nat))) := hidD (fun j hj => by
                  by_cases hjq : j = q
                  · subst hjq
                    rw [List.getElem?_set_self (by omega), if_pos (by omega), HC1.out, if_pos hox.symm, hC]
                  · rw [List.getElem?_set_ne (by omega), HY2.out j hj]
                    by_cases h9 : j < q
                    · rw [if_pos h9, if_pos (by omega)]
                    · rw [if_neg h9, if_neg (by omega)])
                have hb' : ((l.getD q (0, 0)).1 == o) = true := by simpa using hox
                clear hst hy2 HY2 hcell h3 h4 hC hyl hb7 hox
                generalize (l.getD q (0, 0)).1 = y at *
                go_wp2_with (first | (go_at_call 19; refine (num_any _ _).mono ?_; rintro e w8 ⟨rfl, rfl⟩))
                exact ⟨⟨q + 1, by omega, by go_num, ⟨_, HO2.out, HY3⟩, hb8.out⟩, by simp [intOf]; omega⟩
              · have HY3 : Hid (∀ j, j < N → ys2[j]? = some (.int .i64 (Rp.cnt r (if j < q + 1 then k + 1 else k) (l.getD j (0, 0)).1 : Nat))) := hidD (fun j hj => by
                  rw [HY2.out j hj]
                  by_cases hjq : j = q
                  · subst hjq
                    rw [if_neg (by omega), if_pos (by omega), HC1.out, if_neg (fun e => hox e.symm)]
                    rfl
                  · by_cases h9 : j < q
                    · rw [if_pos h9, if_pos (by omega)]
                    · rw [if_neg h9, if_neg (by omega)])
                have hb' : ((l.getD q (0, 0)).1 == o) = false := by simpa using hox
                have HO2 := hidD hy2
                clear hy2 HY2 hcell h3 h4 hC hyl hb7 hox
                generalize (l.getD q (0, 0)).1 = y at *
                go_wp2_with (first | (go_at_call 19; refine (num_any _ _).mono ?_; rintro e w8 ⟨rfl, rfl⟩))
                exact ⟨⟨q + 1, by omega, by go_num, ⟨_, HO2.out, HY3⟩, HB7.out⟩, by simp [intOf]; omega⟩
            · have HY3 : Hid (∀ j, j < N → ys2[j]? = some (.int .i64 (Rp.cnt r (k + 1) (l.getD j (0, 0)).1 : Nat))) := hidD (fun j hj => by
                rw [HY2.out j hj, if_pos (by omega)])
              have HO2 := hidD hy2
              have HB7 : Hid (Below G w3 wr) := hidD (by rw [HG2.out]; exact hb7)
              clear hy2 HY2 hb7
              go_wp2
              exact ⟨⟨k + 1, by omega, by go_num, ⟨_, HO2.out, HY3⟩, HB7.out⟩, by simp [intOf]; omega⟩
        · obtain rfl : k = K := by omega
          have hyl : ys.length = N := by have := hys.1; omega
          have hye : ys = i64s (l.map fun b => (Rp.cnt r k b.1 : Int)) := by
            apply List.ext_getElem?
            intro j
            by_cases hj : j < N
            · rw [HY.out j hj]
              have hjl : j < l.length := by have := HN.out; omega
              simp [hjl]
            · rw [List.getElem?_eq_none (by omega), List.getElem?_eq_none (by simp; have := HN.out; omega)]
          have hsl : (l.map fun b => (Rp.cnt r k b.1 : Int)).length = N := by rw [List.length_map]; exact HN.out.symm
          have hseg : Seg .i64 wo (.slice (some ⟨G, 0, none⟩) N N) (l.map fun b => (Rp.cnt r k b.1 : Int)) := by
            refine Seg.own (e := 3) (B := G) ?_
            rw [hsl]
            rw [hye] at hys
            exact hys
          have c9 := sameInts_any _ _ _ _ wo (HS3.out.below hbl3) hseg
          rw [decide_eq_true rfl] at c9
          have HBZ := hidD (Below.step B3.out hbl3)
          clear hye hsl hseg hys HY hyl hbl hbl3
          go_wp2_with fail
          with_reducible refine c9.mono ?_
          rintro e w9 ⟨rfl, b9⟩
          go_wp2
          go_ret
          exact ⟨rfl, Below.step HBZ.out b9⟩
  · have hr := HB.out hE
    have hRL0 : RL = 0 := by rw [HRL.out, hr]; rfl
    subst hRL0
    have hb' : (E != 0) = true := by simpa using hE
    have hb2 : (E == 0) = false := by simpa using hE
    clear HG HB H3 H4
    go_wp2_with (go_at_call 19; refine (num_any _ _).mono ?_; rintro e w4 ⟨rfl, rfl⟩)
    go_ret
    exact ⟨rfl, B2.out⟩

theorem walk (pn : Int) (w0 : (Lit.int .i64 pn).wf = true) (v : Value) (l : List Rp.Pt) {w : World} (hv : PSeg .i64 w v l) (ho : ∀ t ∈ l, (Lit.int .i64 t.2).wf = true) (keys : Int) (w2 : (Lit.int .i64 keys).wf = true) :
    Calls Try.prog 7 #[.int .i64 pn, v, .int .i64 keys] w fun e w' => e = .returned (.bool true) ∧ Below w.heap.size w w' := by
  obtain ⟨K, hK⟩ : ∃ K : Nat, K = ((wrap64 (keys.tmod 200 + 200)).tmod 200).toNat := ⟨_, rfl⟩
  have wfr : Rp.buildE pn l = 0 → ∀ p ∈ Rp.ring pn l, (Lit.int .i64 p.2).wf = true := by
    intro hb p hp
    obtain ⟨b, hbm, e⟩ := Rp.ring_mem hb hp
    have := (Rp.check_ok (Rp.build_ok hb).1).2.1 b hbm
    rw [e]
    exact wf_of (by omega) (by omega)
  have t1 : -200 < Int.tmod keys 200 := by
    have := Int.lt_tmod_of_pos keys (b := 200) (by omega)
    omega
  have t2 : Int.tmod keys 200 < 200 := Int.tmod_lt_of_pos _ (by omega)
  have e1 : wrap64 (keys.tmod 200 + 200) = keys.tmod 200 + 200 := by unfold wrap64; omega
  have t3 : 0 ≤ Int.tmod (keys.tmod 200 + 200) 200 := Int.tmod_nonneg _ (by omega)
  have t4 : Int.tmod (keys.tmod 200 + 200) 200 < 200 := Int.tmod_lt_of_pos _ (by omega)
  refine walk_v pn keys v l (Rp.ring pn l) (Rp.buildE pn l) K w hv (fun h => if_neg h) (fun h => (Rp.check_ok (Rp.build_ok h).1).1) (by rw [hK, e1]; omega) (by rw [hK, e1]; omega) (fun w' b => ?_) (fun hE h0 v' w' hv' => ?_) (fun hE h0 h v' w' hv' => ?_)
  · refine (build_any pn v l w' (hv.below b)).mono ?_
    rintro e w2 ⟨v', rfl, h1, _, h2⟩
    exact ⟨v', rfl, h1, h2⟩
  · have c := shares_any v' (Rp.ring pn l) (K : Int) w' hv' (wfr hE)
    have hp := Rp.ring_peopled hE h0
    have hS : Rp.sharesE (Rp.ring pn l) (K : Int) = 0 := by unfold Rp.sharesE; rw [if_neg (by omega), if_neg (by rw [hK, e1]; omega)]
    have hL : Rp.sharesL (Rp.ring pn l) (K : Int) = l.map fun b => (Rp.cnt (Rp.ring pn l) K b.1 : Int) := by
      unfold Rp.sharesL
      rw [if_pos hS, Rp.ids_ring hE h0, List.map_map]
      rfl
    rw [hS, hL] at c
    exact c
  · have c := lookup_any v' _ h w' hv'
    have hp := Rp.ring_peopled hE h0
    rw [hp, show Rp.lookI (Rp.ring pn l) h = Rp.owner (Rp.ring pn l) h from if_pos hp] at c
    exact c

set_option maxRecDepth 100000 in
theorem lifted (os : Os) (started : os.Started) (H : Type) (enc : TypeId × Value → H) :
    ReturnsInHanded {} Try.checked os 7 .any (Rows.ringSharesSpec.pre6 enc Try.prog Try.f7 Rows.ringSharesRow.domain false) (Rows.ringSharesSpec.post enc Try.prog Try.f7 false true false false) := by
  refine returnsInHanded_of_change (C := Try.checked) own started (by kernel_rfl) Try.func7
    (ChangeSpec.witness6 (enc := enc) (C := Try.checked) false ⟨#[], #[.int .i64 0, .slice none 0 0, .int .i64 0], []⟩ 8 (by kernel_rfl) (by kernel_rfl) (by kernel_rfl) (by kernel_rfl)) ?_
  intro W base args ds gs before hval0 hW hcnd _
  have hval : ∀ (j : Nat) t v, Try.f7.params[j]? = some t → args[j]? = some v → Value.okWide Try.prog W .any base t v := hval0
  have hW' := hW
  obtain ⟨p, q, hA0, hV, rfl, hfz, hnd⟩ := hW
  have hA : DataW.TrodAll enc Try.prog W 0 (fun _ => true) true Try.f7.params.toList args.toList ds p := hA0
  rw [Try.params7] at hA hval
  obtain ⟨v0, vs0, d0, ds0, p0, q0, hargs, rfl, rfl, h0, r0⟩ := trodAll_cons hA
  obtain ⟨v1, vs1, d1, ds1, p1, q1, rfl, rfl, rfl, h1, r1⟩ := trodAll_cons r0
  obtain ⟨v2, vs2, d2, ds2, p2, q2, rfl, rfl, rfl, h2, r2⟩ := trodAll_cons r1
  obtain ⟨rfl, rfl, rfl⟩ := trodAll_nil r2
  obtain rfl : args = #[v0, v1, v2] := by cases args; simp_all
  obtain ⟨rfl, rfl⟩ := trodVars_none hV
  obtain ⟨a0, rfl, rfl, rfl, w0⟩ := open_int Try.underlying3 (hval 0 3 v0 rfl rfl) h0
  have k1 := h1
  have lt1 : ∀ x ∈ p1, x.block < W.heap.size := by obtain ⟨m, hm⟩ := k1; exact DataW.trod_lt m _ _ _ hm
  obtain ⟨l1, hs1, ho1, _⟩ := open_backs (hval 1 22 v1 rfl rfl) h1
  obtain ⟨a2, rfl, rfl, rfl, w2⟩ := open_int Try.underlying3 (hval 2 3 v2 rfl rfl) h2
  clear hA0 hval0
  refine (walk a0 w0 v1 l1 hs1 ho1 a2 w2).mono fun e W' ⟨he, bel⟩ => ?_
  subst he
  exact ⟨_, rfl, _, _, _, [], _, [], hW', trodAll_mk1 (shut_bool Try.underlying4 _), (trodAll_cons_mk (shut_int Try.underlying3 w0) (trodAll_cons_mk (Below.trod laidOut (by kernel_rfl) (of_decide_eq_true (by kernel_rfl)) k1 bel lt1) (trodAll_cons_mk (shut_int Try.underlying3 w2) trodAll_mk0))), rfl, bel.frame _, fun h => by cases h⟩

theorem over : Rows.ringSharesRow.holds Try.pinned (OpenSpec.ofChange Rows.ringSharesSpec) :=
  OpenClaim.holds_of_wide 7 Try.f7 rfl rfl rfl rfl rfl rfl rfl ⟨rfl, rfl, rfl, rfl, rfl⟩ rfl rfl rfl rfl rfl (by kernel_rfl) Try.func7 (by kernel_rfl)
    (of_decide_eq_true (by kernel_rfl)) (by unfold Func.isWrapper; first | (rw [if_pos (by decide +kernel)]; kernel_rfl) | (rw [if_neg (by decide +kernel)]; exact ⟨rfl, rfl⟩))
    (fun os started H enc _ => lifted os started H enc)
end Go.Proofs.Ytekmcooghkchpaa.ringShares

namespace Go.Proofs.Ytekmcooghkchpaa
/-- THE STATEMENT. -/
theorem ringShares_holds : Rows.RingSharesSaid := ringShares.over
#print axioms ringShares_holds
end Go.Proofs.Ytekmcooghkchpaa
