/- LexMay: the walk. -/
import Derived.Test.YtjeegcfdhoiplaaPF
import Derived.Test.YtjeegcfdhoiplaaOpsH
import Derived.Test.YtjeegcfdhoiplaaBackA

namespace Go.Proofs.Ytjeegcfdhoiplaa.lexMay
open Go.RowKit

set_option maxHeartbeats 4000000 in
set_option maxRecDepth 4000 in
theorem walk (s : ByteArray) (_hs : s.size ≤ maxLen) {w : World} :
    Calls Try.prog 4 #[.string s] w fun e w' => e = .returned (.bool true) ∧ Below w.heap.size w w' := by
  have hal := alive_any w
  obtain ⟨L, ln, er, hA⟩ : ∃ L ln er, tokA s = (L, ln, er) := ⟨_, _, _, rfl⟩
  have ht : ∀ w1 : World, Calls Try.prog 11 #[.string s] w1 fun e w' => ∃ v tl, e = .returned (.tuple #[v, .int .i64 (ln : Int), .int .i64 er]) ∧ Toks w1.heap.size w' v tl ∧ tl.map asTok = L ∧ Below w1.heap.size w1 w' := by
    intro w1
    have h := tokens_any s w1
    rw [hA] at h
    exact h
  have hsh : (er = 0 → ln = 0) ∧ (er ≠ 0 → L = []) ∧ (er = 0 → s.size ≤ 65536 ∧ L = (Pl.tok (bl s) 1).1) := by
    unfold tokA at hA
    by_cases hbig : 65536 < s.size
    · rw [if_pos hbig] at hA
      simp only [Prod.mk.injEq] at hA
      obtain ⟨rfl, rfl, rfl⟩ := hA
      exact ⟨fun _ => rfl, fun _ => rfl, fun h => by simp at h⟩
    · rw [if_neg hbig] at hA
      have h := Pl.tok_shape ((bl s).length + 1) (bl s) 1
      have e : Pl.tokS ((bl s).length + 1) (bl s) 1 = Pl.tok (bl s) 1 := rfl
      rw [e, hA] at h
      exact ⟨h.1, h.2, fun _ => ⟨by omega, by rw [hA]⟩⟩
  by_cases her : er = 0
  · subst her
    obtain rfl := hsh.1 rfl
    obtain ⟨hs16, hL⟩ := hsh.2.2 rfl
    clear hsh
    go_enter Try.func4, Try.ntmps4
    go_wp2_with fail
    refine hal.mono ?_
    rintro e w1 ⟨rfl, hb1⟩
    go_wp2_with fail
    refine (ht w1).mono ?_
    rintro e w2 ⟨v, tl, rfl, hT, hm, hb2⟩
    obtain ⟨G1, G2, G3, G4⟩ := toks_good s tl (hm.trans hL) hs16
    have hbb : Below w.heap.size w w2 := hb1.trans (hb2.mono hb1.size)
    have hS := hT.seg
    obtain ⟨a, cap, rfl, h1, h2, _⟩ := id hS
    obtain ⟨N, hN⟩ : ∃ N, N = (tl.map toZ).length := ⟨_, rfl⟩
    have HN : Hid (N = (tl.map toZ).length) := hN
    have hN6 : N ≤ 65536 := by rw [hN, List.length_map]; exact G3
    have HG : Hid (Good (tl.map toZ)) := G1
    have HG2 : Hid (∀ t ∈ tl.map toZ, t.2.1.size ≤ maxLen) := G2
    have HG4 : Hid ((tl.map toZ).map zTok = tl.map asTok) := G4
    have HL : Hid (L = (Pl.tok (bl s) 1).1) := hL
    have HM : Hid (tl.map asTok = L) := hm
    rw [← hN] at hS ⊢
    clear G1 G2 G3 G4 hT hm hN h1 h2 hL ht hal hA
    generalize tl.map toZ = l at hS HN HG HG2 HG4
    go_wp2_with (go_at_call 10; refine (num_any _ _).mono ?_; rintro e w6 ⟨rfl, hw6⟩; subst w6)
    go_loopw [6] (fun i wr => ∃ k : Nat, k ≤ N ∧ i = .int .i64 k ∧ Below w2.heap.size w2 wr) (fun i _ => N - (intOf i).toNat)
    case atStart => exact ⟨0, Nat.zero_le _, rfl, Below.refl _ _⟩
    case round =>
      obtain ⟨k, hk, rfl, hbk⟩ := hrel
      by_cases hlt : k < N
      · obtain ⟨t, hti⟩ : ∃ t, l[k]? = some t := ⟨l[k]'(by have := HN.out; omega), by simp⟩
        obtain ⟨g, off, rfl, k2, q1, q2, q3⟩ := hS.at k t hti
        have k3 : g < wr.heap.size := Nat.lt_of_lt_of_le k2 hbk.size
        have Q1 := (hbk.cell (p := ⟨g, off + k * 3, none⟩) k2).trans q1
        have Q2 := (hbk.cell (p := ⟨g, off + k * 3 + 1, none⟩) k2).trans q2
        have Q3 := (hbk.cell (p := ⟨g, off + k * 3 + 2, none⟩) k2).trans q3
        have htm := List.mem_of_getElem? hti
        have hck := fun w' => check_any t (HG2.out t htm) w'
        rw [HG.out.1 t htm] at hck
        have cel : ∀ (W : World), Below wr.heap.size wr W → ∀ (o' : Nat) (x : Value), wr.cell? ⟨g, o', none⟩ = some x → W.cell? ⟨g, o', none⟩ = some x := fun W hR o' x hx => (hR.cell k3).trans hx
        by_cases hk0 : k = 0
        · have hkd : decide (0 < k) = false := decide_eq_false (by omega)
          clear q1 q2 q3 hti htm
          go_wp2_with fail
          obtain ⟨val, hval⟩ : ∃ val : Nat → Value, val = fun i => match i with | 0 => (.slice (some ⟨g, off, none⟩) N cap) | 1 => .int .i64 (k : Int) | 2 => .pointer (some ⟨g, off + k * 3, none⟩) | 3 => .agg #[.int .i64 t.1, .string t.2.1, .int .i64 t.2.2] | 4 => .int .i64 0 | 5 => .int .i64 0 | 6 => .bool false | 7 => .bool false | 8 => .int .i64 (k : Int) | 9 => .bool false | 10 => .bool false | 11 => undef | 12 => undef | 13 => undef | 14 => undef | 15 => undef | 16 => undef | 17 => undef | 18 => undef | 19 => undef | 20 => undef | 21 => undef | 22 => undef | 23 => .bool false | 24 => .bool false | _ => undef := ⟨_, rfl⟩
          refine wp_region_fixed (R := fun W => Below wr.heap.size wr W) val (by kernel_rfl) (by kernel_rfl) (by kernel_rfl) (below_drew (Below.refl _ _)) ?step ?done
          case step =>
            subst hval
            intro i o ho A W hsz hdf hfr hdep hR
            rcases i with _ | _ | _ | _ | _ | _ | _ | _ | _ | _ | _ | _ | _ | _ | _ | _ | _ | _ | _ | _ | _ | _ | _ | _ | _ | i
            · injection ho with ho
              subst ho
              exact gOp_move rfl (wanted_plain rfl) 3 rfl ((hfr 3 (noDst_spec (by kernel_rfl))).trans rfl) ⟨_, rfl, rfl, Below.refl _ _, hR⟩
            · injection ho with ho
              subst ho
              exact gOp_move rfl (wanted_plain rfl) 6 rfl ((hfr 6 (noDst_spec (by kernel_rfl))).trans rfl) ⟨_, rfl, rfl, Below.refl _ _, hR⟩
            · injection ho with ho
              subst ho
              exact gOp_indexAddr rfl (wanted_plain rfl) 32 33 rfl g off N cap k (hdep ⟨0, .data⟩ (by simp) rfl _ _ rfl rfl) (hdep ⟨1, .data⟩ (by simp) rfl _ _ rfl rfl) hlt ⟨_, rfl, rfl, Below.refl _ _, hR⟩
            · injection ho with ho
              subst ho
              exact gOp_load34 rfl (wanted_plain rfl) 34 rfl g (off + k * 3) t.1 t.2.1 t.2.2 (hdep ⟨2, .data⟩ (by simp) rfl _ _ rfl rfl) (cel W hR _ _ Q1) (cel W hR _ _ Q2) (cel W hR _ _ Q3) ⟨_, rfl, rfl, Below.refl _ _, hR⟩
            · injection ho with ho
              subst ho
              refine gOp_call1 13 (enters_of Try.func13 (by kernel_rfl) rfl) rfl (wanted_plain rfl) 35 _ rfl (v := .agg #[.int .i64 t.1, .string t.2.1, .int .i64 t.2.2]) (hdep ⟨3, .data⟩ (by simp) rfl _ _ rfl rfl) ?_
              refine (hck W).mono ?_
              rintro e w' ⟨rfl, hbn⟩
              exact ⟨_, rfl, _, rfl, rfl, hbn, hR.trans (hbn.mono hR.size)⟩
            · injection ho with ho
              subst ho
              refine gOp_call1 10 (enters_of Try.func10 (by kernel_rfl) rfl) rfl (wanted_plain rfl) 36 _ rfl (v := .int .i64 0) (hdep ⟨4, .data⟩ (by simp) rfl _ _ rfl rfl) ?_
              refine (num_any 0 W).mono ?_
              rintro e w' ⟨rfl, rfl⟩
              exact ⟨_, rfl, _, rfl, rfl, Below.refl _ _, hR⟩
            · injection ho with ho
              subst ho
              exact gOp_neq0 rfl (wanted_plain rfl) 37 rfl (hdep ⟨5, .data⟩ (by simp) rfl _ _ rfl rfl) ⟨_, rfl, rfl, Below.refl _ _, hR⟩
            · injection ho with ho
              subst ho
              exact gOp_move rfl (wanted_plain rfl) 38 rfl (hdep ⟨6, .data⟩ (by simp) rfl _ _ rfl rfl) ⟨_, rfl, rfl, Below.refl _ _, hR⟩
            · injection ho with ho
              subst ho
              exact gOp_move rfl (wanted_off 7 39 _ rfl rfl rfl (hdep ⟨7, .guard⟩ (by simp) rfl _ _ rfl rfl)) 6 rfl ((hfr 6 (noDst_spec (by kernel_rfl))).trans rfl) ⟨_, rfl, rfl, Below.refl _ _, hR⟩
            · injection ho with ho
              subst ho
              exact gOp_gtr0 rfl (wanted_off 7 39 _ rfl rfl rfl (hdep ⟨7, .guard⟩ (by simp) rfl _ _ rfl rfl)) 40 rfl k false hkd (hdep ⟨8, .data⟩ (by simp) rfl _ _ rfl rfl) ⟨_, rfl, rfl, Below.refl _ _, hR⟩
            · injection ho with ho
              subst ho
              exact gOp_move rfl (wanted_off 7 39 _ rfl rfl rfl (hdep ⟨7, .guard⟩ (by simp) rfl _ _ rfl rfl)) 41 rfl (hdep ⟨9, .data⟩ (by simp) rfl _ _ rfl rfl) ⟨_, rfl, rfl, Below.refl _ _, hR⟩
            · injection ho with ho
              subst ho
              exact gOp_skip rfl (unwanted_off 10 42 _ rfl rfl rfl (hdep ⟨10, .guard⟩ (by simp) rfl _ _ rfl rfl)) ⟨_, rfl, rfl, Below.refl _ _, hR⟩
            · injection ho with ho
              subst ho
              exact gOp_skip rfl (unwanted_off 10 42 _ rfl rfl rfl (hdep ⟨10, .guard⟩ (by simp) rfl _ _ rfl rfl)) ⟨_, rfl, rfl, Below.refl _ _, hR⟩
            · injection ho with ho
              subst ho
              exact gOp_skip rfl (unwanted_off 10 42 _ rfl rfl rfl (hdep ⟨10, .guard⟩ (by simp) rfl _ _ rfl rfl)) ⟨_, rfl, rfl, Below.refl _ _, hR⟩
            · injection ho with ho
              subst ho
              exact gOp_skip rfl (unwanted_off 10 42 _ rfl rfl rfl (hdep ⟨10, .guard⟩ (by simp) rfl _ _ rfl rfl)) ⟨_, rfl, rfl, Below.refl _ _, hR⟩
            · injection ho with ho
              subst ho
              exact gOp_skip rfl (unwanted_off 10 42 _ rfl rfl rfl (hdep ⟨10, .guard⟩ (by simp) rfl _ _ rfl rfl)) ⟨_, rfl, rfl, Below.refl _ _, hR⟩
            · injection ho with ho
              subst ho
              exact gOp_skip rfl (unwanted_off 10 42 _ rfl rfl rfl (hdep ⟨10, .guard⟩ (by simp) rfl _ _ rfl rfl)) ⟨_, rfl, rfl, Below.refl _ _, hR⟩
            · injection ho with ho
              subst ho
              exact gOp_skip rfl (unwanted_off 10 42 _ rfl rfl rfl (hdep ⟨10, .guard⟩ (by simp) rfl _ _ rfl rfl)) ⟨_, rfl, rfl, Below.refl _ _, hR⟩
            · injection ho with ho
              subst ho
              exact gOp_skip rfl (unwanted_off 10 42 _ rfl rfl rfl (hdep ⟨10, .guard⟩ (by simp) rfl _ _ rfl rfl)) ⟨_, rfl, rfl, Below.refl _ _, hR⟩
            · injection ho with ho
              subst ho
              exact gOp_skip rfl (unwanted_off 10 42 _ rfl rfl rfl (hdep ⟨10, .guard⟩ (by simp) rfl _ _ rfl rfl)) ⟨_, rfl, rfl, Below.refl _ _, hR⟩
            · injection ho with ho
              subst ho
              exact gOp_skip rfl (unwanted_off 10 42 _ rfl rfl rfl (hdep ⟨10, .guard⟩ (by simp) rfl _ _ rfl rfl)) ⟨_, rfl, rfl, Below.refl _ _, hR⟩
            · injection ho with ho
              subst ho
              exact gOp_skip rfl (unwanted_off 10 42 _ rfl rfl rfl (hdep ⟨10, .guard⟩ (by simp) rfl _ _ rfl rfl)) ⟨_, rfl, rfl, Below.refl _ _, hR⟩
            · injection ho with ho
              subst ho
              exact gOp_skip rfl (unwanted_off 10 42 _ rfl rfl rfl (hdep ⟨10, .guard⟩ (by simp) rfl _ _ rfl rfl)) ⟨_, rfl, rfl, Below.refl _ _, hR⟩
            · injection ho with ho
              subst ho
              exact gOp_pickF rfl (wanted_off 7 39 _ rfl rfl rfl (hdep ⟨7, .guard⟩ (by simp) rfl _ _ rfl rfl)) 42 54 rfl (hdep ⟨10, .data⟩ (by simp) rfl _ _ rfl rfl) ⟨_, rfl, rfl, Below.refl _ _, hR⟩
            · injection ho with ho
              subst ho
              exact gOp_pickOr rfl (wanted_plain rfl) 39 55 rfl (hdep ⟨7, .data⟩ (by simp) rfl _ _ rfl rfl) (hdep ⟨23, .data⟩ (by simp) rfl _ _ rfl rfl) ⟨_, rfl, rfl, Below.refl _ _, hR⟩
            · simp at ho
          case done =>
            intro W hR
            subst hval
            simp only [putL, Act.put, List.setIfInBounds_toArray, List.set_cons_zero, List.set_cons_succ]
            go_wp2
            exact ⟨⟨k + 1, by omega, by go_num, hbk.trans (hR.mono hbk.size)⟩, by simp [intOf]; omega⟩
        · have hkd : decide (0 < k) = true := decide_eq_true (by omega)
          obtain ⟨j, hkj⟩ : ∃ j, k = j + 1 := ⟨k - 1, by omega⟩
          obtain ⟨u, hui⟩ : ∃ u, l[j]? = some u := ⟨l[j]'(by have := HN.out; omega), by simp⟩
          have hle := HG.out.2.1 j u t hui (by rw [← hkj]; exact hti)
          obtain ⟨g', off', hge, _, _, _, u3⟩ := hS.at j u hui
          simp at hge
          obtain ⟨rfl, rfl⟩ := hge
          have U3 := (hbk.cell (p := ⟨g, off + j * 3 + 2, none⟩) k2).trans u3
          clear q1 q2 q3 u3 hti htm hui
          go_wp2_with fail
          obtain ⟨val, hval⟩ : ∃ val : Nat → Value, val = fun i => match i with | 0 => (.slice (some ⟨g, off, none⟩) N cap) | 1 => .int .i64 (k : Int) | 2 => .pointer (some ⟨g, off + k * 3, none⟩) | 3 => .agg #[.int .i64 t.1, .string t.2.1, .int .i64 t.2.2] | 4 => .int .i64 0 | 5 => .int .i64 0 | 6 => .bool false | 7 => .bool false | 8 => .int .i64 (k : Int) | 9 => .bool true | 10 => .bool true | 11 => (.slice (some ⟨g, off, none⟩) N cap) | 12 => .int .i64 (k : Int) | 13 => .pointer (some ⟨g, off + k * 3, none⟩) | 14 => .pointer (some ⟨g, off + k * 3 + 2, none⟩) | 15 => .int .i64 t.2.2 | 16 => (.slice (some ⟨g, off, none⟩) N cap) | 17 => .int .i64 (k : Int) | 18 => .int .i64 (j : Int) | 19 => .pointer (some ⟨g, off + j * 3, none⟩) | 20 => .pointer (some ⟨g, off + j * 3 + 2, none⟩) | 21 => .int .i64 u.2.2 | 22 => .bool false | 23 => .bool false | 24 => .bool false | _ => undef := ⟨_, rfl⟩
          refine wp_region_fixed (R := fun W => Below wr.heap.size wr W) val (by kernel_rfl) (by kernel_rfl) (by kernel_rfl) (below_drew (Below.refl _ _)) ?step ?done
          case step =>
            subst hval
            intro i o ho A W hsz hdf hfr hdep hR
            rcases i with _ | _ | _ | _ | _ | _ | _ | _ | _ | _ | _ | _ | _ | _ | _ | _ | _ | _ | _ | _ | _ | _ | _ | _ | _ | i
            · injection ho with ho
              subst ho
              exact gOp_move rfl (wanted_plain rfl) 3 rfl ((hfr 3 (noDst_spec (by kernel_rfl))).trans rfl) ⟨_, rfl, rfl, Below.refl _ _, hR⟩
            · injection ho with ho
              subst ho
              exact gOp_move rfl (wanted_plain rfl) 6 rfl ((hfr 6 (noDst_spec (by kernel_rfl))).trans rfl) ⟨_, rfl, rfl, Below.refl _ _, hR⟩
            · injection ho with ho
              subst ho
              exact gOp_indexAddr rfl (wanted_plain rfl) 32 33 rfl g off N cap k (hdep ⟨0, .data⟩ (by simp) rfl _ _ rfl rfl) (hdep ⟨1, .data⟩ (by simp) rfl _ _ rfl rfl) hlt ⟨_, rfl, rfl, Below.refl _ _, hR⟩
            · injection ho with ho
              subst ho
              exact gOp_load34 rfl (wanted_plain rfl) 34 rfl g (off + k * 3) t.1 t.2.1 t.2.2 (hdep ⟨2, .data⟩ (by simp) rfl _ _ rfl rfl) (cel W hR _ _ Q1) (cel W hR _ _ Q2) (cel W hR _ _ Q3) ⟨_, rfl, rfl, Below.refl _ _, hR⟩
            · injection ho with ho
              subst ho
              refine gOp_call1 13 (enters_of Try.func13 (by kernel_rfl) rfl) rfl (wanted_plain rfl) 35 _ rfl (v := .agg #[.int .i64 t.1, .string t.2.1, .int .i64 t.2.2]) (hdep ⟨3, .data⟩ (by simp) rfl _ _ rfl rfl) ?_
              refine (hck W).mono ?_
              rintro e w' ⟨rfl, hbn⟩
              exact ⟨_, rfl, _, rfl, rfl, hbn, hR.trans (hbn.mono hR.size)⟩
            · injection ho with ho
              subst ho
              refine gOp_call1 10 (enters_of Try.func10 (by kernel_rfl) rfl) rfl (wanted_plain rfl) 36 _ rfl (v := .int .i64 0) (hdep ⟨4, .data⟩ (by simp) rfl _ _ rfl rfl) ?_
              refine (num_any 0 W).mono ?_
              rintro e w' ⟨rfl, rfl⟩
              exact ⟨_, rfl, _, rfl, rfl, Below.refl _ _, hR⟩
            · injection ho with ho
              subst ho
              exact gOp_neq0 rfl (wanted_plain rfl) 37 rfl (hdep ⟨5, .data⟩ (by simp) rfl _ _ rfl rfl) ⟨_, rfl, rfl, Below.refl _ _, hR⟩
            · injection ho with ho
              subst ho
              exact gOp_move rfl (wanted_plain rfl) 38 rfl (hdep ⟨6, .data⟩ (by simp) rfl _ _ rfl rfl) ⟨_, rfl, rfl, Below.refl _ _, hR⟩
            · injection ho with ho
              subst ho
              exact gOp_move rfl (wanted_off 7 39 _ rfl rfl rfl (hdep ⟨7, .guard⟩ (by simp) rfl _ _ rfl rfl)) 6 rfl ((hfr 6 (noDst_spec (by kernel_rfl))).trans rfl) ⟨_, rfl, rfl, Below.refl _ _, hR⟩
            · injection ho with ho
              subst ho
              exact gOp_gtr0 rfl (wanted_off 7 39 _ rfl rfl rfl (hdep ⟨7, .guard⟩ (by simp) rfl _ _ rfl rfl)) 40 rfl k true hkd (hdep ⟨8, .data⟩ (by simp) rfl _ _ rfl rfl) ⟨_, rfl, rfl, Below.refl _ _, hR⟩
            · injection ho with ho
              subst ho
              exact gOp_move rfl (wanted_off 7 39 _ rfl rfl rfl (hdep ⟨7, .guard⟩ (by simp) rfl _ _ rfl rfl)) 41 rfl (hdep ⟨9, .data⟩ (by simp) rfl _ _ rfl rfl) ⟨_, rfl, rfl, Below.refl _ _, hR⟩
            · injection ho with ho
              subst ho
              exact gOp_move rfl (wanted_true 10 42 _ rfl rfl rfl (hdep ⟨10, .guard⟩ (by simp) rfl _ _ rfl rfl)) 3 rfl ((hfr 3 (noDst_spec (by kernel_rfl))).trans rfl) ⟨_, rfl, rfl, Below.refl _ _, hR⟩
            · injection ho with ho
              subst ho
              exact gOp_move rfl (wanted_true 10 42 _ rfl rfl rfl (hdep ⟨10, .guard⟩ (by simp) rfl _ _ rfl rfl)) 6 rfl ((hfr 6 (noDst_spec (by kernel_rfl))).trans rfl) ⟨_, rfl, rfl, Below.refl _ _, hR⟩
            · injection ho with ho
              subst ho
              exact gOp_indexAddr rfl (wanted_true 10 42 _ rfl rfl rfl (hdep ⟨10, .guard⟩ (by simp) rfl _ _ rfl rfl)) 43 44 rfl g off N cap k (hdep ⟨11, .data⟩ (by simp) rfl _ _ rfl rfl) (hdep ⟨12, .data⟩ (by simp) rfl _ _ rfl rfl) hlt ⟨_, rfl, rfl, Below.refl _ _, hR⟩
            · injection ho with ho
              subst ho
              exact gOp_fieldAddr rfl (wanted_true 10 42 _ rfl rfl rfl (hdep ⟨10, .guard⟩ (by simp) rfl _ _ rfl rfl)) 45 rfl g (off + k * 3) (hdep ⟨13, .data⟩ (by simp) rfl _ _ rfl rfl) ⟨_, rfl, rfl, Below.refl _ _, hR⟩
            · injection ho with ho
              subst ho
              exact gOp_load3 rfl (wanted_true 10 42 _ rfl rfl rfl (hdep ⟨10, .guard⟩ (by simp) rfl _ _ rfl rfl)) 46 rfl g (off + k * 3 + 2) t.2.2 (hdep ⟨14, .data⟩ (by simp) rfl _ _ rfl rfl) (cel W hR _ _ Q3) ⟨_, rfl, rfl, Below.refl _ _, hR⟩
            · injection ho with ho
              subst ho
              exact gOp_move rfl (wanted_true 10 42 _ rfl rfl rfl (hdep ⟨10, .guard⟩ (by simp) rfl _ _ rfl rfl)) 3 rfl ((hfr 3 (noDst_spec (by kernel_rfl))).trans rfl) ⟨_, rfl, rfl, Below.refl _ _, hR⟩
            · injection ho with ho
              subst ho
              exact gOp_move rfl (wanted_true 10 42 _ rfl rfl rfl (hdep ⟨10, .guard⟩ (by simp) rfl _ _ rfl rfl)) 6 rfl ((hfr 6 (noDst_spec (by kernel_rfl))).trans rfl) ⟨_, rfl, rfl, Below.refl _ _, hR⟩
            · injection ho with ho
              subst ho
              exact gOp_sub1 rfl (wanted_true 10 42 _ rfl rfl rfl (hdep ⟨10, .guard⟩ (by simp) rfl _ _ rfl rfl)) 49 rfl j (by omega) (by have h := (hdep ⟨17, .data⟩ (by simp) rfl _ _ rfl rfl); rw [hkj] at h; exact h) ⟨_, rfl, rfl, Below.refl _ _, hR⟩
            · injection ho with ho
              subst ho
              exact gOp_indexAddr rfl (wanted_true 10 42 _ rfl rfl rfl (hdep ⟨10, .guard⟩ (by simp) rfl _ _ rfl rfl)) 48 50 rfl g off N cap j (hdep ⟨16, .data⟩ (by simp) rfl _ _ rfl rfl) (hdep ⟨18, .data⟩ (by simp) rfl _ _ rfl rfl) (by omega) ⟨_, rfl, rfl, Below.refl _ _, hR⟩
            · injection ho with ho
              subst ho
              exact gOp_fieldAddr rfl (wanted_true 10 42 _ rfl rfl rfl (hdep ⟨10, .guard⟩ (by simp) rfl _ _ rfl rfl)) 51 rfl g (off + j * 3) (hdep ⟨19, .data⟩ (by simp) rfl _ _ rfl rfl) ⟨_, rfl, rfl, Below.refl _ _, hR⟩
            · injection ho with ho
              subst ho
              exact gOp_load3 rfl (wanted_true 10 42 _ rfl rfl rfl (hdep ⟨10, .guard⟩ (by simp) rfl _ _ rfl rfl)) 52 rfl g (off + j * 3 + 2) u.2.2 (hdep ⟨20, .data⟩ (by simp) rfl _ _ rfl rfl) (cel W hR _ _ U3) ⟨_, rfl, rfl, Below.refl _ _, hR⟩
            · injection ho with ho
              subst ho
              exact gOp_lss rfl (wanted_true 10 42 _ rfl rfl rfl (hdep ⟨10, .guard⟩ (by simp) rfl _ _ rfl rfl)) 47 53 rfl t.2.2 u.2.2 false (decide_eq_false (by omega)) (hdep ⟨15, .data⟩ (by simp) rfl _ _ rfl rfl) (hdep ⟨21, .data⟩ (by simp) rfl _ _ rfl rfl) ⟨_, rfl, rfl, Below.refl _ _, hR⟩
            · injection ho with ho
              subst ho
              exact gOp_pick rfl (wanted_off 7 39 _ rfl rfl rfl (hdep ⟨7, .guard⟩ (by simp) rfl _ _ rfl rfl)) 42 54 rfl (hdep ⟨10, .data⟩ (by simp) rfl _ _ rfl rfl) (hdep ⟨22, .data⟩ (by simp) rfl _ _ rfl rfl) ⟨_, rfl, rfl, Below.refl _ _, hR⟩
            · injection ho with ho
              subst ho
              exact gOp_pickOr rfl (wanted_plain rfl) 39 55 rfl (hdep ⟨7, .data⟩ (by simp) rfl _ _ rfl rfl) (hdep ⟨23, .data⟩ (by simp) rfl _ _ rfl rfl) ⟨_, rfl, rfl, Below.refl _ _, hR⟩
            · simp at ho
          case done =>
            intro W hR
            subst hval
            simp only [putL, Act.put, List.setIfInBounds_toArray, List.set_cons_zero, List.set_cons_succ]
            go_wp2
            exact ⟨⟨k + 1, by omega, by go_num, hbk.trans (hR.mono hbk.size)⟩, by simp [intOf]; omega⟩
      · have hpr := print_any _ l wr (hS.below hbk) HG2.out (by have := HN.out; omega)
        have hbw : Below w.heap.size w wr := hbb.trans (hbk.mono hbb.size)
        go_wp2_with fail
        refine hpr.mono ?_
        rintro e w5 ⟨x, er, rfl, hx0, hx1, hx2, hb5⟩
        have hbw5 : Below w.heap.size w w5 := hbw.trans (hb5.mono hbw.size)
        have hS5 := (hS.below hbk).below hb5
        rcases hx2 HG.out with her | her
        · subst her
          obtain ⟨hG, hs5, hbl⟩ := hx1 rfl
          obtain ⟨g1, g2, g3, g4⟩ := good_toks hG
          have hA5 : tokA x = (l.map zTok, 0, 0) := by
            unfold tokA
            rw [if_neg (by omega), hbl]
            exact Pl.tok_print (l.map zTok) 1 _ true g1 g2 (by omega)
          have ht5 : Calls Try.prog 11 #[.string x] w5 fun e w' => ∃ v tl, e = .returned (.tuple #[v, .int .i64 ((0 : Nat) : Int), .int .i64 0]) ∧ Toks w5.heap.size w' v tl ∧ tl.map asTok = l.map zTok ∧ Below w5.heap.size w5 w' := by
            have h := tokens_any x w5
            rw [hA5] at h
            exact h
          have HC : Hid (∀ z ∈ l, checkZ z = 0) := hG.1
          clear hpr hx0 hx1 hx2 g1 g2 g3 g4 hA5 hG hbl
          go_wp2_with fail
          refine ht5.mono ?_
          rintro e w6 ⟨v6, tl6, rfl, hT6, hm6, hb6⟩
          have hz := lexBack.back_all tl6 l HC.out hm6
          have hsm := same_true v6 _ l w6 (by rw [← hz]; exact hT6.seg) (hS5.below hb6)
          have hbf : Below w.heap.size w w6 := hbw5.trans (hb6.mono hbw5.size)
          clear hz hm6 ht5
          go_wp2_with (go_at_call 10; refine (num_any _ _).mono ?_; rintro e w7 ⟨rfl, hw7⟩; subst w7)
          refine hsm.mono ?_
          rintro e w7 ⟨rfl, hb7⟩
          have hbz : Below w.heap.size w w7 := hbf.trans (hb7.mono hbf.size)
          go_wp2
          go_ret
          exact ⟨rfl, hbz⟩
        · subst her
          have hx3 := hx0 (by decide)
          subst hx3
          have ht5 := tokens_any empty w5
          clear hpr hx0 hx1 hx2
          go_wp2_with fail
          refine ht5.mono ?_
          rintro e w6 ⟨v6, tl6, rfl, hT6, hm6, hb6⟩
          have hbf : Below w.heap.size w w6 := hbw5.trans (hb6.mono hbw5.size)
          go_wp2_with (go_at_call 10; refine (num_any _ _).mono ?_; rintro e w7 ⟨rfl, hw7⟩; subst w7)
          go_ret
          exact ⟨rfl, hbf⟩
  · have hL := hsh.2.1 her
    subst hL
    have hne : (er != 0) = true := by simp [her]
    go_enter Try.func4, Try.ntmps4
    go_wp2_with fail
    refine hal.mono ?_
    rintro e w1 ⟨rfl, hb1⟩
    go_wp2_with fail
    refine (ht w1).mono ?_
    rintro e w2 ⟨v, tl, rfl, hT, hm, hb2⟩
    have hbb : Below w.heap.size w w2 := hb1.trans (hb2.mono hb1.size)
    have htl : tl = [] := by simpa using hm
    subst htl
    obtain ⟨ad, cp, rfl⟩ := hT.shape
    simp only [List.length_nil]
    go_wp2_with (go_at_call 10; refine (num_any _ _).mono ?_; rintro e w7 ⟨rfl, hw7⟩; subst w7)
    go_ret
    exact ⟨rfl, hbb⟩
end Go.Proofs.Ytjeegcfdhoiplaa.lexMay
