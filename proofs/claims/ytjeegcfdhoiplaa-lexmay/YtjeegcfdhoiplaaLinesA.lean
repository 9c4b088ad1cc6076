/- LexLines: the walk. -/
import Derived.Test.YtjeegcfdhoiplaaYA
import Derived.Test.YtjeegcfdhoiplaaLPlainB
namespace Go.Proofs.Ytjeegcfdhoiplaa.lexLines
open Go.RowKit

theorem bl_append (s t : ByteArray) : bl (s ++ t) = bl s ++ bl t := by
  unfold bl
  rw [← List.map_append]
  simp

set_option maxHeartbeats 4000000 in
set_option maxRecDepth 4000 in
theorem walk (s : ByteArray) (_hs : s.size ≤ maxLen) (n : Int) (hn : (Lit.int .i64 n).wf = true) {w : World} :
    Calls Try.prog 6 #[.string s, .int .i64 n] w fun e w' => e = .returned (.bool true) ∧ Below w.heap.size w w' := by
  have hal := alive_any w
  have hr : IntKind.i64.min ≤ n ∧ n ≤ IntKind.i64.max := by simpa [Lit.wf] using hn
  have hmin : IntKind.i64.min = -9223372036854775808 := rfl
  have hmax : IntKind.i64.max = 9223372036854775807 := rfl
  have hr1 : -50 < n.tmod 50 ∧ n.tmod 50 < 50 := ⟨Int.lt_tmod_of_pos n (by decide), Int.tmod_lt_of_pos n (by decide)⟩
  obtain ⟨M, hM, hM5⟩ : ∃ M : Nat, (n.tmod 50 + 50).tmod 50 = (M : Int) ∧ M < 50 := by
    have h1 : (n.tmod 50 + 50).tmod 50 = (n.tmod 50 + 50) % 50 := Int.tmod_eq_emod_of_nonneg (by omega)
    exact ⟨((n.tmod 50 + 50) % 50).toNat, by rw [h1]; omega, by omega⟩
  by_cases h60 : (60000 : Int) < (s.size : Int)
  · go_enter Try.func6, Try.ntmps6
    go_wp2_with fail
    refine hal.mono ?_
    rintro e w1 ⟨rfl, hb1⟩
    go_wp2
    go_ret
    exact ⟨rfl, hb1⟩
  go_enter Try.func6, Try.ntmps6
  go_wp2_with fail
  refine hal.mono ?_
  rintro e w1 ⟨rfl, hb1⟩
  go_wp2_with fail
  clear hr1
  generalize (n.tmod 50 + 50).tmod 50 = mm at hM ⊢
  subst hM
  go_loopw [5, 6] (fun t i wr => ∃ (k : Nat) (x : ByteArray), k ≤ M ∧ i = .int .i64 k ∧ t = .string x ∧ bl x = List.replicate k 10 ++ bl s ∧ Below w.heap.size w wr) (fun _ i _ => M - (intOf i).toNat)
  case atStart => exact ⟨0, s, Nat.zero_le _, rfl, rfl, by simp, hb1⟩
  case round =>
    obtain ⟨k, x, hk, rfl, rfl, hx, hb⟩ := hrel
    have hxs : x.size = s.size + k := by
      rw [← bl_length, hx]
      simp [bl_length]
      omega
    by_cases hlt : k < M
    · go_wp2_with fail
      refine ⟨⟨k + 1, _, by omega, by go_num, rfl, ?_, hb⟩, by simp [intOf]; omega⟩
      rw [bl_append, hx, List.replicate_succ]
      rfl
    · have hkM : k = M := by omega
      subst hkM
      obtain ⟨L, ln, er, hR⟩ : ∃ L ln er, Pl.tok (bl s) 1 = (L, ln, er) := ⟨_, _, _, rfl⟩
      have hA1 : tokA s = (L, ln, er) := by unfold tokA; rw [if_neg (by omega), hR]
      have hA2 : tokA x = (L.map (Pl.addL k), (if er = 0 then 0 else ln + k), er) := by unfold tokA; rw [if_neg (by omega), hx, Pl.tok_down, hR]; rfl
      have hwi := Pl.tok_within (((bl s)).length + 1) (bl s) 1
      have hsh := Pl.tok_shape (((bl s)).length + 1) (bl s) 1
      have hR' : Pl.tokS ((bl s).length + 1) (bl s) 1 = (L, ln, er) := hR
      rw [hR', bl_length] at hwi
      rw [hR'] at hsh
      simp only at hsh
      have hln := hwi.2
      simp only at hln
      have ht1 : Calls Try.prog 11 #[.string s] wr fun e w' => ∃ v tl, e = .returned (.tuple #[v, .int .i64 (ln : Int), .int .i64 er]) ∧ Toks wr.heap.size w' v tl ∧ tl.map asTok = L ∧ Below wr.heap.size wr w' := by
        have h := tokens_any s wr
        rw [hA1] at h
        exact h
      have ht2 : ∀ w2, Calls Try.prog 11 #[.string x] w2 fun e w' => ∃ v tl, e = .returned (.tuple #[v, .int .i64 ((if er = 0 then 0 else ln + k : Nat) : Int), .int .i64 er]) ∧ Toks w2.heap.size w' v tl ∧ tl.map asTok = L.map (Pl.addL k) ∧ Below w2.heap.size w2 w' := by
        intro w2
        have h := tokens_any x w2
        rw [hA2] at h
        exact h
      clear hA1 hA2 hR hR' hx
      have hee : (er != er) = false := by simp
      go_wp2_with fail
      refine ht1.mono ?_
      rintro e w2 ⟨v1, tl1, rfl, hT1, hm1, hb2⟩
      go_wp2_with fail
      refine (ht2 w2).mono ?_
      rintro e w3 ⟨v2, tl2, rfl, hT2, hm2, hb3⟩
      have hS1 := (hT1.below hb3).seg
      have hS2 := hT2.seg
      have hbb : Below w.heap.size w w3 := (hb.trans (hb2.mono hb.size)).trans (hb3.mono (Nat.le_trans hb.size hb2.size))
      have hlen : tl2.length = tl1.length := by
        have h := congrArg List.length hm2
        rw [← hm1] at h
        simpa using h
      by_cases her : er = 0
      · subst her
        obtain rfl : ln = 0 := hsh.1 rfl
        obtain ⟨a, cap, rfl, h1, h2, h3, h4⟩ := hS1
        obtain ⟨b, cap', rfl, g1, g2, g3, g4⟩ := hS2
        simp only [List.length_map, if_true] at h1 g1 ⊢
        rw [hlen] at g1 ⊢
        generalize hN : tl1.length = N at h1 g1 hlen ⊢
        have hnn : ((N : Int) != (N : Int)) = false := by simp
        clear ht1 ht2
        go_wp2_with (go_at_call 10; refine (num_any _ _).mono ?_; rintro e w4 ⟨rfl, rfl⟩)
        unfold maxLen at h2
        go_loopw [13] (fun i wr => ∃ j : Nat, j ≤ N ∧ i = .int .i64 j ∧ Below w3.heap.size w3 wr) (fun i _ => N - (intOf i).toNat)
        case atStart => exact ⟨0, Nat.zero_le _, rfl, Below.refl _ _⟩
        case round =>
          obtain ⟨j, hj, rfl, hbj⟩ := hrel
          by_cases hlj : j < N
          · obtain ⟨t, ht⟩ : ∃ t, tl1[j]? = some t := ⟨tl1[j]'(by omega), by simp⟩
            obtain ⟨t', ht'⟩ : ∃ t', tl2[j]? = some t' := ⟨tl2[j]'(by omega), by simp⟩
            have htt : asTok t' = Pl.addL k (asTok t) := by
              have q := congrArg (fun l => l[j]?) hm2
              rw [← hm1] at q
              simpa [ht, ht'] using q
            have hwt := hwi.1 (asTok t) (by rw [← hm1]; exact List.mem_map_of_mem (List.mem_of_getElem? ht))
            obtain ⟨k1, x1, n1⟩ := t
            obtain ⟨k2, x2, n2⟩ := t'
            simp only [asTok, Pl.addL, Pl.Tok.mk.injEq] at htt hwt
            obtain ⟨rfl, hbx, rfl⟩ := htt
            obtain rfl : x2 = x1 := bl_inj hbx
            rcases a with _ | ⟨g, off, ar⟩
            · obtain ⟨h, _⟩ := h3 rfl
              simp at h
              subst h
              simp at ht
            rcases b with _ | ⟨g', off', ar'⟩
            · obtain ⟨h, _⟩ := g3 rfl
              simp at h
              subst h
              simp at ht'
            obtain ⟨rfl, q0, qc⟩ := h4 _ _ _ rfl (by rw [List.length_map]; omega)
            obtain ⟨rfl, r0, rc⟩ := g4 _ _ _ rfl (by rw [List.length_map]; omega)
            obtain ⟨q1, q2, q3⟩ := qc j _ (by rw [List.getElem?_map, ht]; rfl)
            obtain ⟨r1, r2, r3⟩ := rc j _ (by rw [List.getElem?_map, ht']; rfl)
            have Q1 := (hbj.cell (p := ⟨g, off + j * 3, none⟩) q0).trans q1
            have Q2 := (hbj.cell (p := ⟨g, off + j * 3 + 1, none⟩) q0).trans q2
            have Q3 := (hbj.cell (p := ⟨g, off + j * 3 + 2, none⟩) q0).trans q3
            have R1 := (hbj.cell (p := ⟨g', off' + j * 3, none⟩) r0).trans r1
            have R2 := (hbj.cell (p := ⟨g', off' + j * 3 + 1, none⟩) r0).trans r2
            have R3 := (hbj.cell (p := ⟨g', off' + j * 3 + 2, none⟩) r0).trans r3
            simp only [toZ] at Q1 Q2 Q3 R1 R2 R3
            have hd1 : ((k2 : Int) != (k2 : Int)) = false := by simp
            have hd3 : (((n1 + k : Nat) : Int) - (n1 : Int) != (k : Int)) = false := by rw [show ((n1 + k : Nat) : Int) - (n1 : Int) = (k : Int) by omega]; simp
            clear qc rc h3 h4 g3 g4 q1 q2 q3 r1 r2 r3 hm1 hm2
            go_wp2_with fail
            go_quiet (fail)
            go_wp2
            exact ⟨⟨j + 1, by omega, by go_num, below_drewN hbj nq⟩, by simp [intOf]; omega⟩
          · go_wp2
            go_ret
            exact ⟨rfl, hbb.trans (hbj.mono hbb.size)⟩
      · have hL : L = [] := hsh.2 her
        subst hL
        have hl1 : tl1 = [] := by simpa using hm1
        subst hl1
        have hl2 : tl2 = [] := by simpa using hlen
        subst hl2
        obtain ⟨a, cap, rfl, h1, h2, h3, h4⟩ := hS1
        obtain ⟨b, cap', rfl, g1, g2, g3, g4⟩ := hS2
        rw [if_neg her]
        have hne : (er != 0) = true := by simp; exact her
        have heq : (er == 0) = false := by simp; exact her
        have hd3 : (((ln + k : Nat) : Int) - (ln : Int) != (k : Int)) = false := by rw [show ((ln + k : Nat) : Int) - (ln : Int) = (k : Int) by omega]; simp
        simp only [List.map_nil, List.length_nil]
        clear ht1 ht2 h3 h4 g3 g4 hm1 hm2 hlen hwi hsh
        go_wp2_with (go_at_call 10; refine (num_any _ _).mono ?_; rintro e w4 ⟨rfl, rfl⟩)
        refine wp_loop_rounds 1 ?_
        rw [rounds_succ]
        go_wp2
        go_ret
        exact ⟨rfl, hbb⟩
end Go.Proofs.Ytjeegcfdhoiplaa.lexLines
