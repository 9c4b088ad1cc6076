/- The reference: Tokens. -/
import Derived.Test.YtdbgncdnffbhkaaGreatDoorCutRB
namespace Go.Proofs.YtdbgncdnffbhkaaGreatDoor
open Go.RowKit
set_option maxRecDepth 20000

/-- One more token behind those of the row. -/
theorem toks_app {B : Nat} {w wr w5 : World} {g cap k ln : Nat} {x : ByteArray} {tv : Value} {tl : List T3} {o : Obj} (hb : Below B w wr) (hBw : B ≤ wr.heap.size) (hT : Toks B wr tv tl)
    (hown5 : w5.ownsRow B 165 3 (.slice (some ⟨g, 0, none⟩) (tl.length + 1) cap) (tl.length + 1) (rowT tl ++ tcells (k, x, ln))) (hgr5 : (wr.alloc o).grownBy w5 tv.ownBlock) :
    Toks B w5 (.slice (some ⟨g, 0, none⟩) (tl.length + 1) cap) (tl ++ [(k, x, ln)]) ∧ Below B w w5 :=
  ⟨Toks.more hown5 rfl, below_grown (hb.alloc hBw o) hgr5 (by simp; omega) hT.since⟩

theorem tok_stop (s : ByteArray) (k ln : Nat) (h : k < s.size) (h35 : s[k].toNat = 35) : Pl.tok ((bl s).drop k) ln = Pl.tok ((bl s).drop (endOf notNl s k)) ln := by
  rw [drop_endOf, drop_at s k h, h35, Pl.tok_remark, List.dropWhile_cons, if_pos (by rfl)]
  rfl

set_option maxHeartbeats 4000000 in
set_option maxRecDepth 4000 in
theorem rtokens_any (s : ByteArray) (w : World) :
    Calls Tryz.prog 58 #[.string s] w fun e w' => ∃ v tl, e = .returned (.tuple #[v, .int .i64 ((tokA s).2.1 : Int), .int .i64 (tokA s).2.2]) ∧ Toks w.heap.size w' v tl ∧ tl.map asTok = (tokA s).1 ∧ Below w.heap.size w w' := by
  by_cases hbig : 65536 < s.size
  · have hA : tokA s = ([], 0, 5) := by unfold tokA; rw [if_pos hbig]
    have hbi : (65536 : Int) < (s.size : Int) := by omega
    rw [hA]
    go_enter Tryz.func58, Tryz.ntmps58
    go_wp2
    go_returns
    exact ⟨_, [], rfl, ⟨rfl, .inl ⟨rfl, rfl⟩⟩, rfl, Below.refl _ _⟩
  have hA : tokA s = Pl.tok (bl s) 1 := by unfold tokA; rw [if_neg hbig]
  have hbi : ¬ (65536 : Int) < (s.size : Int) := by omega
  rw [hA]
  clear hA
  have hsz : s.size ≤ 65536 := by omega
  generalize hR : Pl.tok (bl s) 1 = R
  obtain ⟨B, hB⟩ : ∃ B, B = w.heap.size := ⟨_, rfl⟩
  rw [← hB]
  obtain ⟨i0, hi, hz0, hz1, hz2⟩ := info_parts Tryz.info165
  go_enter Tryz.func58, Tryz.ntmps58
  go_wp2_with fail
  go_loopw [5, 6, 7] (fun tv l i wr => ∃ (k ln : Nat) (tl : List T3), k ≤ s.size ∧ tl.length ≤ k ∧ ln ≤ 1 + k ∧ i = .int .i64 k ∧ l = .int .i64 ln ∧ R = Pl.preT (tl.map asTok) (Pl.tok ((bl s).drop k) ln) ∧ Toks B wr tv tl ∧ Below B w wr) (fun _ _ i _ => s.size - (intOf i).toNat)
  case atStart => exact ⟨0, 1, [], Nat.zero_le _, Nat.le_refl _, by omega, rfl, rfl, by rw [List.drop_zero, List.map_nil, Pl.preT_nil]; exact hR.symm, ⟨rfl, .inl ⟨rfl, rfl⟩⟩, Below.refl _ _⟩
  case round =>
    obtain ⟨k, ln, tl, hk, htl, hln, rfl, rfl, hRk, hT, hb⟩ := hrel
    by_cases hlt : k < s.size
    · have hd := drop_at s k hlt
      have hsg := rsign_any s[k].toNat wr
      have hpt := rpart_any s[k].toNat wr
      by_cases h10 : s[k].toNat = 10
      · have hq : ((s[k].toNat : Int) == 10) = true := by rw [h10]; rfl
        have hRn : Hid (R = Pl.preT (tl.map asTok) (Pl.tok ((bl s).drop (k + 1)) (ln + 1))) := by
          show R = _
          rw [hRk, hd, h10, Pl.tok_nl]
        clear hRk hR hd h10 hsg hpt
        go_wp2
        exact ⟨⟨k + 1, ln + 1, tl, by omega, by omega, by omega, by go_num, by go_num, hRn.out, hT, hb⟩, by simp [intOf]; omega⟩
      have hq10 : ((s[k].toNat : Int) == 10) = false := by simp; omega
      cases hbl : Pl.isBlank s[k].toNat with
      | true =>
        have hRn : Hid (R = Pl.preT (tl.map asTok) (Pl.tok ((bl s).drop (k + 1)) ln)) := by
          show R = _
          rw [hRk, hd, Pl.tok_blank _ _ _ hbl]
        have fin : (∃ (k' ln' : Nat) (tl' : List T3), k' ≤ s.size ∧ tl'.length ≤ k' ∧ ln' ≤ 1 + k' ∧ Value.int .i64 ((k : Int) + 1) = .int .i64 k' ∧ Value.int .i64 (ln : Int) = .int .i64 ln' ∧ R = Pl.preT (tl'.map asTok) (Pl.tok ((bl s).drop k') ln') ∧ Toks B wr u5 tl' ∧ Below B w wr) ∧ s.size - (intOf (.int .i64 ((k : Int) + 1))).toNat < s.size - (intOf (.int .i64 (k : Int))).toNat :=
          ⟨⟨k + 1, ln, tl, by omega, by omega, by omega, by go_num, rfl, hRn.out, hT, hb⟩, by simp [intOf]; omega⟩
        have hor : s[k].toNat = 32 ∨ s[k].toNat = 9 ∨ s[k].toNat = 13 := by
          simp [Pl.isBlank] at hbl
          omega
        clear hRk hR hd h10 hsg hpt hbl
        rcases hor with h | h | h
        · have e1 : ((s[k].toNat : Int) == 32) = true := by rw [h]; rfl
          clear h
          go_wp2
          exact fin
        · have e1 : ((s[k].toNat : Int) == 32) = false := by rw [h]; rfl
          have e2 : ((s[k].toNat : Int) == 9) = true := by rw [h]; rfl
          clear h
          go_wp2
          exact fin
        · have e1 : ((s[k].toNat : Int) == 32) = false := by rw [h]; rfl
          have e2 : ((s[k].toNat : Int) == 9) = false := by rw [h]; rfl
          have e3 : ((s[k].toNat : Int) == 13) = true := by rw [h]; rfl
          clear h
          go_wp2
          exact fin
      | false =>
        obtain ⟨e1, e2, e3⟩ : ((s[k].toNat : Int) == 32) = false ∧ ((s[k].toNat : Int) == 9) = false ∧ ((s[k].toNat : Int) == 13) = false := by
          simp [Pl.isBlank] at hbl
          refine ⟨?_, ?_, ?_⟩ <;> simp <;> omega
        by_cases h35 : s[k].toNat = 35
        · have e4 : ((s[k].toNat : Int) == 35) = true := by rw [h35]; rfl
          have hRn : Hid (R = Pl.preT (tl.map asTok) (Pl.tok ((bl s).drop (endOf notNl s k)) ln)) := by
            show R = _
            rw [hRk, tok_stop s k ln hlt h35]
          have hE1 := endOf_le notNl s k hk
          have hE2 := endOf_ge notNl s k
          have hE3 : k < endOf notNl s k := by
            have := (endOf_step notNl s k (by rw [hd]; simp [seesB, notNl, h10])).2
            have := endOf_ge notNl s (k + 1)
            omega
          have hEE : Hid (endOf notNl s k = endOf notNl s k) := rfl
          generalize hE : endOf notNl s k = E at hRn hE1 hE2 hE3
          have HE : Hid (endOf notNl s k = E) := hE
          clear hRk hR hd h10 hsg hpt hbl h35 hE hEE
          go_wp2_with fail
          go_loopw [7] (fun i wr' => ∃ (j : Nat), k ≤ j ∧ j ≤ s.size ∧ i = .int .i64 j ∧ Hid (endOf notNl s j = E) ∧ wr = wr') (fun i _ => s.size - (intOf i).toNat)
          case atStart => exact ⟨k, Nat.le_refl _, hk, rfl, HE, rfl⟩
          case round =>
            obtain ⟨j, hj1, hj2, rfl, HJ, rfl⟩ := hrel
            by_cases hjl : j < s.size
            · have hdj := drop_at s j hjl
              by_cases hj10 : s[j].toNat = 10
              · have q1 : ((s[j].toNat : Int) != 10) = false := by rw [hj10]; rfl
                have hjE : j = E := by
                  have := endOf_stop notNl s j (by rw [hdj, hj10]; rfl)
                  rw [← HJ.out]
                  exact this.symm
                subst hjE
                clear hdj hj10
                go_wp2
                exact ⟨⟨j, ln, tl, by omega, by omega, by omega, rfl, rfl, hRn.out, hT, hb⟩, by simp [intOf]; omega⟩
              · have q1 : ((s[j].toNat : Int) != 10) = true := by simp; omega
                have HJ2 : Hid (endOf notNl s (j + 1) = E) := by
                  have := (endOf_step notNl s j (by rw [hdj]; simp [seesB, notNl, hj10])).2
                  show _ = E
                  rw [this]
                  exact HJ.out
                clear hdj hj10
                go_wp2
                exact ⟨⟨j + 1, by omega, by omega, by go_num, HJ2, by first | rfl | trivial⟩, by simp [intOf]; omega⟩
            · have hjs : j = s.size := by omega
              have hjE : j = E := by
                have := endOf_ge notNl s j
                have h2 := HJ.out
                omega
              subst hjE
              clear hjs
              go_wp2
              exact ⟨⟨j, ln, tl, by omega, by omega, by omega, rfl, rfl, hRn.out, hT, hb⟩, by simp [intOf]; omega⟩
        · have e4 : ((s[k].toNat : Int) == 35) = false := by simp; omega
          have hidx : ∀ x, bl x = bl x → True := fun _ _ => trivial
          clear hidx
          cases hsb : Pl.isSign s[k].toNat with
          | true =>
            rw [hsb] at hsg
            have hRn : Hid (R = Pl.preT ((tl ++ [(3, s.extract k (k + 1), ln)]).map asTok) (Pl.tok ((bl s).drop (k + 1)) ln)) := by
              show R = _
              rw [hRk, hd, Pl.tok_sign _ _ _ hsb, Pl.preT_cons, List.map_append]
              simp only [List.map_cons, List.map_nil, asTok]
              rw [bl_extract s k 1 (by omega), hd]
              rfl
            clear hRk hR hd hpt hbl h10 h35 hsb
            obtain ⟨ad, cp, rfl⟩ := hT.shape
            have hBw : B ≤ wr.heap.size := by have := hb.size; omega
            have hT3 := hT.below ((Below.refl _ wr).alloc (Nat.le_refl _) (.cells #[.int .i64 3, .string (s.extract k (k + 1)), .int .i64 (ln : Int)] 165))
            go_wp2_with (first | (go_at_call 98; refine hsg.mono ?_; rintro e w2 ⟨rfl, hw2⟩; subst w2) | (at_builtin; refine wpList_append_lies _ rfl (.tmp 61) (.tmp 69) 110 rfl B 165 i0 _ 3 32 Tryz.underlying110 hi hz0 hz1 hz2 rfl (by decide) (.slice ad tl.length cp) tl.length (rowT tl) rfl hT3 ⟨wr.heap.size, 0, none⟩ 1 1 (tcells (3, s.extract k (k + 1), ln)) rfl rfl (World.news_of_block (heap_alloc_new wr _)) (fun u hu => by simp [tcells] at hu; rcases hu with rfl | rfl | rfl <;> rfl) (by decide) (by unfold maxLen; omega) (by omega) (by simp; omega) _ rfl ?_; intro g cap w5 hown5 hgr5 hat5 hlt5))
            obtain ⟨hT5, hb5⟩ := toks_app hb hBw hT hown5 hgr5
            exact ⟨⟨k + 1, ln, tl ++ [(3, s.extract k (k + 1), ln)], by omega, by simp; omega, by omega, by go_num, rfl, hRn.out, hT5, hb5⟩, by simp [intOf]; omega⟩
          | false =>
            rw [hsb] at hsg
            have hst : Stop ((bl s).drop k) := by rw [hd]; exact ⟨h10, hbl, h35⟩
            cases hpb : Pl.isPart s[k].toNat with
            | false =>
              rw [hpb] at hpt
              have hRn : Hid (R = ([], ln, 32)) := by
                show R = _
                rw [hRk, hd, Pl.tok_else _ _ _ h10 hbl h35 hsb hpb]
                simp [Pl.preT]
              clear hRk hR hd hbl h10 h35 hsb hpb hst
              go_wp2_with (first | (go_at_call 98; refine hsg.mono ?_; rintro e w2 ⟨rfl, hw2⟩; subst w2) | (go_at_call 99; refine hpt.mono ?_; rintro e w2 ⟨rfl, hw2⟩; subst w2))
              go_returns
              rw [hRn.out]
              exact ⟨_, [], rfl, ⟨rfl, .inl ⟨rfl, rfl⟩⟩, rfl, hb⟩
            | true =>
              rw [hpb] at hpt
              have hE1 := endOf_le Pl.isPart s k hk
              have hE2 := endOf_ge Pl.isPart s k
              have hE3 : k < endOf Pl.isPart s k := by
                have := (endOf_step Pl.isPart s k (by rw [hd]; exact hpb)).2
                have := endOf_ge Pl.isPart s (k + 1)
                omega
              obtain ⟨W1, W2, hWE⟩ : ∃ W1 W2, Pl.wordE (((bl s).drop k).takeWhile Pl.isPart) = (W1, W2) := ⟨_, _, rfl⟩
              have hbx : bl (s.extract k (endOf Pl.isPart s k)) = ((bl s).drop k).takeWhile Pl.isPart := by
                have h1 := bl_extract s k (((bl s).drop k).takeWhile Pl.isPart).length hE1
                rw [Pl.take_while] at h1
                exact h1
              have hwd : Calls Tryz.prog 100 #[.string (s.extract k (endOf Pl.isPart s k))] wr fun e w' => e = .returned (.tuple #[.int .i64 (W1 : Int), .int .i64 W2]) ∧ w' = wr := by
                have hxs := extract_size s k _ hE2 hE1
                have h := rword_any (s.extract k (endOf Pl.isPart s k)) wr (by omega) (by omega)
                rw [hbx, hWE] at h
                exact h
              have hdr := drop_endOf Pl.isPart s k
              have hR0 : Hid (W2 = 0 → R = Pl.preT ((tl ++ [(W1, s.extract k (endOf Pl.isPart s k), ln)]).map asTok) (Pl.tok ((bl s).drop (endOf Pl.isPart s k)) ln)) := by
                intro hw
                rw [hRk, List.map_append]
                simp only [List.map_cons, List.map_nil, asTok]
                rw [hbx, hdr, ← Pl.preT_cons]
                rw [hd] at hWE ⊢
                rw [Pl.tok_part _ _ _ hpb, hWE]
                simp only [hw, if_true]
              have hR1 : Hid (W2 ≠ 0 → R = ([], ln, W2)) := by
                intro hw
                rw [hRk]
                rw [hd] at hWE ⊢
                rw [Pl.tok_part _ _ _ hpb, hWE]
                simp [hw, Pl.preT]
              generalize hE : endOf Pl.isPart s k = E at hE1 hE2 hE3 hwd hR0
              have HE : Hid (endOf Pl.isPart s k = E) := hE
              clear hRk hR hd hbl h10 h35 hsb hpb hst hE hdr hbx hWE
              obtain ⟨ad, cp, rfl⟩ := hT.shape
              have hBw : B ≤ wr.heap.size := by have := hb.size; omega
              go_wp2_with (first | (go_at_call 98; refine hsg.mono ?_; rintro e w2 ⟨rfl, hw2⟩; subst w2) | (go_at_call 99; refine hpt.mono ?_; rintro e w2 ⟨rfl, hw2⟩; subst w2))
              clear hsg hpt
              go_loopw [9] (fun i wr' => ∃ (j : Nat), k ≤ j ∧ j ≤ s.size ∧ i = .int .i64 j ∧ Hid (endOf Pl.isPart s j = E) ∧ wr = wr') (fun i _ => s.size - (intOf i).toNat)
              case atStart => exact ⟨k, Nat.le_refl _, hk, rfl, HE, rfl⟩
              case round =>
                obtain ⟨j, hj1, hj2, rfl, HJ, rfl⟩ := hrel
                by_cases hjl : j < s.size
                · have hdj := drop_at s j hjl
                  have hpj := rpart_any s[j].toNat wr
                  cases hpb : Pl.isPart s[j].toNat with
                  | true =>
                    rw [hpb] at hpj
                    have HJ2 : Hid (endOf Pl.isPart s (j + 1) = E) := by
                      have := (endOf_step Pl.isPart s j (by rw [hdj]; exact hpb)).2
                      show _ = E
                      rw [this]
                      exact HJ.out
                    clear hdj
                    go_wp2_with (go_at_call 99; refine hpj.mono ?_; rintro e w2 ⟨rfl, hw2⟩; subst w2)
                    exact ⟨⟨j + 1, by omega, by omega, by go_num, HJ2, by first | rfl | trivial⟩, by simp [intOf]; omega⟩
                  | false =>
                    rw [hpb] at hpj
                    have hjE : j = E := by
                      have := endOf_stop Pl.isPart s j (by rw [hdj]; exact hpb)
                      rw [← HJ.out]
                      exact this.symm
                    subst hjE
                    clear hdj
                    go_wp2_with fail
                    refine hpj.mono ?_
                    rintro e w2 ⟨rfl, hw2⟩
                    subst w2
                    go_wp2_with fail
                    refine hwd.mono ?_
                    rintro e w2 ⟨rfl, hw2⟩
                    subst w2
                    by_cases hw0 : W2 = 0
                    · subst hw0
                      have hT3 := hT.below ((Below.refl _ wr).alloc (Nat.le_refl _) (.cells #[.int .i64 (W1 : Int), .string (s.extract k j), .int .i64 (ln : Int)] 165))
                      go_wp2_with (at_builtin; refine wpList_append_lies _ rfl (.tmp 101) (.tmp 109) 110 rfl B 165 i0 _ 3 32 Tryz.underlying110 hi hz0 hz1 hz2 rfl (by decide) (.slice ad tl.length cp) tl.length (rowT tl) rfl hT3 ⟨wr.heap.size, 0, none⟩ 1 1 (tcells (W1, (s.extract k j), ln)) rfl rfl (World.news_of_block (heap_alloc_new wr _)) (fun u hu => by simp [tcells] at hu; rcases hu with rfl | rfl | rfl <;> rfl) (by decide) (by unfold maxLen; omega) (by omega) (by simp; omega) _ rfl ?_; intro g cap w5 hown5 hgr5 hat5 hlt5)
                      obtain ⟨hT5, hb5⟩ := toks_app hb hBw hT hown5 hgr5
                      exact ⟨⟨j, ln, tl ++ [(W1, (s.extract k j), ln)], by omega, by simp; omega, by omega, rfl, rfl, hR0.out trivial, hT5, hb5⟩, by simp [intOf]; omega⟩
                    · have hne : (W2 != 0) = true := by simp; exact hw0
                      go_wp2
                      go_returns
                      rw [hR1.out hw0]
                      exact ⟨_, [], rfl, ⟨rfl, .inl ⟨rfl, rfl⟩⟩, rfl, hb⟩
                · have hjs : j = s.size := by omega
                  have hjE : j = E := by
                    have := endOf_ge Pl.isPart s j
                    have h2 := HJ.out
                    omega
                  subst hjE
                  clear hjs
                  go_wp2_with fail
                  refine hwd.mono ?_
                  rintro e w2 ⟨rfl, hw2⟩
                  subst w2
                  by_cases hw0 : W2 = 0
                  · subst hw0
                    have hT3 := hT.below ((Below.refl _ wr).alloc (Nat.le_refl _) (.cells #[.int .i64 (W1 : Int), .string (s.extract k j), .int .i64 (ln : Int)] 165))
                    go_wp2_with (at_builtin; refine wpList_append_lies _ rfl (.tmp 101) (.tmp 109) 110 rfl B 165 i0 _ 3 32 Tryz.underlying110 hi hz0 hz1 hz2 rfl (by decide) (.slice ad tl.length cp) tl.length (rowT tl) rfl hT3 ⟨wr.heap.size, 0, none⟩ 1 1 (tcells (W1, (s.extract k j), ln)) rfl rfl (World.news_of_block (heap_alloc_new wr _)) (fun u hu => by simp [tcells] at hu; rcases hu with rfl | rfl | rfl <;> rfl) (by decide) (by unfold maxLen; omega) (by omega) (by simp; omega) _ rfl ?_; intro g cap w5 hown5 hgr5 hat5 hlt5)
                    obtain ⟨hT5, hb5⟩ := toks_app hb hBw hT hown5 hgr5
                    exact ⟨⟨j, ln, tl ++ [(W1, (s.extract k j), ln)], by omega, by simp; omega, by omega, rfl, rfl, hR0.out trivial, hT5, hb5⟩, by simp [intOf]; omega⟩
                  · have hne : (W2 != 0) = true := by simp; exact hw0
                    go_wp2
                    go_returns
                    rw [hR1.out hw0]
                    exact ⟨_, [], rfl, ⟨rfl, .inl ⟨rfl, rfl⟩⟩, rfl, hb⟩
    · have hke : k = s.size := by omega
      have hRe : Hid (R = (tl.map asTok, 0, 0)) := by
        show R = _
        rw [hRk, hke, drop_end, Pl.tok_nil]
        simp [Pl.preT]
      clear hRk hR
      obtain ⟨ad, cp, rfl⟩ := hT.shape
      go_wp2
      go_returns
      rw [hRe.out]
      exact ⟨_, tl, rfl, hT, rfl, hb⟩
end Go.Proofs.YtdbgncdnffbhkaaGreatDoor
