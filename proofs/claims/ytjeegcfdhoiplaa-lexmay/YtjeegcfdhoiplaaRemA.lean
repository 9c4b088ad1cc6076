/- LexRemarks: the walk. -/
import Derived.Test.YtjeegcfdhoiplaaYA
import Derived.Test.YtjeegcfdhoiplaaRemP
import Derived.Test.YtjeegcfdhoiplaaLinesA
namespace Go.Proofs.Ytjeegcfdhoiplaa

theorem asTok_inj {l m : List T3} (h : l.map asTok = m.map asTok) : l = m := by
  refine (List.map_inj_right (fun x y hxy => ?_)).1 h
  obtain ⟨a, b, c⟩ := x
  obtain ⟨a', b', c'⟩ := y
  simp only [asTok, Pl.Tok.mk.injEq] at hxy
  obtain ⟨h1, h2, h3⟩ := hxy
  rw [h1, bl_inj h2, h3]
theorem bl_one (s : ByteArray) (k : Nat) (h : k < s.size) : bl (s.extract k (k + 1)) = [s[k].toNat] := by
  rw [bl_extract s k 1 (by omega), drop_at s k h]
  rfl
theorem take_bl (s : ByteArray) (k : Nat) (h : k < s.size) : (bl s).take (k + 1) = (bl s).take k ++ [s[k].toNat] := by
  have hl : k < (bl s).length := by rw [bl_length]; exact h
  rw [List.take_succ_eq_append_getElem hl]
  congr 2
  simp only [bl, List.getElem_map, Array.getElem_toList]
  rfl
end Go.Proofs.Ytjeegcfdhoiplaa

namespace Go.Proofs.Ytjeegcfdhoiplaa.lexRemarks
open Go.RowKit
open Go.Proofs.Ytjeegcfdhoiplaa.lexLines (bl_append)

set_option maxHeartbeats 4000000 in
set_option maxRecDepth 4000 in
theorem walk (s : ByteArray) (_hs : s.size ≤ maxLen) (r : ByteArray) (_hr : r.size ≤ maxLen) {w : World} :
    Calls Try.prog 5 #[.string s, .string r] w fun e w' => e = .returned (.bool true) ∧ Below w.heap.size w w' := by
  have hal := alive_any w
  by_cases h20 : (2000 : Int) < (s.size : Int)
  · go_enter Try.func5, Try.ntmps5
    go_wp2_with fail
    refine hal.mono ?_
    rintro e w1 ⟨rfl, hb1⟩
    go_wp2
    go_ret
    exact ⟨rfl, hb1⟩
  by_cases h21 : (20 : Int) < (r.size : Int)
  · go_enter Try.func5, Try.ntmps5
    go_wp2_with fail
    refine hal.mono ?_
    rintro e w1 ⟨rfl, hb1⟩
    go_wp2
    go_ret
    exact ⟨rfl, hb1⟩
  go_enter Try.func5, Try.ntmps5
  go_wp2_with fail
  refine hal.mono ?_
  rintro e w1 ⟨rfl, hb1⟩
  go_wp2_with fail
  go_loopw [5] (fun i wr => ∃ (k : Nat), k ≤ r.size ∧ i = .int .i64 k ∧ (∀ c ∈ (bl r).take k, c ≠ 10) ∧ Below w.heap.size w wr) (fun i _ => r.size - (intOf i).toNat)
  case atStart => exact ⟨0, Nat.zero_le _, rfl, by simp, hb1⟩
  case round =>
    obtain ⟨k, hk, rfl, hc, hb2⟩ := hrel
    by_cases hlt : k < r.size
    · by_cases h10 : r[k].toNat = 10
      · have hq : ((r[k].toNat : Int) == 10) = true := by rw [h10]; rfl
        go_wp2
        go_ret
        exact ⟨rfl, hb2⟩
      · have hq : ((r[k].toNat : Int) == 10) = false := by simp; omega
        have ht := take_bl r k hlt
        clear h10
        go_wp2
        refine ⟨⟨k + 1, by omega, by go_num, ?_, hb2⟩, by simp [intOf]; omega⟩
        rw [ht]
        intro c hcc
        rcases List.mem_append.1 hcc with hcc | hcc
        · exact hc c hcc
        · simp at hcc
          subst hcc
          intro h
          rw [h] at hq
          simp at hq
    · have hke : k = r.size := by omega
      rw [hke, List.take_of_length_le (by rw [bl_length]; exact Nat.le_refl _)] at hc
      have HC : Hid (∀ c ∈ bl r, c ≠ 10) := hc
      have hrl := bl_length r
      have hsl := bl_length s
      clear hc
      go_wp2_with fail
      go_loopw [6, 7, 8] (fun t b i wr => ∃ (k : Nat) (x : ByteArray), k ≤ s.size ∧ i = .int .i64 k ∧ t = .string x ∧ b = .bool (Pl.inF false ((bl s).take k)) ∧ bl x = 32 :: 9 :: Pl.mid (bl r) ((bl s).take k) ∧ Below w.heap.size w wr) (fun _ _ i _ => s.size - (intOf i).toNat)
      case atStart => exact ⟨0, _, Nat.zero_le _, rfl, rfl, rfl, rfl, hb2⟩
      case round =>
        obtain ⟨k, x, hk, rfl, rfl, rfl, hx, hb3⟩ := hrel
        have hxs : x.size ≤ 2 + 2000 * 26 := by
          have h1 := Pl.mid_length (bl r) ((bl s).take k)
          have h2 : ((bl s).take k).length ≤ 2000 := by rw [List.length_take]; omega
          have h3 : ((bl s).take k).length * ((bl r).length + 6) ≤ 2000 * 26 := Nat.mul_le_mul h2 (by omega)
          rw [← bl_length, hx]
          simp only [List.length_cons]
          omega
        by_cases hlt : k < s.size
        · have ht := take_bl s k hlt
          by_cases h10 : s[k].toNat = 10
          · have hq : ((s[k].toNat : Int) == 10) = true := by rw [h10]; rfl
            have hq2 : ((s[k].toNat : Int) == 35) = false := by rw [h10]; rfl
            clear h10
            go_wp2
            refine ⟨⟨k + 1, _, by omega, by go_num, rfl, ?_, ?_, hb3⟩, by simp [intOf]; omega⟩
            · rw [ht, Pl.inF_append]
              have h1 : s[k].toNat = 10 := by have := eq_of_beq hq; omega
              rw [h1]
              rfl
            · have h1 : s[k].toNat = 10 := by have := eq_of_beq hq; omega
              simp only [bl_append, bl_one s k hlt, hx]
              rw [ht, Pl.mid_append, h1]
              simp [Pl.mid]
              rfl
          · have hq : ((s[k].toNat : Int) == 10) = false := by simp; omega
            by_cases h35 : s[k].toNat = 35
            · have hq2 : ((s[k].toNat : Int) == 35) = true := by rw [h35]; rfl
              clear h10 h35
              go_wp2
              refine ⟨⟨k + 1, _, by omega, by go_num, rfl, ?_, ?_, hb3⟩, by simp [intOf]; omega⟩
              · rw [ht, Pl.inF_append]
                have h1 : s[k].toNat = 35 := by have := eq_of_beq hq2; omega
                rw [h1]
                rfl
              · have h1 : s[k].toNat = 35 := by have := eq_of_beq hq2; omega
                simp only [bl_append, bl_one s k hlt, hx]
                rw [ht, Pl.mid_append, h1]
                simp [Pl.mid]
            · have hq2 : ((s[k].toNat : Int) == 35) = false := by simp; omega
              have H10 : Hid (s[k].toNat ≠ 10) := h10
              have H35 : Hid (s[k].toNat ≠ 35) := h35
              clear h10 h35
              go_wp2
              refine ⟨⟨k + 1, _, by omega, by go_num, rfl, ?_, ?_, hb3⟩, by simp [intOf]; omega⟩
              · rw [ht, Pl.inF_append]
                simp [Pl.inF, H10.out, H35.out]
              · simp only [bl_append, bl_one s k hlt, hx]
                rw [ht, Pl.mid_append]
                simp [Pl.mid, H10.out]
        · have hke : k = s.size := by omega
          rw [hke, List.take_of_length_le (by rw [bl_length]; exact Nat.le_refl _)] at hx ⊢
          have ht1 := tokens_any s wr
          have HS : s.size ≤ 2000 := by omega
          cases hin : Pl.inF false (bl s) with
          | true =>
            have hA : tokA x = tokA s := by
              unfold tokA
              rw [if_neg (by omega), if_neg (by omega), hx, Pl.tok_blank 32 _ _ rfl, Pl.tok_blank 9 _ _ rfl]
              have h := (Pl.tok_weave (bl r) HC.out _ (bl s) (Nat.le_refl _) 1).1
              unfold Pl.weave Pl.ends at h
              rw [hin] at h
              simpa using h
            go_wp2_with fail
            refine ht1.mono ?_
            rintro e w2 ⟨v1, tl1, rfl, hT1, hm1, hb4⟩
            go_wp2_with fail
            refine (tokens_any x w2).mono ?_
            rintro e w3 ⟨v2, tl2, rfl, hT2, hm2, hb5⟩
            rw [hA] at hm2 ⊢
            obtain rfl : tl1 = tl2 := asTok_inj (hm1.trans hm2.symm)
            have hsm := same_true v1 v2 _ w3 (hT1.below hb5).seg hT2.seg
            generalize ((tokA s).2.1 : Int) = ln
            generalize (tokA s).2.2 = er
            have he1 : (er == er) = true := by simp
            have he2 : (ln == ln) = true := by simp
            go_wp2_with fail
            refine hsm.mono ?_
            rintro e w4 ⟨rfl, hb6⟩
            have hbb : Below w.heap.size w w4 := ((hb3.trans (hb4.mono hb3.size)).trans (hb5.mono (Nat.le_trans hb3.size hb4.size))).trans (hb6.mono (Nat.le_trans (Nat.le_trans hb3.size hb4.size) hb5.size))
            go_wp2
            go_ret
            exact ⟨rfl, hbb⟩
          | false =>
            have hbx : bl (x ++ { data := #[32, 35] } ++ r) = 32 :: 9 :: Pl.weave (bl r) false (bl s) := by
              simp only [bl_append, hx, Pl.weave, Pl.ends, hin, Bool.false_eq_true, if_false]
              simp
              rfl
            have hA : tokA (x ++ { data := #[32, 35] } ++ r) = tokA s := by
              have hsz : (x ++ { data := #[32, 35] } ++ r).size ≤ 65536 := by
                simp only [ByteArray.size_append]
                have : ({ data := #[32, 35] } : ByteArray).size = 2 := rfl
                omega
              unfold tokA
              rw [if_neg (by omega), if_neg (by omega), hbx, Pl.tok_blank 32 _ _ rfl, Pl.tok_blank 9 _ _ rfl]
              exact (Pl.tok_weave (bl r) HC.out _ (bl s) (Nat.le_refl _) 1).1
            go_wp2_with fail
            refine ht1.mono ?_
            rintro e w2 ⟨v1, tl1, rfl, hT1, hm1, hb4⟩
            go_wp2_with fail
            refine (tokens_any _ w2).mono ?_
            rintro e w3 ⟨v2, tl2, rfl, hT2, hm2, hb5⟩
            rw [hA] at hm2 ⊢
            obtain rfl : tl1 = tl2 := asTok_inj (hm1.trans hm2.symm)
            have hsm := same_true v1 v2 _ w3 (hT1.below hb5).seg hT2.seg
            generalize ((tokA s).2.1 : Int) = ln
            generalize (tokA s).2.2 = er
            have he1 : (er == er) = true := by simp
            have he2 : (ln == ln) = true := by simp
            go_wp2_with fail
            refine hsm.mono ?_
            rintro e w4 ⟨rfl, hb6⟩
            have hbb : Below w.heap.size w w4 := ((hb3.trans (hb4.mono hb3.size)).trans (hb5.mono (Nat.le_trans hb3.size hb4.size))).trans (hb6.mono (Nat.le_trans (Nat.le_trans hb3.size hb4.size) hb5.size))
            go_wp2
            go_ret
            exact ⟨rfl, hbb⟩
end Go.Proofs.Ytjeegcfdhoiplaa.lexRemarks
