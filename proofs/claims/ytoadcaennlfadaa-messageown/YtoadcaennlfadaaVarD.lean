/- varint: what is handed over; the reference's Put, Size, Get. -/
import Derived.Test.YtoadcaennlfadaaVarC
import Derived.BigQuiet
import Derived.Deep.QuietTactic
namespace Go.Proofs.Ytoadcaennlfadaa
open Go.RowKit
set_option maxRecDepth 20000

theorem seg_one (w : World) (n : Int) : Seg .u64 (w.alloc (.cells #[.int .u64 n] 58)) (.slice (some ⟨w.heap.size, 0, none⟩) 1 1) [n] := by
  refine ⟨some ⟨w.heap.size, 0, none⟩, 1, rfl, Nat.le_refl _, by unfold maxLen; omega, fun h => (by cases h), fun x hx i hi => ?_⟩
  cases hx
  have := cell_one_new w (.int .u64 n) 58 i (.int .u64 n)
  simp at hi
  subst hi
  simpa using this

abbrev u64s (l : List Int) : List Value := l.map (Value.int .u64)

theorem Seg.own64 {w : World} {B : Nat} {v : Value} {l : List Int} (h : w.ownsRow B 58 1 v l.length (u64s l)) : ∃ a cap, v = .slice a l.length cap := by
  obtain ⟨a, cap, hv, _⟩ := Seg.own h
  exact ⟨a, cap, hv⟩

theorem get_is (v : Value) (l : List Int) (p n q er : Int) (w : World) (hs : Seg .u8 w v l) (ho : ∀ z ∈ l, 0 ≤ z ∧ z ≤ 255) (hg : Pl.getI l p = (n, q, er)) (hp0 : -9223372036854775808 ≤ p) (hp1 : p ≤ 9223372036854775807) :
    Calls Try.prog 67 #[v, .int .i64 p] w fun e w' => e = .returned (.tuple #[.int .u64 n, .int .i64 q, .int .i64 er]) ∧ w = w' := by
  refine (get_any v l p w hs ho hp0 hp1).mono ?_
  rintro e w' ⟨rfl, rfl⟩
  exact ⟨by rw [hg]; rfl, rfl⟩

set_option maxHeartbeats 400000 in
theorem rput_any (v : Value) (l : List Int) (n : Int) (w : World) (hs : Seg .u8 w v l) (h0 : 0 ≤ n) (h1 : n ≤ 18446744073709551615) (hlen : l.length + 10 ≤ 140737488355328) :
    Calls Try.prog 29 #[v, .int .u64 n] w fun e w' => ∃ v', e = .returned v' ∧ w'.ownsRow w.heap.size 5 1 v' (l ++ Pl.enc 9 n).length (u8s (l ++ Pl.enc 9 n)) ∧ Below w.heap.size w w' := by
  obtain ⟨i0, hi, hz0, hz1, hz2⟩ := info_parts Try.info5
  have hl := Pl.enc_len_le 9 n
  go_enter Try.func29, Try.ntmps29
  go_wp2_with (go_at_call 51; refine (copied_any v l w hs (by omega)).mono ?_; rintro e w0 ⟨v0, rfl, hown, hbel0⟩)
  go_loopw [5, 1] (fun a s wr => ∃ (f : Nat) (m : Int) (l' : List Int), f ≤ 9 ∧ 0 ≤ m ∧ m < Pl.lim f ∧ s = .int .u64 m ∧ wr.ownsRow w.heap.size 5 1 a l'.length (u8s l') ∧ Hid (l' ++ Pl.enc f m = l ++ Pl.enc 9 n) ∧ Below w.heap.size w wr) (fun _ s _ => (intOf s).toNat)
  case atStart => exact ⟨9, n, l, by omega, h0, by rw [Pl.lim9]; omega, rfl, hown, (rfl : _ = _), hbel0⟩
  case round =>
    obtain ⟨f, m, l', hf, hm0, hm1, rfl, hown', HE, hbel⟩ := hrel
    have hll := Pl.enc_len_pos f m
    have hlen2 : l'.length + (Pl.enc f m).length ≤ l.length + 10 := by
      have := congrArg List.length HE.out
      simp only [List.length_append] at this
      omega
    have hsz := hbel.size
    by_cases hlt : m < 128
    · go_wp2_with (at_builtin; refine wpList_append_own _ rfl _ _ 22 rfl w.heap.size 5 i0 (.int .u8 0) 1 1 Try.underlying22 hi hz0 hz1 hz2 rfl (by decide) _ _ _ rfl (hown'.alloc _) ⟨wr.heap.size, 0, none⟩ 1 1 [.int .u8 m] rfl rfl (cell_one_new _ _ _) ?c2 ?c3 ?c4 ?c5 ?_)
      case c2 => first | rfl | (intro u hu; simp at hu; subst hu; rfl)
      case c3 => unfold maxLen; omega
      case c4 => omega
      case c5 => first | omega | (simp; omega)
      intro v' w1 hown1 hgrow _
      have hb1 : Below w.heap.size w w1 := (hbel.alloc (by omega) _).grown hgrow (by simp; omega) (fun k hk => (hown'.lt k hk).1)
      have H1 := HE.out
      rw [Pl.enc_lt hlt] at H1
      have HH : Hid (l ++ Pl.enc 9 n = l' ++ [m]) := H1.symm
      clear H1 hown' hgrow hown HE
      go_wp2
      go_ret
      refine ⟨v', rfl, ?_, hb1⟩
      rw [HH.out]
      simpa [u8s] using hown1
    · have hle : m ≤ 18446744073709551615 := by have := Pl.lim_le hf; omega
      have hge : 128 ≤ m := by omega
      have hf1 : ∃ g, f = g + 1 := by
        cases f with
        | zero => simp [Pl.lim] at hm1; omega
        | succ g => exact ⟨g, rfl⟩
      obtain ⟨g, rfl⟩ := hf1
      have hm2 : m / 128 < Pl.lim g := by simp only [Pl.lim] at hm1; omega
      go_wp2_with (at_builtin; refine wpList_append_own _ rfl _ _ 22 rfl w.heap.size 5 i0 (.int .u8 0) 1 1 Try.underlying22 hi hz0 hz1 hz2 rfl (by decide) _ _ _ rfl (hown'.alloc _) ⟨wr.heap.size, 0, none⟩ 1 1 [.int .u8 (m % 128 + 128)] rfl rfl (cell_one_new _ _ _) ?d2 ?d3 ?d4 ?d5 ?_)
      case d2 => first | rfl | (intro u hu; simp at hu; subst hu; rfl)
      case d3 => unfold maxLen; omega
      case d4 => omega
      case d5 => first | omega | (simp; omega)
      intro v' w1 hown1 hgrow _
      have hb1 : Below w.heap.size w w1 := (hbel.alloc (by omega) _).grown hgrow (by simp; omega) (fun k hk => (hown'.lt k hk).1)
      have H1 := HE.out
      rw [Pl.enc_ge hge] at H1
      have HH : Hid ((l' ++ [m % 128 + 128]) ++ Pl.enc g (m / 128) = l ++ Pl.enc 9 n) := by show _ = _; rw [← H1]; simp
      have HO : w1.ownsRow w.heap.size 5 1 v' (l' ++ [m % 128 + 128]).length (u8s (l' ++ [m % 128 + 128])) := by simpa [u8s] using hown1
      clear H1 hown' hgrow hown HE hown1
      go_wp2
      go_roundw
      case rel => exact ⟨g, m / 128, l' ++ [m % 128 + 128], by omega, by omega, hm2, rfl, HO, HH, hb1⟩
      case measure => simp [intOf]; omega

theorem wrap_u64 (x : Int) (h0 : 0 ≤ x) (h1 : x ≤ 18446744073709551615) : IntKind.u64.wrap x = x := by
  simp only [IntKind.wrap, IntKind.bits, IntKind.signed]
  simp
  omega

set_option maxHeartbeats 2000000 in
theorem rget_any (v : Value) (l : List Int) (p : Int) (w : World) (hs : Seg .u8 w v l) (ho : ∀ z ∈ l, 0 ≤ z ∧ z ≤ 255) (hp0 : -9223372036854775808 ≤ p) (hp1 : p ≤ 9223372036854775807) :
    Calls Try.prog 37 #[v, .int .i64 p] w fun e w' => e = .returned (trip (Pl.getI l p)) ∧ w = w' := by
  obtain ⟨a, cap, rfl, h1, h2, h3, h4⟩ := hs
  unfold maxLen at h2
  by_cases hr : p < 0 ∨ (l.length : Int) < p
  · have HG : Hid (Pl.getI l p = (0, 0, 4)) := by show _ = _; unfold Pl.getI; rw [if_pos hr]
    rcases hr with hr | hr
    · go_enter Try.func37, Try.ntmps37
      go_wp2
      go_ret3
      exact ⟨by rw [HG.out]; rfl, rfl⟩
    · have hnn : ¬ p < 0 := by omega
      go_enter Try.func37, Try.ntmps37
      go_wp2
      go_ret3
      exact ⟨by rw [HG.out]; rfl, rfl⟩
  · have HG : Hid (Pl.getI l p = Pl.getS (l.drop p.toNat) 0 p 0) := by show _ = _; unfold Pl.getI; rw [if_neg hr]
    have hq0 : 0 ≤ p := by omega
    have hq1 : p ≤ (l.length : Int) := by omega
    clear hr
    obtain ⟨q, rfl⟩ := Int.eq_ofNat_of_zero_le hq0
    rw [Int.toNat_natCast] at HG
    have hq : q ≤ l.length := by omega
    have hd1 : decide ((q : Int) < 0) = false := decide_eq_false (by omega)
    have hd2 : decide (l.length < q) = false := decide_eq_false (by omega)
    have hd3 : decide ((l.length : Int) < (q : Int)) = false := decide_eq_false (by omega)
    go_enter Try.func37, Try.ntmps37
    go_wp2
    go_loop [1, 7, 8, 9] (fun t n s i => ∃ (k : Nat) (acc : Int), q + k ≤ l.length ∧ k ≤ 9 ∧ t = .int .i64 ((q : Int) + (k : Int)) ∧ n = .int .u64 acc ∧ s = .int .u64 (Pl.sc k) ∧ i = .int .i64 k ∧ 0 ≤ acc ∧ acc < Pl.sc k ∧ Hid (Pl.getI l q = Pl.getS (l.drop (q + k)) k (q + k) acc)) (fun _ _ _ i => 9 - (intOf i).toNat)
    case atStart => exact ⟨0, 0, by omega, by omega, by simp, rfl, rfl, rfl, by omega, by decide, by show _ = _; rw [HG.out]; simp⟩
    case round =>
      obtain ⟨k, acc, hk, hk9, rfl, rfl, rfl, rfl, ha0, ha1, HE⟩ := hrel
      have hkb : (k : Int) ≤ 9 := by omega
      have hk10 : ((k : Int) == 10) = false := by simp; omega
      by_cases hend : q + k = l.length
      · have HF : Hid (Pl.getI l q = (0, 0, 8)) := by show _ = _; rw [HE.out, List.drop_eq_nil_of_le (by omega)]; rfl
        have hb : ((q : Int) + (k : Int) == (l.length : Int)) = true := by simp; omega
        have HX : Hid (q + k = l.length) := hend
        clear hend
        go_wp2
        go_ret3
        exact ⟨by rw [HF.out]; rfl, rfl⟩
      · have hb : ((q : Int) + (k : Int) == (l.length : Int)) = false := by simp; omega
        have hlt : q + k < l.length := by omega
        obtain ⟨b, off, rfl, hbb, hc⟩ := seg_at (by omega) h3 h4
        have hck := hc (q + k) (by omega)
        have hox := ho (l.getD (q + k) 0) (getD_mem (by omega))
        have hdr : l.drop (q + k) = l.getD (q + k) 0 :: l.drop (q + (k + 1)) := by
          rw [List.drop_eq_getElem_cons (by omega), getD_at (by omega)]; rfl
        generalize hx : l.getD (q + k) 0 = c at *
        have HD : Hid (l.drop (q + k) = c :: l.drop (q + (k + 1))) := hdr
        clear hdr hx hc ho h3 h4 hend
        obtain ⟨hc0, hc1⟩ := hox
        cases hmb : Pl.mayB k c
        · have HF : Hid (Pl.getI l q = (0, 0, 21)) := by show _ = _; rw [HE.out, HD.out]; simp [Pl.getS, hmb]
          have hcs : (k = 9 ∧ 1 < c % 128) ∨ (k = 9 ∧ c % 128 ≤ 1 ∧ 128 ≤ c) ∨ (1 ≤ k ∧ c = 0) := by
            unfold Pl.mayB at hmb
            by_cases h9 : k = 9
            · rw [if_pos h9] at hmb; simp at hmb; omega
            · rw [if_neg h9] at hmb; simp at hmb; omega
          clear hmb
          rcases hcs with ⟨rfl, hx⟩ | ⟨rfl, hx, hy⟩ | ⟨hx, rfl⟩
          · go_wp2
            go_ret3
            exact ⟨by rw [HF.out]; rfl, rfl⟩
          · have hdc : decide (c < 128) = false := decide_eq_false (by omega)
            go_wp2
            go_ret3
            exact ⟨by rw [HF.out]; rfl, rfl⟩
          · have hkp : (0 : Int) < (k : Int) := by omega
            by_cases h9 : k = 9
            · subst h9
              go_wp2
              go_ret3
              exact ⟨by rw [HF.out]; rfl, rfl⟩
            · have hb9 : ((k : Int) == 9) = false := by simp; omega
              go_wp2
              go_ret3
              exact ⟨by rw [HF.out]; rfl, rfl⟩
        · have hw1 := Pl.dig_lt k c hk9 hmb
          have hw2 := Pl.acc_bd k acc c hk9 ha0 ha1 hmb
          have hw3 := Pl.acc_next k acc c ha0 ha1
          have hm0 : 0 ≤ c % 128 * Pl.sc k := Int.mul_nonneg (by omega) (by have := Pl.sc_pos k; omega)
          have hm1 : IntKind.u64.wrap (c % 128 * Pl.sc k) = c % 128 * Pl.sc k := wrap_u64 _ hm0 (by omega)
          have hm2 : IntKind.u64.wrap (acc + c % 128 * Pl.sc k) = acc + c % 128 * Pl.sc k := wrap_u64 _ hw3.1 hw2
          by_cases h128 : c < 128
          · have HF : Hid (Pl.getI l q = (acc + c % 128 * Pl.sc k, (q : Int) + (k : Int) + 1, 0)) := by show _ = _; rw [HE.out, HD.out]; simp only [Pl.getS]; rw [if_pos hmb, if_pos h128]
            have hdc : decide (c < 128) = true := decide_eq_true h128
            by_cases h9 : k = 9
            · subst h9
              have hc1' := Pl.mayB_nine hmb
              have hg1 : decide (1 < c % 128) = false := decide_eq_false (by omega)
              have hg2 : (c % 128 == 0) = false := by simp; omega
              clear hmb hw1 hw2 hw3 hm0 hc1'
              go_wp2
              go_ret3
              exact ⟨by rw [HF.out]; rfl, rfl⟩
            · have hb9 : ((k : Int) == 9) = false := by simp; omega
              by_cases hc : c = 0
              · have hk0 : k = 0 := by
                  unfold Pl.mayB at hmb
                  rw [if_neg h9] at hmb
                  simp at hmb
                  omega
                have hkz : (k : Int) ≤ 0 := by omega
                have hkd : decide (0 < k) = false := decide_eq_false (by omega)
                have hg2 : (c % 128 == 0) = true := by simp [hc]
                clear hmb hw1 hw2 hw3 hm0 hc h9 hk0
                go_wp2
                go_ret3
                exact ⟨by rw [HF.out]; rfl, rfl⟩
              · have hg2 : (c % 128 == 0) = false := by simp; omega
                clear hmb hw1 hw2 hw3 hm0 hc h9
                go_wp2
                go_ret3
                exact ⟨by rw [HF.out]; rfl, rfl⟩
          · have hdc : decide (c < 128) = false := decide_eq_false h128
            have hk8 : k + 1 ≤ 9 := by
              by_cases h9 : k = 9
              · subst h9; have := Pl.mayB_nine hmb; omega
              · omega
            have hb9 : ((k : Int) == 9) = false := by simp; omega
            have hm3 : IntKind.u64.wrap (Pl.sc k * 128) = Pl.sc (k + 1) := by
              have e : Pl.sc k * 128 = Pl.sc (k + 1) := by simp only [Pl.sc]; omega
              rw [e]
              refine wrap_u64 _ (by have := Pl.sc_pos (k + 1); omega) ?_
              rw [Pl.sc_pow]
              have : 2 ^ (7 * (k + 1)) ≤ 2 ^ 63 := Nat.pow_le_pow_right (by decide) (by omega)
              have h4 : 2 ^ 63 = 9223372036854775808 := by decide
              omega
            have hR : Hid (Pl.getI l q = Pl.getS (l.drop (q + (k + 1))) (k + 1) (q + ((k + 1 : Nat) : Int)) (acc + c % 128 * Pl.sc k)) := by
              show _ = _
              rw [HE.out, HD.out]
              simp only [Pl.getS]
              rw [if_pos hmb, if_neg (by omega)]
              congr 1
            have HM : Hid (Pl.mayB k c = true) := hmb
            have HW : Hid (0 ≤ acc + c % 128 * Pl.sc k ∧ acc + c % 128 * Pl.sc k < Pl.sc (k + 1)) := hw3
            clear hmb hw1 hw2 hw3 hm0
            go_wp2
            go_round
            case rel => exact ⟨k + 1, acc + c % 128 * Pl.sc k, by omega, hk8, by go_num, rfl, rfl, by go_num, HW.out.1, HW.out.2, hR⟩
            case measure => simp [intOf]; omega
theorem rget_is (v : Value) (l : List Int) (p n q er : Int) (w : World) (hs : Seg .u8 w v l) (ho : ∀ z ∈ l, 0 ≤ z ∧ z ≤ 255) (hg : Pl.getI l p = (n, q, er)) (hp0 : -9223372036854775808 ≤ p) (hp1 : p ≤ 9223372036854775807) :
    Calls Try.prog 37 #[v, .int .i64 p] w fun e w' => e = .returned (.tuple #[.int .u64 n, .int .i64 q, .int .i64 er]) ∧ w = w' := by
  refine (rget_any v l p w hs ho hp0 hp1).mono ?_
  rintro e w' ⟨rfl, rfl⟩
  exact ⟨by rw [hg]; rfl, rfl⟩

end Go.Proofs.Ytoadcaennlfadaa
