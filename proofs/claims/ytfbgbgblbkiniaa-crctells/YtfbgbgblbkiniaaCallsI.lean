/- The reference: Unlike, Force. -/
import Derived.Test.YtfbgbgblbkiniaaCallsH
namespace Go.Proofs.Ytfbgbgblbkiniaa
open Go.RowKit

set_option maxHeartbeats 400000 in
theorem runlike_out (v : Value) (l : List Int) (p turn : Int) (w : World) (hs : Seg .u8 w v l) (hp0 : -9223372036854775808 ≤ p) (hp1 : p ≤ 9223372036854775807) (hlen : l.length ≤ 140737488355328) (hr : p < 0 ∨ 8 * l.length - 32 < p) :
    Calls Try.prog 11 #[v, .int .i64 p, .int .u32 turn] w fun e w' => e = .returned (.tuple #[.slice none 0 0, .int .i64 4]) ∧ w = w' := by
  obtain ⟨a, cap, rfl, h1, h2, h3, h4⟩ := hs
  unfold maxLen at h2
  by_cases hn : p < 0
  · go_enter Try.func11, Try.ntmps11
    go_wp2
    go_ret2
    exact ⟨rfl, rfl⟩
  · have hd : decide ((8 * l.length - 32 : Int) < p) = true := by simp; omega
    by_cases hq : (l.length : Int) ≤ p / 8
    · have hq1 : decide ((l.length : Int) ≤ p / 8) = true := by simp; omega
      go_enter Try.func11, Try.ntmps11
      go_wp2
      go_ret2
      exact ⟨rfl, rfl⟩
    · have hq1 : decide ((l.length : Int) ≤ p / 8) = false := by simp; omega
      go_enter Try.func11, Try.ntmps11
      go_wp2
      go_ret2
      exact ⟨rfl, rfl⟩

set_option maxHeartbeats 1000000 in
theorem runlike_in (v : Value) (l : List Int) (p turn : Nat) (w : World) (hs : Seg .u8 w v l) (ho : Pl.Octs l) (hlen : l.length ≤ 140737488355328) (ht : turn < 4294967296) (hr : p + 32 ≤ 8 * l.length) :
    Calls Try.prog 11 #[v, .int .i64 p, .int .u32 turn] w fun e w' => ∃ v', e = .returned (.tuple #[v', .int .i64 0]) ∧ w'.ownsRow w.heap.size 5 1 v' l.length (u8s (Pl.un l p turn 32)) ∧ Below w.heap.size w w' := by
  have hd : decide ((8 * l.length - 32 : Int) < p) = false := by simp; omega
  have hq1 : decide ((l.length : Int) ≤ (p : Int) / 8) = false := by simp; omega
  obtain ⟨a, cap, rfl, k1, k2, k3, k4⟩ := id hs
  clear k3 k4
  unfold maxLen at k2
  go_enter Try.func11, Try.ntmps11
  go_wp2_with (go_at_call 25; refine (copied_any _ l w hs hlen).mono ?_; rintro e w1 ⟨v', rfl, HO, hb1⟩)
  rcases id HO.2 with ⟨rfl, hn⟩ | ⟨g, cap', cur, rfl, hgb, hgg, hle, hm, hss, htt⟩
  · omega
  clear hss htt hgg
  unfold maxLen at hm
  go_wp2
  go_loopw [9] (fun i wr => ∃ k : Nat, k ≤ 32 ∧ i = .int .i64 k ∧ wr.ownsRow w.heap.size 5 1 (.slice (some ⟨g, 0, none⟩) l.length cap') l.length (u8s (Pl.un l p turn k)) ∧ Below w.heap.size w wr) (fun i _ => 32 - (intOf i).toNat)
  case atStart => exact ⟨0, Nat.zero_le _, rfl, HO, hb1⟩
  case round =>
    obtain ⟨k, hk, rfl, hr1, hbr⟩ := hrel
    by_cases hlt : k < 32
    · have hbt := bit_test turn k ht
      by_cases hbit : turn / 2 ^ k % 2 = 1
      · rw [show (turn / 2 ^ k % 2 == 1) = true by simp [hbit]] at hbt
        go_wp2
        have hjl : (p + k) / 8 < l.length := by omega
        have hul := Pl.un_len l p turn k
        have hc := hr1.cellAt ((p + k) / 8) (by simp; omega)
        have hfz := hr1.frozenAt ((p + k) / 8)
        have HV : Hid (bits .xor .u8 ((Pl.un l p turn k)[(p + k) / 8]'(by omega)) (2 ^ ((p + k) % 8) % 256) = ((((Pl.un l p turn k).getD ((p + k) / 8) 0).toNat ^^^ 2 ^ ((p + k) % 8) : Nat) : Int)) := flip_val (Pl.octs_un ho p turn k) _ _ (by omega)
        have hst := fun z => hr1.stored ((p + k) / 8) (.int .u8 z)
        go_region
        have HO1 := ownsRow_drew (hst (bits .xor .u8 ((Pl.un l p turn k)[(p + k) / 8]'(by omega)) (2 ^ ((p + k) % 8) % 256))).1
        have HB1 := below_drew (hbr.grown (hst (bits .xor .u8 ((Pl.un l p turn k)[(p + k) / 8]'(by omega)) (2 ^ ((p + k) % 8) % 256))).2 (by simpa using hbr.size) (fun q hq => by simp at hq; omega))
        have HO2 := ownsRow_flip (HV := HV) HO1
        clear HO1 hst
        go_wp2
        go_roundw
        case rel => exact ⟨k + 1, by omega, by go_num, by rw [Pl.un, if_pos hbit]; exact HO2, HB1⟩
        case measure => simp [intOf]; omega
      · rw [show (turn / 2 ^ k % 2 == 1) = false by simp [hbit]] at hbt
        go_wp2
        go_roundw
        case rel => exact ⟨k + 1, by omega, by go_num, by rw [Pl.un, if_neg hbit]; exact hr1, hbr⟩
        case measure => simp [intOf]; omega
    · have hke : k = 32 := by omega
      subst hke
      go_wp2
      go_ret2
      exact ⟨_, rfl, hr1, hbr⟩

theorem seg_four {w : World} {T : Nat} (hT : T < 4294967296) : Seg .u8 (w.alloc (.cells #[.int .u8 ((T : Int) % 256), .int .u8 ((T : Int) / 256 % 256), .int .u8 ((T : Int) / 65536 % 256), .int .u8 ((T : Int) / 16777216)] 5)) (.slice (some ⟨w.heap.size, 0, none⟩) 4 4) (Pl.four T) := by
  have h := seg_new (w := w) (l := Pl.four T) 5 (0, 0) (by simp [Pl.four])
  have e : (u8s (Pl.four T)).toArray = #[.int .u8 ((T : Int) % 256), .int .u8 ((T : Int) / 256 % 256), .int .u8 ((T : Int) / 65536 % 256), .int .u8 ((T : Int) / 16777216)] := by
    simp [u8s, Pl.four]
    omega
  rw [e] at h
  exact h

/-- Unlike, the program's and the reference's: one answer. -/
theorem unlike_both (l : List Int) (p turn : Int) (ho : Pl.Octs l) (hp0 : -9223372036854775808 ≤ p) (hp1 : p ≤ 9223372036854775807) (ht0 : 0 ≤ turn) (ht1 : turn ≤ 4294967295) (hlen : l.length ≤ 140737488355328) :
    ∃ (lu : List Int) (ec : Int), Pl.Octs lu ∧
      (∀ (v : Value) (w : World), Seg .u8 w v l → Calls Try.prog 10 #[v, .int .i64 p, .int .u32 turn] w fun e w' => ∃ u, e = .returned (.tuple #[u, .int .i64 ec]) ∧ Seg .u8 w' u lu ∧ Below w.heap.size w w') ∧
      (∀ (v : Value) (w : World), Seg .u8 w v l → Calls Try.prog 11 #[v, .int .i64 p, .int .u32 turn] w fun e w' => ∃ u, e = .returned (.tuple #[u, .int .i64 ec]) ∧ Seg .u8 w' u lu ∧ Below w.heap.size w w') := by
  by_cases hr : p < 0 ∨ 8 * (l.length : Int) - 32 < p
  · refine ⟨[], 4, (fun z hz => by cases hz), fun v w hs => ?_, fun v w hs => ?_⟩
    · refine (unlike_out v l p turn w hs hp0 hp1 hlen hr).mono ?_
      rintro e w' ⟨rfl, hb⟩
      exact ⟨_, rfl, Seg.nil _ _, hb⟩
    · refine (runlike_out v l p turn w hs hp0 hp1 hlen hr).mono ?_
      rintro e w' ⟨rfl, rfl⟩
      exact ⟨_, rfl, Seg.nil _ _, Below.refl _ _⟩
  · obtain ⟨P, rfl⟩ : ∃ P : Nat, p = P := ⟨p.toNat, by omega⟩
    obtain ⟨T, rfl⟩ : ∃ T : Nat, turn = T := ⟨turn.toNat, by omega⟩
    refine ⟨Pl.un l P T 32, 0, Pl.octs_un ho P T 32, fun v w hs => ?_, fun v w hs => ?_⟩
    · refine (unlike_in v l P T w hs ho hlen (by omega) (by omega)).mono ?_
      rintro e w' ⟨u, rfl, hown, hb⟩
      exact ⟨u, rfl, Seg.own (by rw [Pl.un_len]; exact hown), hb⟩
    · refine (runlike_in v l P T w hs ho hlen (by omega) (by omega)).mono ?_
      rintro e w' ⟨u, rfl, hown, hb⟩
      exact ⟨u, rfl, Seg.own (by rw [Pl.un_len]; exact hown), hb⟩

set_option maxHeartbeats 1000000 in
theorem rforce_any (v : Value) (l : List Int) (want : Nat) (w : World) (hs : Seg .u8 w v l) (ho : Pl.Octs l) (hw : want < 4294967296) :
    Calls Try.prog 20 #[v, .int .u32 want] w fun e w' => ∃ v', e = .returned v' ∧ Seg .u8 w' v' (Pl.four (Pl.sumOf l ^^^ (4294967295 ^^^ Pl.nur (4294967295 ^^^ want) [0, 0, 0, 0]))) ∧ Below w.heap.size w w' := by
  have hsg : IntKind.u32.signed = false := rfl
  have hz4 : Pl.Octs [0, 0, 0, 0] := by intro z hz; simp at hz; omega
  have hsl := Pl.sumOf_lt ho
  have hn1 := u32not _ hsl
  have hnl : 4294967295 ^^^ Pl.nur (4294967295 ^^^ want) [0, 0, 0, 0] < 4294967296 := Pl.xlt (by decide) (Pl.nur_lt (Pl.xlt (by decide) hw) hz4)
  generalize hq : 4294967295 ^^^ Pl.nur (4294967295 ^^^ want) [0, 0, 0, 0] = q at *
  have HQ : Hid (4294967295 ^^^ Pl.nur (4294967295 ^^^ want) [0, 0, 0, 0] = q) := hq
  clear hq
  have hn2 := u32not _ hnl
  have hxx := u32x (4294967295 ^^^ Pl.sumOf l) (4294967295 ^^^ q) (Pl.xlt (by decide) hsl) (Pl.xlt (by decide) hnl)
  rw [show (4294967295 ^^^ Pl.sumOf l) ^^^ (4294967295 ^^^ q) = Pl.sumOf l ^^^ q by rw [Nat.xor_comm 4294967295 (Pl.sumOf l), Nat.xor_assoc, Pl.xx]] at hxx
  have hxl : Pl.sumOf l ^^^ q < 4294967296 := Pl.xlt hsl hnl
  generalize Pl.sumOf l ^^^ q = W at *
  obtain ⟨a, cap, rfl, k1, k2, k3, k4⟩ := id hs
  clear k1 k2 k3 k4
  have hf1 : Seg .u8 (w.alloc (.cells #[.int .u8 0, .int .u8 0, .int .u8 0, .int .u8 0] 5)) (.slice (some ⟨w.heap.size, 0, none⟩) 4 4) [0, 0, 0, 0] := seg_new (w := w) (l := [0, 0, 0, 0]) 5 (0, 0) (by decide)
  have hb1 := (Below.refl w.heap.size w).alloc (Nat.le_refl _) (.cells #[.int .u8 0, .int .u8 0, .int .u8 0, .int .u8 0] 5)
  go_enter Try.func20, Try.ntmps20
  go_wp2_with fail
  refine (rsum_any _ l w hs ho).mono ?_
  rintro e w1 ⟨rfl, rfl⟩
  go_wp2_with fail
  have HB := rback_any want _ [0, 0, 0, 0] _ hw hf1 hz4
  rw [HQ.out] at HB
  refine HB.mono ?_
  rintro e w1 ⟨rfl, rfl⟩
  have hs4 := seg_four (w := w.alloc (.cells #[.int .u8 0, .int .u8 0, .int .u8 0, .int .u8 0] 5)) hxl
  have hb2 := hb1.alloc (by simp) (.cells #[.int .u8 ((W : Int) % 256), .int .u8 ((W : Int) / 256 % 256), .int .u8 ((W : Int) / 65536 % 256), .int .u8 ((W : Int) / 16777216)] 5)
  clear hb1 hf1 HB
  generalize w.alloc (.cells #[.int .u8 0, .int .u8 0, .int .u8 0, .int .u8 0] 5) = w1 at *
  go_wp2
  go_ret
  exact ⟨_, rfl, hs4, hb2⟩
end Go.Proofs.Ytfbgbgblbkiniaa
