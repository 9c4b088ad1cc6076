/- parse: takeName, count. -/
import Derived.Test.YthdooemgnpiomaaQF
import Derived.Test.YthdooemgnpiomaaPB
import Derived.Test.YthdooemgnpiomaaPW
namespace Go.Proofs.Ythdooemgnpiomaa
open Go.RowKit

theorem check_kt {t : T3} (h : checkZ (toZ t) = 0) : Pl.okKt (kt3 t) ∧ 1 ≤ t.2.1.size ∧ t.2.1.size ≤ 32 ∧ 1 ≤ t.2.2 := by
  obtain ⟨k, x, ln⟩ := t
  unfold checkZ toZ at h
  simp only at h
  by_cases h1 : (k : Int) < 1 ∨ 3 < (k : Int)
  · rw [if_pos h1] at h
    simp at h
  · rw [if_neg h1] at h
    cases hj : just (k : Int) x with
    | false =>
      rw [hj, if_pos rfl] at h
      simp at h
    | true =>
      rw [hj, if_neg (by simp)] at h
      by_cases hl : (ln : Int) < 1
      · rw [if_pos hl] at h
        simp at h
      · unfold just at hj
        simp only [Bool.and_eq_true, decide_eq_true_eq] at hj
        obtain ⟨⟨j1, j2⟩, j3⟩ := hj
        have hn : Pl.nextP (bl x) = (k, (bl x).length, 0) := by
          rw [bl_length]
          ext
          · simp only; omega
          · simp only; exact j3
          · simp only; exact j1
        have hok : Pl.okKt (kt3 (k, x, ln)) := Pl.next_ok (bl x) k 0 hn
        have hlen := Pl.ok_kind _ hok
        have : (bl x).length = x.size := bl_length x
        simp only [kt3] at hlen
        refine ⟨hok, by simp only; omega, by simp only; omega, by simp only; omega⟩

/-- Tokens that may be. -/
def GoodT (l : List T3) : Prop := ∀ t ∈ l, checkZ (toZ t) = 0

/-- A number's token: digits. -/
theorem num_digits {t : T3} (h : Pl.okKt (kt3 t)) (hk : t.1 = 2) : (∀ c ∈ bl t.2.1, 48 ≤ c ∧ c ≤ 57) ∧ t.2.1.size ≤ 9 := by
  rcases h with ⟨h1, _⟩ | ⟨h1, h2, h3⟩
  · simp only [kt3] at h1
    omega
  · simp only [kt3, hk] at h1 h2 h3
    have hl : (bl t.2.1).length = t.2.1.size := bl_length _
    generalize bl t.2.1 = x at *
    cases x with
    | nil => exact absurd rfl h1
    | cons c r =>
      simp only [Pl.wordE] at h3
      split at h3
      · split at h3 <;> simp at h3
      · split at h3
        · simp at h3
        · split at h3
          · simp at h3
          · rename_i ha
            split at h3
            · simp at h3
            · rename_i h9
              simp only [Bool.not_eq_true', Bool.not_eq_false] at ha
              refine ⟨fun d hd => ?_, ?_⟩
              · have := List.all_eq_true.1 ha d hd
                simp only [Pl.isDigit, Bool.and_eq_true, decide_eq_true_eq] at this
                exact this
              · rw [← hl]
                omega

theorem valN_take (x : List Nat) (k c : Nat) (h : x[k]? = some c) : Pl.valN (x.take (k + 1)) = Pl.valN (x.take k) * 10 + (c - 48) := by
  rw [List.take_add_one, h]
  exact Pl.valN_append _ _
theorem valN_bound (x : List Nat) (hx : ∀ c ∈ x, 48 ≤ c ∧ c ≤ 57) : ∀ k, Pl.valN (x.take k) < 10 ^ k := by
  intro k
  induction k with
  | zero => simp [Pl.valN]
  | succ k ih =>
    cases hk : x[k]? with
    | none =>
      rw [List.take_add_one, hk]
      simp only [Option.toList_none, List.append_nil]
      rw [Nat.pow_succ]
      omega
    | some c =>
      rw [valN_take x k c hk, Nat.pow_succ]
      have := hx c (List.mem_of_getElem? hk)
      omega

set_option maxHeartbeats 2000000 in
set_option maxRecDepth 4000 in
theorem number_any (t : T3) (h : checkZ (toZ t) = 0) (hk : t.1 = 2) (w : World) : Calls Try.prog 88 #[tokV t] w fun e w' => e = .returned (.tuple #[.int .i64 (Pl.valN (bl t.2.1) : Int), .int .i64 0]) ∧ Below w.heap.size w w' := by
  obtain ⟨ho, h1, h32, _⟩ := check_kt h
  obtain ⟨hd, h9⟩ := num_digits ho hk
  obtain ⟨k, x, ln⟩ := t
  simp only at hk hd h9 h1 h32
  subst hk
  have hvb := valN_bound (bl x) hd
  have hck := fun w => check_any (toZ (2, x, ln)) (by show x.size ≤ maxLen; unfold maxLen; omega) w
  rw [h] at hck
  simp only [toZ] at hck
  unfold tokV
  simp only
  have hb0 := below_alloc w (.cells #[.int .i64 ((2 : Nat) : Int), .string x, .int .i64 (ln : Int)] 36)
  have hB0 := Bx.new w [.int .i64 ((2 : Nat) : Int), .string x, .int .i64 (ln : Int)] 36
  have hck1 := hck (w.alloc (.cells #[.int .i64 ((2 : Nat) : Int), .string x, .int .i64 (ln : Int)] 36))
  obtain ⟨Z, hZ⟩ : ∃ Z, Z = Pl.valN (bl x) := ⟨_, rfl⟩
  rw [← hZ]
  have HZ : Hid (Z = Pl.valN (bl x)) := hZ
  have HV : Hid (∀ k, Pl.valN ((bl x).take k) < 10 ^ k) := hvb
  have HD : Hid (∀ c ∈ bl x, 48 ≤ c ∧ c ≤ 57) := hd
  obtain ⟨b, hbe⟩ : ∃ b, b = w.heap.size := ⟨_, rfl⟩
  clear hZ hvb hd hck h ho
  go_enter Try.func88, Try.ntmps88
  go_wp2_with fail
  rw [← hbe] at hB0 ⊢
  change Bx (w.alloc (.cells #[.int .i64 ((2 : Nat) : Int), .string x, .int .i64 (ln : Int)] 36)) b _ _ at hB0
  clear hbe
  generalize w.alloc (.cells #[.int .i64 ((2 : Nat) : Int), .string x, .int .i64 (ln : Int)] 36) = w0 at *
  refine hck1.mono ?_
  rintro e w1 ⟨rfl, hb1⟩
  have hB1 := hB0.below hb1
  have hbb := below_next hb0 hb1
  have d0 := hB1.cell 0 rfl
  have d1 := hB1.cell 1 rfl
  have hbl := hB1.lt
  go_wp2_with fail
  go_loopw [5, 18] (fun a i wr => ∃ k : Nat, k ≤ x.size ∧ i = .int .i64 k ∧ a = .int .i64 (Pl.valN ((bl x).take k) : Int) ∧ wr = w1) (fun _ i _ => x.size - (intOf i).toNat)
  case atStart => exact ⟨0, Nat.zero_le _, rfl, rfl, rfl⟩
  case round =>
    obtain ⟨k, hk, rfl, rfl, rfl⟩ := hrel
    by_cases hlt : k < x.size
    · have hx : (bl x)[k]? = some x[k].toNat := by
        have := congrArg (fun l => l[0]?) (drop_at x k hlt)
        simpa using this
      have hv := valN_take (bl x) k _ hx
      have hb := HV.out k
      have hb1 := HV.out (k + 1)
      obtain ⟨hc1, hc2⟩ := HD.out _ (List.mem_of_getElem? hx)
      have hp9 : (10 : Nat) ^ k ≤ 10 ^ 9 := Nat.pow_le_pow_right (by omega) (by omega)
      have hidx : (0 : Int) ≤ (k : Int) ∧ (k : Int) < (x.size : Int) := by omega
      generalize hV : Pl.valN ((bl x).take k) = V at *
      generalize hV1 : Pl.valN ((bl x).take (k + 1)) = V1 at *
      generalize hC : x[k].toNat = C at *
      clear hx hb1
      go_wp2
      exact ⟨⟨k + 1, by omega, by go_num, by rw [hV1]; congr 1; omega, trivial⟩, by simp [intOf]; omega⟩
    · have hke : k = x.size := by omega
      have hz : Pl.valN ((bl x).take k) = Z := by rw [HZ.out, hke, List.take_of_length_le (by rw [bl_length]; exact Nat.le_refl _)]
      rw [hz]
      clear hz
      go_wp2
      go_returns
      exact ⟨rfl, hbb⟩

set_option maxHeartbeats 1000000 in
theorem count_any (t : T3) (h : checkZ (toZ t) = 0) (hk : t.1 = 2) (w : World) : Calls Try.prog 76 #[tokV t] w fun e w' => e = .returned (.int .i64 (Pl.valN (bl t.2.1) : Int)) ∧ Below w.heap.size w w' := by
  have hn := fun w => number_any t h hk w
  obtain ⟨k, x, ln⟩ := t
  unfold tokV at hn ⊢
  simp only at hn ⊢
  clear h hk
  generalize Pl.valN (bl x) = Z at *
  have hb0 := below_alloc w (.cells #[.int .i64 (k : Int), .string x, .int .i64 (ln : Int)] 36)
  go_enter Try.func76, Try.ntmps76
  go_wp2_with fail
  refine (hn _).mono ?_
  rintro e w1 ⟨rfl, hb1⟩
  go_wp2
  go_ret
  exact ⟨rfl, below_next hb0 hb1⟩

theorem run_text (x y z : Value) (w : World) : (Instr.field 36 (.agg #[x, y, z]) 1).run Try.prog w = .ok y w := by kernel_rfl
theorem name_of {k : Pl.Kt} {v : Value} {l : List T3} (hG : GoodT l) (h : ∃ t, t ∈ l ∧ k = kt3 t ∧ v = tokV t) : ∃ x ln kk, v = .agg #[.int .i64 kk, .string x, .int .i64 ln] ∧ bl x = k.2 ∧ x.size ≤ 70000 := by
  obtain ⟨t, ht, rfl, rfl⟩ := h
  have := (check_kt (hG t ht)).2.2.1
  exact ⟨t.2.1, _, _, rfl, rfl, by omega⟩

/-- A name. -/
def NameV (k : Pl.Kt) (v : Value) (_ : World) : Prop := ∃ s, v = .string s ∧ bl s = k.2

set_option maxHeartbeats 1000000 in
set_option maxRecDepth 4000 in
theorem ptakeName_any (n : Nat) (sv : Value) (l : List T3) (rest : List Value) (w : World) (i : Nat) (h : Pos n sv rest w i) (hS : TSeg w sv (l.map toZ)) (hl : 0 < l.length) (hbig : l.length ≤ 1000000) (hi : i ≤ l.length) (hG : GoodT l) :
    Calls Try.prog 50 #[.pointer (some ⟨n, 0, none⟩)] w (Runs l n sv rest w (Pl.takeP Pl.nameT ((l.drop i).map kt3)) NameV) := by
  have htk := ptake_any n sv l rest w i h hS hl hbig hi _ _ (fits_name w)
  generalize Pl.takeP Pl.nameT ((l.drop i).map kt3) = res at *
  cases res with
  | bad r er =>
    go_enter Try.func50, Try.ntmps50
    go_wp2_with fail
    refine htk.mono ?_
    rintro e w1 ⟨i', rfl, hi', hr, hC⟩
    exact ⟨rfl, i', rfl, hi', hr, hC⟩
  | ok k r =>
    have hfd := run_text
    go_enter Try.func50, Try.ntmps50
    go_wp2_with fail
    refine htk.mono ?_
    rintro e w1 ⟨v, i', rfl, hi', hr, hP, hV, hC⟩
    obtain ⟨x, ln, kk, rfl, hx, hxs⟩ := name_of hG hV
    have HR : Hid (r = (l.drop i').map kt3) := hr
    have HX : Hid (bl x = k.2) := hx
    clear htk hV hr hx hG hS
    go_wp2_with fail
    refine (clone_any x _ hxs).mono ?_
    rintro e w2 ⟨rfl, hb2⟩
    go_wp2
    go_ret
    exact ⟨_, i', rfl, hi', HR.out, hP.below hb2, ⟨x, rfl, HX.out⟩, hC.bel hb2⟩
end Go.Proofs.Ythdooemgnpiomaa
