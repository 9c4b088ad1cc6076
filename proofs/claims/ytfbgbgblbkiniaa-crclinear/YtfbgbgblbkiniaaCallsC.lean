/- The contract of Unlike. -/
import Derived.Test.YtfbgbgblbkiniaaCallsB
import Derived.Laws.ShiftsVarLaws
namespace Go.Proofs.Ytfbgbgblbkiniaa
open Go.RowKit

theorem bit_test (t i : Nat) (ht : t < 4294967296) : (bits .and .u32 ((t : Int) / 2 ^ i) 1 == 1) = (t / 2 ^ i % 2 == 1) := by
  have e : (t : Int) / 2 ^ i = ((t / 2 ^ i : Nat) : Int) := by rw [Int.natCast_ediv]; simp
  have hl : t / 2 ^ i < 4294967296 := Nat.lt_of_le_of_lt (Nat.div_le_self _ _) ht
  rw [e, show (1 : Int) = ((1 : Nat) : Int) from rfl, u32_and_nat _ 1 hl (by decide), nat_mask1]
  rcases Nat.mod_two_eq_zero_or_one (t / 2 ^ i) with h | h <;> rw [h] <;> rfl

set_option maxHeartbeats 400000 in
theorem has_any (b : Nat) (turn i : Nat) (w : World) (hc : w.cell? ⟨b, 0, none⟩ = some (.int .u32 turn)) (ht : turn < 4294967296) (hi : i < 32) :
    Calls Try.prog 24 #[.int .i64 i, .pointer (some ⟨b, 0, none⟩)] w fun e w' => e = .returned (.bool (turn / 2 ^ i % 2 == 1)) ∧ w = w' := by
  go_enter Try.func24, Try.ntmps24
  go_wp2
  go_ret
  exact ⟨ret_bool (bit_test turn i ht), rfl⟩

set_option maxHeartbeats 400000 in
theorem unlike_out (v : Value) (l : List Int) (p turn : Int) (w : World) (hs : Seg .u8 w v l) (hp0 : -9223372036854775808 ≤ p) (hp1 : p ≤ 9223372036854775807) (hlen : l.length ≤ 140737488355328) (hr : p < 0 ∨ 8 * l.length - 32 < p) :
    Calls Try.prog 10 #[v, .int .i64 p, .int .u32 turn] w fun e w' => e = .returned (.tuple #[.slice none 0 0, .int .i64 4]) ∧ Below w.heap.size w w' := by
  obtain ⟨a, cap, rfl, h1, h2, h3, h4⟩ := hs
  unfold maxLen at h2
  have hb := (Below.refl w.heap.size w).alloc (Nat.le_refl _) (.cells #[.int .u32 turn] 23)
  by_cases hn : p < 0
  · go_enter Try.func10, Try.ntmps10
    go_wp2
    go_ret2
    exact ⟨rfl, hb⟩
  · have hd : decide ((8 * l.length - 32 : Int) < p) = true := by simp; omega
    go_enter Try.func10, Try.ntmps10
    go_wp2
    go_ret2
    exact ⟨rfl, hb⟩

theorem ownsRow_drew {w : World} {B : Nat} {e : TypeId} {size : Nat} {v : Value} {n : Nat} {xs : List Value} (h : w.ownsRow B e size v n xs) : w.drew.ownsRow B e size v n xs :=
  h.kept (row := none) ⟨rfl, rfl, rfl, Nat.le_refl _, fun _ _ _ => rfl⟩ (by cases hv : v.ownBlock <;> simp)
theorem below_drew {B : Nat} {w w' : World} (h : Below B w w') : Below B w w'.drew := ⟨h.os, h.tape, h.output, h.size, h.block⟩
theorem ownsRow_lower {w : World} {B C : Nat} {e : TypeId} {size : Nat} {v : Value} {n : Nat} {xs : List Value} (h : w.ownsRow B e size v n xs) (hc : C ≤ B) : w.ownsRow C e size v n xs := by
  refine ⟨h.1, ?_⟩
  rcases h.2 with h | ⟨g, cap, cur, hv, hb, r⟩
  · exact .inl h
  · exact .inr ⟨g, cap, cur, hv, Nat.le_trans hc hb, r⟩

theorem flip_val {m : List Int} (ho : Pl.Octs m) (i j : Nat) (hi : i < m.length) : bits .xor .u8 (m[i]'hi) (2 ^ (j % 8) % 256) = (((m.getD i 0).toNat ^^^ 2 ^ (j % 8) : Nat) : Int) := by
  have hm : m.getD i 0 = m[i] := by simp [List.getD, hi]
  rw [hm]
  have h1 := ho m[i] (by simp)
  have h2 : 2 ^ (j % 8) < 2 ^ 8 := Nat.pow_lt_pow_right (by decide) (by omega)
  have e2 : (2 : Int) ^ (j % 8) % 256 = ((2 ^ (j % 8) : Nat) : Int) := by
    have : ((2 ^ (j % 8) : Nat) : Int) = (2 : Int) ^ (j % 8) := by simp
    rw [← this]
    clear this
    generalize 2 ^ (j % 8) = q at h2 ⊢
    omega
  obtain ⟨o, he⟩ : ∃ o : Nat, m[i] = o := ⟨_, (Int.toNat_of_nonneg h1.1).symm⟩
  rw [he] at h1 ⊢
  rw [e2, u8_xor_nat _ _ (by omega) (by omega)]
  simp
theorem ownsRow_flip {w : World} {B g cap n j : Nat} {m : List Int} {z : Int} (HV : Hid (z = (((m.getD (j / 8) 0).toNat ^^^ 2 ^ (j % 8) : Nat) : Int))) (h : w.ownsRow B 5 1 (.slice (some ⟨g, 0, none⟩) n cap) n ((u8s m).set (j / 8) (.int .u8 z))) :
    w.ownsRow B 5 1 (.slice (some ⟨g, 0, none⟩) n cap) n (u8s (Pl.flip m j)) := by
  rw [HV.out] at h
  unfold Pl.flip u8s
  rw [List.map_set]
  exact h

set_option maxHeartbeats 1000000 in
theorem unlike_in (v : Value) (l : List Int) (p turn : Nat) (w : World) (hs : Seg .u8 w v l) (ho : Pl.Octs l) (hlen : l.length ≤ 140737488355328) (ht : turn < 4294967296) (hr : p + 32 ≤ 8 * l.length) :
    Calls Try.prog 10 #[v, .int .i64 p, .int .u32 turn] w fun e w' => ∃ v', e = .returned (.tuple #[v', .int .i64 0]) ∧ w'.ownsRow w.heap.size 5 1 v' l.length (u8s (Pl.un l p turn 32)) ∧ Below w.heap.size w w' := by
  obtain ⟨i0, hi, hz0, hz1, hz2⟩ := info_parts Try.info5
  obtain ⟨a, cap, rfl, h1, h2, h3, h4⟩ := hs
  unfold maxLen at h2
  rcases a with _ | x
  · have := (h3 rfl).1
    subst this
    simp at hr
  have hd : decide ((8 * l.length - 32 : Int) < p) = false := by simp; omega
  have hbt := (Below.refl w.heap.size w).alloc (Nat.le_refl _) (.cells #[.int .u32 turn] 23)
  have hct : (w.alloc (.cells #[.int .u32 turn] 23)).cell? ⟨w.heap.size, 0, none⟩ = some (.int .u32 turn) := by simp
  have hsz : (w.alloc (.cells #[.int .u32 turn] 23)).heap.size = w.heap.size + 1 := by simp
  go_enter Try.func10, Try.ntmps10
  go_wp2_with (at_builtin; refine wpList_append_own _ rfl _ _ 22 rfl (w.heap.size + 1) 5 i0 (.int .u8 0) 1 1 Try.underlying22 hi hz0 hz1 hz2 rfl (by decide) _ _ [] rfl (by have := World.ownsRow_made (w.alloc (.cells #[.int .u32 turn] 23)) #[] 0 (Nat.le_refl _) (Nat.zero_le _) (e := 5) (size := 1) rfl; rw [hsz] at this; exact this) x l.length cap (u8s l) rfl ?c1 ?c2 ?c3 ?c4 ?c5 ?c6 ?_)
  case c1 => simp
  case c2 => exact map_cells fun i hi => cell_alloc_old _ trivial (cell_alloc_old _ trivial (h4 x rfl i hi))
  case c3 => exact map_one
  case c4 => unfold maxLen; omega
  case c5 => omega
  case c6 => simp
  intro v' w1 hown1 hgrow _
  have hb1 : Below (w.heap.size + 1) (w.alloc (.cells #[.int .u32 turn] 23)) w1 := ((Below.refl _ _).alloc (by simp) _).grown hgrow (by simp) (fun k hk => by simp [Value.ownBlock] at hk; omega)
  have HO : w1.ownsRow (w.heap.size + 1) 5 1 v' l.length (u8s l) := by simpa using hown1
  clear hgrow hown1
  rcases id HO.2 with ⟨rfl, hn⟩ | ⟨g, cap', cur, rfl, hgb, hgg, hle, hm, hss, htt⟩
  · omega
  clear hss htt hgg h3 h4 h1 h2
  unfold maxLen at hm
  have hf0 : Below w.heap.size w w1 := hbt.trans (hb1.mono (by omega))
  go_wp2
  go_loopw [26] (fun i wr => ∃ k : Nat, k ≤ 32 ∧ i = .int .i64 k ∧ wr.ownsRow (w.heap.size + 1) 5 1 (.slice (some ⟨g, 0, none⟩) l.length cap') l.length (u8s (Pl.un l p turn k)) ∧ Below (w.heap.size + 1) (w.alloc (.cells #[.int .u32 turn] 23)) wr) (fun i _ => 32 - (intOf i).toNat)
  case atStart => exact ⟨0, Nat.zero_le _, rfl, HO, hb1⟩
  case round =>
    obtain ⟨k, hk, rfl, hr1, hbr⟩ := hrel
    by_cases hlt : k < 32
    · have hcr := (hbr.cell (p := ⟨w.heap.size, 0, none⟩) (by simp)).trans hct
      go_wp2_with fail
      refine (has_any w.heap.size turn k wr hcr ht hlt).mono ?_
      rintro e w2 ⟨rfl, rfl⟩
      by_cases hbit : turn / 2 ^ k % 2 = 1
      · rw [show (turn / 2 ^ k % 2 == 1) = true by simp [hbit]]
        go_wp2
        have hjl : (p + k) / 8 < l.length := by omega
        have hul := Pl.un_len l p turn k
        have hc := hr1.cellAt ((p + k) / 8) (by simp; omega)
        have hfz := hr1.frozenAt ((p + k) / 8)
        have HV : Hid (bits .xor .u8 ((Pl.un l p turn k)[(p + k) / 8]'(by omega)) (2 ^ ((p + k) % 8) % 256) = ((((Pl.un l p turn k).getD ((p + k) / 8) 0).toNat ^^^ 2 ^ ((p + k) % 8) : Nat) : Int)) := flip_val (Pl.octs_un ho p turn k) _ _ (by omega)
        have hst := fun z => hr1.stored ((p + k) / 8) (.int .u8 z)
        clear hct hcr
        go_region
        have HO1 := ownsRow_drew (hst (bits .xor .u8 ((Pl.un l p turn k)[(p + k) / 8]'(by omega)) (2 ^ ((p + k) % 8) % 256))).1
        have HB1 := below_drew (hbr.grown (hst (bits .xor .u8 ((Pl.un l p turn k)[(p + k) / 8]'(by omega)) (2 ^ ((p + k) % 8) % 256))).2 (by simpa using hbr.size) (fun q hq => by simp at hq; omega))
        have HO2 := ownsRow_flip (HV := HV) HO1
        clear HO1 hst
        go_wp2
        go_roundw
        case rel => exact ⟨k + 1, by omega, by go_num, by rw [Pl.un, if_pos hbit]; exact HO2, HB1⟩
        case measure => simp [intOf]; omega
      · rw [show (turn / 2 ^ k % 2 == 1) = false by simp [hbit]]
        go_wp2
        go_roundw
        case rel => exact ⟨k + 1, by omega, by go_num, by rw [Pl.un, if_neg hbit]; exact hr1, hbr⟩
        case measure => simp [intOf]; omega
    · have hke : k = 32 := by omega
      subst hke
      go_wp2
      go_ret2
      exact ⟨_, rfl, ownsRow_lower hr1 (by omega), hbt.trans (hbr.mono (by omega))⟩
end Go.Proofs.Ytfbgbgblbkiniaa
