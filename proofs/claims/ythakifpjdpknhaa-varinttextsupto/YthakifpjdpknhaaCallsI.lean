/- Contracts of Text and of the reference's Text. -/
import Derived.Test.YthakifpjdpknhaaCallsH
namespace Go.Proofs.Ythakifpjdpknhaa
open Go.RowKit

/-- The text that begins at a place: it, where it ends, the error. -/
def Pl.textI (l : List Int) (p most : Int) : List Int × Int × Int :=
  if (Pl.getI l p).2.2 = 0 then
    (if most < 0 ∨ most < (Pl.getI l p).1 then ([], 0, 5)
     else if (l.length : Int) - (Pl.getI l p).2.1 < (Pl.getI l p).1 then ([], 0, 8)
     else ((l.drop (Pl.getI l p).2.1.toNat).take (Pl.getI l p).1.toNat, (Pl.getI l p).2.1 + (Pl.getI l p).1, 0))
  else ([], 0, (Pl.getI l p).2.2)

/-- A part of octets. -/
theorem seg_part {w : World} {b off cap : Nat} {l : List Int} (q n : Nat) (hqn : q + n ≤ l.length) (hl : l.length ≤ cap) (hm : cap ≤ maxLen) (hc : ∀ i, i < l.length → w.cell? ⟨b, off + i, none⟩ = some (.int .u8 (l.getD i 0))) :
    Seg .u8 w (.slice (some ⟨b, off + q, none⟩) n (cap - q)) ((l.drop q).take n) := by
  have hlen : ((l.drop q).take n).length = n := by rw [List.length_take, List.length_drop]; omega
  refine ⟨some ⟨b, off + q, none⟩, cap - q, by rw [hlen], by rw [hlen]; omega, by omega, fun h => (by cases h), fun x hx i hi => ?_⟩
  cases hx
  rw [hlen] at hi
  rw [add_plain, Nat.add_assoc, hc (q + i) (by omega)]
  simp [List.getD, hi]

theorem seg_empty (w : World) (x : Addr) : Seg .u8 w (.slice (some x) 0 0) [] :=
  ⟨some x, 0, rfl, Nat.le_refl _, by unfold maxLen; omega, fun h => (by cases h), fun _ _ i hi => by simp at hi⟩

set_option maxHeartbeats 1000000 in
theorem text_any (v : Value) (l : List Int) (p most : Int) (w : World) (hs : Seg .u8 w v l) (ho : ∀ z ∈ l, 0 ≤ z ∧ z ≤ 255) (hlen : l.length ≤ 140737488355328) (hp0 : -9223372036854775808 ≤ p) (hp1 : p ≤ 9223372036854775807) (hm0 : -9223372036854775808 ≤ most) (hm1 : most ≤ 9223372036854775807) :
    Calls Try.prog 26 #[v, .int .i64 p, .int .i64 most] w fun e w' => ∃ v', e = .returned (.tuple #[v', .int .i64 (Pl.textI l p most).2.1, .int .i64 (Pl.textI l p most).2.2]) ∧ w'.ownsRow w.heap.size 5 1 v' (Pl.textI l p most).1.length (u8s (Pl.textI l p most).1) ∧ Below w.heap.size w w' := by
  obtain ⟨n, q, er, hg⟩ : ∃ n q er, Pl.getI l p = (n, q, er) := ⟨_, _, _, rfl⟩
  have HG : Hid (Pl.getI l p = (n, q, er)) := hg
  obtain ⟨a, cap, hv, h1, h2, h3, h4⟩ := id hs
  subst hv
  unfold Pl.textI
  rw [hg]
  simp only
  by_cases he : er = 0
  · subst he
    obtain ⟨hpp, hn0, hn1, hpq, hql, _⟩ := Pl.getI_ok l p n q ho hg
    rw [if_pos rfl]
    clear hg
    obtain ⟨b, off, rfl, hbb, hc⟩ := seg_at (by omega) h3 h4
    clear h3 h4
    obtain ⟨Q, rfl⟩ := Int.eq_ofNat_of_zero_le (show 0 ≤ q by omega)
    by_cases hms : most < 0 ∨ most < n
    · rw [if_pos hms]
      rcases hms with hms | hms
      · have hd : decide (most < 0) = true := decide_eq_true hms
        go_enter Try.func26, Try.ntmps26
        go_wp2_with (go_at_call 10; refine (get_is _ l p n Q _ w hs ho HG.out hp0 hp1).mono ?_; rintro e w2 ⟨rfl, rfl⟩)
        go_ret3
        exact ⟨_, rfl, World.ownsRow_nil _ _ _ _, Below.refl _ _⟩
      · by_cases hm : most < 0
        · have hd : decide (most < 0) = true := decide_eq_true hm
          go_enter Try.func26, Try.ntmps26
          go_wp2_with (go_at_call 10; refine (get_is _ l p n Q _ w hs ho HG.out hp0 hp1).mono ?_; rintro e w2 ⟨rfl, rfl⟩)
          go_ret3
          exact ⟨_, rfl, World.ownsRow_nil _ _ _ _, Below.refl _ _⟩
        · have hd : decide (most < 0) = false := decide_eq_false hm
          go_enter Try.func26, Try.ntmps26
          go_wp2_with (go_at_call 10; refine (get_is _ l p n Q _ w hs ho HG.out hp0 hp1).mono ?_; rintro e w2 ⟨rfl, rfl⟩)
          go_ret3
          exact ⟨_, rfl, World.ownsRow_nil _ _ _ _, Below.refl _ _⟩
    · rw [if_neg hms]
      have hms0 : 0 ≤ most := by omega
      have hmsn : n ≤ most := by omega
      have hd : decide (most < 0) = false := decide_eq_false (by omega)
      clear hms
      by_cases hsh : (l.length : Int) - (Q : Int) < n
      · rw [if_pos hsh]
        go_enter Try.func26, Try.ntmps26
        go_wp2_with (go_at_call 10; refine (get_is _ l p n Q _ w hs ho HG.out hp0 hp1).mono ?_; rintro e w2 ⟨rfl, rfl⟩)
        go_ret3
        exact ⟨_, rfl, World.ownsRow_nil _ _ _ _, Below.refl _ _⟩
      · rw [if_neg hsh]
        obtain ⟨M, rfl⟩ := Int.eq_ofNat_of_zero_le hn0
        rw [Int.toNat_natCast, Int.toNat_natCast]
        have hQM : Q + M ≤ l.length := by omega
        by_cases hcq : cap = Q
        · have hM : M = 0 := by omega
          subst hM
          subst hcq
          unfold maxLen at h2
          go_enter Try.func26, Try.ntmps26
          go_wp2_with (first | (go_at_call 10; refine (get_is _ l p _ _ _ w hs ho HG.out hp0 hp1).mono ?_; rintro e w2 ⟨rfl, rfl⟩))
          refine (fresh_any _ [] w (seg_empty w ⟨b, off, none⟩) (by simp)).mono ?_
          rintro e w3 ⟨v3, rfl, hown3, hb3⟩
          go_wp2
          go_ret3
          exact ⟨v3, rfl, by simpa using hown3, hb3⟩
        · have hsg := seg_part (w := w) Q M hQM h1 h2 hc
          have hle : ((l.drop Q).take M).length ≤ 140737488355328 := by rw [List.length_take, List.length_drop]; omega
          unfold maxLen at h2
          go_enter Try.func26, Try.ntmps26
          go_wp2_with (first | (go_at_call 10; refine (get_is _ l p M Q _ w hs ho HG.out hp0 hp1).mono ?_; rintro e w2 ⟨rfl, rfl⟩))
          refine (fresh_any _ ((l.drop Q).take M) w hsg hle).mono ?_
          rintro e w3 ⟨v3, rfl, hown3, hb3⟩
          go_wp2
          go_ret3
          exact ⟨v3, rfl, hown3, hb3⟩
  · rw [if_neg he]
    have hne : (er != 0) = true := by simp [he]
    clear hg he
    go_enter Try.func26, Try.ntmps26
    go_wp2_with (go_at_call 10; refine (get_is _ l p n q er w hs ho HG.out hp0 hp1).mono ?_; rintro e w2 ⟨rfl, rfl⟩)
    go_ret3
    exact ⟨_, rfl, World.ownsRow_nil _ _ _ _, Below.refl _ _⟩
set_option maxHeartbeats 1000000 in
theorem rtext_any (v : Value) (l : List Int) (p most : Int) (w : World) (hs : Seg .u8 w v l) (ho : ∀ z ∈ l, 0 ≤ z ∧ z ≤ 255) (hlen : l.length ≤ 140737488355328) (hp0 : -9223372036854775808 ≤ p) (hp1 : p ≤ 9223372036854775807) (hm0 : -9223372036854775808 ≤ most) (hm1 : most ≤ 9223372036854775807) :
    Calls Try.prog 27 #[v, .int .i64 p, .int .i64 most] w fun e w' => ∃ v', e = .returned (.tuple #[v', .int .i64 (Pl.textI l p most).2.1, .int .i64 (Pl.textI l p most).2.2]) ∧ w'.ownsRow w.heap.size 5 1 v' (Pl.textI l p most).1.length (u8s (Pl.textI l p most).1) ∧ Below w.heap.size w w' := by
  obtain ⟨n, q, er, hg⟩ : ∃ n q er, Pl.getI l p = (n, q, er) := ⟨_, _, _, rfl⟩
  have HG : Hid (Pl.getI l p = (n, q, er)) := hg
  obtain ⟨a, cap, hv, h1, h2, h3, h4⟩ := id hs
  subst hv
  unfold Pl.textI
  rw [hg]
  simp only
  by_cases he : er = 0
  · subst he
    obtain ⟨hpp, hn0, hn1, hpq, hql, _⟩ := Pl.getI_ok l p n q ho hg
    rw [if_pos rfl]
    clear hg
    obtain ⟨b, off, rfl, hbb, hc⟩ := seg_at (by omega) h3 h4
    clear h3 h4
    obtain ⟨Q, rfl⟩ := Int.eq_ofNat_of_zero_le (show 0 ≤ q by omega)
    by_cases hms : most < 0 ∨ most < n
    · rw [if_pos hms]
      rcases hms with hms | hms
      · have hd : decide (most < 0) = true := decide_eq_true hms
        go_enter Try.func27, Try.ntmps27
        go_wp2_with (go_at_call 11; refine (rget_is _ l p n Q _ w hs ho HG.out hp0 hp1).mono ?_; rintro e w2 ⟨rfl, rfl⟩)
        go_ret3
        exact ⟨_, rfl, World.ownsRow_nil _ _ _ _, Below.refl _ _⟩
      · by_cases hm : most < 0
        · have hd : decide (most < 0) = true := decide_eq_true hm
          go_enter Try.func27, Try.ntmps27
          go_wp2_with (go_at_call 11; refine (rget_is _ l p n Q _ w hs ho HG.out hp0 hp1).mono ?_; rintro e w2 ⟨rfl, rfl⟩)
          go_ret3
          exact ⟨_, rfl, World.ownsRow_nil _ _ _ _, Below.refl _ _⟩
        · have hd : decide (most < 0) = false := decide_eq_false hm
          go_enter Try.func27, Try.ntmps27
          go_wp2_with (go_at_call 11; refine (rget_is _ l p n Q _ w hs ho HG.out hp0 hp1).mono ?_; rintro e w2 ⟨rfl, rfl⟩)
          go_ret3
          exact ⟨_, rfl, World.ownsRow_nil _ _ _ _, Below.refl _ _⟩
    · rw [if_neg hms]
      have hms0 : 0 ≤ most := by omega
      have hmsn : n ≤ most := by omega
      have hd : decide (most < 0) = false := decide_eq_false (by omega)
      clear hms
      by_cases hsh : (l.length : Int) - (Q : Int) < n
      · rw [if_pos hsh]
        go_enter Try.func27, Try.ntmps27
        go_wp2_with (go_at_call 11; refine (rget_is _ l p n Q _ w hs ho HG.out hp0 hp1).mono ?_; rintro e w2 ⟨rfl, rfl⟩)
        go_ret3
        exact ⟨_, rfl, World.ownsRow_nil _ _ _ _, Below.refl _ _⟩
      · rw [if_neg hsh]
        obtain ⟨M, rfl⟩ := Int.eq_ofNat_of_zero_le hn0
        rw [Int.toNat_natCast, Int.toNat_natCast]
        have hQM : Q + M ≤ l.length := by omega
        by_cases hcq : cap = Q
        · have hM : M = 0 := by omega
          subst hM
          subst hcq
          unfold maxLen at h2
          go_enter Try.func27, Try.ntmps27
          go_wp2_with (first | (go_at_call 11; refine (rget_is _ l p _ _ _ w hs ho HG.out hp0 hp1).mono ?_; rintro e w2 ⟨rfl, rfl⟩))
          refine (copied_any _ [] w (seg_empty w ⟨b, off, none⟩) (by simp)).mono ?_
          rintro e w3 ⟨v3, rfl, hown3, hb3⟩
          go_wp2
          go_ret3
          exact ⟨v3, rfl, by simpa using hown3, hb3⟩
        · have hsg := seg_part (w := w) Q M hQM h1 h2 hc
          have hle : ((l.drop Q).take M).length ≤ 140737488355328 := by rw [List.length_take, List.length_drop]; omega
          unfold maxLen at h2
          go_enter Try.func27, Try.ntmps27
          go_wp2_with (first | (go_at_call 11; refine (rget_is _ l p M Q _ w hs ho HG.out hp0 hp1).mono ?_; rintro e w2 ⟨rfl, rfl⟩))
          refine (copied_any _ ((l.drop Q).take M) w hsg hle).mono ?_
          rintro e w3 ⟨v3, rfl, hown3, hb3⟩
          go_wp2
          go_ret3
          exact ⟨v3, rfl, hown3, hb3⟩
  · rw [if_neg he]
    have hne : (er != 0) = true := by simp [he]
    clear hg he
    go_enter Try.func27, Try.ntmps27
    go_wp2_with (go_at_call 11; refine (rget_is _ l p n q er w hs ho HG.out hp0 hp1).mono ?_; rintro e w2 ⟨rfl, rfl⟩)
    go_ret3
    exact ⟨_, rfl, World.ownsRow_nil _ _ _ _, Below.refl _ _⟩
end Go.Proofs.Ythakifpjdpknhaa
