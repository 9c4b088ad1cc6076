/- varint: Text, Texts, and the reference's. -/
import Derived.Test.YtoadcaennlfadaaVarD
namespace Go.Proofs.Ytoadcaennlfadaa
open Go.RowKit
set_option maxRecDepth 20000

/-- The text that begins at a place: it, where it ends, the error. -/
def Pl.textI (l : List Int) (p most : Int) : List Int × Int × Int :=
  if (Pl.getI l p).2.2 = 0 then
    (if most < 0 ∨ most < (Pl.getI l p).1 then ([], 0, 5)
     else if (l.length : Int) - (Pl.getI l p).2.1 < (Pl.getI l p).1 then ([], 0, 8)
     else ((l.drop (Pl.getI l p).2.1.toNat).take (Pl.getI l p).1.toNat, (Pl.getI l p).2.1 + (Pl.getI l p).1, 0))
  else ([], 0, (Pl.getI l p).2.2)

/-- A part of octets. -/
theorem seg_part {w : World} {b off cap : Nat} {l : List Int} (q n : Nat) (hqn : q + n ≤ l.length) (hl : l.length ≤ cap) (hm : cap ≤ maxLen) (hc : ∀ i, i < l.length → w.cell? ⟨b, off + i, none⟩ = some (.int .u8 (l.getD i 0))) :
    Seg .u8 w (.slice (some ⟨b, off + q, none⟩) n (cap - q)) ((l.drop q).take n) := by
  have hlen : ((l.drop q).take n).length = n := by rw [List.length_take, List.length_drop]; omega
  refine ⟨some ⟨b, off + q, none⟩, cap - q, by rw [hlen], by rw [hlen]; omega, by omega, fun h => (by cases h), fun x hx i hi => ?_⟩
  cases hx
  rw [hlen] at hi
  rw [add_plain, Nat.add_assoc, hc (q + i) (by omega)]
  simp [List.getD, hi]

theorem seg_empty (w : World) (x : Addr) : Seg .u8 w (.slice (some x) 0 0) [] :=
  ⟨some x, 0, rfl, Nat.le_refl _, by unfold maxLen; omega, fun h => (by cases h), fun _ _ i hi => by simp at hi⟩

set_option maxHeartbeats 1000000 in
theorem text_any (v : Value) (l : List Int) (p most : Int) (w : World) (hs : Seg .u8 w v l) (ho : ∀ z ∈ l, 0 ≤ z ∧ z ≤ 255) (hlen : l.length ≤ 140737488355328) (hp0 : -9223372036854775808 ≤ p) (hp1 : p ≤ 9223372036854775807) (hm0 : -9223372036854775808 ≤ most) (hm1 : most ≤ 9223372036854775807) :
    Calls Try.prog 68 #[v, .int .i64 p, .int .i64 most] w fun e w' => ∃ v', e = .returned (.tuple #[v', .int .i64 (Pl.textI l p most).2.1, .int .i64 (Pl.textI l p most).2.2]) ∧ w'.ownsRow w.heap.size 5 1 v' (Pl.textI l p most).1.length (u8s (Pl.textI l p most).1) ∧ Below w.heap.size w w' := by
  obtain ⟨n, q, er, hg⟩ : ∃ n q er, Pl.getI l p = (n, q, er) := ⟨_, _, _, rfl⟩
  have HG : Hid (Pl.getI l p = (n, q, er)) := hg
  obtain ⟨a, cap, hv, h1, h2, h3, h4⟩ := id hs
  subst hv
  unfold Pl.textI
  rw [hg]
  simp only
  by_cases he : er = 0
  · subst he
    obtain ⟨hpp, hn0, hn1, hpq, hql, _⟩ := Pl.getI_ok l p n q ho hg
    rw [if_pos rfl]
    clear hg
    obtain ⟨b, off, rfl, hbb, hc⟩ := seg_at (by omega) h3 h4
    clear h3 h4
    obtain ⟨Q, rfl⟩ := Int.eq_ofNat_of_zero_le (show 0 ≤ q by omega)
    by_cases hms : most < 0 ∨ most < n
    · rw [if_pos hms]
      rcases hms with hms | hms
      · have hd : decide (most < 0) = true := decide_eq_true hms
        go_enter Try.func68, Try.ntmps68
        go_wp2_with (go_at_call 67; refine (get_is _ l p n Q _ w hs ho HG.out hp0 hp1).mono ?_; rintro e w2 ⟨rfl, rfl⟩)
        go_ret3
        exact ⟨_, rfl, World.ownsRow_nil _ _ _ _, Below.refl _ _⟩
      · by_cases hm : most < 0
        · have hd : decide (most < 0) = true := decide_eq_true hm
          go_enter Try.func68, Try.ntmps68
          go_wp2_with (go_at_call 67; refine (get_is _ l p n Q _ w hs ho HG.out hp0 hp1).mono ?_; rintro e w2 ⟨rfl, rfl⟩)
          go_ret3
          exact ⟨_, rfl, World.ownsRow_nil _ _ _ _, Below.refl _ _⟩
        · have hd : decide (most < 0) = false := decide_eq_false hm
          go_enter Try.func68, Try.ntmps68
          go_wp2_with (go_at_call 67; refine (get_is _ l p n Q _ w hs ho HG.out hp0 hp1).mono ?_; rintro e w2 ⟨rfl, rfl⟩)
          go_ret3
          exact ⟨_, rfl, World.ownsRow_nil _ _ _ _, Below.refl _ _⟩
    · rw [if_neg hms]
      have hms0 : 0 ≤ most := by omega
      have hmsn : n ≤ most := by omega
      have hd : decide (most < 0) = false := decide_eq_false (by omega)
      clear hms
      by_cases hsh : (l.length : Int) - (Q : Int) < n
      · rw [if_pos hsh]
        go_enter Try.func68, Try.ntmps68
        go_wp2_with (go_at_call 67; refine (get_is _ l p n Q _ w hs ho HG.out hp0 hp1).mono ?_; rintro e w2 ⟨rfl, rfl⟩)
        go_ret3
        exact ⟨_, rfl, World.ownsRow_nil _ _ _ _, Below.refl _ _⟩
      · rw [if_neg hsh]
        obtain ⟨M, rfl⟩ := Int.eq_ofNat_of_zero_le hn0
        rw [Int.toNat_natCast, Int.toNat_natCast]
        have hQM : Q + M ≤ l.length := by omega
        by_cases hcq : cap = Q
        · have hM : M = 0 := by omega
          subst hM
          subst hcq
          unfold maxLen at h2
          go_enter Try.func68, Try.ntmps68
          go_wp2_with (first | (go_at_call 67; refine (get_is _ l p _ _ _ w hs ho HG.out hp0 hp1).mono ?_; rintro e w2 ⟨rfl, rfl⟩))
          refine (fresh_any _ [] w (seg_empty w ⟨b, off, none⟩) (by simp)).mono ?_
          rintro e w3 ⟨v3, rfl, hown3, hb3⟩
          go_wp2
          go_ret3
          exact ⟨v3, rfl, by simpa using hown3, hb3⟩
        · have hsg := seg_part (w := w) Q M hQM h1 h2 hc
          have hle : ((l.drop Q).take M).length ≤ 140737488355328 := by rw [List.length_take, List.length_drop]; omega
          unfold maxLen at h2
          go_enter Try.func68, Try.ntmps68
          go_wp2_with (first | (go_at_call 67; refine (get_is _ l p M Q _ w hs ho HG.out hp0 hp1).mono ?_; rintro e w2 ⟨rfl, rfl⟩))
          refine (fresh_any _ ((l.drop Q).take M) w hsg hle).mono ?_
          rintro e w3 ⟨v3, rfl, hown3, hb3⟩
          go_wp2
          go_ret3
          exact ⟨v3, rfl, hown3, hb3⟩
  · rw [if_neg he]
    have hne : (er != 0) = true := by simp [he]
    clear hg he
    go_enter Try.func68, Try.ntmps68
    go_wp2_with (go_at_call 67; refine (get_is _ l p n q er w hs ho HG.out hp0 hp1).mono ?_; rintro e w2 ⟨rfl, rfl⟩)
    go_ret3
    exact ⟨_, rfl, World.ownsRow_nil _ _ _ _, Below.refl _ _⟩
set_option maxHeartbeats 1000000 in
theorem rtext_any (v : Value) (l : List Int) (p most : Int) (w : World) (hs : Seg .u8 w v l) (ho : ∀ z ∈ l, 0 ≤ z ∧ z ≤ 255) (hlen : l.length ≤ 140737488355328) (hp0 : -9223372036854775808 ≤ p) (hp1 : p ≤ 9223372036854775807) (hm0 : -9223372036854775808 ≤ most) (hm1 : most ≤ 9223372036854775807) :
    Calls Try.prog 38 #[v, .int .i64 p, .int .i64 most] w fun e w' => ∃ v', e = .returned (.tuple #[v', .int .i64 (Pl.textI l p most).2.1, .int .i64 (Pl.textI l p most).2.2]) ∧ w'.ownsRow w.heap.size 5 1 v' (Pl.textI l p most).1.length (u8s (Pl.textI l p most).1) ∧ Below w.heap.size w w' := by
  obtain ⟨n, q, er, hg⟩ : ∃ n q er, Pl.getI l p = (n, q, er) := ⟨_, _, _, rfl⟩
  have HG : Hid (Pl.getI l p = (n, q, er)) := hg
  obtain ⟨a, cap, hv, h1, h2, h3, h4⟩ := id hs
  subst hv
  unfold Pl.textI
  rw [hg]
  simp only
  by_cases he : er = 0
  · subst he
    obtain ⟨hpp, hn0, hn1, hpq, hql, _⟩ := Pl.getI_ok l p n q ho hg
    rw [if_pos rfl]
    clear hg
    obtain ⟨b, off, rfl, hbb, hc⟩ := seg_at (by omega) h3 h4
    clear h3 h4
    obtain ⟨Q, rfl⟩ := Int.eq_ofNat_of_zero_le (show 0 ≤ q by omega)
    by_cases hms : most < 0 ∨ most < n
    · rw [if_pos hms]
      rcases hms with hms | hms
      · have hd : decide (most < 0) = true := decide_eq_true hms
        go_enter Try.func38, Try.ntmps38
        go_wp2_with (go_at_call 37; refine (rget_is _ l p n Q _ w hs ho HG.out hp0 hp1).mono ?_; rintro e w2 ⟨rfl, rfl⟩)
        go_ret3
        exact ⟨_, rfl, World.ownsRow_nil _ _ _ _, Below.refl _ _⟩
      · by_cases hm : most < 0
        · have hd : decide (most < 0) = true := decide_eq_true hm
          go_enter Try.func38, Try.ntmps38
          go_wp2_with (go_at_call 37; refine (rget_is _ l p n Q _ w hs ho HG.out hp0 hp1).mono ?_; rintro e w2 ⟨rfl, rfl⟩)
          go_ret3
          exact ⟨_, rfl, World.ownsRow_nil _ _ _ _, Below.refl _ _⟩
        · have hd : decide (most < 0) = false := decide_eq_false hm
          go_enter Try.func38, Try.ntmps38
          go_wp2_with (go_at_call 37; refine (rget_is _ l p n Q _ w hs ho HG.out hp0 hp1).mono ?_; rintro e w2 ⟨rfl, rfl⟩)
          go_ret3
          exact ⟨_, rfl, World.ownsRow_nil _ _ _ _, Below.refl _ _⟩
    · rw [if_neg hms]
      have hms0 : 0 ≤ most := by omega
      have hmsn : n ≤ most := by omega
      have hd : decide (most < 0) = false := decide_eq_false (by omega)
      clear hms
      by_cases hsh : (l.length : Int) - (Q : Int) < n
      · rw [if_pos hsh]
        go_enter Try.func38, Try.ntmps38
        go_wp2_with (go_at_call 37; refine (rget_is _ l p n Q _ w hs ho HG.out hp0 hp1).mono ?_; rintro e w2 ⟨rfl, rfl⟩)
        go_ret3
        exact ⟨_, rfl, World.ownsRow_nil _ _ _ _, Below.refl _ _⟩
      · rw [if_neg hsh]
        obtain ⟨M, rfl⟩ := Int.eq_ofNat_of_zero_le hn0
        rw [Int.toNat_natCast, Int.toNat_natCast]
        have hQM : Q + M ≤ l.length := by omega
        by_cases hcq : cap = Q
        · have hM : M = 0 := by omega
          subst hM
          subst hcq
          unfold maxLen at h2
          go_enter Try.func38, Try.ntmps38
          go_wp2_with (first | (go_at_call 37; refine (rget_is _ l p _ _ _ w hs ho HG.out hp0 hp1).mono ?_; rintro e w2 ⟨rfl, rfl⟩))
          refine (copied_any _ [] w (seg_empty w ⟨b, off, none⟩) (by simp)).mono ?_
          rintro e w3 ⟨v3, rfl, hown3, hb3⟩
          go_wp2
          go_ret3
          exact ⟨v3, rfl, by simpa using hown3, hb3⟩
        · have hsg := seg_part (w := w) Q M hQM h1 h2 hc
          have hle : ((l.drop Q).take M).length ≤ 140737488355328 := by rw [List.length_take, List.length_drop]; omega
          unfold maxLen at h2
          go_enter Try.func38, Try.ntmps38
          go_wp2_with (first | (go_at_call 37; refine (rget_is _ l p M Q _ w hs ho HG.out hp0 hp1).mono ?_; rintro e w2 ⟨rfl, rfl⟩))
          refine (copied_any _ ((l.drop Q).take M) w hsg hle).mono ?_
          rintro e w3 ⟨v3, rfl, hown3, hb3⟩
          go_wp2
          go_ret3
          exact ⟨v3, rfl, hown3, hb3⟩
  · rw [if_neg he]
    have hne : (er != 0) = true := by simp [he]
    clear hg he
    go_enter Try.func38, Try.ntmps38
    go_wp2_with (go_at_call 37; refine (rget_is _ l p n q er w hs ho HG.out hp0 hp1).mono ?_; rintro e w2 ⟨rfl, rfl⟩)
    go_ret3
    exact ⟨_, rfl, World.ownsRow_nil _ _ _ _, Below.refl _ _⟩
/-- Of each text its length and itself. -/
def textsOf (ts : List (List Int)) : List Int := ts.flatMap fun t => Pl.enc 9 t.length ++ t

theorem textsOf_take_succ (ts : List (List Int)) (k : Nat) (h : k < ts.length) : textsOf (ts.take (k + 1)) = textsOf (ts.take k) ++ Pl.enc 9 (ts.getD k []).length ++ ts.getD k [] := by
  rw [List.take_succ_eq_append_getElem h]
  simp only [textsOf, List.flatMap_append, List.flatMap_cons, List.flatMap_nil, List.append_nil]
  simp [List.getD, h]

theorem textsOf_take_le (ts : List (List Int)) (k : Nat) : (textsOf (ts.take k)).length ≤ (textsOf ts).length := by
  conv => rhs; rw [← List.take_append_drop k ts]
  simp only [textsOf, List.flatMap_append, List.length_append]
  omega

set_option maxHeartbeats 1000000 in
theorem texts_any (v : Value) (l : List Int) (b off cap : Nat) (vs : List Value) (ts : List (List Int)) (w : World) (hs : Seg .u8 w v l) (hb : b < w.heap.size) (hc : ∀ i, i < vs.length → w.cell? ⟨b, off + i, none⟩ = some (vs.getD i undef)) (hl : ts.length = vs.length)
    (ht : ∀ i, i < vs.length → Seg .u8 w (vs.getD i undef) (ts.getD i [])) (hc1 : vs.length ≤ cap) (hc2 : cap ≤ 9223372036854775807) (hlen : l.length + (textsOf ts).length + 10 ≤ 140737488355328) :
    Calls Try.prog 50 #[v, .slice (some ⟨b, off, none⟩) vs.length cap] w fun e w' => ∃ v', e = .returned v' ∧ w'.ownsRow w.heap.size 5 1 v' (l ++ textsOf ts).length (u8s (l ++ textsOf ts)) ∧ Below w.heap.size w w' := by
  have HLn : Hid (ts.length = vs.length) := hl
  clear hl
  go_enter Try.func50, Try.ntmps50
  go_wp2_with (go_at_call 65; refine (fresh_any v l w hs (by omega)).mono ?_; rintro e w1 ⟨v1, rfl, hown1, hbel1⟩)
  go_loopw [5, 12] (fun a i wr => ∃ k : Nat, k ≤ vs.length ∧ i = .int .i64 k ∧ wr.ownsRow w.heap.size 5 1 a (l ++ textsOf (ts.take k)).length (u8s (l ++ textsOf (ts.take k))) ∧ Below w.heap.size w wr) (fun _ i _ => vs.length - (intOf i).toNat)
  case atStart => exact ⟨0, Nat.zero_le _, rfl, by simpa [textsOf] using hown1, hbel1⟩
  case round =>
    obtain ⟨k, hk, rfl, hown, hbel⟩ := hrel
    have hsz := hbel.size
    by_cases hlt : k < vs.length
    · have hkt : k < ts.length := by have := HLn.out; omega
      have hck := (hbel.cell (p := ⟨b, off + k, none⟩) hb).trans (hc k hlt)
      have hsk := ht k hlt
      have HS : Hid (textsOf (ts.take (k + 1)) = textsOf (ts.take k) ++ Pl.enc 9 (ts.getD k []).length ++ ts.getD k []) := textsOf_take_succ ts k hkt
      have hle1 := textsOf_take_le ts (k + 1)
      rw [HS.out] at hle1
      simp only [List.length_append] at hle1
      generalize vs.getD k undef = x at *
      generalize ts.getD k [] = t at *
      obtain ⟨ax, cx, hx, hx1, hx2, hx3, hx4⟩ := id hsk
      subst hx
      unfold maxLen at hx2
      clear hc ht hx3 hx4
      go_wp2_with (first | (go_at_call 66; refine (putOne_any w.heap.size _ (l ++ textsOf (ts.take k)) t.length wr (by omega) hown (by omega) (by omega) (by simp only [List.length_append]; omega)).mono ?_; rintro e w2 ⟨v2, rfl, hown2, hbel2⟩) | (at_builtin; refine wpList_append_seg _ rfl _ _ rfl w.heap.size _ _ (l ++ textsOf (ts.take k) ++ Pl.enc 9 t.length) t rfl hown2 rfl (hsk.below (hbel.trans hbel2)) (by simp only [List.length_append]; omega) (by have := hbel2.size; omega) ?_; intro v3 w3 hown3 hb3; have HO : w3.ownsRow w.heap.size 5 1 v3 (l ++ textsOf (ts.take (k + 1))).length (u8s (l ++ textsOf (ts.take (k + 1)))) := (by rw [HS.out, ← List.append_assoc, ← List.append_assoc]; exact hown3); have hb5 := (hbel.trans hbel2).trans hb3; clear hown hown2 hown3 hck))
      go_roundw
      case rel => exact ⟨k + 1, by omega, by go_num, HO, hb5⟩
      case measure => simp [intOf]; omega
    · have hke : k = ts.length := by have := HLn.out; omega
      have HO : wr.ownsRow w.heap.size 5 1 u5 (l ++ textsOf ts).length (u8s (l ++ textsOf ts)) := by rw [hke, List.take_length] at hown; exact hown
      clear hown hke
      go_wp2
      go_ret
      exact ⟨_, rfl, HO, hbel⟩

set_option maxHeartbeats 1000000 in
theorem rtexts_any (v u : Value) (l t : List Int) (w : World) (hs : Seg .u8 w v l) (hu : Seg .u8 w u t) (hlen : l.length + t.length + 10 ≤ 140737488355328) :
    Calls Try.prog 31 #[v, u] w fun e w' => ∃ v', e = .returned v' ∧ w'.ownsRow w.heap.size 5 1 v' (l ++ Pl.enc 9 t.length ++ t).length (u8s (l ++ Pl.enc 9 t.length ++ t)) ∧ Below w.heap.size w w' := by
  obtain ⟨ax, cx, hx, hx1, hx2, hx3, hx4⟩ := id hu
  subst hx
  clear hx3 hx4
  have hel := Pl.enc_len_le 9 t.length
  unfold maxLen at hx2
  go_enter Try.func31, Try.ntmps31
  go_wp2_with (first | (go_at_call 29; refine (rput_any v l t.length w hs (by omega) (by omega) (by omega)).mono ?_; rintro e w2 ⟨v2, rfl, hown2, hbel2⟩) | (at_builtin; refine wpList_append_seg _ rfl _ _ rfl w.heap.size _ _ (l ++ Pl.enc 9 t.length) t rfl hown2 rfl (hu.below hbel2) (by simp only [List.length_append]; omega) hbel2.size ?_; intro v3 w3 hown3 hb3; have HO := (show Hid (w3.ownsRow w.heap.size 5 1 v3 (l ++ Pl.enc 9 t.length ++ t).length (u8s (l ++ Pl.enc 9 t.length ++ t))) from hown3); have hb5 := hbel2.trans hb3; clear hown2 hown3))
  go_ret
  exact ⟨_, rfl, HO.out, hb5⟩
end Go.Proofs.Ytoadcaennlfadaa
