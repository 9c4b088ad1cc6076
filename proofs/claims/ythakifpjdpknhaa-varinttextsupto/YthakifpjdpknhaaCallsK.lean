/- Contracts of Texts and of the reference's Texts. -/
import Derived.Test.YthakifpjdpknhaaCallsI
import Derived.Test.YthakifpjdpknhaaApp
namespace Go.Proofs.Ythakifpjdpknhaa
open Go.RowKit

/-- Of each text its length and itself. -/
def textsOf (ts : List (List Int)) : List Int := ts.flatMap fun t => Pl.enc 9 t.length ++ t

theorem textsOf_take_succ (ts : List (List Int)) (k : Nat) (h : k < ts.length) : textsOf (ts.take (k + 1)) = textsOf (ts.take k) ++ Pl.enc 9 (ts.getD k []).length ++ ts.getD k [] := by
  rw [List.take_succ_eq_append_getElem h]
  simp only [textsOf, List.flatMap_append, List.flatMap_cons, List.flatMap_nil, List.append_nil]
  simp [List.getD, h]

theorem textsOf_take_le (ts : List (List Int)) (k : Nat) : (textsOf (ts.take k)).length ≤ (textsOf ts).length := by
  conv => rhs; rw [← List.take_append_drop k ts]
  simp only [textsOf, List.flatMap_append, List.length_append]
  omega

set_option maxHeartbeats 1000000 in
theorem texts_any (v : Value) (l : List Int) (b off cap : Nat) (vs : List Value) (ts : List (List Int)) (w : World) (hs : Seg .u8 w v l) (hb : b < w.heap.size) (hc : ∀ i, i < vs.length → w.cell? ⟨b, off + i, none⟩ = some (vs.getD i undef)) (hl : ts.length = vs.length)
    (ht : ∀ i, i < vs.length → Seg .u8 w (vs.getD i undef) (ts.getD i [])) (hc1 : vs.length ≤ cap) (hc2 : cap ≤ 9223372036854775807) (hlen : l.length + (textsOf ts).length + 10 ≤ 140737488355328) :
    Calls Try.prog 28 #[v, .slice (some ⟨b, off, none⟩) vs.length cap] w fun e w' => ∃ v', e = .returned v' ∧ w'.ownsRow w.heap.size 5 1 v' (l ++ textsOf ts).length (u8s (l ++ textsOf ts)) ∧ Below w.heap.size w w' := by
  have HLn : Hid (ts.length = vs.length) := hl
  clear hl
  go_enter Try.func28, Try.ntmps28
  go_wp2_with (go_at_call 32; refine (fresh_any v l w hs (by omega)).mono ?_; rintro e w1 ⟨v1, rfl, hown1, hbel1⟩)
  go_loopw [5, 12] (fun a i wr => ∃ k : Nat, k ≤ vs.length ∧ i = .int .i64 k ∧ wr.ownsRow w.heap.size 5 1 a (l ++ textsOf (ts.take k)).length (u8s (l ++ textsOf (ts.take k))) ∧ Below w.heap.size w wr) (fun _ i _ => vs.length - (intOf i).toNat)
  case atStart => exact ⟨0, Nat.zero_le _, rfl, by simpa [textsOf] using hown1, hbel1⟩
  case round =>
    obtain ⟨k, hk, rfl, hown, hbel⟩ := hrel
    have hsz := hbel.size
    by_cases hlt : k < vs.length
    · have hkt : k < ts.length := by have := HLn.out; omega
      have hck := (hbel.cell (p := ⟨b, off + k, none⟩) hb).trans (hc k hlt)
      have hsk := ht k hlt
      have HS : Hid (textsOf (ts.take (k + 1)) = textsOf (ts.take k) ++ Pl.enc 9 (ts.getD k []).length ++ ts.getD k []) := textsOf_take_succ ts k hkt
      have hle1 := textsOf_take_le ts (k + 1)
      rw [HS.out] at hle1
      simp only [List.length_append] at hle1
      generalize vs.getD k undef = x at *
      generalize ts.getD k [] = t at *
      obtain ⟨ax, cx, hx, hx1, hx2, hx3, hx4⟩ := id hsk
      subst hx
      unfold maxLen at hx2
      clear hc ht hx3 hx4
      go_wp2_with (first | (go_at_call 33; refine (putOne_any w.heap.size _ (l ++ textsOf (ts.take k)) t.length wr (by omega) hown (by omega) (by omega) (by simp only [List.length_append]; omega)).mono ?_; rintro e w2 ⟨v2, rfl, hown2, hbel2⟩) | (at_builtin; refine wpList_append_seg _ rfl _ _ rfl w.heap.size _ _ (l ++ textsOf (ts.take k) ++ Pl.enc 9 t.length) t rfl hown2 rfl (hsk.below (hbel.trans hbel2)) (by simp only [List.length_append]; omega) (by have := hbel2.size; omega) ?_; intro v3 w3 hown3 hb3; have HO : w3.ownsRow w.heap.size 5 1 v3 (l ++ textsOf (ts.take (k + 1))).length (u8s (l ++ textsOf (ts.take (k + 1)))) := (by rw [HS.out, ← List.append_assoc, ← List.append_assoc]; exact hown3); have hb5 := (hbel.trans hbel2).trans hb3; clear hown hown2 hown3 hck))
      go_roundw
      case rel => exact ⟨k + 1, by omega, by go_num, HO, hb5⟩
      case measure => simp [intOf]; omega
    · have hke : k = ts.length := by have := HLn.out; omega
      have HO : wr.ownsRow w.heap.size 5 1 u5 (l ++ textsOf ts).length (u8s (l ++ textsOf ts)) := by rw [hke, List.take_length] at hown; exact hown
      clear hown hke
      go_wp2
      go_ret
      exact ⟨_, rfl, HO, hbel⟩

set_option maxHeartbeats 1000000 in
theorem rtexts_any (v u : Value) (l t : List Int) (w : World) (hs : Seg .u8 w v l) (hu : Seg .u8 w u t) (hlen : l.length + t.length + 10 ≤ 140737488355328) :
    Calls Try.prog 29 #[v, u] w fun e w' => ∃ v', e = .returned v' ∧ w'.ownsRow w.heap.size 5 1 v' (l ++ Pl.enc 9 t.length ++ t).length (u8s (l ++ Pl.enc 9 t.length ++ t)) ∧ Below w.heap.size w w' := by
  obtain ⟨ax, cx, hx, hx1, hx2, hx3, hx4⟩ := id hu
  subst hx
  clear hx3 hx4
  have hel := Pl.enc_len_le 9 t.length
  unfold maxLen at hx2
  go_enter Try.func29, Try.ntmps29
  go_wp2_with (first | (go_at_call 24; refine (rput_any v l t.length w hs (by omega) (by omega) (by omega)).mono ?_; rintro e w2 ⟨v2, rfl, hown2, hbel2⟩) | (at_builtin; refine wpList_append_seg _ rfl _ _ rfl w.heap.size _ _ (l ++ Pl.enc 9 t.length) t rfl hown2 rfl (hu.below hbel2) (by simp only [List.length_append]; omega) hbel2.size ?_; intro v3 w3 hown3 hb3; have HO := (show Hid (w3.ownsRow w.heap.size 5 1 v3 (l ++ Pl.enc 9 t.length ++ t).length (u8s (l ++ Pl.enc 9 t.length ++ t))) from hown3); have hb5 := hbel2.trans hb3; clear hown2 hown3))
  go_ret
  exact ⟨_, rfl, HO.out, hb5⟩
end Go.Proofs.Ythakifpjdpknhaa
