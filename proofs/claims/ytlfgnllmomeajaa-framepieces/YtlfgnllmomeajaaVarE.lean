/- varint: Text, Texts, and the reference's. -/
import Derived.Test.YtlfgnllmomeajaaVarD
namespace Go.Proofs.Ytlfgnllmomeajaa
open Go.RowKit

/-- The text that begins at a place: it, where it ends, the error. -/
def Pl.textI (l : List Int) (p most : Int) : List Int × Int × Int :=
  if (Pl.getI l p).2.2 = 0 then
    (if most < 0 ∨ most < (Pl.getI l p).1 then ([], 0, 5)
     else if (l.length : Int) - (Pl.getI l p).2.1 < (Pl.getI l p).1 then ([], 0, 8)
     else ((l.drop (Pl.getI l p).2.1.toNat).take (Pl.getI l p).1.toNat, (Pl.getI l p).2.1 + (Pl.getI l p).1, 0))
  else ([], 0, (Pl.getI l p).2.2)

/-- A part of octets. -/
theorem seg_part {w : World} {b off cap : Nat} {l : List Int} (q n : Nat) (hqn : q + n ≤ l.length) (hl : l.length ≤ cap) (hm : cap ≤ maxLen) (hc : ∀ i, i < l.length → w.cell? ⟨b, off + i, none⟩ = some (.int .u8 (l.getD i 0))) :
    Seg .u8 w (.slice (some ⟨b, off + q, none⟩) n (cap - q)) ((l.drop q).take n) := by
  have hlen : ((l.drop q).take n).length = n := by rw [List.length_take, List.length_drop]; omega
  refine ⟨some ⟨b, off + q, none⟩, cap - q, by rw [hlen], by rw [hlen]; omega, by omega, fun h => (by cases h), fun x hx i hi => ?_⟩
  cases hx
  rw [hlen] at hi
  rw [add_plain, Nat.add_assoc, hc (q + i) (by omega)]
  simp [List.getD, hi]

theorem seg_empty (w : World) (x : Addr) : Seg .u8 w (.slice (some x) 0 0) [] :=
  ⟨some x, 0, rfl, Nat.le_refl _, by unfold maxLen; omega, fun h => (by cases h), fun _ _ i hi => by simp at hi⟩

/-- Of each text its length and itself. -/
def textsOf (ts : List (List Int)) : List Int := ts.flatMap fun t => Pl.enc 9 t.length ++ t

theorem textsOf_take_succ (ts : List (List Int)) (k : Nat) (h : k < ts.length) : textsOf (ts.take (k + 1)) = textsOf (ts.take k) ++ Pl.enc 9 (ts.getD k []).length ++ ts.getD k [] := by
  rw [List.take_succ_eq_append_getElem h]
  simp only [textsOf, List.flatMap_append, List.flatMap_cons, List.flatMap_nil, List.append_nil]
  simp [List.getD, h]

theorem textsOf_take_le (ts : List (List Int)) (k : Nat) : (textsOf (ts.take k)).length ≤ (textsOf ts).length := by
  conv => rhs; rw [← List.take_append_drop k ts]
  simp only [textsOf, List.flatMap_append, List.length_append]
  omega

set_option maxHeartbeats 1000000 in
theorem rtexts_any (v u : Value) (l t : List Int) (w : World) (hs : Seg .u8 w v l) (hu : Seg .u8 w u t) (hlen : l.length + t.length + 10 ≤ 140737488355328) :
    Calls Try.prog 31 #[v, u] w fun e w' => ∃ v', e = .returned v' ∧ w'.ownsRow w.heap.size 5 1 v' (l ++ Pl.enc 9 t.length ++ t).length (u8s (l ++ Pl.enc 9 t.length ++ t)) ∧ Below w.heap.size w w' := by
  obtain ⟨ax, cx, hx, hx1, hx2, hx3, hx4⟩ := id hu
  subst hx
  clear hx3 hx4
  have hel := Pl.enc_len_le 9 t.length
  unfold maxLen at hx2
  go_enter Try.func31, Try.ntmps31
  go_wp2_with (first | (go_at_call 42; refine (rput_any v l t.length w hs (by omega) (by omega) (by omega)).mono ?_; rintro e w2 ⟨v2, rfl, hown2, hbel2⟩) | (at_builtin; refine wpList_append_seg _ rfl _ _ rfl w.heap.size _ _ (l ++ Pl.enc 9 t.length) t rfl hown2 rfl (hu.below hbel2) (by simp only [List.length_append]; omega) hbel2.size ?_; intro v3 w3 hown3 hb3; have HO := (show Hid (w3.ownsRow w.heap.size 5 1 v3 (l ++ Pl.enc 9 t.length ++ t).length (u8s (l ++ Pl.enc 9 t.length ++ t))) from hown3); have hb5 := hbel2.trans hb3; clear hown2 hown3))
  go_ret
  exact ⟨_, rfl, HO.out, hb5⟩
end Go.Proofs.Ytlfgnllmomeajaa
