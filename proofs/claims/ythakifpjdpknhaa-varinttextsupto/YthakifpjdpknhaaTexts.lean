/- For all octets b, s and t that are together of bulk at most 1048576, and all ints at and most: Text and Texts of the program answer as the reference's do, b stays, and 300 is ac 02 (the law VarintTexts answers true), and no argument changes. The condition: the bulk (VarintTextsUptoSaid). -/
import Derived.Test.YthakifpjdpknhaaOpen
import Derived.Test.YthakifpjdpknhaaCallsK
namespace Go.Proofs.Ythakifpjdpknhaa.varintTexts
open Go.ChangeShapes Go.WideShapes Go.ChangeAt Go.RowKit
open Go.ChangeMaps (open_string shut_string)

theorem text_oct (l : List Int) (p most : Int) (ho : ∀ z ∈ l, 0 ≤ z ∧ z ≤ 255) : ∀ z ∈ (Pl.textI l p most).1, 0 ≤ z ∧ z ≤ 255 := by
  unfold Pl.textI
  split
  · split
    · intro z hz; simp at hz
    · split
      · intro z hz; simp at hz
      · intro z hz; exact ho z (List.mem_of_mem_drop (List.mem_of_mem_take hz))
  · intro z hz; simp at hz

theorem put_oct (l t : List Int) (hl : ∀ z ∈ l, 0 ≤ z ∧ z ≤ 255) (ht : ∀ z ∈ t, 0 ≤ z ∧ z ≤ 255) (hn : t.length ≤ 1048576) : ∀ z ∈ l ++ Pl.enc 9 t.length ++ t, 0 ≤ z ∧ z ≤ 255 := by
  intro z hz
  rcases List.mem_append.1 hz with hz | hz
  · rcases List.mem_append.1 hz with hz | hz
    · exact hl z hz
    · exact Pl.enc_oct 9 t.length (by omega) (by rw [Pl.lim9]; omega) z hz
  · exact ht z hz

/-- Two values laid side by side. -/
theorem cells_two (w : World) (x y : Value) (e : TypeId) : ∀ i, i < [x, y].length → (w.alloc (.cells #[x, y] e)).cell? ⟨w.heap.size, 0 + i, none⟩ = some ([x, y].getD i undef) := by
  intro i hi
  simp at hi
  match i, hi with
  | 0, _ => simp
  | 1, _ => simp

theorem texts_two (ow v1 v2 : Value) (b s t : List Int) (w : World) (hso : Seg .u8 w ow b) (hs1 : Seg .u8 w v1 s) (hs2 : Seg .u8 w v2 t) (hlen : b.length + s.length + t.length ≤ 1048576) :
    Calls Try.prog 28 #[ow, .slice (some ⟨w.heap.size, 0, none⟩) 2 2] (w.alloc (.cells #[v1, v2] 22)) fun e w' =>
      ∃ v', e = .returned v' ∧ Seg .u8 w' v' (b ++ Pl.enc 9 s.length ++ s ++ Pl.enc 9 t.length ++ t) ∧ Below w.heap.size w w' := by
  have hba : Below w.heap.size w (w.alloc (.cells #[v1, v2] 22)) := (Below.refl _ _).alloc (Nat.le_refl _) _
  have hel1 := Pl.enc_len_le 9 s.length
  have hel2 := Pl.enc_len_le 9 t.length
  refine (texts_any ow b w.heap.size 0 2 [v1, v2] [s, t] _ (hso.below hba) (by simp) (cells_two w v1 v2 22) rfl ?_ (by simp) (by omega) (by simp [textsOf]; omega)).mono ?_
  · intro i hi
    simp at hi
    match i, hi with
    | 0, _ => exact hs1.below hba
    | 1, _ => exact hs2.below hba
  · rintro e w' ⟨v', rfl, hown, hb⟩
    have he : b ++ textsOf [s, t] = b ++ Pl.enc 9 s.length ++ s ++ Pl.enc 9 t.length ++ t := by simp [textsOf]
    rw [he] at hown
    exact ⟨v', rfl, Seg.own hown, hba.trans (hb.mono hba.size)⟩

set_option maxHeartbeats 4000000 in
set_option maxRecDepth 100000 in
theorem walk (v0 : Value) (b : List Int) {w : World} (hs0 : Seg .u8 w v0 b) (ho : ∀ z ∈ b, 0 ≤ z ∧ z ≤ 255) (v1 : Value) (s : List Int) (hs1 : Seg .u8 w v1 s) (hos : ∀ z ∈ s, 0 ≤ z ∧ z ≤ 255) (v2 : Value) (t : List Int) (hs2 : Seg .u8 w v2 t) (hot : ∀ z ∈ t, 0 ≤ z ∧ z ≤ 255)
    (p : Int) (x3 : (Lit.int .i64 p).wf = true) (most : Int) (x4 : (Lit.int .i64 most).wf = true) (hlen : b.length + s.length + t.length ≤ 1048576) :
    Calls Try.prog 4 #[v0, v1, v2, .int .i64 p, .int .i64 most] w fun e w' => e = .returned (.bool true) ∧ Below w.heap.size w w' := by
  obtain ⟨hp0, hp1⟩ := bounds_i64 x3
  obtain ⟨hm0, hm1⟩ := bounds_i64 x4
  clear x3 x4
  have hto := text_oct b p most ho
  obtain ⟨tl, tq, te, ht⟩ : ∃ tl tq te, Pl.textI b p most = (tl, tq, te) := ⟨_, _, _, rfl⟩
  rw [ht] at hto
  simp only at hto
  have HT : Hid (Pl.textI b p most = (tl, tq, te)) := ht
  clear ht
  have hel1 := Pl.enc_len_le 9 s.length
  have hel2 := Pl.enc_len_le 9 t.length
  have hbs := put_oct b s ho hos (by omega)
  have hbst := put_oct (b ++ Pl.enc 9 s.length ++ s) t hbs hot (by omega)
  obtain ⟨a1, c1, e1, _⟩ := id hs1
  obtain ⟨a2, c2, e2, _⟩ := id hs2
  subst e1
  subst e2
  go_enter Try.func4, Try.ntmps4
  go_wp2_with fail
  refine (copyBytes_any v0 b w hs0 (by omega)).mono ?_
  rintro e w1 ⟨ow, rfl, hown1, hb1⟩
  have hso1 : Seg .u8 w1 ow b := Seg.own hown1
  clear hown1
  go_wp2_with fail
  refine (text_any ow b p most w1 hso1 ho (by omega) hp0 hp1 hm0 hm1).mono ?_
  rintro e w2 ⟨x, rfl, hown2, hb2⟩
  rw [HT.out] at hown2 ⊢
  simp only at hown2 ⊢
  have hsx2 : Seg .u8 w2 x tl := Seg.own hown2
  have hso2 := hso1.below hb2
  have hb02 := hb1.trans (hb2.mono hb1.size)
  clear hown2 hso1 hb2 hb1
  go_wp2_with fail
  refine (rtext_any v0 b p most w2 (hs0.below hb02) ho (by omega) hp0 hp1 hm0 hm1).mono ?_
  rintro e w3 ⟨y, rfl, hown3, hb3⟩
  rw [HT.out] at hown3 ⊢
  simp only at hown3 ⊢
  have hsy3 : Seg .u8 w3 y tl := Seg.own hown3
  have hsx3 := hsx2.below hb3
  have hso3 := hso2.below hb3
  have hb03 := hb02.trans (hb3.mono hb02.size)
  clear hown3 hso2 hsx2 hb3 hb02
  go_wp2_with fail
  refine (sameBytes_any x y _ _ w3 hsx3 hsy3 hto hto).mono ?_
  rintro e w4 ⟨rfl, rfl⟩
  rw [beq_self_eq_true]
  go_wp2_with fail
  refine (num_any _ _).mono ?_
  rintro e w4 ⟨rfl, rfl⟩
  have hs13 := hs1.below hb03
  have hs23 := hs2.below hb03
  go_wp2_with fail
  refine (texts_two ow _ _ b s t w3 hso3 hs13 hs23 (by omega)).mono ?_
  rintro e w4 ⟨z, rfl, hsz4, hb4⟩
  have hb04 := hb03.trans (hb4.mono hb03.size)
  have hso4 := hso3.below hb4
  clear hb4 hso3 hb03 hsx3 hsy3 hs13 hs23
  go_wp2_with fail
  refine (rtexts_any v0 _ b s w4 (hs0.below hb04) (hs1.below hb04) (by omega)).mono ?_
  rintro e w5 ⟨z1, rfl, hown5, hb5⟩
  have hsz15 : Seg .u8 w5 z1 (b ++ Pl.enc 9 s.length ++ s) := Seg.own hown5
  have hsz5 := hsz4.below hb5
  have hso5 := hso4.below hb5
  have hb05 := hb04.trans (hb5.mono hb04.size)
  clear hown5 hb5 hsz4 hso4 hb04
  go_wp2_with fail
  refine (rtexts_any z1 _ (b ++ Pl.enc 9 s.length ++ s) t w5 hsz15 (hs2.below hb05) (by simp only [List.length_append]; omega)).mono ?_
  rintro e w6 ⟨z2, rfl, hown6, hb6⟩
  have hsz26 : Seg .u8 w6 z2 (b ++ Pl.enc 9 s.length ++ s ++ Pl.enc 9 t.length ++ t) := Seg.own hown6
  have hsz6 := hsz5.below hb6
  have hso6 := hso5.below hb6
  have hb06 := hb05.trans (hb6.mono hb05.size)
  clear hown6 hb6 hsz5 hso5 hb05 hsz15
  go_wp2_with fail
  refine (sameBytes_any z z2 _ _ w6 hsz6 hsz26 hbst hbst).mono ?_
  rintro e w7 ⟨rfl, rfl⟩
  rw [beq_self_eq_true]
  go_wp2_with fail
  refine (sameBytes_any ow v0 _ _ w6 hso6 (hs0.below hb06) ho ho).mono ?_
  rintro e w7 ⟨rfl, rfl⟩
  rw [beq_self_eq_true]
  go_wp2_with fail
  refine (alive_any w6).mono ?_
  rintro e w7 ⟨rfl, hb7⟩
  go_wp2
  go_ret
  exact ⟨rfl, hb06.trans (hb7.mono hb06.size)⟩

set_option maxRecDepth 100000 in
theorem contract (H : Type) (enc : TypeId × Value → H) (W : World) (base : Nat) (args : Array Value) (ds gs : List (DataW H)) (before : List MemPlace)
    (hval : ∀ (j : Nat) t v, Try.f4.params[j]? = some t → args[j]? = some v → Value.okWide Try.prog W .any base t v)
    (hW : DataW.Whole enc Try.prog Try.f4.params.toList Rows.varintTextsSpec.vars false W args.toList ds gs before) (hk : Rows.uptoSmall H (ds ++ gs) = true) :
    Calls Try.prog 4 args W fun e W' => ∃ v, e = .returned v ∧ Rows.varintTextsSpec.post enc Try.prog Try.f4 false true false false W args v W' := by
  have hW' := hW
  obtain ⟨p, q, hA0, hV, rfl, hfz, hnd⟩ := hW
  have hA : DataW.TrodAll enc Try.prog W 0 (fun _ => true) true Try.f4.params.toList args.toList ds p := hA0
  rw [Try.params4] at hA hval
  obtain ⟨v0, vs0, d0, ds0, p0, q0, hargs, rfl, rfl, h0, r0⟩ := trodAll_cons hA
  obtain ⟨v1, vs1, d1, ds1, p1, q1, rfl, rfl, rfl, h1, r1⟩ := trodAll_cons r0
  obtain ⟨v2, vs2, d2, ds2, p2, q2, rfl, rfl, rfl, h2, r2⟩ := trodAll_cons r1
  obtain ⟨v3, vs3, d3, ds3, p3, q3, rfl, rfl, rfl, h3, r3⟩ := trodAll_cons r2
  obtain ⟨v4, vs4, d4, ds4, p4, q4, rfl, rfl, rfl, h4, r4⟩ := trodAll_cons r3
  obtain ⟨rfl, rfl, rfl⟩ := trodAll_nil r4
  obtain rfl : args = #[v0, v1, v2, v3, v4] := by cases args; simp_all
  obtain ⟨rfl, rfl⟩ := trodVars_none hV
  have k0 := h0
  have lt0 : ∀ x ∈ p0, x.block < W.heap.size := by obtain ⟨m, hm⟩ := k0; exact DataW.trod_lt m _ _ _ hm
  obtain ⟨l0, hs0, ho0, e0⟩ := open_octets (hval 0 22 v0 rfl rfl) h0
  have k1 := h1
  have lt1 : ∀ x ∈ p1, x.block < W.heap.size := by obtain ⟨m, hm⟩ := k1; exact DataW.trod_lt m _ _ _ hm
  obtain ⟨l1, hs1, ho1, e1⟩ := open_octets (hval 1 22 v1 rfl rfl) h1
  have k2 := h2
  have lt2 : ∀ x ∈ p2, x.block < W.heap.size := by obtain ⟨m, hm⟩ := k2; exact DataW.trod_lt m _ _ _ hm
  obtain ⟨l2, hs2, ho2, e2⟩ := open_octets (hval 2 22 v2 rfl rfl) h2
  obtain ⟨a3, rfl, rfl, rfl, w3⟩ := open_int Try.underlying3 (hval 3 3 v3 rfl rfl) h3
  obtain ⟨a4, rfl, rfl, rfl, w4⟩ := open_int Try.underlying3 (hval 4 3 v4 rfl rfl) h4
  have hlen : l0.length + l1.length + l2.length ≤ 1048576 := by
    have h := bulk_bound hk
    simp only [List.append_nil, Rows.uptoBulkAll] at h
    have b0 := octets_bulk e0
    have b1 := octets_bulk e1
    have b2 := octets_bulk e2
    omega
  clear hA0
  refine (walk v0 l0 hs0 ho0 v1 l1 hs1 ho1 v2 l2 hs2 ho2 a3 w3 a4 w4 hlen).mono fun e W' ⟨he, bel⟩ => ?_
  subst he
  exact ⟨_, rfl, _, _, _, [], _, [], hW', trodAll_mk1 (shut_bool Try.underlying4 _), (trodAll_cons_mk (Below.trod laidOut (by kernel_rfl) (of_decide_eq_true (by kernel_rfl)) k0 bel lt0) (trodAll_cons_mk (Below.trod laidOut (by kernel_rfl) (of_decide_eq_true (by kernel_rfl)) k1 bel lt1) (trodAll_cons_mk (Below.trod laidOut (by kernel_rfl) (of_decide_eq_true (by kernel_rfl)) k2 bel lt2) (trodAll_cons_mk (shut_int Try.underlying3 w3) (trodAll_cons_mk (shut_int Try.underlying3 w4) trodAll_mk0))))), rfl, bel.frame _, fun h => by cases h⟩

set_option maxRecDepth 100000 in
theorem lifted (os : Os) (started : os.Started) (H : Type) (enc : TypeId × Value → H) (F : Stop.Interp) :
    ReturnsInHanded {} Try.checked os 4 .any ((Rows.OpenSpec.upto Rows.varintTextsSpec).pre6 enc Try.prog Try.f4 Rows.varintTextsUptoRow.domain false) (((Rows.OpenSpec.upto Rows.varintTextsSpec).at F).post enc Try.prog Try.f4 false true false false) := by
  refine returnsInHanded_of_cond (C := Try.checked) (s := Rows.OpenSpec.upto Rows.varintTextsSpec) (k := Rows.uptoSmall) rfl own started (by kernel_rfl) Try.func4
    (OpenSpec.witness (enc := enc) (C := Try.checked) (s := Rows.OpenSpec.upto Rows.varintTextsSpec) (k := Rows.uptoSmall) rfl false ⟨#[], #[.slice none 0 0, .slice none 0 0, .slice none 0 0, .int .i64 0, .int .i64 0], []⟩ 8 (by kernel_rfl) (by kernel_rfl) (by kernel_rfl)
      (x := ([.nil, .nil, .nil, .lit (.int .i64 0), .lit (.int .i64 0)], [], [])) (by kernel_rfl) rfl (by kernel_rfl)) ?_
  intro W base args ds gs before hval hW _ hk _
  exact contract H enc W base args ds gs before hval hW hk

theorem over : Rows.VarintTextsUptoSaid :=
  OpenClaim.holds_of_cond 4 Try.f4 rfl rfl rfl rfl rfl rfl rfl ⟨rfl, rfl, rfl, rfl, rfl⟩ rfl rfl rfl rfl rfl (by kernel_rfl) Try.func4 (by kernel_rfl)
    (of_decide_eq_true (by kernel_rfl)) (by unfold Func.isWrapper; first | (rw [if_pos (by decide +kernel)]; kernel_rfl) | (rw [if_neg (by decide +kernel)]; exact ⟨rfl, rfl⟩))
    (fun os started H enc _ F => lifted os started H enc F)
end Go.Proofs.Ythakifpjdpknhaa.varintTexts

namespace Go.Proofs.Ythakifpjdpknhaa
/-- THE STATEMENT. -/
theorem varintTextsUpto_holds : Rows.VarintTextsUptoSaid := varintTexts.over
#print axioms varintTextsUpto_holds
end Go.Proofs.Ythakifpjdpknhaa
