/- For every buffer f and all octets piece, together at most 1048576 values: what Feed tells of copies of both is as the document says though the copies are written over behind it (the law FrameOwn answers true), and no argument changes. The condition: the arguments together hold at most 1048576 values. -/
import Derived.Test.YtlfgnllmomeajaaOpenC
import Derived.Test.YtlfgnllmomeajaaSL
import Derived.Test.YtlfgnllmomeajaaLA
namespace Go.Proofs.Ytlfgnllmomeajaa.frameOwn
open Go.ChangeShapes Go.WideShapes Go.ChangeAt Go.RowKit
open Go.ChangeMaps (open_string shut_string)

/-- A box of a buffer. -/
def Box (t : TypeId) (b : Nat) (w : World) (x y : Value) : Prop := w.heap[b]? = some (.cells #[x, y] t (0, 0))
theorem Box.new (t : TypeId) (w : World) (x y : Value) : Box t w.heap.size (w.alloc (.cells #[x, y] t)) x y := heap_alloc_new _ _
theorem Box.facts {t : TypeId} {b : Nat} {w : World} {x y : Value} (h : Box t b w x y) : w.cell? ⟨b, 0, none⟩ = some x ∧ w.cell? ⟨b, 1, none⟩ = some y ∧ b < w.heap.size := by
  refine ⟨by rw [cell_of_row w b 0 _ t (0, 0) h]; rfl, by rw [cell_of_row w b 1 _ t (0, 0) h]; rfl, ?_⟩
  rcases Nat.lt_or_ge b w.heap.size with hlt | hge
  · exact hlt
  · unfold Box at h; rw [Array.getElem?_eq_none hge] at h; cases h
theorem Box.below {t : TypeId} {b B : Nat} {w w' : World} {x y : Value} (h : Box t b w x y) (hb : Below B w w') (hB : b < B) : Box t b w' x y := (hb.block b hB).trans h
theorem Box.kept {t : TypeId} {b : Nat} {w w' : World} {x y : Value} {row : Option Nat} (h : Box t b w x y) (hg : w.grownBy w' row) (hne : row ≠ some b) : Box t b w' x y := (hg.block b h.facts.2.2 (fun e => hne e.symm)).trans h

theorem checkF_val (held : List Int) (lost : Bool) (h : Pl.checkF held lost ≠ 0) : Pl.checkF held lost = 9 := by
  unfold Pl.checkF at h ⊢
  split
  · rfl
  · rename_i h'
    rw [if_neg h'] at h
    exact absurd rfl h

theorem Since.off {n : Nat} {u v : Value} (hu : Since n u) (hv : Till n v) : u.ownBlock = none ∨ u.ownBlock ≠ v.ownBlock := by
  cases h : u.ownBlock with
  | none => exact .inl rfl
  | some k => exact .inr fun e => by have h1 := hu k h; have h2 := hv k e.symm; omega
theorem Pays.off {n : Nat} {w w1 w' : World} {u v : Value} {ls : List (List Int)} (h : Pays (Span n w1) w u ls) (hg : w.grownBy w' v.ownBlock) (hv : Till n v) : Pays (Span n w1) w' u ls :=
  h.kept hg fun k hk e => by have h1 := hk.1; have h2 := hv k e; omega
theorem fd_octs0 {held p : List Int} {lost : Bool} (h : Pl.Octs held) (hp : Pl.Octs p) : (∀ l ∈ (Pl.fd (held, lost, [], 0) p).2.2.1, Pl.Octs l) := by
  have hf := (Pl.scanF_fits (held ++ p) (Pl.octs_app h hp)).2.2
  unfold Pl.fd
  cases lost
  · simp only [Bool.false_eq_true, if_false, List.nil_append]
    split
    · intro l hl
      exact (hf l hl).2.2
    · intro l hl
      exact (hf l hl).2.2
  · simp

set_option maxHeartbeats 4000000 in
set_option maxRecDepth 4000 in
theorem walk (v0 : Value) (held : List Int) (lost : Bool) {w : World} (hs0 : Seg .u8 w v0 held) (ho0 : ∀ z ∈ held, 0 ≤ z ∧ z ≤ 255) (v1 : Value) (p : List Int) (hs1 : Seg .u8 w v1 p) (ho1 : ∀ z ∈ p, 0 ≤ z ∧ z ≤ 255) (hlen : held.length + p.length ≤ 1048576) :
    Calls Try.prog 8 #[.agg #[v0, .bool lost], v1] w fun e w' => e = .returned (.bool true) ∧ Below w.heap.size w w' := by
  obtain ⟨a, c, n, hvs⟩ : ∃ a c n, v0 = .slice a n c := by
    obtain ⟨a, c, h, _⟩ := id hs0
    exact ⟨a, c, _, h⟩
  subst hvs
  go_enter Try.func8, Try.ntmps8
  go_wp2_with fail
  have hB0 := Box.new 44 w (.slice a n c) (.bool lost)
  have hal := (Below.refl w.heap.size w).alloc (Nat.le_refl _) (.cells #[.slice a n c, .bool lost] 44)
  generalize hwa : w.alloc (.cells #[.slice a n c, .bool lost] 44) = wa at *
  refine (alive_any wa).mono ?_
  rintro e w1 ⟨rfl, hb1⟩
  have hB1 := hB0.below hb1 hB0.facts.2.2
  have hb01 := hal.trans (hb1.mono hal.size)
  obtain ⟨c0, c1, hl1⟩ := hB1.facts
  clear hwa hB0
  go_wp2_with fail
  refine (of_any _ held lost w1 (hs0.below hb01) (by omega)).mono ?_
  rintro e w2 ⟨vo, rfl, hown2, hb2⟩
  have hB2 := hB1.below hb2 hl1
  have hw12 := hb2.size
  have hb02 := hb01.trans (hb2.mono hb01.size)
  obtain ⟨ao, co, hvo⟩ := own_shape hown2
  generalize hno : held.length = no at hvo
  subst hvo
  clear c0 c1
  go_wp2_with fail
  refine (copyBytes_any v1 p w2 (hs1.below hb02) (by omega)).mono ?_
  rintro e w3 ⟨vi, rfl, hown3, hb3⟩
  have hB3 := hB2.below hb3 hB2.facts.2.2
  have hb03 := hb02.trans (hb3.mono hb02.size)
  obtain ⟨ai, ci, hvi⟩ := own_shape hown3
  generalize hni : p.length = ni at hvi
  subst hvi
  go_wp2_with fail
  have hal4 := (Below.refl w3.heap.size w3).alloc (Nat.le_refl _) (.cells #[.slice ao no co, .bool lost] 45)
  have hB5 := Box.new 45 w3 (.slice ao no co) (.bool lost)
  have hz4 : (w3.alloc (.cells #[.slice ao no co, .bool lost] 45)).heap.size = w3.heap.size + 1 := by simp
  generalize w3.alloc (.cells #[.slice ao no co, .bool lost] 45) = w4 at *
  have hB4 := hB3.below hal4 hB3.facts.2.2
  have hso4 := (Part.seg (Part.own hown2)).below (hb3.trans (hal4.mono hb3.size))
  have hsi4 := (Part.seg (Part.own hown3)).below hal4
  have hseg := Segs.one 22 hsi4
  have hal5 := (Below.refl w4.heap.size w4).alloc (Nat.le_refl _) (.cells #[.slice ai ni ci] 22)
  have hz5 : (w4.alloc (.cells #[.slice ai ni ci] 22)).heap.size = w3.heap.size + 2 := by simp; omega
  have hso5 := hso4.below hal5
  have hB45 := hB4.below hal5 hB4.facts.2.2
  have hB55 := hB5.below hal5 hB5.facts.2.2
  have hto : Till w3.heap.size (.slice ao no co) := (Till.own hown2).mono hb3.size
  have hti : Till w3.heap.size (.slice ai ni ci) := Till.own hown3
  have hsio : Since w.heap.size (.slice ao no co) := (Since.own hown2).mono hb01.size
  have hsii : Since w.heap.size (.slice ai ni ci) := (Since.own hown3).mono hb02.size
  have hapi : (Value.slice ai ni ci).ownBlock = none ∨ (Value.slice ai ni ci).ownBlock ≠ (Value.slice ao no co).ownBlock := Since.off (Since.own hown3) (Till.own hown2)
  have hbw5 : Below w3.heap.size w3 (w4.alloc (.cells #[.slice ai ni ci] 22)) := hal4.trans (hal5.mono (by omega))
  have hoo5 := ownsRow_below (ownsRow_below hown2 hb3) hbw5
  have hoi5 := ownsRow_below hown3 hbw5
  have hb05 := hb03.trans (hbw5.mono hb03.size)
  rw [hz4] at hseg
  generalize w4.alloc (.cells #[.slice ai ni ci] 22) = w5 at *
  have hz3 : w.heap.size < w3.heap.size := by have h1 := hB3.facts.2.2; exact h1
  have hoth : ∀ p' ∈ [p], Pl.Octs p' := by intro q hq; rw [List.mem_singleton.1 hq]; exact ho1
  clear hB1 hB2 hB3 hB4 hB5 hb1 hb2 hb3 hal hal4 hal5 hbw5 hso4 hsi4 hown2 hown3 hb01 hb02 hb03
  by_cases hck : Pl.checkF held lost = 0
  · have hfeed := ffeed_good _ _ held lost [p] w5 hso5 hseg ho0 hoth hck (by simp [lens]; omega)
    simp only [List.foldl_cons, List.foldl_nil] at hfeed
    have href := fun (w' : World) (hb : Below w.heap.size w w') => rfeed3_good _ v1 held p lost w' (hs0.below hb) (hs1.below hb) ho0 ho1 hck (by omega)
    have hoS := Pl.fd_octs (s := (held, lost, [], 0)) ho0 ho1
    have hoP := fd_octs0 (lost := lost) ho0 ho1
    generalize Pl.fd (held, lost, [], 0) p = S at *
    obtain ⟨H, L, pays, fl⟩ := S
    simp only at hoS hoP
    refine hfeed.mono ?_
    rintro e w6 ⟨x, lv, rfl, hownx, hpx, hb6⟩
    simp only at hownx hpx
    simp only
    obtain ⟨ax, cx, hx⟩ := own_shape hownx
    generalize hxn : H.length = xn at hx
    subst hx
    have hB46 := hB45.below hb6 hB45.facts.2.2
    have hB56 := hB55.below hb6 hB55.facts.2.2
    have hoo6 := ownsRow_below hoo5 hb6
    have hoi6 := ownsRow_below hoi5 hb6
    have hal7 := (Below.refl w6.heap.size w6).alloc (Nat.le_refl _) (.cells #[.slice ax xn cx, .bool L] 45)
    have hB7 := Box.new 45 w6 (.slice ax xn cx) (.bool L)
    have hB47 := hB46.below hal7 hB46.facts.2.2
    have hB57 := hB56.below hal7 hB56.facts.2.2
    have hb07 := (hb05.trans (hb6.mono hb05.size)).trans (hal7.mono (by have h1 := hb05.size; have h2 := hb6.size; omega))
    have hox7 := ownsRow_below hownx hal7
    have hpx7 := hpx.below hal7
    have hoo7 := ownsRow_below hoo6 hal7
    have hoi7 := ownsRow_below hoi6 hal7
    have hz6 := hb6.size
    obtain ⟨c0, c1, _⟩ := hB57.facts
    have hsix := Since.own hownx
    clear hfeed hB46 hB56 hoo6 hoi6 hB45 hB55 hoo5 hoi5 hownx hpx hseg hso5
    go_wp2_with fail
    generalize w6.alloc (.cells #[.slice ax xn cx, .bool L] 45) = w7 at *
    refine (spoil_any _ _ _ _ w7 hoo7).mono ?_
    rintro e w8 ⟨rfl, hg8⟩
    have hto5 : Till w5.heap.size (.slice ao no co) := hto.mono (by omega)
    have hti5 : Till w5.heap.size (.slice ai ni ci) := hti.mono (by omega)
    have hz7 := hg8.size
    have hb08 := below_by hb07 hg8 hb07.size hsio
    have hoi8 := hoi7.kept hg8 hapi
    have hox8 := hox7.kept hg8 (Since.off hsix hto5)
    have hpx8 := Pays.off hpx7 hg8 hto5
    have hB78 := hB7.kept hg8 (fun e => by have := hto5 _ e; omega)
    have hB48 := hB47.kept hg8 (fun e => by have h1 := hoo7.lt _ e; have h2 := hB47.facts.2.2; have h3 := hsio _ e; have h4 := Since.own hoo7 _ e; omega)
    clear c0 c1
    go_wp2_with fail
    refine (spoil_any _ _ _ _ w8 hoi8).mono ?_
    rintro e w9 ⟨rfl, hg9⟩
    have hb09 := below_by hb08 hg9 hb08.size hsii
    have hox9 := hox8.kept hg9 (Since.off hsix hti5)
    have hpx9 := Pays.off hpx8 hg9 hti5
    have hB79 := hB78.kept hg9 (fun e => by have := hti5 _ e; omega)
    have hB49 := hB48.kept hg9 (fun e => by have h4 := Since.own hoi8 _ e; have h5 := hw12; omega)
    obtain ⟨c0, c1, hl9⟩ := hB49.facts
    clear hB78 hB48 hox8 hpx8 hoi8 hg9 hg8 hb08 hb07 hB57 hB47 hoo7 hoi7 hpx7 hox7
    go_wp2_with fail
    refine (href w9 hb09).mono ?_
    rintro e w10 ⟨y, mv, rfl, hsy, _, hpy, hb10⟩
    simp only at hsy hpy
    simp only
    obtain ⟨ay, cy, yn, hy⟩ : ∃ a c n, y = .slice a n c := by
      obtain ⟨a, c, h, _⟩ := id hsy
      exact ⟨a, c, _, h⟩
    subst hy
    have hal11 := (Below.refl w10.heap.size w10).alloc (Nat.le_refl _) (.cells #[.slice ay yn cy, .bool L] 44)
    have hB11 := Box.new 44 w10 (.slice ay yn cy) (.bool L)
    have hbA := hb10.trans (hal11.mono hb10.size)
    have hB7A := hB79.below hbA hB79.facts.2.2
    have hsyA := hsy.below hal11
    have hsxA := (Part.seg (Part.own hox9)).below hbA
    have htx := (hpx9.below hbA).texts
    have hty := (hpy.below hal11).texts
    have hb0A := hb09.trans (hbA.mono hb09.size)
    obtain ⟨d0, d1, _⟩ := hB7A.facts
    obtain ⟨e0, e1, _⟩ := hB11.facts
    clear c0 c1 href
    go_wp2_with fail
    generalize w10.alloc (.cells #[.slice ay yn cy, .bool L] 44) = w11 at *
    refine (same_any _ _ H H L L w11 hsxA hsyA hoS hoS).mono ?_
    rintro e w12 ⟨rfl, hb12⟩
    rw [show (H == H && L == L) = true by simp]
    have hsl := sameList_any lv mv pays pays w12 (htx.below hb12) (hty.below hb12) hoP hoP
    rw [show (pays == pays) = true by simp] at hsl
    go_wp2_with (first
      | (go_at_call 18; refine hsl.mono ?_; rintro e w13 ⟨rfl, hb13⟩)
      | (go_at_call 17; refine (num_any _ _).mono ?_; rintro e w14 ⟨rfl, rfl⟩))
    go_ret
    refine ⟨ret_bool (by simp), (hb0A.trans (hb12.mono hb0A.size)).trans (hb13.mono (by have h1 := hb0A.size; have h2 := hb12.size; omega))⟩
  · have hfeed := ffeed_bad _ (.slice (some ⟨w3.heap.size + 1, 0, none⟩) 1 1) held lost w5 hso5 ho0 hck
    have href := fun (w' : World) (hb : Below w.heap.size w w') => rfeed3_bad _ v1 held lost w' (hs0.below hb) ho0 hck
    rw [checkF_val held lost hck] at hfeed
    refine hfeed.mono ?_
    rintro e w6 ⟨rfl, hb6⟩
    have hB46 := hB45.below hb6 hB45.facts.2.2
    have hB56 := hB55.below hb6 hB55.facts.2.2
    have hoo6 := ownsRow_below hoo5 hb6
    have hoi6 := ownsRow_below hoi5 hb6
    have hal7 := (Below.refl w6.heap.size w6).alloc (Nat.le_refl _) (.cells #[.slice none 0 0, .bool false] 45)
    have hB7 := Box.new 45 w6 (.slice none 0 0) (.bool false)
    have hB47 := hB46.below hal7 hB46.facts.2.2
    have hB57 := hB56.below hal7 hB56.facts.2.2
    have hb07 := (hb05.trans (hb6.mono hb05.size)).trans (hal7.mono (by have h1 := hb05.size; have h2 := hb6.size; omega))
    have hoo7 := ownsRow_below hoo6 hal7
    have hoi7 := ownsRow_below hoi6 hal7
    have hz6 := hb6.size
    obtain ⟨c0, c1, _⟩ := hB57.facts
    clear hfeed hB46 hB56 hoo6 hoi6 hB45 hB55 hoo5 hoi5 hseg hso5
    go_wp2_with fail
    generalize w6.alloc (.cells #[.slice none 0 0, .bool false] 45) = w7 at *
    refine (spoil_any _ _ _ _ w7 hoo7).mono ?_
    rintro e w8 ⟨rfl, hg8⟩
    have hto5 : Till w5.heap.size (.slice ao no co) := hto.mono (by omega)
    have hti5 : Till w5.heap.size (.slice ai ni ci) := hti.mono (by omega)
    have hz7 := hg8.size
    have hb08 := below_by hb07 hg8 hb07.size hsio
    have hoi8 := hoi7.kept hg8 hapi
    have hB78 := hB7.kept hg8 (fun e => by have := hto5 _ e; omega)
    have hB48 := hB47.kept hg8 (fun e => by have h1 := hoo7.lt _ e; have h2 := hB47.facts.2.2; have h3 := hsio _ e; have h4 := Since.own hoo7 _ e; omega)
    clear c0 c1
    go_wp2_with fail
    refine (spoil_any _ _ _ _ w8 hoi8).mono ?_
    rintro e w9 ⟨rfl, hg9⟩
    have hb09 := below_by hb08 hg9 hb08.size hsii
    have hB79 := hB78.kept hg9 (fun e => by have := hti5 _ e; omega)
    have hB49 := hB48.kept hg9 (fun e => by have h4 := Since.own hoi8 _ e; have h5 := hw12; omega)
    obtain ⟨c0, c1, hl9⟩ := hB49.facts
    clear hB78 hB48 hoi8 hg9 hg8 hb08 hb07 hB57 hB47 hoo7 hoi7
    go_wp2_with fail
    refine (href w9 hb09).mono ?_
    rintro e w10 ⟨rfl, hb10⟩
    have hal11 := (Below.refl w10.heap.size w10).alloc (Nat.le_refl _) (.cells #[.slice none 0 0, .bool false] 44)
    have hB11 := Box.new 44 w10 (.slice none 0 0) (.bool false)
    have hbA := hb10.trans (hal11.mono hb10.size)
    have hB7A := hB79.below hbA hB79.facts.2.2
    have hb0A := hb09.trans (hbA.mono hb09.size)
    obtain ⟨d0, d1, _⟩ := hB7A.facts
    obtain ⟨e0, e1, _⟩ := hB11.facts
    clear c0 c1 href
    go_wp2_with fail
    generalize w10.alloc (.cells #[.slice none 0 0, .bool false] 44) = w11 at *
    refine (same_any _ _ [] [] false false w11 (Seg.nil _ _) (Seg.nil _ _) Pl.octs_nil Pl.octs_nil).mono ?_
    rintro e w12 ⟨rfl, hb12⟩
    rw [show (([] : List Int) == [] && false == false) = true by simp]
    have hsl := sameList_any (.slice none 0 0) (.slice none 0 0) [] [] w12 (Pays.nil (fun _ => True) w12).texts (Pays.nil (fun _ => True) w12).texts (fun _ h => by simp at h) (fun _ h => by simp at h)
    rw [show (([] : List (List Int)) == []) = true by simp] at hsl
    go_wp2_with (first
      | (go_at_call 18; refine hsl.mono ?_; rintro e w13 ⟨rfl, hb13⟩)
      | (go_at_call 17; refine (num_any _ _).mono ?_; rintro e w14 ⟨rfl, rfl⟩))
    go_ret
    refine ⟨ret_bool (by simp), (hb0A.trans (hb12.mono hb0A.size)).trans (hb13.mono (by have h1 := hb0A.size; have h2 := hb12.size; omega))⟩

set_option maxRecDepth 100000 in
theorem contract (H : Type) (enc : TypeId × Value → H) (W : World) (base : Nat) (args : Array Value) (ds gs : List (DataW H)) (before : List MemPlace)
    (hval : ∀ (j : Nat) t v, Try.f8.params[j]? = some t → args[j]? = some v → Value.okWide Try.prog W .any base t v)
    (hW : DataW.Whole enc Try.prog Try.f8.params.toList Rows.frameOwnSpec.vars false W args.toList ds gs before) (hk : Rows.uptoSmall H (ds ++ gs) = true) :
    Calls Try.prog 8 args W fun e W' => ∃ v, e = .returned v ∧ Rows.frameOwnSpec.post enc Try.prog Try.f8 false true false false W args v W' := by
  have hW' := hW
  obtain ⟨p, q, hA0, hV, rfl, hfz, hnd⟩ := hW
  have hA : DataW.TrodAll enc Try.prog W 0 (fun _ => true) true Try.f8.params.toList args.toList ds p := hA0
  rw [Try.params8] at hA hval
  obtain ⟨v0, vs0, d0, ds0, p0, q0, hargs, rfl, rfl, h0, r0⟩ := trodAll_cons hA
  obtain ⟨v1, vs1, d1, ds1, p1, q1, rfl, rfl, rfl, h1, r1⟩ := trodAll_cons r0
  obtain ⟨rfl, rfl, rfl⟩ := trodAll_nil r1
  obtain rfl : args = #[v0, v1] := by cases args; simp_all
  obtain ⟨rfl, rfl⟩ := trodVars_none hV
  have k0 := h0
  have lt0 : ∀ x ∈ p0, x.block < W.heap.size := by obtain ⟨m, hm⟩ := k0; exact DataW.trod_lt m _ _ _ hm
  obtain ⟨x0, l0, b0, hv0, hs0, ho0, e0⟩ := open_buffer (hval 0 44 v0 rfl rfl) h0
  subst hv0
  have k1 := h1
  have lt1 : ∀ x ∈ p1, x.block < W.heap.size := by obtain ⟨m, hm⟩ := k1; exact DataW.trod_lt m _ _ _ hm
  obtain ⟨l1, hs1, ho1, e1⟩ := open_octets (hval 1 22 v1 rfl rfl) h1
  have hlen : l0.length + l1.length ≤ 1048576 := by
    have h := bulk_bound hk
    simp only [List.append_nil, Rows.uptoBulkAll] at h
    have b0 := e0
    have b1 := octets_bulk e1
    omega
  clear hA0
  refine (walk x0 l0 b0 hs0 ho0 v1 l1 hs1 ho1 hlen).mono fun e W' ⟨he, bel⟩ => ?_
  subst he
  exact ⟨_, rfl, _, _, _, [], _, [], hW', trodAll_mk1 (shut_bool Try.underlying4 _), (trodAll_cons_mk (Below.trod laidOut (by kernel_rfl) (of_decide_eq_true (by kernel_rfl)) k0 bel lt0) (trodAll_cons_mk (Below.trod laidOut (by kernel_rfl) (of_decide_eq_true (by kernel_rfl)) k1 bel lt1) trodAll_mk0)), rfl, bel.frame _, fun h => by cases h⟩

set_option maxRecDepth 100000 in
theorem lifted (os : Os) (started : os.Started) (H : Type) (enc : TypeId × Value → H) (F : Stop.Interp) :
    ReturnsInHanded {} Try.checked os 8 .any ((Rows.OpenSpec.upto Rows.frameOwnSpec).pre6 enc Try.prog Try.f8 Rows.frameOwnUptoRow.domain false) (((Rows.OpenSpec.upto Rows.frameOwnSpec).at F).post enc Try.prog Try.f8 false true false false) := by
  refine returnsInHanded_of_cond (C := Try.checked) (s := Rows.OpenSpec.upto Rows.frameOwnSpec) (k := Rows.uptoSmall) rfl own started (by kernel_rfl) Try.func8
    (OpenSpec.witness (enc := enc) (C := Try.checked) (s := Rows.OpenSpec.upto Rows.frameOwnSpec) (k := Rows.uptoSmall) rfl false ⟨#[], #[.agg #[.slice none 0 0, .bool false], .slice none 0 0], []⟩ 8 (by kernel_rfl) (by kernel_rfl) (by kernel_rfl)
      (x := ([.agg [.nil, .lit (.bool false)], .nil], [], [])) (by kernel_rfl) rfl (by kernel_rfl)) ?_
  intro W base args ds gs before hval hW _ hk _
  exact contract H enc W base args ds gs before hval hW hk

theorem over : Rows.FrameOwnUptoSaid :=
  OpenClaim.holds_of_cond 8 Try.f8 rfl rfl rfl rfl rfl rfl rfl ⟨rfl, rfl, rfl, rfl, rfl⟩ rfl rfl rfl rfl rfl (by kernel_rfl) Try.func8 (by kernel_rfl)
    (of_decide_eq_true (by kernel_rfl)) (by unfold Func.isWrapper; first | (rw [if_pos (by decide +kernel)]; kernel_rfl) | (rw [if_neg (by decide +kernel)]; exact ⟨rfl, rfl⟩))
    (fun os started H enc _ F => lifted os started H enc F)
end Go.Proofs.Ytlfgnllmomeajaa.frameOwn

namespace Go.Proofs.Ytlfgnllmomeajaa
/-- THE STATEMENT. -/
theorem frameOwnUpto_holds : Rows.FrameOwnUptoSaid := frameOwn.over
#print axioms frameOwnUpto_holds
end Go.Proofs.Ytlfgnllmomeajaa
