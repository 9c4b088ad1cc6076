/- For every buffer f and all octets a and b, together at most 1048576 values: Feed of f with both pieces is as the document says, piece by piece, and so is Check (the law FrameFeeds answers true), and no argument changes. The condition: the arguments together hold at most 1048576 values. -/
import Derived.Test.YtlfgnllmomeajaaOpenC
import Derived.Test.YtlfgnllmomeajaaSL
import Derived.Test.YtlfgnllmomeajaaStep
import Derived.Test.YtlfgnllmomeajaaOpsG
namespace Go.Proofs.Ytlfgnllmomeajaa.frameFeeds
open Go.ChangeShapes Go.WideShapes Go.ChangeAt Go.RowKit
open Go.ChangeMaps (open_string shut_string)

/-- A box of a buffer. -/
def Box (t : TypeId) (b : Nat) (w : World) (x y : Value) : Prop := w.heap[b]? = some (.cells #[x, y] t (0, 0))
theorem Box.new (t : TypeId) (w : World) (x y : Value) : Box t w.heap.size (w.alloc (.cells #[x, y] t)) x y := heap_alloc_new _ _
theorem Box.facts {t : TypeId} {b : Nat} {w : World} {x y : Value} (h : Box t b w x y) : w.cell? ⟨b, 0, none⟩ = some x ∧ w.cell? ⟨b, 1, none⟩ = some y ∧ b < w.heap.size ∧ w.frozen? ⟨b, 0, none⟩ = false ∧ w.frozen? ⟨b, 1, none⟩ = false := by
  refine ⟨by rw [cell_of_row w b 0 _ t (0, 0) h]; rfl, by rw [cell_of_row w b 1 _ t (0, 0) h]; rfl, ?_, frozen_of_row w _ 0 _ t h, frozen_of_row w _ 1 _ t h⟩
  rcases Nat.lt_or_ge b w.heap.size with hlt | hge
  · exact hlt
  · unfold Box at h; rw [Array.getElem?_eq_none hge] at h; cases h
theorem Box.below {t : TypeId} {b B : Nat} {w w' : World} {x y : Value} (h : Box t b w x y) (hb : Below B w w') (hB : b < B) : Box t b w' x y := (hb.block b hB).trans h
theorem Box.kept {t : TypeId} {b : Nat} {w w' : World} {x y : Value} {row : Option Nat} (h : Box t b w x y) (hg : w.grownBy w' row) (hne : row ≠ some b) : Box t b w' x y := (hg.block b h.facts.2.2.1 (fun e => hne e.symm)).trans h

theorem checkF_val (held : List Int) (lost : Bool) (h : Pl.checkF held lost ≠ 0) : Pl.checkF held lost = 9 := by
  unfold Pl.checkF at h ⊢
  split
  · rfl
  · rename_i h'
    rw [if_neg h'] at h
    exact absurd rfl h

theorem fd_octs0 {held p : List Int} {lost : Bool} (h : Pl.Octs held) (hp : Pl.Octs p) : (∀ l ∈ (Pl.fd (held, lost, [], 0) p).2.2.1, Pl.Octs l) := by
  have hf := (Pl.scanF_fits (held ++ p) (Pl.octs_app h hp)).2.2
  unfold Pl.fd
  cases lost
  · simp only [Bool.false_eq_true, if_false, List.nil_append]
    split
    · intro l hl
      exact (hf l hl).2.2
    · intro l hl
      exact (hf l hl).2.2
  · simp

def val (x z l m own f : Value) (F C : Int) : Nat → Value
  | 0 => x
  | 1 => z
  | 4 => l
  | 5 => m
  | 9 => .int .i64 F
  | 10 => .int .i64 F
  | 11 => .int .i64 F
  | 15 => own
  | 16 => .int .i64 C
  | 17 => .int .i64 C
  | 18 => f
  | 19 => .int .i64 C
  | 23 => own
  | 24 => f
  | _ => .bool true

set_option maxHeartbeats 8000000 in
set_option maxRecDepth 4000 in
theorem walk (v0 : Value) (held : List Int) (lost : Bool) {w : World} (hs0 : Seg .u8 w v0 held) (ho0 : ∀ z ∈ held, 0 ≤ z ∧ z ≤ 255) (v1 : Value) (p : List Int) (hs1 : Seg .u8 w v1 p) (ho1 : ∀ z ∈ p, 0 ≤ z ∧ z ≤ 255) (v2 : Value) (q : List Int) (hs2 : Seg .u8 w v2 q) (ho2 : ∀ z ∈ q, 0 ≤ z ∧ z ≤ 255) (hlen : held.length + p.length + q.length ≤ 1048576) :
    Calls Try.prog 4 #[.agg #[v0, .bool lost], v1, v2] w fun e w' => e = .returned (.bool true) ∧ Below w.heap.size w w' := by
  obtain ⟨a, c, n, hvs⟩ : ∃ a c n, v0 = .slice a n c := by
    obtain ⟨a, c, h, _⟩ := id hs0
    exact ⟨a, c, _, h⟩
  subst hvs
  obtain ⟨a1, c1, n1, hvs⟩ : ∃ a c n, v1 = .slice a n c := by
    obtain ⟨a, c, h, _⟩ := id hs1
    exact ⟨a, c, _, h⟩
  subst hvs
  obtain ⟨a2, c2, n2, hvs⟩ : ∃ a c n, v2 = .slice a n c := by
    obtain ⟨a, c, h, _⟩ := id hs2
    exact ⟨a, c, _, h⟩
  subst hvs
  go_enter Try.func4, Try.ntmps4
  go_wp2_with fail
  have hB0 := Box.new 44 w (.slice a n c) (.bool lost)
  have hal := (Below.refl w.heap.size w).alloc (Nat.le_refl _) (.cells #[.slice a n c, .bool lost] 44)
  generalize w.alloc (.cells #[.slice a n c, .bool lost] 44) = w1 at *
  refine (of_any _ held lost w1 (hs0.below hal) (by omega)).mono ?_
  rintro e w2 ⟨vo, rfl, hown2, hb2⟩
  have hB2 := hB0.below hb2 hB0.facts.2.2.1
  have hb02 := hal.trans (hb2.mono hal.size)
  obtain ⟨ao, co, hvo⟩ := own_shape hown2
  generalize hno : held.length = no at hvo
  subst hvo
  clear hB0
  go_wp2_with fail
  have hal3 := (Below.refl w2.heap.size w2).alloc (Nat.le_refl _) (.cells #[.slice ao no co, .bool lost] 45)
  have hB7 := Box.new 45 w2 (.slice ao no co) (.bool lost)
  have hz3 : (w2.alloc (.cells #[.slice ao no co, .bool lost] 45)).heap.size = w2.heap.size + 1 := by simp
  generalize w2.alloc (.cells #[.slice ao no co, .bool lost] 45) = w3 at *
  have hB3 := hB2.below hal3 hB2.facts.2.2.1
  have hso3 := (Part.seg (Part.own hown2)).below hal3
  have hb03 := hb02.trans (hal3.mono hb02.size)
  have hsg := Segs.two 22 (hs1.below hb03) (hs2.below hb03)
  have hal4 := (Below.refl w3.heap.size w3).alloc (Nat.le_refl _) (.cells #[.slice a1 n1 c1, .slice a2 n2 c2] 22)
  have hB4 := hB3.below hal4 hB3.facts.2.2.1
  have hB74 := hB7.below hal4 hB7.facts.2.2.1
  have hso4 := hso3.below hal4
  have hb04 := hb03.trans (hal4.mono hb03.size)
  rw [hz3] at hsg
  generalize w3.alloc (.cells #[.slice a1 n1 c1, .slice a2 n2 c2] 22) = w4 at *
  have hoth : ∀ p' ∈ [p, q], Pl.Octs p' := by
    intro r hr
    simp at hr
    rcases hr with rfl | rfl
    · exact ho1
    · exact ho2
  clear hB2 hB7 hB3 hal hal3 hal4 hso3 hb2 hown2
  by_cases hck : Pl.checkF held lost = 0
  · have hfeed := ffeed_good _ _ held lost [p, q] w4 hso4 hsg ho0 hoth hck (by simp [lens]; omega)
    simp only [List.foldl_cons, List.foldl_nil] at hfeed
    obtain ⟨hck1, hfl1⟩ := Pl.fd_check held p lost ho0 ho1 hck
    have hoS1 := Pl.fd_octs (s := (held, lost, [], 0)) ho0 ho1
    have hm1 := Pl.fd_mass (s := (held, lost, [], 0)) ho0 ho1
    have hoP1 := fd_octs0 (lost := lost) ho0 ho1
    have href1 := fun (w' : World) (hb : Below w.heap.size w w') => rfeed3_good _ (.slice a1 n1 c1) held p lost w' (hs0.below hb) (hs1.below hb) ho0 ho1 hck (by omega)
    generalize Pl.fd (held, lost, [], 0) p = S1 at *
    obtain ⟨H1, L1, P1, f1⟩ := S1
    simp only [Pl.mass, List.length_nil] at hck1 hfl1 hoS1 hoP1 hm1
    rw [Pl.fd_from H1 q L1 P1 f1 hfl1] at hfeed
    have hoS2 := Pl.fd_octs (s := (H1, L1, [], 0)) hoS1 ho2
    have hm2 := Pl.fd_mass (s := (H1, L1, [], 0)) hoS1 ho2
    have hoP2 := fd_octs0 (lost := L1) hoS1 ho2
    have href2 := fun (w' : World) (y : Value) (hy : Seg .u8 w' y H1) (hb : Below w.heap.size w w') => rfeed3_good y (.slice a2 n2 c2) H1 q L1 w' hy (hs2.below hb) hoS1 ho2 hck1 (by omega)
    have hchk := fun (w' : World) (hb : Below w.heap.size w w') => rcheck3_any _ held lost w' (hs0.below hb) ho0
    rw [hck] at hchk
    generalize Pl.fd (H1, L1, [], 0) q = S2 at *
    obtain ⟨H2, L2, P2, f2⟩ := S2
    simp only [Pl.mass, List.length_nil] at hoS2 hoP2 hm2
    generalize hF : (if f1 = 0 then f2 else f1) = F at hfeed
    have HF : Hid ((if f1 = 0 then f2 else f1) = F) := hF
    clear hF
    refine hfeed.mono ?_
    rintro e w6 ⟨x, lv, rfl, hownx, hpx, hb6⟩
    simp only at hownx hpx
    simp only
    obtain ⟨ax, cx, hx⟩ := own_shape hownx
    generalize hxn : H2.length = xn at hx
    subst hx
    have hB6 := hB4.below hb6 hB4.facts.2.2.1
    have hB76 := hB74.below hb6 hB74.facts.2.2.1
    have hal7 := (Below.refl w6.heap.size w6).alloc (Nat.le_refl _) (.cells #[.slice ax xn cx, .bool L2] 45)
    have hB8 := Box.new 45 w6 (.slice ax xn cx) (.bool L2)
    have hb46 := hb6.trans (hal7.mono hb6.size)
    have hB07 := hB6.below hal7 hB6.facts.2.2.1
    have hB77 := hB76.below hal7 hB76.facts.2.2.1
    have hb07 := hb04.trans (hb46.mono hb04.size)
    have hsx7 := (Part.seg (Part.own hownx)).below hal7
    have htx7 := (hpx.below hal7).texts
    have hso7 := hso4.below hb46
    obtain ⟨c0, c0', _, _, _⟩ := hB07.facts
    clear hfeed hB6 hB76 hB4 hB74 hownx hpx hsg hso4 hb6 hal7
    go_wp2_with fail
    generalize w6.alloc (.cells #[.slice ax xn cx, .bool L2] 45) = w7 at *
    refine (href1 w7 hb07).mono ?_
    rintro e w8 ⟨y, mv, rfl, hsy, _, hpy, hb8⟩
    simp only at hsy hpy
    simp only
    obtain ⟨ay, cy, yn, hy⟩ : ∃ a c n, y = .slice a n c := by
      obtain ⟨a, c, h, _⟩ := id hsy
      exact ⟨a, c, _, h⟩
    subst hy
    have hle78s := hb8.size
    have hal9 := (Below.refl w8.heap.size w8).alloc (Nat.le_refl _) (.cells #[.slice ay yn cy, .bool L1] 44)
    have hB11 := Box.new 44 w8 (.slice ay yn cy) (.bool L1)
    have hz9 : (w8.alloc (.cells #[.slice ay yn cy, .bool L1] 44)).heap.size = w8.heap.size + 1 := by simp
    have hb79 := hb8.trans (hal9.mono hb8.size)
    have hB09 := hB07.below hb79 hB07.facts.2.2.1
    have hB79 := hB77.below hb79 hB77.facts.2.2.1
    have hB89 := hB8.below hb79 hB8.facts.2.2.1
    have hb09 := hb07.trans (hb79.mono hb07.size)
    have hsx9 := hsx7.below hb79
    have htx9 := htx7.below hb79
    have hso9 := hso7.below hb79
    have hsy9 := hsy.below hal9
    have hpy9 := hpy.below hal9
    obtain ⟨d0, d0', _, _, _⟩ := hB09.facts
    clear c0 c0' href1 hsy hpy hb8 hal9
    go_wp2_with fail
    generalize w8.alloc (.cells #[.slice ay yn cy, .bool L1] 44) = w9 at *
    refine (hchk w9 hb09).mono ?_
    rintro e w10 ⟨rfl, hb10⟩
    have hB10 := hB11.below hb10 hB11.facts.2.2.1
    have hb010 := hb09.trans (hb10.mono hb09.size)
    obtain ⟨g0, g0', _, _, _⟩ := hB10.facts
    have hle810 : w8.heap.size ≤ w10.heap.size := by have := hb10.size; omega
    clear d0 d0'
    go_wp2_with fail
    refine (href2 w10 _ (hsy9.below hb10) hb010).mono ?_
    rintro e w11 ⟨z, nv, rfl, hsz, hwz, hpz, hb11⟩
    simp only at hsz hpz hwz
    simp only
    obtain ⟨az, cz, zn, hz⟩ : ∃ a c n, z = .slice a n c := by
      obtain ⟨a, c, h, _⟩ := id hsz
      exact ⟨a, c, _, h⟩
    subst hz
    have hal12 := (Below.refl w11.heap.size w11).alloc (Nat.le_refl _) (.cells #[.slice az zn cz, .bool L2] 44)
    have hB14 := Box.new 44 w11 (.slice az zn cz) (.bool L2)
    have hz12 : (w11.alloc (.cells #[.slice az zn cz, .bool L2] 44)).heap.size = w11.heap.size + 1 := by simp
    have hle1011 := hb11.size
    have hb9B := (hb10.trans (hb11.mono hb10.size)).trans (hal12.mono (by have h1 := hb10.size; have h2 := hb11.size; omega))
    have hb10B := hb11.trans (hal12.mono hb11.size)
    have hB0C := hB09.below hb9B hB09.facts.2.2.1
    have hB7C := hB79.below hb9B hB79.facts.2.2.1
    have hB8C := hB89.below hb9B hB89.facts.2.2.1
    have hB11C := hB10.below hb10B hB10.facts.2.2.1
    have hb0C := hb09.trans (hb9B.mono hb09.size)
    have hb7C := hb79.trans (hb9B.mono hb79.size)
    have hle78' : w7.heap.size ≤ w8.heap.size := hle78s
    have hsxC := hsx9.below hb9B
    have htxC := htx9.below hb9B
    have hsoC := hso9.below hb9B
    have hpyC := hpy9.below hb9B
    have hszC := hsz.below hal12
    have hpzC := hpz.below hal12
    obtain ⟨g1, g1', _, gf0, gf1⟩ := hB11C.facts
    obtain ⟨g2, g2', _, _, _⟩ := hB14.facts
    clear g0 g0' href2 hB09 hB79 hB89 hB10 hB11 hsx9 htx9 hso9 hb79 hsy9 hpy9 hsz hpz hb11 hal12 hb9B hb10B hb10
    go_wp2_with fail
    generalize w11.alloc (.cells #[.slice az zn cz, .bool L2] 44) = w12 at *
    have hbd := below_drew (Below.refl w12.heap.size w12)
    have hzd : w12.drew.heap.size = w12.heap.size := rfl
    have hmv : ∀ k, w8.heap.size ≤ k → mv.ownBlock ≠ some k := fun k hk => hpyC.apart fun hq => by have := hq.2; omega
    have hs1112 := hb010.size
    obtain ⟨ys, hRd, hEd⟩ := (hpzC.below hbd).reads
    have hpyD := hpyC.below hbd
    have hB14D := hB14.below hbd hB14.facts.2.2.1
    have hB11D := hB11C.below hbd hB11C.facts.2.2.1
    have hB0D := hB0C.below hbd hB0C.facts.2.2.1
    have hB7D := hB7C.below hbd hB7C.facts.2.2.1
    have hB8D := hB8C.below hbd hB8C.facts.2.2.1
    have hl1 : P1.length + P2.length ≤ 5864062014805 := by omega
    have h8 : w8.heap.size < w12.heap.size := by have := hB11C.facts.2.2.1; exact this
    have h10 : w8.heap.size ≤ w10.heap.size := hle810
    have h1112 : w11.heap.size < w12.heap.size := by omega
    have hQ : ∀ k, Span w7.heap.size w8 k → k < w12.drew.heap.size := fun k hk => by have := hk.2; rw [hzd]; omega
    have hRR : ∀ k, Span w10.heap.size w11 k → k < w12.drew.heap.size ∧ mv.ownBlock ≠ some k := fun k hk => ⟨by have := hk.2; rw [hzd]; omega, hmv k (by have := hk.1; omega)⟩
    clear g1 g1' gf0 gf1 g2 g2'
    obtain ⟨i2, i2', _, _, _⟩ := hB14D.facts
    have hne11 : ¬ w8.heap.size = w11.heap.size := by omega
    go_region_law (refine step_append_pays _ rfl (.tmp 46) (.tmp 47) rfl (Span w7.heap.size w8) (Span w10.heap.size w11) mv nv P1 P2 ys rfl rfl hpyD hRd hEd hQ hRR hl1 ?_; intro v13 w13 hP13 hg13 hm13; have hB14E := hB14D.kept hg13 (hmv _ (by omega)); have hB11E := hB11D.kept hg13 (hmv _ (Nat.le_refl _)); obtain ⟨j1, j1', _, jf0, jf1⟩ := hB11E.facts; obtain ⟨j2, j2', _, _, _⟩ := hB14E.facts)
    all_goals
      have hmvS : Since w7.heap.size mv := fun k hk => by
        by_cases h : w7.heap.size ≤ k
        · exact h
        · exact absurd hk (hpyC.apart fun hq => h hq.1)
      have hle78 : w7.heap.size ≤ w8.heap.size := hle78'
      have hb713 : Below w7.heap.size w7 w13 := ((hb7C.trans (hbd.mono hb7C.size)).grown hg13 (by have := hb7C.size; rw [hzd]; omega) hmvS)
      have hb7E := (hb713.setCell (p := ⟨w8.heap.size, 0, none⟩) hle78 (.slice az zn cz)).setCell (p := ⟨w8.heap.size, 1, none⟩) hle78 (.bool L2)
      have hB11F : Box 44 w8.heap.size ((w13.setCell ⟨w8.heap.size, 0, none⟩ (.slice az zn cz)).setCell ⟨w8.heap.size, 1, none⟩ (.bool L2)) (.slice az zn cz) (.bool L2) := heap_setCell_same _ _ 1 _ 44 _ (heap_setCell_same w13 _ 0 _ 44 _ hB11E)
      have hgs1 := grown_set w13 w8.heap.size 0 (.slice az zn cz)
      have hgs2 := grown_set (w13.setCell ⟨w8.heap.size, 0, none⟩ (.slice az zn cz)) w8.heap.size 1 (.bool L2)
      have hP14 := ((hP13.kept hgs1 fun k hk he => by
        cases he
        rcases hk with hk | hk | hk
        · have := hk.2; omega
        · have := hk.1; omega
        · have := hk.1; rw [hzd] at this; omega).kept hgs2 fun k hk he => by
        cases he
        rcases hk with hk | hk | hk
        · have := hk.2; omega
        · have := hk.1; omega
        · have := hk.1; rw [hzd] at this; omega)
      have htyE := hP14.texts
      have hszE : Seg .u8 ((w13.setCell ⟨w8.heap.size, 0, none⟩ (.slice az zn cz)).setCell ⟨w8.heap.size, 1, none⟩ (.bool L2)) (.slice az zn cz) H2 := by
        rcases hwz with hwz | hwz
        · have hne : (Value.slice az zn cz).ownBlock = none ∨ (Value.slice az zn cz).ownBlock ≠ mv.ownBlock := by
            cases hh : (Value.slice az zn cz).ownBlock with
            | none => exact .inl rfl
            | some k => exact .inr fun he => hmv k (by have := hwz k hh; omega) he.symm
          have hne2 : (Value.slice az zn cz).ownBlock = none ∨ (Value.slice az zn cz).ownBlock ≠ some w8.heap.size := by
            cases hh : (Value.slice az zn cz).ownBlock with
            | none => exact .inl rfl
            | some k => exact .inr fun he => by have := hwz k hh; cases he; omega
          exact (((hszC.below hbd).spared hg13 hne).spared hgs1 hne2).spared hgs2 hne2
        · subst hwz
          obtain ⟨aa, cc, he, q1, q2, q3, _⟩ := hszC
          exact ⟨aa, cc, he, q1, q2, q3, fun _ _ i hi => by simp at hi⟩
      have hoPx : ∀ l ∈ P1 ++ P2, Pl.Octs l := fun l hl => (List.mem_append.1 hl).elim (hoP1 l) (hoP2 l)
      have hb0E := hb07.trans (hb7E.mono hb07.size)
      have hB8E := hB8.below hb7E hB8.facts.2.2.1
      have hB7E := hB77.below hb7E hB77.facts.2.2.1
      have hB0E := hB07.below hb7E hB07.facts.2.2.1
      have hsxE := hsx7.below hb7E
      have htxE := htx7.below hb7E
      have hsoE := hso7.below hb7E
      have hB11E := hB11F
      clear hP13 hg13 hm13 hB14E hB11F hgs1 hgs2 hP14 hb713 hb7E j1 j1' jf0 jf1 j2 j2'
      by_cases h1f : f1 = 0
      · subst h1f
        have hFe : F = f2 := by have := HF.out; rw [if_pos rfl] at this; exact this.symm
        subst hFe
        go_wp2_with fail
        generalize (w13.setCell ⟨w8.heap.size, 0, none⟩ (.slice az zn cz)).setCell ⟨w8.heap.size, 1, none⟩ (.bool L2) = w14 at *
        refine wp_region_drawn (pred := fun i v _ => v = val (.agg #[.slice ax xn cx, .bool L2]) (.agg #[.slice az zn cz, .bool L2]) lv v13 (.agg #[.slice ao no co, .bool lost]) (.agg #[.slice a n c, .bool lost]) F (Pl.checkF held lost) i) (R := fun W => Below w14.heap.size w14 W) (by kernel_rfl) (by kernel_rfl) (by kernel_rfl) (fun _ _ _ _ h _ => h) (below_drew (Below.refl _ _)) ?step ?done
        case step =>
          intro i o ho A W hsz hdf hfr hdep hR
          rcases i with _ | _ | _ | _ | _ | _ | _ | _ | _ | _ | _ | _ | _ | _ | _ | _ | _ | _ | _ | _ | _ | _ | _ | _ | _ | _ | _ | _ | _ | _ | _ | i
          · injection ho with ho
            subst ho
            obtain ⟨q0, q1, _, _, _⟩ := (hB8E.below hR hB8E.facts.2.2.1).facts
            exact gOp_load45 rfl (wanted_plain rfl) 8 _ rfl ((hfr 8 (noDst_spec (by kernel_rfl))).trans rfl) _ _ q0 q1 ⟨_, rfl, rfl, Below.refl _ _, hR⟩
          · injection ho with ho
            subst ho
            obtain ⟨q0, q1, _, _, _⟩ := (hB11E.below hR hB11E.facts.2.2.1).facts
            exact gOp_load44 rfl (wanted_plain rfl) 11 _ rfl ((hfr 11 (noDst_spec (by kernel_rfl))).trans rfl) _ _ q0 q1 ⟨_, rfl, rfl, Below.refl _ _, hR⟩
          · injection ho with ho
            subst ho
            refine gOp_call2 24 (enters_of Try.func24 (by kernel_rfl) rfl) rfl (wanted_plain rfl) 52 53 _ rfl (v := (.agg #[.slice ax xn cx, .bool L2])) (u := (.agg #[.slice az zn cz, .bool L2])) (hdep ⟨0, .data⟩ (by simp) rfl _ _ rfl rfl) (hdep ⟨1, .data⟩ (by simp) rfl _ _ rfl rfl) ?_
            refine (same_any _ _ H2 H2 L2 L2 W (hsxE.below hR) (hszE.below hR) hoS2 hoS2).mono ?_
            rintro e w' ⟨rfl, hbn⟩; exact ⟨_, rfl, _, rfl, by first | rfl | simp [val], hbn, hR.trans (hbn.mono hR.size)⟩
          · injection ho with ho
            subst ho
            exact gOp_move rfl (wanted_plain rfl) 54 rfl (hdep ⟨2, .data⟩ (by simp) rfl _ _ rfl rfl) ⟨_, rfl, rfl, Below.refl _ _, hR⟩
          · injection ho with ho
            subst ho
            exact gOp_move rfl (wanted_true 3 55 _ rfl rfl rfl (hdep ⟨3, .guard⟩ (by simp) rfl _ _ rfl rfl)) 9 rfl ((hfr 9 (noDst_spec (by kernel_rfl))).trans rfl) ⟨_, rfl, rfl, Below.refl _ _, hR⟩
          · injection ho with ho
            subst ho
            exact gOp_move rfl (wanted_true 3 55 _ rfl rfl rfl (hdep ⟨3, .guard⟩ (by simp) rfl _ _ rfl rfl)) 12 rfl ((hfr 12 (noDst_spec (by kernel_rfl))).trans rfl) ⟨_, rfl, rfl, Below.refl _ _, hR⟩
          · injection ho with ho
            subst ho
            refine gOp_call2 18 (enters_of Try.func18 (by kernel_rfl) rfl) rfl (wanted_true 3 55 _ rfl rfl rfl (hdep ⟨3, .guard⟩ (by simp) rfl _ _ rfl rfl)) 56 57 _ rfl (v := lv) (u := v13) (hdep ⟨4, .data⟩ (by simp) rfl _ _ rfl rfl) (hdep ⟨5, .data⟩ (by simp) rfl _ _ rfl rfl) ?_
            refine (sameList_any lv v13 (P1 ++ P2) (P1 ++ P2) W (htxE.below hR) (htyE.below hR) hoPx hoPx).mono ?_
            rintro e w' ⟨rfl, hbn⟩; exact ⟨_, rfl, _, rfl, by first | rfl | simp [val], hbn, hR.trans (hbn.mono hR.size)⟩
          · injection ho with ho
            subst ho
            exact gOp_pick rfl (wanted_plain rfl) 55 58 rfl (hdep ⟨3, .data⟩ (by simp) rfl _ _ rfl rfl) (hdep ⟨6, .data⟩ (by simp) rfl _ _ rfl rfl) ⟨_, rfl, rfl, Below.refl _ _, hR⟩
          · injection ho with ho
            subst ho
            exact gOp_move rfl (wanted_plain rfl) 59 rfl (hdep ⟨7, .data⟩ (by simp) rfl _ _ rfl rfl) ⟨_, rfl, rfl, Below.refl _ _, hR⟩
          · injection ho with ho
            subst ho
            exact gOp_move rfl (wanted_true 8 60 _ rfl rfl rfl (hdep ⟨8, .guard⟩ (by simp) rfl _ _ rfl rfl)) 10 rfl ((hfr 10 (noDst_spec (by kernel_rfl))).trans rfl) ⟨_, rfl, rfl, Below.refl _ _, hR⟩
          · injection ho with ho
            subst ho
            refine gOp_call1 17 (enters_of Try.func17 (by kernel_rfl) rfl) rfl (wanted_true 8 60 _ rfl rfl rfl (hdep ⟨8, .guard⟩ (by simp) rfl _ _ rfl rfl)) 61 _ rfl (v := (.int .i64 F)) (hdep ⟨9, .data⟩ (by simp) rfl _ _ rfl rfl) ?_
            refine (num_any F W).mono ?_
            rintro e w' ⟨rfl, rfl⟩; exact ⟨_, rfl, _, rfl, rfl, Below.refl _ _, hR⟩
          · injection ho with ho
            subst ho
            exact gOp_move rfl (wanted_true 8 60 _ rfl rfl rfl (hdep ⟨8, .guard⟩ (by simp) rfl _ _ rfl rfl)) 13 rfl ((hfr 13 (noDst_spec (by kernel_rfl))).trans rfl) ⟨_, rfl, rfl, Below.refl _ _, hR⟩
          · injection ho with ho
            subst ho
            exact gOp_eq rfl (wanted_true 8 60 _ rfl rfl rfl (hdep ⟨8, .guard⟩ (by simp) rfl _ _ rfl rfl)) 62 63 rfl F F (hdep ⟨10, .data⟩ (by simp) rfl _ _ rfl rfl) (hdep ⟨11, .data⟩ (by simp) rfl _ _ rfl rfl) ⟨_, rfl, congrArg Value.bool (by simp), Below.refl _ _, hR⟩
          · injection ho with ho
            subst ho
            exact gOp_pick rfl (wanted_plain rfl) 60 64 rfl (hdep ⟨8, .data⟩ (by simp) rfl _ _ rfl rfl) (hdep ⟨12, .data⟩ (by simp) rfl _ _ rfl rfl) ⟨_, rfl, rfl, Below.refl _ _, hR⟩
          · injection ho with ho
            subst ho
            exact gOp_move rfl (wanted_plain rfl) 65 rfl (hdep ⟨13, .data⟩ (by simp) rfl _ _ rfl rfl) ⟨_, rfl, rfl, Below.refl _ _, hR⟩
          · injection ho with ho
            subst ho
            obtain ⟨q0, q1, _, _, _⟩ := (hB7E.below hR hB7E.facts.2.2.1).facts
            exact gOp_load45 rfl (wanted_true 14 66 _ rfl rfl rfl (hdep ⟨14, .guard⟩ (by simp) rfl _ _ rfl rfl)) 7 _ rfl ((hfr 7 (noDst_spec (by kernel_rfl))).trans rfl) _ _ q0 q1 ⟨_, rfl, rfl, Below.refl _ _, hR⟩
          · injection ho with ho
            subst ho
            refine gOp_call1 25 (enters_of Try.func25 (by kernel_rfl) rfl) rfl (wanted_true 14 66 _ rfl rfl rfl (hdep ⟨14, .guard⟩ (by simp) rfl _ _ rfl rfl)) 67 _ rfl (v := (.agg #[.slice ao no co, .bool lost])) (hdep ⟨15, .data⟩ (by simp) rfl _ _ rfl rfl) ?_
            refine (fcheck_any _ held lost W (hsoE.below hR) ho0).mono ?_
            rintro e w' ⟨rfl, hbn⟩; exact ⟨_, rfl, _, rfl, by first | rfl | simp [val], hbn, hR.trans (hbn.mono hR.size)⟩
          · injection ho with ho
            subst ho
            refine gOp_call1 17 (enters_of Try.func17 (by kernel_rfl) rfl) rfl (wanted_true 14 66 _ rfl rfl rfl (hdep ⟨14, .guard⟩ (by simp) rfl _ _ rfl rfl)) 68 _ rfl (v := (.int .i64 (Pl.checkF held lost))) (hdep ⟨16, .data⟩ (by simp) rfl _ _ rfl rfl) ?_
            refine (num_any (Pl.checkF held lost) W).mono ?_
            rintro e w' ⟨rfl, rfl⟩; exact ⟨_, rfl, _, rfl, rfl, Below.refl _ _, hR⟩
          · injection ho with ho
            subst ho
            obtain ⟨q0, q1, _, _, _⟩ := (hB0E.below hR hB0E.facts.2.2.1).facts
            exact gOp_load44 rfl (wanted_true 14 66 _ rfl rfl rfl (hdep ⟨14, .guard⟩ (by simp) rfl _ _ rfl rfl)) 3 _ rfl ((hfr 3 (noDst_spec (by kernel_rfl))).trans rfl) _ _ q0 q1 ⟨_, rfl, rfl, Below.refl _ _, hR⟩
          · injection ho with ho
            subst ho
            refine gOp_call1 23 (enters_of Try.func23 (by kernel_rfl) rfl) rfl (wanted_true 14 66 _ rfl rfl rfl (hdep ⟨14, .guard⟩ (by simp) rfl _ _ rfl rfl)) 70 _ rfl (v := (.agg #[.slice a n c, .bool lost])) (hdep ⟨18, .data⟩ (by simp) rfl _ _ rfl rfl) ?_
            refine (rcheck3_any _ held lost W (hs0.below (hb0E.trans (hR.mono hb0E.size))) ho0).mono ?_
            rintro e w' ⟨rfl, hbn⟩; exact ⟨_, rfl, _, rfl, by first | rfl | simp [val], hbn, hR.trans (hbn.mono hR.size)⟩
          · injection ho with ho
            subst ho
            exact gOp_eq rfl (wanted_true 14 66 _ rfl rfl rfl (hdep ⟨14, .guard⟩ (by simp) rfl _ _ rfl rfl)) 69 71 rfl (Pl.checkF held lost) (Pl.checkF held lost) (hdep ⟨17, .data⟩ (by simp) rfl _ _ rfl rfl) (hdep ⟨19, .data⟩ (by simp) rfl _ _ rfl rfl) ⟨_, rfl, congrArg Value.bool (by simp), Below.refl _ _, hR⟩
          · injection ho with ho
            subst ho
            exact gOp_pick rfl (wanted_plain rfl) 66 72 rfl (hdep ⟨14, .data⟩ (by simp) rfl _ _ rfl rfl) (hdep ⟨20, .data⟩ (by simp) rfl _ _ rfl rfl) ⟨_, rfl, rfl, Below.refl _ _, hR⟩
          · injection ho with ho
            subst ho
            exact gOp_move rfl (wanted_plain rfl) 73 rfl (hdep ⟨21, .data⟩ (by simp) rfl _ _ rfl rfl) ⟨_, rfl, rfl, Below.refl _ _, hR⟩
          · injection ho with ho
            subst ho
            obtain ⟨q0, q1, _, _, _⟩ := (hB7E.below hR hB7E.facts.2.2.1).facts
            exact gOp_load45 rfl (wanted_true 22 74 _ rfl rfl rfl (hdep ⟨22, .guard⟩ (by simp) rfl _ _ rfl rfl)) 7 _ rfl ((hfr 7 (noDst_spec (by kernel_rfl))).trans rfl) _ _ q0 q1 ⟨_, rfl, rfl, Below.refl _ _, hR⟩
          · injection ho with ho
            subst ho
            obtain ⟨q0, q1, _, _, _⟩ := (hB0E.below hR hB0E.facts.2.2.1).facts
            exact gOp_load44 rfl (wanted_true 22 74 _ rfl rfl rfl (hdep ⟨22, .guard⟩ (by simp) rfl _ _ rfl rfl)) 3 _ rfl ((hfr 3 (noDst_spec (by kernel_rfl))).trans rfl) _ _ q0 q1 ⟨_, rfl, rfl, Below.refl _ _, hR⟩
          · injection ho with ho
            subst ho
            refine gOp_call2 24 (enters_of Try.func24 (by kernel_rfl) rfl) rfl (wanted_true 22 74 _ rfl rfl rfl (hdep ⟨22, .guard⟩ (by simp) rfl _ _ rfl rfl)) 75 76 _ rfl (v := (.agg #[.slice ao no co, .bool lost])) (u := (.agg #[.slice a n c, .bool lost])) (hdep ⟨23, .data⟩ (by simp) rfl _ _ rfl rfl) (hdep ⟨24, .data⟩ (by simp) rfl _ _ rfl rfl) ?_
            refine (same_any _ _ held held lost lost W (hsoE.below hR) (hs0.below (hb0E.trans (hR.mono hb0E.size))) ho0 ho0).mono ?_
            rintro e w' ⟨rfl, hbn⟩; exact ⟨_, rfl, _, rfl, by first | rfl | simp [val], hbn, hR.trans (hbn.mono hR.size)⟩
          · injection ho with ho
            subst ho
            exact gOp_pick rfl (wanted_plain rfl) 74 77 rfl (hdep ⟨22, .data⟩ (by simp) rfl _ _ rfl rfl) (hdep ⟨25, .data⟩ (by simp) rfl _ _ rfl rfl) ⟨_, rfl, rfl, Below.refl _ _, hR⟩
          · injection ho with ho
            subst ho
            exact gOp_move rfl (wanted_plain rfl) 78 rfl (hdep ⟨26, .data⟩ (by simp) rfl _ _ rfl rfl) ⟨_, rfl, rfl, Below.refl _ _, hR⟩
          · injection ho with ho
            subst ho
            refine gOp_call0 19 (enters_of Try.func19 (by kernel_rfl) rfl) rfl (wanted_true 27 79 _ rfl rfl rfl (hdep ⟨27, .guard⟩ (by simp) rfl _ _ rfl rfl)) _ rfl ?_
            refine (alive_any W).mono ?_
            rintro e w' ⟨rfl, hbn⟩; exact ⟨_, rfl, _, rfl, by first | rfl | simp [val], hbn, hR.trans (hbn.mono hR.size)⟩
          · injection ho with ho
            subst ho
            exact gOp_pick rfl (wanted_plain rfl) 79 80 rfl (hdep ⟨27, .data⟩ (by simp) rfl _ _ rfl rfl) (hdep ⟨28, .data⟩ (by simp) rfl _ _ rfl rfl) ⟨_, rfl, rfl, Below.refl _ _, hR⟩
          · injection ho with ho
            subst ho
            exact gOp_assign rfl (wanted_plain rfl) 81 rfl (hdep ⟨29, .data⟩ (by simp) rfl _ _ rfl rfl) ⟨_, rfl, rfl, Below.refl _ _, hR⟩
          · exfalso
            have := (Array.getElem?_eq_some_iff.1 ho).1
            simp at this
            omega
        case done =>
          intro A W _ hdf _ hcome hR
          have h30 : A.tmps.getD 6 undef = .bool true := hcome 30 _ _ rfl rfl
          go_wp2
          refine bodyPost_ret (results_tmp rfl _ _ _) hdf ?_
          exact ⟨by rw [h30], hb0E.trans (hR.mono hb0E.size)⟩
      · have hFe : F = f1 := by have := HF.out; rw [if_neg h1f] at this; exact this.symm
        subst hFe
        have hbe : (F == 0) = false := by simp; exact h1f
        go_wp2_with fail
        generalize (w13.setCell ⟨w8.heap.size, 0, none⟩ (.slice az zn cz)).setCell ⟨w8.heap.size, 1, none⟩ (.bool L2) = w14 at *
        refine wp_region_drawn (pred := fun i v _ => v = val (.agg #[.slice ax xn cx, .bool L2]) (.agg #[.slice az zn cz, .bool L2]) lv v13 (.agg #[.slice ao no co, .bool lost]) (.agg #[.slice a n c, .bool lost]) F (Pl.checkF held lost) i) (R := fun W => Below w14.heap.size w14 W) (by kernel_rfl) (by kernel_rfl) (by kernel_rfl) (fun _ _ _ _ h _ => h) (below_drew (Below.refl _ _)) ?step ?done
        case step =>
          intro i o ho A W hsz hdf hfr hdep hR
          rcases i with _ | _ | _ | _ | _ | _ | _ | _ | _ | _ | _ | _ | _ | _ | _ | _ | _ | _ | _ | _ | _ | _ | _ | _ | _ | _ | _ | _ | _ | _ | _ | i
          · injection ho with ho
            subst ho
            obtain ⟨q0, q1, _, _, _⟩ := (hB8E.below hR hB8E.facts.2.2.1).facts
            exact gOp_load45 rfl (wanted_plain rfl) 8 _ rfl ((hfr 8 (noDst_spec (by kernel_rfl))).trans rfl) _ _ q0 q1 ⟨_, rfl, rfl, Below.refl _ _, hR⟩
          · injection ho with ho
            subst ho
            obtain ⟨q0, q1, _, _, _⟩ := (hB11E.below hR hB11E.facts.2.2.1).facts
            exact gOp_load44 rfl (wanted_plain rfl) 11 _ rfl ((hfr 11 (noDst_spec (by kernel_rfl))).trans rfl) _ _ q0 q1 ⟨_, rfl, rfl, Below.refl _ _, hR⟩
          · injection ho with ho
            subst ho
            refine gOp_call2 24 (enters_of Try.func24 (by kernel_rfl) rfl) rfl (wanted_plain rfl) 52 53 _ rfl (v := (.agg #[.slice ax xn cx, .bool L2])) (u := (.agg #[.slice az zn cz, .bool L2])) (hdep ⟨0, .data⟩ (by simp) rfl _ _ rfl rfl) (hdep ⟨1, .data⟩ (by simp) rfl _ _ rfl rfl) ?_
            refine (same_any _ _ H2 H2 L2 L2 W (hsxE.below hR) (hszE.below hR) hoS2 hoS2).mono ?_
            rintro e w' ⟨rfl, hbn⟩; exact ⟨_, rfl, _, rfl, by first | rfl | simp [val], hbn, hR.trans (hbn.mono hR.size)⟩
          · injection ho with ho
            subst ho
            exact gOp_move rfl (wanted_plain rfl) 54 rfl (hdep ⟨2, .data⟩ (by simp) rfl _ _ rfl rfl) ⟨_, rfl, rfl, Below.refl _ _, hR⟩
          · injection ho with ho
            subst ho
            exact gOp_move rfl (wanted_true 3 55 _ rfl rfl rfl (hdep ⟨3, .guard⟩ (by simp) rfl _ _ rfl rfl)) 9 rfl ((hfr 9 (noDst_spec (by kernel_rfl))).trans rfl) ⟨_, rfl, rfl, Below.refl _ _, hR⟩
          · injection ho with ho
            subst ho
            exact gOp_move rfl (wanted_true 3 55 _ rfl rfl rfl (hdep ⟨3, .guard⟩ (by simp) rfl _ _ rfl rfl)) 12 rfl ((hfr 12 (noDst_spec (by kernel_rfl))).trans rfl) ⟨_, rfl, rfl, Below.refl _ _, hR⟩
          · injection ho with ho
            subst ho
            refine gOp_call2 18 (enters_of Try.func18 (by kernel_rfl) rfl) rfl (wanted_true 3 55 _ rfl rfl rfl (hdep ⟨3, .guard⟩ (by simp) rfl _ _ rfl rfl)) 56 57 _ rfl (v := lv) (u := v13) (hdep ⟨4, .data⟩ (by simp) rfl _ _ rfl rfl) (hdep ⟨5, .data⟩ (by simp) rfl _ _ rfl rfl) ?_
            refine (sameList_any lv v13 (P1 ++ P2) (P1 ++ P2) W (htxE.below hR) (htyE.below hR) hoPx hoPx).mono ?_
            rintro e w' ⟨rfl, hbn⟩; exact ⟨_, rfl, _, rfl, by first | rfl | simp [val], hbn, hR.trans (hbn.mono hR.size)⟩
          · injection ho with ho
            subst ho
            exact gOp_pick rfl (wanted_plain rfl) 55 58 rfl (hdep ⟨3, .data⟩ (by simp) rfl _ _ rfl rfl) (hdep ⟨6, .data⟩ (by simp) rfl _ _ rfl rfl) ⟨_, rfl, rfl, Below.refl _ _, hR⟩
          · injection ho with ho
            subst ho
            exact gOp_move rfl (wanted_plain rfl) 59 rfl (hdep ⟨7, .data⟩ (by simp) rfl _ _ rfl rfl) ⟨_, rfl, rfl, Below.refl _ _, hR⟩
          · injection ho with ho
            subst ho
            exact gOp_move rfl (wanted_true 8 60 _ rfl rfl rfl (hdep ⟨8, .guard⟩ (by simp) rfl _ _ rfl rfl)) 10 rfl ((hfr 10 (noDst_spec (by kernel_rfl))).trans rfl) ⟨_, rfl, rfl, Below.refl _ _, hR⟩
          · injection ho with ho
            subst ho
            refine gOp_call1 17 (enters_of Try.func17 (by kernel_rfl) rfl) rfl (wanted_true 8 60 _ rfl rfl rfl (hdep ⟨8, .guard⟩ (by simp) rfl _ _ rfl rfl)) 61 _ rfl (v := (.int .i64 F)) (hdep ⟨9, .data⟩ (by simp) rfl _ _ rfl rfl) ?_
            refine (num_any F W).mono ?_
            rintro e w' ⟨rfl, rfl⟩; exact ⟨_, rfl, _, rfl, rfl, Below.refl _ _, hR⟩
          · injection ho with ho
            subst ho
            exact gOp_move rfl (wanted_true 8 60 _ rfl rfl rfl (hdep ⟨8, .guard⟩ (by simp) rfl _ _ rfl rfl)) 13 rfl ((hfr 13 (noDst_spec (by kernel_rfl))).trans rfl) ⟨_, rfl, rfl, Below.refl _ _, hR⟩
          · injection ho with ho
            subst ho
            exact gOp_eq rfl (wanted_true 8 60 _ rfl rfl rfl (hdep ⟨8, .guard⟩ (by simp) rfl _ _ rfl rfl)) 62 63 rfl F F (hdep ⟨10, .data⟩ (by simp) rfl _ _ rfl rfl) (hdep ⟨11, .data⟩ (by simp) rfl _ _ rfl rfl) ⟨_, rfl, congrArg Value.bool (by simp), Below.refl _ _, hR⟩
          · injection ho with ho
            subst ho
            exact gOp_pick rfl (wanted_plain rfl) 60 64 rfl (hdep ⟨8, .data⟩ (by simp) rfl _ _ rfl rfl) (hdep ⟨12, .data⟩ (by simp) rfl _ _ rfl rfl) ⟨_, rfl, rfl, Below.refl _ _, hR⟩
          · injection ho with ho
            subst ho
            exact gOp_move rfl (wanted_plain rfl) 65 rfl (hdep ⟨13, .data⟩ (by simp) rfl _ _ rfl rfl) ⟨_, rfl, rfl, Below.refl _ _, hR⟩
          · injection ho with ho
            subst ho
            obtain ⟨q0, q1, _, _, _⟩ := (hB7E.below hR hB7E.facts.2.2.1).facts
            exact gOp_load45 rfl (wanted_true 14 66 _ rfl rfl rfl (hdep ⟨14, .guard⟩ (by simp) rfl _ _ rfl rfl)) 7 _ rfl ((hfr 7 (noDst_spec (by kernel_rfl))).trans rfl) _ _ q0 q1 ⟨_, rfl, rfl, Below.refl _ _, hR⟩
          · injection ho with ho
            subst ho
            refine gOp_call1 25 (enters_of Try.func25 (by kernel_rfl) rfl) rfl (wanted_true 14 66 _ rfl rfl rfl (hdep ⟨14, .guard⟩ (by simp) rfl _ _ rfl rfl)) 67 _ rfl (v := (.agg #[.slice ao no co, .bool lost])) (hdep ⟨15, .data⟩ (by simp) rfl _ _ rfl rfl) ?_
            refine (fcheck_any _ held lost W (hsoE.below hR) ho0).mono ?_
            rintro e w' ⟨rfl, hbn⟩; exact ⟨_, rfl, _, rfl, by first | rfl | simp [val], hbn, hR.trans (hbn.mono hR.size)⟩
          · injection ho with ho
            subst ho
            refine gOp_call1 17 (enters_of Try.func17 (by kernel_rfl) rfl) rfl (wanted_true 14 66 _ rfl rfl rfl (hdep ⟨14, .guard⟩ (by simp) rfl _ _ rfl rfl)) 68 _ rfl (v := (.int .i64 (Pl.checkF held lost))) (hdep ⟨16, .data⟩ (by simp) rfl _ _ rfl rfl) ?_
            refine (num_any (Pl.checkF held lost) W).mono ?_
            rintro e w' ⟨rfl, rfl⟩; exact ⟨_, rfl, _, rfl, rfl, Below.refl _ _, hR⟩
          · injection ho with ho
            subst ho
            obtain ⟨q0, q1, _, _, _⟩ := (hB0E.below hR hB0E.facts.2.2.1).facts
            exact gOp_load44 rfl (wanted_true 14 66 _ rfl rfl rfl (hdep ⟨14, .guard⟩ (by simp) rfl _ _ rfl rfl)) 3 _ rfl ((hfr 3 (noDst_spec (by kernel_rfl))).trans rfl) _ _ q0 q1 ⟨_, rfl, rfl, Below.refl _ _, hR⟩
          · injection ho with ho
            subst ho
            refine gOp_call1 23 (enters_of Try.func23 (by kernel_rfl) rfl) rfl (wanted_true 14 66 _ rfl rfl rfl (hdep ⟨14, .guard⟩ (by simp) rfl _ _ rfl rfl)) 70 _ rfl (v := (.agg #[.slice a n c, .bool lost])) (hdep ⟨18, .data⟩ (by simp) rfl _ _ rfl rfl) ?_
            refine (rcheck3_any _ held lost W (hs0.below (hb0E.trans (hR.mono hb0E.size))) ho0).mono ?_
            rintro e w' ⟨rfl, hbn⟩; exact ⟨_, rfl, _, rfl, by first | rfl | simp [val], hbn, hR.trans (hbn.mono hR.size)⟩
          · injection ho with ho
            subst ho
            exact gOp_eq rfl (wanted_true 14 66 _ rfl rfl rfl (hdep ⟨14, .guard⟩ (by simp) rfl _ _ rfl rfl)) 69 71 rfl (Pl.checkF held lost) (Pl.checkF held lost) (hdep ⟨17, .data⟩ (by simp) rfl _ _ rfl rfl) (hdep ⟨19, .data⟩ (by simp) rfl _ _ rfl rfl) ⟨_, rfl, congrArg Value.bool (by simp), Below.refl _ _, hR⟩
          · injection ho with ho
            subst ho
            exact gOp_pick rfl (wanted_plain rfl) 66 72 rfl (hdep ⟨14, .data⟩ (by simp) rfl _ _ rfl rfl) (hdep ⟨20, .data⟩ (by simp) rfl _ _ rfl rfl) ⟨_, rfl, rfl, Below.refl _ _, hR⟩
          · injection ho with ho
            subst ho
            exact gOp_move rfl (wanted_plain rfl) 73 rfl (hdep ⟨21, .data⟩ (by simp) rfl _ _ rfl rfl) ⟨_, rfl, rfl, Below.refl _ _, hR⟩
          · injection ho with ho
            subst ho
            obtain ⟨q0, q1, _, _, _⟩ := (hB7E.below hR hB7E.facts.2.2.1).facts
            exact gOp_load45 rfl (wanted_true 22 74 _ rfl rfl rfl (hdep ⟨22, .guard⟩ (by simp) rfl _ _ rfl rfl)) 7 _ rfl ((hfr 7 (noDst_spec (by kernel_rfl))).trans rfl) _ _ q0 q1 ⟨_, rfl, rfl, Below.refl _ _, hR⟩
          · injection ho with ho
            subst ho
            obtain ⟨q0, q1, _, _, _⟩ := (hB0E.below hR hB0E.facts.2.2.1).facts
            exact gOp_load44 rfl (wanted_true 22 74 _ rfl rfl rfl (hdep ⟨22, .guard⟩ (by simp) rfl _ _ rfl rfl)) 3 _ rfl ((hfr 3 (noDst_spec (by kernel_rfl))).trans rfl) _ _ q0 q1 ⟨_, rfl, rfl, Below.refl _ _, hR⟩
          · injection ho with ho
            subst ho
            refine gOp_call2 24 (enters_of Try.func24 (by kernel_rfl) rfl) rfl (wanted_true 22 74 _ rfl rfl rfl (hdep ⟨22, .guard⟩ (by simp) rfl _ _ rfl rfl)) 75 76 _ rfl (v := (.agg #[.slice ao no co, .bool lost])) (u := (.agg #[.slice a n c, .bool lost])) (hdep ⟨23, .data⟩ (by simp) rfl _ _ rfl rfl) (hdep ⟨24, .data⟩ (by simp) rfl _ _ rfl rfl) ?_
            refine (same_any _ _ held held lost lost W (hsoE.below hR) (hs0.below (hb0E.trans (hR.mono hb0E.size))) ho0 ho0).mono ?_
            rintro e w' ⟨rfl, hbn⟩; exact ⟨_, rfl, _, rfl, by first | rfl | simp [val], hbn, hR.trans (hbn.mono hR.size)⟩
          · injection ho with ho
            subst ho
            exact gOp_pick rfl (wanted_plain rfl) 74 77 rfl (hdep ⟨22, .data⟩ (by simp) rfl _ _ rfl rfl) (hdep ⟨25, .data⟩ (by simp) rfl _ _ rfl rfl) ⟨_, rfl, rfl, Below.refl _ _, hR⟩
          · injection ho with ho
            subst ho
            exact gOp_move rfl (wanted_plain rfl) 78 rfl (hdep ⟨26, .data⟩ (by simp) rfl _ _ rfl rfl) ⟨_, rfl, rfl, Below.refl _ _, hR⟩
          · injection ho with ho
            subst ho
            refine gOp_call0 19 (enters_of Try.func19 (by kernel_rfl) rfl) rfl (wanted_true 27 79 _ rfl rfl rfl (hdep ⟨27, .guard⟩ (by simp) rfl _ _ rfl rfl)) _ rfl ?_
            refine (alive_any W).mono ?_
            rintro e w' ⟨rfl, hbn⟩; exact ⟨_, rfl, _, rfl, by first | rfl | simp [val], hbn, hR.trans (hbn.mono hR.size)⟩
          · injection ho with ho
            subst ho
            exact gOp_pick rfl (wanted_plain rfl) 79 80 rfl (hdep ⟨27, .data⟩ (by simp) rfl _ _ rfl rfl) (hdep ⟨28, .data⟩ (by simp) rfl _ _ rfl rfl) ⟨_, rfl, rfl, Below.refl _ _, hR⟩
          · injection ho with ho
            subst ho
            exact gOp_assign rfl (wanted_plain rfl) 81 rfl (hdep ⟨29, .data⟩ (by simp) rfl _ _ rfl rfl) ⟨_, rfl, rfl, Below.refl _ _, hR⟩
          · exfalso
            have := (Array.getElem?_eq_some_iff.1 ho).1
            simp at this
            omega
        case done =>
          intro A W _ hdf _ hcome hR
          have h30 : A.tmps.getD 6 undef = .bool true := hcome 30 _ _ rfl rfl
          go_wp2
          refine bodyPost_ret (results_tmp rfl _ _ _) hdf ?_
          exact ⟨by rw [h30], hb0E.trans (hR.mono hb0E.size)⟩
  · have hfeed := ffeed_bad _ (.slice (some ⟨w2.heap.size + 1, 0, none⟩) 2 2) held lost w4 hso4 ho0 hck
    have href := fun (w' : World) (hb : Below w.heap.size w w') => rfeed3_bad _ (.slice a1 n1 c1) held lost w' (hs0.below hb) ho0 hck
    have hchk := fun (w' : World) (hb : Below w.heap.size w w') => rcheck3_any _ held lost w' (hs0.below hb) ho0
    rw [checkF_val held lost hck] at hfeed hchk
    refine hfeed.mono ?_
    rintro e w6 ⟨rfl, hb6⟩
    have hB6 := hB4.below hb6 hB4.facts.2.2.1
    have hB76 := hB74.below hb6 hB74.facts.2.2.1
    have hal7 := (Below.refl w6.heap.size w6).alloc (Nat.le_refl _) (.cells #[.slice none 0 0, .bool false] 45)
    have hB8 := Box.new 45 w6 (.slice none 0 0) (.bool false)
    have hb46 := hb6.trans (hal7.mono hb6.size)
    have hB07 := hB6.below hal7 hB6.facts.2.2.1
    have hB77 := hB76.below hal7 hB76.facts.2.2.1
    have hb07 := hb04.trans (hb46.mono hb04.size)
    have hso7 := hso4.below hb46
    obtain ⟨c0, c0', _, _, _⟩ := hB07.facts
    clear hfeed hB6 hB76 hB4 hB74 hsg hso4 hb6 hal7
    go_wp2_with fail
    generalize w6.alloc (.cells #[.slice none 0 0, .bool false] 45) = w7 at *
    refine (href w7 hb07).mono ?_
    rintro e w8 ⟨rfl, hb8⟩
    have hal9 := (Below.refl w8.heap.size w8).alloc (Nat.le_refl _) (.cells #[.slice none 0 0, .bool false] 44)
    have hB11 := Box.new 44 w8 (.slice none 0 0) (.bool false)
    have hb79 := hb8.trans (hal9.mono hb8.size)
    have hB09 := hB07.below hb79 hB07.facts.2.2.1
    have hb09 := hb07.trans (hb79.mono hb07.size)
    obtain ⟨d0, d0', _, _, _⟩ := hB09.facts
    clear c0 c0' href hb8 hal9
    go_wp2_with fail
    generalize w8.alloc (.cells #[.slice none 0 0, .bool false] 44) = w9 at *
    refine (hchk w9 hb09).mono ?_
    rintro e w10 ⟨rfl, hb10⟩
    have hb7E := hb79.trans (hb10.mono hb79.size)
    have hB11E := hB11.below hb10 hB11.facts.2.2.1
    have hb0E := hb07.trans (hb7E.mono hb07.size)
    have hB8E := hB8.below hb7E hB8.facts.2.2.1
    have hB7E := hB77.below hb7E hB77.facts.2.2.1
    have hB0E := hB07.below hb7E hB07.facts.2.2.1
    have hsoE := hso7.below hb7E
    have hsxE : Seg .u8 w10 (.slice none 0 0) [] := Seg.nil _ _
    have hszE : Seg .u8 w10 (.slice none 0 0) [] := Seg.nil _ _
    have htxE : Texts w10 (.slice none 0 0) [] := (Pays.nil (fun _ => True) w10).texts
    have htyE : Texts w10 (.slice none 0 0) [] := (Pays.nil (fun _ => True) w10).texts
    have hoPx : ∀ l ∈ ([] : List (List Int)), Pl.Octs l := fun l hl => by simp at hl
    clear d0 d0' hchk
    go_wp2_with fail
    refine wp_region_drawn (pred := fun i v _ => v = val (.agg #[.slice none 0 0, .bool false]) (.agg #[.slice none 0 0, .bool false]) (.slice none 0 0) (.slice none 0 0) (.agg #[.slice ao no co, .bool lost]) (.agg #[.slice a n c, .bool lost]) 9 (Pl.checkF held lost) i) (R := fun W => Below w10.heap.size w10 W) (by kernel_rfl) (by kernel_rfl) (by kernel_rfl) (fun _ _ _ _ h _ => h) (below_drew (Below.refl _ _)) ?step ?done
    case step =>
      intro i o ho A W hsz hdf hfr hdep hR
      rcases i with _ | _ | _ | _ | _ | _ | _ | _ | _ | _ | _ | _ | _ | _ | _ | _ | _ | _ | _ | _ | _ | _ | _ | _ | _ | _ | _ | _ | _ | _ | _ | i
      · injection ho with ho
        subst ho
        obtain ⟨q0, q1, _, _, _⟩ := (hB8E.below hR hB8E.facts.2.2.1).facts
        exact gOp_load45 rfl (wanted_plain rfl) 8 _ rfl ((hfr 8 (noDst_spec (by kernel_rfl))).trans rfl) _ _ q0 q1 ⟨_, rfl, rfl, Below.refl _ _, hR⟩
      · injection ho with ho
        subst ho
        obtain ⟨q0, q1, _, _, _⟩ := (hB11E.below hR hB11E.facts.2.2.1).facts
        exact gOp_load44 rfl (wanted_plain rfl) 11 _ rfl ((hfr 11 (noDst_spec (by kernel_rfl))).trans rfl) _ _ q0 q1 ⟨_, rfl, rfl, Below.refl _ _, hR⟩
      · injection ho with ho
        subst ho
        refine gOp_call2 24 (enters_of Try.func24 (by kernel_rfl) rfl) rfl (wanted_plain rfl) 52 53 _ rfl (v := (.agg #[.slice none 0 0, .bool false])) (u := (.agg #[.slice none 0 0, .bool false])) (hdep ⟨0, .data⟩ (by simp) rfl _ _ rfl rfl) (hdep ⟨1, .data⟩ (by simp) rfl _ _ rfl rfl) ?_
        refine (same_any _ _ [] [] false false W (hsxE.below hR) (hszE.below hR) Pl.octs_nil Pl.octs_nil).mono ?_
        rintro e w' ⟨rfl, hbn⟩; exact ⟨_, rfl, _, rfl, by first | rfl | simp [val], hbn, hR.trans (hbn.mono hR.size)⟩
      · injection ho with ho
        subst ho
        exact gOp_move rfl (wanted_plain rfl) 54 rfl (hdep ⟨2, .data⟩ (by simp) rfl _ _ rfl rfl) ⟨_, rfl, rfl, Below.refl _ _, hR⟩
      · injection ho with ho
        subst ho
        exact gOp_move rfl (wanted_true 3 55 _ rfl rfl rfl (hdep ⟨3, .guard⟩ (by simp) rfl _ _ rfl rfl)) 9 rfl ((hfr 9 (noDst_spec (by kernel_rfl))).trans rfl) ⟨_, rfl, rfl, Below.refl _ _, hR⟩
      · injection ho with ho
        subst ho
        exact gOp_move rfl (wanted_true 3 55 _ rfl rfl rfl (hdep ⟨3, .guard⟩ (by simp) rfl _ _ rfl rfl)) 12 rfl ((hfr 12 (noDst_spec (by kernel_rfl))).trans rfl) ⟨_, rfl, rfl, Below.refl _ _, hR⟩
      · injection ho with ho
        subst ho
        refine gOp_call2 18 (enters_of Try.func18 (by kernel_rfl) rfl) rfl (wanted_true 3 55 _ rfl rfl rfl (hdep ⟨3, .guard⟩ (by simp) rfl _ _ rfl rfl)) 56 57 _ rfl (v := (.slice none 0 0)) (u := (.slice none 0 0)) (hdep ⟨4, .data⟩ (by simp) rfl _ _ rfl rfl) (hdep ⟨5, .data⟩ (by simp) rfl _ _ rfl rfl) ?_
        refine (sameList_any (.slice none 0 0) (.slice none 0 0) [] [] W (htxE.below hR) (htyE.below hR) hoPx hoPx).mono ?_
        rintro e w' ⟨rfl, hbn⟩; exact ⟨_, rfl, _, rfl, by first | rfl | simp [val], hbn, hR.trans (hbn.mono hR.size)⟩
      · injection ho with ho
        subst ho
        exact gOp_pick rfl (wanted_plain rfl) 55 58 rfl (hdep ⟨3, .data⟩ (by simp) rfl _ _ rfl rfl) (hdep ⟨6, .data⟩ (by simp) rfl _ _ rfl rfl) ⟨_, rfl, rfl, Below.refl _ _, hR⟩
      · injection ho with ho
        subst ho
        exact gOp_move rfl (wanted_plain rfl) 59 rfl (hdep ⟨7, .data⟩ (by simp) rfl _ _ rfl rfl) ⟨_, rfl, rfl, Below.refl _ _, hR⟩
      · injection ho with ho
        subst ho
        exact gOp_move rfl (wanted_true 8 60 _ rfl rfl rfl (hdep ⟨8, .guard⟩ (by simp) rfl _ _ rfl rfl)) 10 rfl ((hfr 10 (noDst_spec (by kernel_rfl))).trans rfl) ⟨_, rfl, rfl, Below.refl _ _, hR⟩
      · injection ho with ho
        subst ho
        refine gOp_call1 17 (enters_of Try.func17 (by kernel_rfl) rfl) rfl (wanted_true 8 60 _ rfl rfl rfl (hdep ⟨8, .guard⟩ (by simp) rfl _ _ rfl rfl)) 61 _ rfl (v := (.int .i64 9)) (hdep ⟨9, .data⟩ (by simp) rfl _ _ rfl rfl) ?_
        refine (num_any 9 W).mono ?_
        rintro e w' ⟨rfl, rfl⟩; exact ⟨_, rfl, _, rfl, rfl, Below.refl _ _, hR⟩
      · injection ho with ho
        subst ho
        exact gOp_move rfl (wanted_true 8 60 _ rfl rfl rfl (hdep ⟨8, .guard⟩ (by simp) rfl _ _ rfl rfl)) 13 rfl ((hfr 13 (noDst_spec (by kernel_rfl))).trans rfl) ⟨_, rfl, rfl, Below.refl _ _, hR⟩
      · injection ho with ho
        subst ho
        exact gOp_eq rfl (wanted_true 8 60 _ rfl rfl rfl (hdep ⟨8, .guard⟩ (by simp) rfl _ _ rfl rfl)) 62 63 rfl 9 9 (hdep ⟨10, .data⟩ (by simp) rfl _ _ rfl rfl) (hdep ⟨11, .data⟩ (by simp) rfl _ _ rfl rfl) ⟨_, rfl, congrArg Value.bool (by simp), Below.refl _ _, hR⟩
      · injection ho with ho
        subst ho
        exact gOp_pick rfl (wanted_plain rfl) 60 64 rfl (hdep ⟨8, .data⟩ (by simp) rfl _ _ rfl rfl) (hdep ⟨12, .data⟩ (by simp) rfl _ _ rfl rfl) ⟨_, rfl, rfl, Below.refl _ _, hR⟩
      · injection ho with ho
        subst ho
        exact gOp_move rfl (wanted_plain rfl) 65 rfl (hdep ⟨13, .data⟩ (by simp) rfl _ _ rfl rfl) ⟨_, rfl, rfl, Below.refl _ _, hR⟩
      · injection ho with ho
        subst ho
        obtain ⟨q0, q1, _, _, _⟩ := (hB7E.below hR hB7E.facts.2.2.1).facts
        exact gOp_load45 rfl (wanted_true 14 66 _ rfl rfl rfl (hdep ⟨14, .guard⟩ (by simp) rfl _ _ rfl rfl)) 7 _ rfl ((hfr 7 (noDst_spec (by kernel_rfl))).trans rfl) _ _ q0 q1 ⟨_, rfl, rfl, Below.refl _ _, hR⟩
      · injection ho with ho
        subst ho
        refine gOp_call1 25 (enters_of Try.func25 (by kernel_rfl) rfl) rfl (wanted_true 14 66 _ rfl rfl rfl (hdep ⟨14, .guard⟩ (by simp) rfl _ _ rfl rfl)) 67 _ rfl (v := (.agg #[.slice ao no co, .bool lost])) (hdep ⟨15, .data⟩ (by simp) rfl _ _ rfl rfl) ?_
        refine (fcheck_any _ held lost W (hsoE.below hR) ho0).mono ?_
        rintro e w' ⟨rfl, hbn⟩; exact ⟨_, rfl, _, rfl, by first | rfl | simp [val], hbn, hR.trans (hbn.mono hR.size)⟩
      · injection ho with ho
        subst ho
        refine gOp_call1 17 (enters_of Try.func17 (by kernel_rfl) rfl) rfl (wanted_true 14 66 _ rfl rfl rfl (hdep ⟨14, .guard⟩ (by simp) rfl _ _ rfl rfl)) 68 _ rfl (v := (.int .i64 (Pl.checkF held lost))) (hdep ⟨16, .data⟩ (by simp) rfl _ _ rfl rfl) ?_
        refine (num_any (Pl.checkF held lost) W).mono ?_
        rintro e w' ⟨rfl, rfl⟩; exact ⟨_, rfl, _, rfl, rfl, Below.refl _ _, hR⟩
      · injection ho with ho
        subst ho
        obtain ⟨q0, q1, _, _, _⟩ := (hB0E.below hR hB0E.facts.2.2.1).facts
        exact gOp_load44 rfl (wanted_true 14 66 _ rfl rfl rfl (hdep ⟨14, .guard⟩ (by simp) rfl _ _ rfl rfl)) 3 _ rfl ((hfr 3 (noDst_spec (by kernel_rfl))).trans rfl) _ _ q0 q1 ⟨_, rfl, rfl, Below.refl _ _, hR⟩
      · injection ho with ho
        subst ho
        refine gOp_call1 23 (enters_of Try.func23 (by kernel_rfl) rfl) rfl (wanted_true 14 66 _ rfl rfl rfl (hdep ⟨14, .guard⟩ (by simp) rfl _ _ rfl rfl)) 70 _ rfl (v := (.agg #[.slice a n c, .bool lost])) (hdep ⟨18, .data⟩ (by simp) rfl _ _ rfl rfl) ?_
        refine (rcheck3_any _ held lost W (hs0.below (hb0E.trans (hR.mono hb0E.size))) ho0).mono ?_
        rintro e w' ⟨rfl, hbn⟩; exact ⟨_, rfl, _, rfl, by first | rfl | simp [val], hbn, hR.trans (hbn.mono hR.size)⟩
      · injection ho with ho
        subst ho
        exact gOp_eq rfl (wanted_true 14 66 _ rfl rfl rfl (hdep ⟨14, .guard⟩ (by simp) rfl _ _ rfl rfl)) 69 71 rfl (Pl.checkF held lost) (Pl.checkF held lost) (hdep ⟨17, .data⟩ (by simp) rfl _ _ rfl rfl) (hdep ⟨19, .data⟩ (by simp) rfl _ _ rfl rfl) ⟨_, rfl, congrArg Value.bool (by simp), Below.refl _ _, hR⟩
      · injection ho with ho
        subst ho
        exact gOp_pick rfl (wanted_plain rfl) 66 72 rfl (hdep ⟨14, .data⟩ (by simp) rfl _ _ rfl rfl) (hdep ⟨20, .data⟩ (by simp) rfl _ _ rfl rfl) ⟨_, rfl, rfl, Below.refl _ _, hR⟩
      · injection ho with ho
        subst ho
        exact gOp_move rfl (wanted_plain rfl) 73 rfl (hdep ⟨21, .data⟩ (by simp) rfl _ _ rfl rfl) ⟨_, rfl, rfl, Below.refl _ _, hR⟩
      · injection ho with ho
        subst ho
        obtain ⟨q0, q1, _, _, _⟩ := (hB7E.below hR hB7E.facts.2.2.1).facts
        exact gOp_load45 rfl (wanted_true 22 74 _ rfl rfl rfl (hdep ⟨22, .guard⟩ (by simp) rfl _ _ rfl rfl)) 7 _ rfl ((hfr 7 (noDst_spec (by kernel_rfl))).trans rfl) _ _ q0 q1 ⟨_, rfl, rfl, Below.refl _ _, hR⟩
      · injection ho with ho
        subst ho
        obtain ⟨q0, q1, _, _, _⟩ := (hB0E.below hR hB0E.facts.2.2.1).facts
        exact gOp_load44 rfl (wanted_true 22 74 _ rfl rfl rfl (hdep ⟨22, .guard⟩ (by simp) rfl _ _ rfl rfl)) 3 _ rfl ((hfr 3 (noDst_spec (by kernel_rfl))).trans rfl) _ _ q0 q1 ⟨_, rfl, rfl, Below.refl _ _, hR⟩
      · injection ho with ho
        subst ho
        refine gOp_call2 24 (enters_of Try.func24 (by kernel_rfl) rfl) rfl (wanted_true 22 74 _ rfl rfl rfl (hdep ⟨22, .guard⟩ (by simp) rfl _ _ rfl rfl)) 75 76 _ rfl (v := (.agg #[.slice ao no co, .bool lost])) (u := (.agg #[.slice a n c, .bool lost])) (hdep ⟨23, .data⟩ (by simp) rfl _ _ rfl rfl) (hdep ⟨24, .data⟩ (by simp) rfl _ _ rfl rfl) ?_
        refine (same_any _ _ held held lost lost W (hsoE.below hR) (hs0.below (hb0E.trans (hR.mono hb0E.size))) ho0 ho0).mono ?_
        rintro e w' ⟨rfl, hbn⟩; exact ⟨_, rfl, _, rfl, by first | rfl | simp [val], hbn, hR.trans (hbn.mono hR.size)⟩
      · injection ho with ho
        subst ho
        exact gOp_pick rfl (wanted_plain rfl) 74 77 rfl (hdep ⟨22, .data⟩ (by simp) rfl _ _ rfl rfl) (hdep ⟨25, .data⟩ (by simp) rfl _ _ rfl rfl) ⟨_, rfl, rfl, Below.refl _ _, hR⟩
      · injection ho with ho
        subst ho
        exact gOp_move rfl (wanted_plain rfl) 78 rfl (hdep ⟨26, .data⟩ (by simp) rfl _ _ rfl rfl) ⟨_, rfl, rfl, Below.refl _ _, hR⟩
      · injection ho with ho
        subst ho
        refine gOp_call0 19 (enters_of Try.func19 (by kernel_rfl) rfl) rfl (wanted_true 27 79 _ rfl rfl rfl (hdep ⟨27, .guard⟩ (by simp) rfl _ _ rfl rfl)) _ rfl ?_
        refine (alive_any W).mono ?_
        rintro e w' ⟨rfl, hbn⟩; exact ⟨_, rfl, _, rfl, by first | rfl | simp [val], hbn, hR.trans (hbn.mono hR.size)⟩
      · injection ho with ho
        subst ho
        exact gOp_pick rfl (wanted_plain rfl) 79 80 rfl (hdep ⟨27, .data⟩ (by simp) rfl _ _ rfl rfl) (hdep ⟨28, .data⟩ (by simp) rfl _ _ rfl rfl) ⟨_, rfl, rfl, Below.refl _ _, hR⟩
      · injection ho with ho
        subst ho
        exact gOp_assign rfl (wanted_plain rfl) 81 rfl (hdep ⟨29, .data⟩ (by simp) rfl _ _ rfl rfl) ⟨_, rfl, rfl, Below.refl _ _, hR⟩
      · exfalso
        have := (Array.getElem?_eq_some_iff.1 ho).1
        simp at this
        omega
    case done =>
      intro A W _ hdf _ hcome hR
      have h30 : A.tmps.getD 6 undef = .bool true := hcome 30 _ _ rfl rfl
      go_wp2
      refine bodyPost_ret (results_tmp rfl _ _ _) hdf ?_
      exact ⟨by rw [h30], hb0E.trans (hR.mono hb0E.size)⟩

set_option maxRecDepth 100000 in
theorem contract (H : Type) (enc : TypeId × Value → H) (W : World) (base : Nat) (args : Array Value) (ds gs : List (DataW H)) (before : List MemPlace)
    (hval : ∀ (j : Nat) t v, Try.f4.params[j]? = some t → args[j]? = some v → Value.okWide Try.prog W .any base t v)
    (hW : DataW.Whole enc Try.prog Try.f4.params.toList Rows.frameFeedsSpec.vars false W args.toList ds gs before) (hk : Rows.uptoSmall H (ds ++ gs) = true) :
    Calls Try.prog 4 args W fun e W' => ∃ v, e = .returned v ∧ Rows.frameFeedsSpec.post enc Try.prog Try.f4 false true false false W args v W' := by
  have hW' := hW
  obtain ⟨p, q, hA0, hV, rfl, hfz, hnd⟩ := hW
  have hA : DataW.TrodAll enc Try.prog W 0 (fun _ => true) true Try.f4.params.toList args.toList ds p := hA0
  rw [Try.params4] at hA hval
  obtain ⟨v0, vs0, d0, ds0, p0, q0, hargs, rfl, rfl, h0, r0⟩ := trodAll_cons hA
  obtain ⟨v1, vs1, d1, ds1, p1, q1, rfl, rfl, rfl, h1, r1⟩ := trodAll_cons r0
  obtain ⟨v2, vs2, d2, ds2, p2, q2, rfl, rfl, rfl, h2, r2⟩ := trodAll_cons r1
  obtain ⟨rfl, rfl, rfl⟩ := trodAll_nil r2
  obtain rfl : args = #[v0, v1, v2] := by cases args; simp_all
  obtain ⟨rfl, rfl⟩ := trodVars_none hV
  have k0 := h0
  have lt0 : ∀ x ∈ p0, x.block < W.heap.size := by obtain ⟨m, hm⟩ := k0; exact DataW.trod_lt m _ _ _ hm
  obtain ⟨x0, l0, b0, hv0, hs0, ho0, e0⟩ := open_buffer (hval 0 44 v0 rfl rfl) h0
  subst hv0
  have k1 := h1
  have lt1 : ∀ x ∈ p1, x.block < W.heap.size := by obtain ⟨m, hm⟩ := k1; exact DataW.trod_lt m _ _ _ hm
  obtain ⟨l1, hs1, ho1, e1⟩ := open_octets (hval 1 22 v1 rfl rfl) h1
  have k2 := h2
  have lt2 : ∀ x ∈ p2, x.block < W.heap.size := by obtain ⟨m, hm⟩ := k2; exact DataW.trod_lt m _ _ _ hm
  obtain ⟨l2, hs2, ho2, e2⟩ := open_octets (hval 2 22 v2 rfl rfl) h2
  have hlen : l0.length + l1.length + l2.length ≤ 1048576 := by
    have h := bulk_bound hk
    simp only [List.append_nil, Rows.uptoBulkAll] at h
    have b0 := e0
    have b1 := octets_bulk e1
    have b2 := octets_bulk e2
    omega
  clear hA0
  refine (walk x0 l0 b0 hs0 ho0 v1 l1 hs1 ho1 v2 l2 hs2 ho2 hlen).mono fun e W' ⟨he, bel⟩ => ?_
  subst he
  exact ⟨_, rfl, _, _, _, [], _, [], hW', trodAll_mk1 (shut_bool Try.underlying4 _), (trodAll_cons_mk (Below.trod laidOut (by kernel_rfl) (of_decide_eq_true (by kernel_rfl)) k0 bel lt0) (trodAll_cons_mk (Below.trod laidOut (by kernel_rfl) (of_decide_eq_true (by kernel_rfl)) k1 bel lt1) (trodAll_cons_mk (Below.trod laidOut (by kernel_rfl) (of_decide_eq_true (by kernel_rfl)) k2 bel lt2) trodAll_mk0))), rfl, bel.frame _, fun h => by cases h⟩

set_option maxRecDepth 100000 in
theorem lifted (os : Os) (started : os.Started) (H : Type) (enc : TypeId × Value → H) (F : Stop.Interp) :
    ReturnsInHanded {} Try.checked os 4 .any ((Rows.OpenSpec.upto Rows.frameFeedsSpec).pre6 enc Try.prog Try.f4 Rows.frameFeedsUptoRow.domain false) (((Rows.OpenSpec.upto Rows.frameFeedsSpec).at F).post enc Try.prog Try.f4 false true false false) := by
  refine returnsInHanded_of_cond (C := Try.checked) (s := Rows.OpenSpec.upto Rows.frameFeedsSpec) (k := Rows.uptoSmall) rfl own started (by kernel_rfl) Try.func4
    (OpenSpec.witness (enc := enc) (C := Try.checked) (s := Rows.OpenSpec.upto Rows.frameFeedsSpec) (k := Rows.uptoSmall) rfl false ⟨#[], #[.agg #[.slice none 0 0, .bool false], .slice none 0 0, .slice none 0 0], []⟩ 8 (by kernel_rfl) (by kernel_rfl) (by kernel_rfl)
      (x := ([.agg [.nil, .lit (.bool false)], .nil, .nil], [], [])) (by kernel_rfl) rfl (by kernel_rfl)) ?_
  intro W base args ds gs before hval hW _ hk _
  exact contract H enc W base args ds gs before hval hW hk

theorem over : Rows.FrameFeedsUptoSaid :=
  OpenClaim.holds_of_cond 4 Try.f4 rfl rfl rfl rfl rfl rfl rfl ⟨rfl, rfl, rfl, rfl, rfl⟩ rfl rfl rfl rfl rfl (by kernel_rfl) Try.func4 (by kernel_rfl)
    (of_decide_eq_true (by kernel_rfl)) (by unfold Func.isWrapper; first | (rw [if_pos (by decide +kernel)]; kernel_rfl) | (rw [if_neg (by decide +kernel)]; exact ⟨rfl, rfl⟩))
    (fun os started H enc _ F => lifted os started H enc F)
end Go.Proofs.Ytlfgnllmomeajaa.frameFeeds

namespace Go.Proofs.Ytlfgnllmomeajaa
/-- THE STATEMENT. -/
theorem frameFeedsUpto_holds : Rows.FrameFeedsUptoSaid := frameFeeds.over
#print axioms frameFeedsUpto_holds
end Go.Proofs.Ytlfgnllmomeajaa
