/- The reference: Feed. -/
import Derived.Test.YtlfgnllmomeajaaRD
import Derived.Test.YtlfgnllmomeajaaFM
namespace Go.Proofs.Ytlfgnllmomeajaa
open Go.RowKit

theorem ret_box22 {W : World} {tmps : Array Value} {b : Nat} {x y p f : Value} (ht : tmps.getD 4 undef = .pointer (some ⟨b, 0, none⟩)) (h5 : tmps.getD 5 undef = p) (h6 : tmps.getD 6 undef = f) (h0 : W.cell? ⟨b, 0, none⟩ = some x) (h1 : W.cell? ⟨b, 1, none⟩ = some y) :
    (results Try.f22 tmps).run Try.prog W = .ok (.tuple #[.agg #[x, y], p, f]) W := by
  rw [Array.getD_eq_getD_getElem?] at ht h5 h6
  simp [results, Try.results22]
  go_simp

/-- Two boxes of a buffer of the reference. -/
def BoxesR (m : Nat) (w : World) (hv : Value) (lost : Bool) : Prop :=
  w.heap[m]? = some (.cells #[hv, .bool lost] 44 (0, 0)) ∧ w.heap[m + 1]? = some (.cells #[.slice none 0 0, .bool false] 44 (0, 0))
theorem BoxesR.new (w : World) (hv : Value) (lost : Bool) : BoxesR w.heap.size ((w.alloc (.cells #[hv, .bool lost] 44)).alloc (.cells #[.slice none 0 0, .bool false] 44)) hv lost := by
  refine ⟨?_, ?_⟩
  · rw [heap_alloc_old _ _ (by simp)]
    exact heap_alloc_new _ _
  · have := heap_alloc_new (w.alloc (.cells #[hv, .bool lost] 44)) (.cells #[.slice none 0 0, .bool false] 44)
    simpa using this
theorem BoxesR.facts {m : Nat} {w : World} {hv : Value} {lost : Bool} (h : BoxesR m w hv lost) :
    w.cell? ⟨m, 0, none⟩ = some hv ∧ w.cell? ⟨m, 1, none⟩ = some (.bool lost) ∧ w.cell? ⟨m + 1, 0, none⟩ = some (.slice none 0 0) ∧ w.cell? ⟨m + 1, 1, none⟩ = some (.bool false) ∧ w.frozen? ⟨m + 1, 0, none⟩ = false ∧ w.frozen? ⟨m + 1, 1, none⟩ = false := by
  obtain ⟨h0, h1⟩ := h
  exact ⟨by rw [cell_of_row w m 0 _ 44 (0, 0) h0]; rfl, by rw [cell_of_row w m 1 _ 44 (0, 0) h0]; rfl, by rw [cell_of_row w (m + 1) 0 _ 44 (0, 0) h1]; rfl, by rw [cell_of_row w (m + 1) 1 _ 44 (0, 0) h1]; rfl, frozen_of_row w _ 0 _ 44 h1, frozen_of_row w _ 1 _ 44 h1⟩
theorem BoxesR.below {m : Nat} {w w' : World} {hv : Value} {lost : Bool} (h : BoxesR m w hv lost) (hb : Below (m + 2) w w') : BoxesR m w' hv lost :=
  ⟨(hb.block m (by omega)).trans h.1, (hb.block (m + 1) (by omega)).trans h.2⟩

/-- What the reference's Feed hands back. -/
def FeedsR (w : World) (S : St) (e : Ending) (w' : World) : Prop :=
  ∃ hv' pv', e = .returned (.tuple #[.agg #[hv', .bool S.2.1], pv', .int .i64 S.2.2.2]) ∧ Seg .u8 w' hv' S.1 ∧ (Since w.heap.size hv' ∨ S.1 = []) ∧ Pays (Span w.heap.size w') w' pv' S.2.2.1 ∧ Below w.heap.size w w'

set_option maxHeartbeats 2000000 in
set_option maxRecDepth 4000 in
theorem rfeed3_bad (hv u : Value) (held : List Int) (lost : Bool) (w : World) (hs : Seg .u8 w hv held) (ho : Pl.Octs held) (hbad : Pl.checkF held lost ≠ 0) :
    Calls Try.prog 22 #[.agg #[hv, .bool lost], u] w fun e w' => e = .returned (.tuple #[.agg #[.slice none 0 0, .bool false], .slice none 0 0, .int .i64 9]) ∧ Below w.heap.size w w' := by
  obtain ⟨a, c, n, hvs, hn⟩ : ∃ a c n, hv = .slice a n c ∧ n = held.length := by
    obtain ⟨a, c, h, _⟩ := id hs
    exact ⟨a, c, _, h, rfl⟩
  clear hn
  subst hvs
  have hchk := fun (wa : World) (hb : Below w.heap.size w wa) => rcheck3_any _ held lost wa (hs.below hb) ho
  generalize Pl.checkF held lost = er at *
  have hbe : (er == 0) = false := by simp; exact hbad
  go_enter Try.func22, Try.ntmps22
  go_wp2_with fail
  have hB := BoxesR.new w (.slice a n c) lost
  have hal : Below w.heap.size w ((w.alloc (.cells #[.slice a n c, .bool lost] 44)).alloc (.cells #[.slice none 0 0, .bool false] 44)) := ((Below.refl _ _).alloc (Nat.le_refl _) _).alloc (by simp) _
  have hsz : ((w.alloc (.cells #[.slice a n c, .bool lost] 44)).alloc (.cells #[.slice none 0 0, .bool false] 44)).heap.size = w.heap.size + 2 := by simp
  generalize (w.alloc (.cells #[.slice a n c, .bool lost] 44)).alloc (.cells #[.slice none 0 0, .bool false] 44) = wa at *
  refine (hchk wa hal).mono ?_
  rintro e w2 ⟨rfl, hb2⟩
  rw [hsz] at hb2
  obtain ⟨c0, c1, c2, c3, f0, f1⟩ := (hB.below hb2).facts
  go_wp2_with fail
  have hcc := two_cells (x := .slice none 0 0) (y := .bool false) c2 c3
  refine bodyPost_ret (ret_box22 rfl rfl rfl hcc.1 hcc.2) rfl ?_
  exact ⟨rfl, ((hal.trans (hb2.mono (by omega))).setCell (Nat.le_succ _) _).setCell (Nat.le_succ _) _⟩

set_option maxHeartbeats 2000000 in
set_option maxRecDepth 4000 in
theorem rfeed3_lost (hv u : Value) (held p : List Int) (w : World) (hs : Seg .u8 w hv held) (hp : Seg .u8 w u p) (ho : Pl.Octs held) (hok : Pl.checkF held true = 0) :
    Calls Try.prog 22 #[.agg #[hv, .bool true], u] w fun e w' => FeedsR w (Pl.fd (held, true, [], 0) p) e w' := by
  obtain ⟨a, c, n, hvs, hn⟩ : ∃ a c n, hv = .slice a n c ∧ n = held.length := by
    obtain ⟨a, c, h, _⟩ := id hs
    exact ⟨a, c, _, h, rfl⟩
  clear hn
  subst hvs
  have hchk := fun (wa : World) (hb : Below w.heap.size w wa) => rcheck3_any _ held true wa (hs.below hb) ho
  rw [hok] at hchk
  have HS : Hid (Pl.fd (held, true, [], 0) p = (held, true, [], if 0 < p.length then 21 else 0)) := by show _ = _; simp [Pl.fd]
  have hh0 : held = [] := by
    unfold Pl.checkF at hok
    by_cases h : 0 < held.length
    · rw [if_pos (.inr (.inl ⟨rfl, h⟩))] at hok
      simp at hok
    · exact List.length_eq_zero_iff.1 (by omega)
  generalize Pl.fd (held, true, [], 0) p = S at *
  obtain ⟨au, cu, hu, hu1, hu2, hu3, hu4⟩ := id hp
  clear hu3 hu4
  generalize hpn : p.length = pn at hu hu1 HS
  subst hu
  go_enter Try.func22, Try.ntmps22
  go_wp2_with fail
  have hB := BoxesR.new w (.slice a n c) true
  have hal : Below w.heap.size w ((w.alloc (.cells #[.slice a n c, .bool true] 44)).alloc (.cells #[.slice none 0 0, .bool false] 44)) := ((Below.refl _ _).alloc (Nat.le_refl _) _).alloc (by simp) _
  have hsz : ((w.alloc (.cells #[.slice a n c, .bool true] 44)).alloc (.cells #[.slice none 0 0, .bool false] 44)).heap.size = w.heap.size + 2 := by simp
  generalize (w.alloc (.cells #[.slice a n c, .bool true] 44)).alloc (.cells #[.slice none 0 0, .bool false] 44) = wa at *
  refine (hchk wa hal).mono ?_
  rintro e w2 ⟨rfl, hb2⟩
  rw [hsz] at hb2
  obtain ⟨c0, c1, c2, c3, f0, f1⟩ := (hB.below hb2).facts
  have hcc := two_cells (x := .slice a n c) (y := .bool true) c2 c3
  have hbe : Below w.heap.size w ((w2.setCell ⟨w.heap.size + 1, 0, none⟩ (.slice a n c)).setCell ⟨w.heap.size + 1, 1, none⟩ (.bool true)) := ((hal.trans (hb2.mono (by omega))).setCell (Nat.le_succ _) _).setCell (Nat.le_succ _) _
  by_cases h0 : 0 < pn
  · rw [if_pos h0] at HS
    go_wp2_with fail
    refine bodyPost_ret (ret_box22 rfl rfl rfl hcc.1 hcc.2) rfl ?_
    rw [HS.out]
    exact ⟨_, _, rfl, hs.below hbe, .inr hh0, Pays.nil _ _, hbe⟩
  · rw [if_neg h0] at HS
    go_wp2_with fail
    refine bodyPost_ret (ret_box22 rfl rfl rfl hcc.1 hcc.2) rfl ?_
    rw [HS.out]
    exact ⟨_, _, rfl, hs.below hbe, .inr hh0, Pays.nil _ _, hbe⟩

set_option maxHeartbeats 2000000 in
set_option maxRecDepth 4000 in
theorem rfeed3_on (hv u : Value) (held p : List Int) (w : World) (hs : Seg .u8 w hv held) (hp : Seg .u8 w u p) (ho : Pl.Octs held) (hop : Pl.Octs p) (hok : Pl.checkF held false = 0) (hlen : held.length + p.length ≤ 1000000000000) :
    Calls Try.prog 22 #[.agg #[hv, .bool false], u] w fun e w' => FeedsR w (Pl.fd (held, false, [], 0) p) e w' := by
  obtain ⟨a, c, n, hvs, hn⟩ : ∃ a c n, hv = .slice a n c ∧ n = held.length := by
    obtain ⟨a, c, h, _⟩ := id hs
    exact ⟨a, c, _, h, rfl⟩
  clear hn
  subst hvs
  have hchk := fun (wa : World) (hb : Below w.heap.size w wa) => rcheck3_any _ held false wa (hs.below hb) ho
  rw [hok] at hchk
  obtain ⟨l, k, er, hF⟩ : ∃ l k er, Pl.scanF (held ++ p) = (l, k, er) := ⟨_, _, _, rfl⟩
  have HS : Hid (Pl.fd (held, false, [], 0) p = if er = 0 then ((held ++ p).drop k, false, l, 0) else ([], true, l, er)) := by show _ = _; simp [Pl.fd, hF]
  generalize Pl.fd (held, false, [], 0) p = S at *
  have hoa := Pl.octs_app ho hop
  obtain ⟨hfk, _, _⟩ := Pl.scanF_fits (held ++ p) hoa
  rw [hF] at hfk
  simp only at hfk
  have hla : (held ++ p).length ≤ 5864062014805 := by rw [List.length_append]; omega
  have hscan := fun (v' : Value) (w' : World) (h : Seg .u8 w' v' (held ++ p)) => rscan3_any v' (held ++ p) w' h hoa hla
  simp only [hF] at hscan
  go_enter Try.func22, Try.ntmps22
  go_wp2_with fail
  have hB := BoxesR.new w (.slice a n c) false
  have hal : Below w.heap.size w ((w.alloc (.cells #[.slice a n c, .bool false] 44)).alloc (.cells #[.slice none 0 0, .bool false] 44)) := ((Below.refl _ _).alloc (Nat.le_refl _) _).alloc (by simp) _
  have hsz : ((w.alloc (.cells #[.slice a n c, .bool false] 44)).alloc (.cells #[.slice none 0 0, .bool false] 44)).heap.size = w.heap.size + 2 := by simp
  generalize (w.alloc (.cells #[.slice a n c, .bool false] 44)).alloc (.cells #[.slice none 0 0, .bool false] 44) = wa at *
  refine (hchk wa hal).mono ?_
  rintro e w2 ⟨rfl, hb2⟩
  rw [hsz] at hb2
  have hB2 := hB.below hb2
  have hb02 := hal.trans (hb2.mono (Nat.le_add_right _ 2))
  have hsz2 := hb2.size
  rw [hsz] at hsz2
  obtain ⟨c0, c1, c2, c3, f0, f1⟩ := hB2.facts
  clear hchk hB hal hb2
  go_wp2_with (first
    | (go_at_call 33; refine (copied_any _ held w2 (hs.below hb02) (by omega)).mono ?_; rintro e w3 ⟨v3, rfl, hown3, hb3⟩; have hb03 := hb02.trans (hb3.mono hb02.size); have hsi3 := (Since.own hown3).mono hsz2; have hB3 := hB2.below (hb3.mono hsz2))
    | (at_builtin; refine wpList_append_oct _ rfl (.tmp 31) (.tmp 32) rfl v3 u held p rfl rfl (Part.own hown3) (hp.below hb03) (by omega) ?_; intro v4 w4 hP4 hg4 _; have hb4 := (Below.refl (w.heap.size + 2) w3).grown hg4 (by have := hb3.size; omega) hsi3; have hb04 := hb03.trans (hb4.mono (Nat.le_add_right _ 2)); have hB4 := hB3.below hb4; have hs4 := hP4.seg; clear hP4 hg4 hown3))
  refine (hscan v4 w4 hs4).mono ?_
  rintro e w5 ⟨lv, rfl, hL, hb5⟩
  have hsz4 : w.heap.size + 2 ≤ w4.heap.size := by have h1 := hb4.size; have h2 := hb3.size; omega
  have hB5 := hB4.below (hb5.mono hsz4)
  have hb05 := hb04.trans (hb5.mono hb04.size)
  have hs5 := hs4.below hb5
  have hsz5 := hb5.size
  clear c0 c1 c2 c3 f0 f1 hscan
  have hend : ∀ (w6 : World) (x y : Value), Below w5.heap.size w5 w6 → Pays (Span w.heap.size ((w6.setCell ⟨w.heap.size + 1, 0, none⟩ x).setCell ⟨w.heap.size + 1, 1, none⟩ y)) ((w6.setCell ⟨w.heap.size + 1, 0, none⟩ x).setCell ⟨w.heap.size + 1, 1, none⟩ y) lv l ∧ Below w.heap.size w ((w6.setCell ⟨w.heap.size + 1, 0, none⟩ x).setCell ⟨w.heap.size + 1, 1, none⟩ y) := by
    intro w6 x y hb6
    have hs6 := hb6.size
    have hg1 := grown_set w6 (w.heap.size + 1) 0 x
    have hg2 := grown_set (w6.setCell ⟨w.heap.size + 1, 0, none⟩ x) (w.heap.size + 1) 1 y
    refine ⟨?_, ((hb05.trans (hb6.mono hb05.size)).setCell (Nat.le_succ _) _).setCell (Nat.le_succ _) _⟩
    refine (((hL.below hb6).kept hg1 fun k hk he => ?_).kept hg2 fun k hk he => ?_).mono fun k hk => ⟨by have := hk.1; omega, by have := hk.2; simp; omega⟩
    · cases he
      have := hk.1
      omega
    · cases he
      have := hk.1
      omega
  by_cases her : er = 0
  · subst her
    rw [if_pos rfl] at HS
    obtain ⟨vt, hsl, hst⟩ := seg_tail hs5 k hfk
    go_wp2_with fail
    refine (copied_any vt _ w5 hst (by rw [List.length_drop, List.length_append]; omega)).mono ?_
    rintro e w6 ⟨v6, rfl, hown6, hb6⟩
    obtain ⟨c0, c1, c2, c3, f0, f1⟩ := (hB5.below (hb6.mono (by omega))).facts
    have hs6 := Part.seg (Part.own hown6)
    obtain ⟨a6, c6, hv6⟩ := own_shape hown6
    generalize ((held ++ p).drop k).length = n6 at hv6
    subst hv6
    have hcc := two_cells (x := .slice a6 n6 c6) (y := .bool false) c2 c3
    have hsi6 := Since.own hown6
    obtain ⟨e1, e2⟩ := hend w6 (.slice a6 n6 c6) (.bool false) hb6
    have hg1 := grown_set w6 (w.heap.size + 1) 0 (.slice a6 n6 c6)
    have hg2 := grown_set (w6.setCell ⟨w.heap.size + 1, 0, none⟩ (.slice a6 n6 c6)) (w.heap.size + 1) 1 (.bool false)
    have hne : (Value.slice a6 n6 c6).ownBlock ≠ some (w.heap.size + 1) := fun he => by have := hsi6 _ he; omega
    have hs7 := (hs6.spared hg1 (.inr hne)).spared hg2 (.inr hne)
    clear hend hown6 hL hg1 hg2 hs6
    go_wp2_with fail
    refine bodyPost_ret (ret_box22 rfl rfl rfl hcc.1 hcc.2) rfl ?_
    rw [HS.out]
    exact ⟨_, _, rfl, hs7, .inl (hsi6.mono (by omega)), e1, e2⟩
  · have hbe : (er == 0) = false := by simp; exact her
    rw [if_neg her] at HS
    obtain ⟨c0, c1, c2, c3, f0, f1⟩ := hB5.facts
    have hcc := two_cells (x := .slice none 0 0) (y := .bool true) c2 c3
    obtain ⟨e1, e2⟩ := hend w5 (.slice none 0 0) (.bool true) (Below.refl _ _)
    clear hend hL
    go_wp2_with fail
    refine bodyPost_ret (ret_box22 rfl rfl rfl hcc.1 hcc.2) rfl ?_
    rw [HS.out]
    exact ⟨_, _, rfl, Seg.nil _ _, .inr rfl, e1, e2⟩

/-- Feed, of a buffer that may be. -/
theorem rfeed3_good (hv u : Value) (held p : List Int) (lost : Bool) (w : World) (hs : Seg .u8 w hv held) (hp : Seg .u8 w u p) (ho : Pl.Octs held) (hop : Pl.Octs p) (hok : Pl.checkF held lost = 0) (hlen : held.length + p.length ≤ 1000000000000) :
    Calls Try.prog 22 #[.agg #[hv, .bool lost], u] w fun e w' => FeedsR w (Pl.fd (held, lost, [], 0) p) e w' := by
  cases lost with
  | true => exact rfeed3_lost hv u held p w hs hp ho hok
  | false => exact rfeed3_on hv u held p w hs hp ho hop hok hlen
end Go.Proofs.Ytlfgnllmomeajaa
