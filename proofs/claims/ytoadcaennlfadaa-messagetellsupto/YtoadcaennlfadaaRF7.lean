/- waybillref09: Read. -/
import Derived.Test.YtoadcaennlfadaaMF8
import Derived.Test.YtoadcaennlfadaaRF2
import Derived.Test.YtoadcaennlfadaaRC
namespace Go.Proofs.Ytoadcaennlfadaa
open Go.RowKit
set_option maxRecDepth 20000

set_option maxHeartbeats 8000000 in
theorem rRead_ok (v : Value) (b : List Int) (w : World) (hs : Seg .u8 w v b) (ho : Pl.Octs b) (hlen : b.length ≤ 5864062014805) (ms : List (Mg × List Int)) (hsc : Pl.scanF b = (ms.map encP, b.length, 0)) (hck : ∀ p ∈ ms, ckM p.1 p.2 = 0) (hdo : ∀ p ∈ ms, ∀ z ∈ p.2, 0 ≤ z ∧ z ≤ 255) (hml : ms.length ≤ 1000000000000) :
    Calls Try.prog 17 #[v] w fun e w' => ∃ o ys, e = .returned (.tuple #[o, .int .i64 0]) ∧ Msgs w.heap.size w' o ms ys ∧ Below w.heap.size w w' := by
  obtain ⟨i0, hi0, hz0, hz1, hz2⟩ := info_parts Try.info24
  have hf := rscan3_any v b w hs ho (by omega)
  rw [hsc] at hf
  simp only at hf
  obtain ⟨a, cap, rfl, _⟩ := id hs
  obtain ⟨L, hL⟩ : ∃ L, L = b.length := ⟨_, rfl⟩
  rw [← hL] at hf hlen ⊢
  obtain ⟨N, hN⟩ : ∃ N, N = ms.length := ⟨_, rfl⟩
  have HN := hid hN
  clear hs ho hsc hL
  go_enter Try.func17, Try.ntmps17
  go_wp2_with fail
  refine hf.mono ?_
  rintro e w2 ⟨pv, rfl, hP, hb2⟩
  obtain ⟨pa, pc, hpv, hpm⟩ := hP.dest
  rw [List.length_map, ← hN] at hpv
  unfold maxLen at hpm
  have hNc : (N : Int) ≤ 9223372036854775807 := by omega
  have hel : Hid (∀ k, k < N → ∃ g off, pa = some ⟨g, off, none⟩ ∧ g < w2.heap.size ∧ ∃ x d y, ms[k]? = some (x, d) ∧ w2.cell? ⟨g, off + k, none⟩ = some y ∧ Seg .u8 w2 y (encM x d) ∧ ckM x d = 0 ∧ ∀ z ∈ d, 0 ≤ z ∧ z ≤ 255) := by
    intro k hk
    obtain ⟨g, off, c, hv', _, _, hg, he⟩ := hP.elem (by rw [List.length_map]; omega)
    rw [hpv] at hv'
    simp only [Value.slice.injEq] at hv'
    obtain ⟨x, d, hmk⟩ : ∃ x d, ms[k]? = some (x, d) := ⟨(ms[k]'(by omega)).1, (ms[k]'(by omega)).2, by rw [List.getElem?_eq_getElem (by omega)]⟩
    obtain ⟨y, hy, hsy⟩ := he k (encM x d) (by rw [List.getElem?_map, hmk]; rfl)
    have hmem := List.mem_of_getElem? hmk
    exact ⟨g, off, hv'.1, hg, x, d, y, hmk, hy, hsy, hck _ hmem, hdo _ hmem⟩
  subst hpv
  have HB2 := hid hb2
  clear hP hb2 hf hN hck hdo
  go_wp2_with fail
  go_loopw [7, 8] (fun o i wr => ∃ (k : Nat) (ys : List (Mg × Value)), k ≤ N ∧ i = .int .i64 k ∧ Hid (Msgs w2.heap.size wr o (ms.take k) ys) ∧ Below w2.heap.size w2 wr) (fun _ i _ => N - (intOf i).toNat)
  case atStart => exact ⟨0, [], Nat.zero_le _, rfl, Msgs.nil _ _, Below.refl _ _⟩
  case round =>
    obtain ⟨k, ys, hk, rfl, hMs, hbel⟩ := hrel
    by_cases hlt : k < N
    · obtain ⟨g, off, rfl, hg, x, d, y, hmk, hc0, hsy, hck, hdo⟩ := hel.out k hlt
      have hc := (hbel.cell (p := ⟨g, off + k, none⟩) hg).trans hc0
      have hbd := enc_bounds hck
      have hde := rDecode_any y (encM x d) wr (hsy.below hbel) (enc_octs hck hdo) (by omega)
      rw [dcm_enc hck] at hde
      simp only at hde
      have HT : Hid (ms.take (k + 1) = ms.take k ++ [(x, d)]) := by show _ = _; rw [List.take_add_one, hmk]; rfl
      have HLK : Hid ((ms.take k).length = k) := by show _ = _; rw [List.length_take]; have := HN.out; omega
      obtain ⟨ya, yc, hyv, _⟩ := id hsy
      generalize (encM x d).length = EL at hyv
      subst hyv
      clear hc0 hsy hel hmk hck hdo hbd
      go_wp2_with fail
      refine hde.mono ?_
      rintro e w3 ⟨tv, rfl, o3, b3⟩
      obtain ⟨ta, tc, rfl⟩ := own_shape8 o3
      have hM3 := hMs.out.below b3
      have hb3 := hbel.trans (b3.mono hbel.size)
      have hal : Below w3.heap.size w3 ((w3.alloc (.cells ⟨x.cells (.slice ta d.length tc)⟩ 24)).alloc (.cells ⟨x.cells (.slice ta d.length tc)⟩ 24)) := ((Below.refl _ w3).alloc (Nat.le_refl _) _).alloc (by simp) _
      have hM4 := hM3.below hal
      have hb4 := hb3.trans (hal.mono hb3.size)
      have o4 := ownsRow_below (ownsRow_lower (C := w2.heap.size) o3 hbel.size) hal
      have NB := Bx.new (w3.alloc (.cells ⟨x.cells (.slice ta d.length tc)⟩ 24)) (x.cells (.slice ta d.length tc)) 24
      have hnews : ∀ j u, (x.cells (.slice ta d.length tc))[j]? = some u → ((w3.alloc (.cells ⟨x.cells (.slice ta d.length tc)⟩ 24)).alloc (.cells ⟨x.cells (.slice ta d.length tc)⟩ 24)).cell? ((⟨w3.heap.size + 1, 0, none⟩ : Addr).add j) = some u := by
        intro j u hu
        rw [add_plain]
        have := NB.cell j hu
        simpa using this
      have hone : ∀ u ∈ x.cells (.slice ta d.length tc), u.oneCell' = true := by
        intro u hu
        simp only [Mg.cells, List.mem_cons, List.not_mem_nil, or_false] at hu
        rcases hu with rfl | rfl | rfl | rfl | rfl | rfl | rfl | rfl | rfl | rfl | rfl | rfl <;> rfl
      have hrow := hM4.row
      rw [HLK.out] at hrow
      simp only [Mg.cells] at hnews hone hrow hb4 o4 hM4
      unfold Mg.val
      clear hde hal b3 o3 hM3 hb3 hMs NB
      go_wp2_with (at_builtin; refine wpList_append_own _ rfl (.tmp 43) (.tmp 45) 37 rfl w2.heap.size 24 i0 _ 12 112 Try.underlying37 hi0 hz0 hz1 hz2 rfl (by decide) u7 k (rowM ys) rfl hrow ⟨w3.heap.size + 1, 0, none⟩ 1 1 _ rfl ?c1 hnews hone ?c2 ?c3 hb4.size ?_)
      case c1 => rfl
      case c2 => unfold maxLen; have := HN.out; omega
      case c3 => have := HN.out; omega
      intro v5 w5 o5 hg5 _
      have hM5 := Msgs.push (x := x) (t := d) hM4 o4 hg5 (by rw [HLK.out]; exact o5)
      have hb5 := hb4.grown hg5 hb4.size (fun j hj => (hrow.lt j hj).1)
      rw [← HT.out] at hM5
      have HM5 := hid hM5
      clear hM5 hM4 o4 o5 hg5 hrow hnews hone hb4 HT HLK hi0 hz0 hz1 hz2
      go_wp2
      go_roundw
      case rel => exact ⟨k + 1, _, by omega, by go_num, HM5, hb5⟩
      case measure => simp [intOf]; omega
    · have hke : ms.take k = ms := List.take_of_length_le (by have := HN.out; omega)
      rw [hke] at hMs
      have HM := hid (hMs.out.lower HB2.out.size)
      have HB := hid (HB2.out.trans (hbel.mono HB2.out.size))
      clear hel hke hMs hbel HB2 hi0 hz0 hz1 hz2
      go_wp2
      go_ret2
      exact ⟨_, ys, rfl, HM.out, HB.out⟩

set_option maxHeartbeats 8000000 in
theorem rRead_bad (v : Value) (b : List Int) (w : World) (hs : Seg .u8 w v b) (ho : Pl.Octs b) (hlen : b.length ≤ 5864062014805) (ls : List (List Int)) (hsc : Pl.scanF b = (ls, b.length, 0)) (I : Nat) (pb : List Int) (hI : ls[I]? = some pb) (hgood : ∀ k, k < I → ∃ p, ls[k]? = some p ∧ (dcm p).2.2 = 0) (hbad : (dcm pb).2.2 ≠ 0) (hfit : ∀ p ∈ ls, Pl.fits p) (hml : ls.length ≤ 1000000000000) :
    Calls Try.prog 17 #[v] w fun e w' => e = .returned (.tuple #[.slice none 0 0, .int .i64 (dcm pb).2.2]) ∧ Below w.heap.size w w' := by
  obtain ⟨i0, hi0, hz0, hz1, hz2⟩ := info_parts Try.info24
  have hf := rscan3_any v b w hs ho (by omega)
  rw [hsc] at hf
  simp only at hf
  obtain ⟨a, cap, rfl, _⟩ := id hs
  obtain ⟨L, hL⟩ : ∃ L, L = b.length := ⟨_, rfl⟩
  rw [← hL] at hf hlen ⊢
  obtain ⟨N, hN⟩ : ∃ N, N = ls.length := ⟨_, rfl⟩
  have HN := hid hN
  have hIN : I < N := by have := (List.getElem?_eq_some_iff.1 hI).1; omega
  clear hs ho hsc hL
  go_enter Try.func17, Try.ntmps17
  go_wp2_with fail
  refine hf.mono ?_
  rintro e w2 ⟨pv, rfl, hP, hb2⟩
  obtain ⟨pa, pc, hpv, hpm⟩ := hP.dest
  rw [← hN] at hpv
  unfold maxLen at hpm
  have hNc : (N : Int) ≤ 9223372036854775807 := by omega
  have hel : Hid (∀ k, k < N → ∃ g off, pa = some ⟨g, off, none⟩ ∧ g < w2.heap.size ∧ ∃ p y, ls[k]? = some p ∧ w2.cell? ⟨g, off + k, none⟩ = some y ∧ Seg .u8 w2 y p ∧ Pl.fits p) := by
    intro k hk
    obtain ⟨g, off, c, hv', _, _, hg, he⟩ := hP.elem (by omega)
    rw [hpv] at hv'
    simp only [Value.slice.injEq] at hv'
    obtain ⟨p, hmk⟩ : ∃ p, ls[k]? = some p := ⟨ls[k]'(by omega), by rw [List.getElem?_eq_getElem (by omega)]⟩
    obtain ⟨y, hy, hsy⟩ := he k p hmk
    exact ⟨g, off, hv'.1, hg, p, y, hmk, hy, hsy, hfit p (List.mem_of_getElem? hmk)⟩
  subst hpv
  have HB2 := hid hb2
  have HI := hid hI
  have HG := hid hgood
  have HBD := hid hbad
  clear hP hb2 hf hI hgood hbad hfit
  go_wp2_with fail
  go_loopw [7, 8] (fun o i wr => ∃ (k : Nat) (ms : List (Mg × List Int)) (ys : List (Mg × Value)), k ≤ I ∧ i = .int .i64 k ∧ Hid (ms.length = k) ∧ Hid (Msgs w2.heap.size wr o ms ys) ∧ Below w2.heap.size w2 wr) (fun _ i _ => N - (intOf i).toNat)
  case atStart => exact ⟨0, [], [], Nat.zero_le _, rfl, rfl, Msgs.nil _ _, Below.refl _ _⟩
  case round =>
    obtain ⟨k, ms, ys, hk, rfl, HLK, hMs, hbel⟩ := hrel
    by_cases hltI : k < I
    · have hlt : k < N := by omega
      obtain ⟨g, off, rfl, hg, p, y, hmk, hc0, hsy, hpf⟩ := hel.out k hlt
      obtain ⟨p', hp1, hp2⟩ := HG.out k hltI
      rw [hmk] at hp1
      cases hp1
      have hc := (hbel.cell (p := ⟨g, off + k, none⟩) hg).trans hc0
      have hde := rDecode_any y p wr (hsy.below hbel) hpf.2.2 (by have := hpf.2.1; omega)
      obtain ⟨x, d, er, hdp⟩ : ∃ x d er, dcm p = (x, d, er) := ⟨_, _, _, rfl⟩
      rw [hdp] at hde hp2
      simp only at hde hp2
      subst hp2
      obtain ⟨ya, yc, hyv, _⟩ := id hsy
      generalize hEL : p.length = EL at hyv
      clear hEL
      subst hyv
      clear hc0 hsy hel hmk hpf hdp
      go_wp2_with fail
      refine hde.mono ?_
      rintro e w3 ⟨tv, rfl, o3, b3⟩
      obtain ⟨ta, tc, rfl⟩ := own_shape8 o3
      have hM3 := hMs.out.below b3
      have hb3 := hbel.trans (b3.mono hbel.size)
      have hal : Below w3.heap.size w3 ((w3.alloc (.cells ⟨x.cells (.slice ta d.length tc)⟩ 24)).alloc (.cells ⟨x.cells (.slice ta d.length tc)⟩ 24)) := ((Below.refl _ w3).alloc (Nat.le_refl _) _).alloc (by simp) _
      have hM4 := hM3.below hal
      have hb4 := hb3.trans (hal.mono hb3.size)
      have o4 := ownsRow_below (ownsRow_lower (C := w2.heap.size) o3 hbel.size) hal
      have NB := Bx.new (w3.alloc (.cells ⟨x.cells (.slice ta d.length tc)⟩ 24)) (x.cells (.slice ta d.length tc)) 24
      have hnews : ∀ j u, (x.cells (.slice ta d.length tc))[j]? = some u → ((w3.alloc (.cells ⟨x.cells (.slice ta d.length tc)⟩ 24)).alloc (.cells ⟨x.cells (.slice ta d.length tc)⟩ 24)).cell? ((⟨w3.heap.size + 1, 0, none⟩ : Addr).add j) = some u := by
        intro j u hu
        rw [add_plain]
        have := NB.cell j hu
        simpa using this
      have hone : ∀ u ∈ x.cells (.slice ta d.length tc), u.oneCell' = true := by
        intro u hu
        simp only [Mg.cells, List.mem_cons, List.not_mem_nil, or_false] at hu
        rcases hu with rfl | rfl | rfl | rfl | rfl | rfl | rfl | rfl | rfl | rfl | rfl | rfl <;> rfl
      have hrow := hM4.row
      rw [HLK.out] at hrow
      simp only [Mg.cells] at hnews hone hrow hb4 o4 hM4
      unfold Mg.val
      clear hde hal b3 o3 hM3 hb3 hMs NB
      go_wp2_with (at_builtin; refine wpList_append_own _ rfl (.tmp 43) (.tmp 45) 37 rfl w2.heap.size 24 i0 _ 12 112 Try.underlying37 hi0 hz0 hz1 hz2 rfl (by decide) u7 k (rowM ys) rfl hrow ⟨w3.heap.size + 1, 0, none⟩ 1 1 _ rfl ?c1 hnews hone ?c2 ?c3 hb4.size ?_)
      case c1 => rfl
      case c2 => unfold maxLen; have := HN.out; omega
      case c3 => have := HN.out; omega
      intro v5 w5 o5 hg5 _
      have hM5 := Msgs.push (x := x) (t := d) hM4 o4 hg5 (by rw [HLK.out]; exact o5)
      have hb5 := hb4.grown hg5 hb4.size (fun j hj => (hrow.lt j hj).1)
      have HL5 : Hid ((ms ++ [(x, d)]).length = k + 1) := by show _ = _; rw [List.length_append, HLK.out]; rfl
      have HM5 := hid hM5
      clear hM5 hM4 o4 o5 hg5 hrow hnews hone hb4 HLK hi0 hz0 hz1 hz2
      go_wp2
      go_roundw
      case rel => exact ⟨k + 1, _, _, by omega, by go_num, HL5, HM5, hb5⟩
      case measure => simp [intOf]; omega
    · have hkI : k = I := by omega
      subst hkI
      obtain ⟨g, off, rfl, hg, p, y, hmk, hc0, hsy, hpf⟩ := hel.out k hIN
      have hp1 := HI.out
      rw [hmk] at hp1
      cases hp1
      have hc := (hbel.cell (p := ⟨g, off + k, none⟩) hg).trans hc0
      have hde := rDecode_any y pb wr (hsy.below hbel) hpf.2.2 (by have := hpf.2.1; omega)
      have hbe : ((dcm pb).2.2 == 0) = false := by simp [HBD.out]
      have hbn : ((dcm pb).2.2 != 0) = true := by simp [HBD.out]
      have HB := hid (HB2.out.trans (hbel.mono HB2.out.size))
      obtain ⟨ya, yc, hyv, _⟩ := id hsy
      generalize hEL : pb.length = EL at hyv
      clear hEL
      subst hyv
      clear hel hMs hmk hc0 hsy hpf hi0 hz0 hz1 hz2
      go_wp2_with fail
      refine hde.mono ?_
      rintro e w3 ⟨tv, rfl, o3, b3⟩
      obtain ⟨ta, tc, rfl⟩ := own_shape8 o3
      have HB3 := hid (fun o => (HB.out.trans ((b3.mono hbel.size).mono HB2.out.size)).alloc (Nat.le_trans HB.out.size b3.size) o)
      unfold Mg.val
      clear hde o3 b3
      go_wp2
      go_ret2
      exact ⟨rfl, HB3.out _⟩

set_option maxHeartbeats 2000000 in
theorem rRead_err (v : Value) (b : List Int) (w : World) (hs : Seg .u8 w v b) (ho : Pl.Octs b) (hlen : b.length ≤ 5864062014805) (h : (Pl.scanF b).2.2 ≠ 0) :
    Calls Try.prog 17 #[v] w fun e w' => e = .returned (.tuple #[.slice none 0 0, .int .i64 (Pl.scanF b).2.2]) ∧ Below w.heap.size w w' := by
  have hf := rscan3_any v b w hs ho (by omega)
  obtain ⟨a, cap, rfl, _⟩ := id hs
  have hbe : ((Pl.scanF b).2.2 == 0) = false := by simp [h]
  have hbn : ((Pl.scanF b).2.2 != 0) = true := by simp [h]
  generalize Pl.scanF b = SC at *
  obtain ⟨ls, tk, er⟩ := SC
  simp only at hf hbe hbn h ⊢
  clear hs ho h
  go_enter Try.func17, Try.ntmps17
  go_wp2_with fail
  refine hf.mono ?_
  rintro e w2 ⟨pv, rfl, hP, hb⟩
  obtain ⟨pa, pc, hpv⟩ := hP.shape
  generalize hPL : ls.length = PL at hpv
  clear hPL
  subst hpv
  clear hP hf
  go_wp2
  go_ret2
  exact ⟨rfl, hb⟩

set_option maxHeartbeats 2000000 in
theorem rRead_rest (v : Value) (b : List Int) (w : World) (hs : Seg .u8 w v b) (ho : Pl.Octs b) (hlen : b.length ≤ 5864062014805) (h0 : (Pl.scanF b).2.2 = 0) (h : (Pl.scanF b).2.1 < b.length) :
    Calls Try.prog 17 #[v] w fun e w' => e = .returned (.tuple #[.slice none 0 0, .int .i64 8]) ∧ Below w.heap.size w w' := by
  have hf := rscan3_any v b w hs ho (by omega)
  obtain ⟨a, cap, rfl, _⟩ := id hs
  generalize Pl.scanF b = SC at *
  obtain ⟨ls, tk, er⟩ := SC
  simp only at hf h0 h
  subst h0
  obtain ⟨N, hN⟩ : ∃ N, N = b.length := ⟨_, rfl⟩
  rw [← hN] at hf h hlen ⊢
  have hti : (tk : Int) < N := by omega
  clear hs ho hN
  go_enter Try.func17, Try.ntmps17
  go_wp2_with fail
  refine hf.mono ?_
  rintro e w2 ⟨pv, rfl, hP, hb⟩
  obtain ⟨pa, pc, hpv⟩ := hP.shape
  generalize hPL : ls.length = PL at hpv
  clear hPL
  subst hpv
  clear hP hf
  go_wp2
  go_ret2
  exact ⟨rfl, hb⟩
end Go.Proofs.Ytoadcaennlfadaa
