/- message: Frames, where a message may not be; Back. -/
import Derived.Test.YtoadcaennlfadaaMF1
import Derived.Test.YtoadcaennlfadaaRF1
namespace Go.Proofs.Ytoadcaennlfadaa
open Go.RowKit
set_option maxRecDepth 20000

set_option maxHeartbeats 8000000 in
theorem mFrames_bad (v : Value) (ms : List (Mg × List Int)) (w : World) (h : MSeg w v ms) (I : Nat) (bx : Mg) (bd : List Int) (hI : ms[I]? = some (bx, bd)) (hok : ∀ p ∈ ms.take I, ckM p.1 p.2 = 0) (hbad : ckM bx bd ≠ 0) (hlen : ms.length ≤ 5864062014804) :
    Calls Try.prog 14 #[v] w fun e w' => e = .returned (.tuple #[.slice none 0 0, .int .i64 (ckM bx bd)]) ∧ Below w.heap.size w w' := by
  obtain ⟨a, cap, rfl, h1, h2, h3, h4⟩ := id h
  unfold maxLen at h2
  obtain ⟨N, hN⟩ : ∃ N, N = ms.length := ⟨_, rfl⟩
  rw [← hN] at h1 hlen ⊢
  have HN : Hid (N = ms.length) := hN
  have hIl : I < N := by have := (List.getElem?_eq_some_iff.1 hI).1; omega
  have HI := hid hI
  have HBD := hid hbad
  clear hN h3 hI hbad
  go_enter Try.func14, Try.ntmps14
  go_wp2_with fail
  go_loopw [4, 11] (fun a i wr => ∃ k : Nat, k ≤ I ∧ i = .int .i64 k ∧ Pays (Span w.heap.size wr) wr a ((ms.take k).map encP) ∧ Below w.heap.size w wr) (fun _ i _ => N - (intOf i).toNat)
  case atStart => exact ⟨0, Nat.zero_le _, rfl, Pays.nil _ _, Below.refl _ _⟩
  case round =>
    obtain ⟨k, hk, rfl, hP, hbel⟩ := hrel
    by_cases hltI : k < I
    · have hlt : k < N := by omega
      obtain ⟨p, hp⟩ : ∃ p, ms[k]? = some p := ⟨ms[k]'(by have := HN.out; omega), by simp⟩
      rcases a with _ | ⟨g, off, ar⟩
      · have := HN.out
        obtain ⟨a', c', hv', _, _, h3', _⟩ := h
        simp only [Value.slice.injEq] at hv'
        obtain ⟨rfl, _, _⟩ := hv'
        have := (h3' rfl).1
        rw [this] at hp
        simp at hp
      obtain ⟨rfl, hg, hcc⟩ := h4 g off ar rfl (by have := HN.out; omega)
      obtain ⟨dv, hmc, hsd⟩ := hcc k p hp
      have hmr := hmc.below hg (hbel.mono (Nat.le_refl _))
      obtain ⟨c0, c1, c2, c3, c4, c5, c6, c7, c8, c9, c10, c11⟩ := hmr
      obtain ⟨x, d⟩ := p
      have hck := hok (x, d) (List.mem_of_getElem? (i := k) (by rw [List.getElem?_take_of_lt hltI]; exact hp))
      simp only at c0 c1 c2 c3 c4 c5 c6 c7 c8 c9 c10 c11 hsd hck
      have HT : Hid ((ms.take (k + 1)).map encP = (ms.take k).map encP ++ [encM x d]) := by
        show _ = _
        rw [List.take_add_one, hp]
        simp [encP]
      obtain ⟨da, dc, rfl, _⟩ := id hsd
      have hsr := hsd.below hbel
      have hal : Below wr.heap.size wr (wr.alloc (.cells ⟨x.cells (.slice da d.length dc)⟩ 24)) := (Below.refl _ wr).alloc (Nat.le_refl _) _
      have hen := mEncode_ok x (.slice da d.length dc) d _ (hsr.below hal) hck
      have HLK : Hid (((ms.take k).map encP).length = k) := by show _ = _; rw [List.length_map, List.length_take]; have := HN.out; omega
      simp only [Mg.val, Mg.cells] at hen hal
      clear hmc hcc hp hck hsr h4
      go_wp2_with fail
      refine hen.mono ?_
      rintro e w2 ⟨v2, rfl, hown2', hb2'⟩
      clear c0 c1 c2 c3 c4 c5 c6 c7 c8 c9 c10 c11 hen
      have hb2 := hal.trans (hb2'.mono hal.size)
      have hown2 := ownsRow_lower (C := wr.heap.size) hown2' hal.size
      have hP2 := hP.below hb2
      have hsi2 := Since.own hown2
      have htl2 := Till.own hown2
      have hs2 := Part.seg (Part.own hown2)
      obtain ⟨a2, e2, hv2, _, _, _, _⟩ := id hs2
      generalize hpl : (encM x d).length = pn at hv2
      subst hv2
      clear hown2 hown2' hb2' hal hsd
      go_wp2_with (at_builtin; refine wpList_append_pays _ rfl (.tmp 23) (.tmp 25) rfl (Span w.heap.size wr) (Span wr.heap.size w2) u4 _ ((ms.take k).map encP) [encM x d] [.slice a2 pn e2] rfl rfl (hP2.below ((Below.refl _ _).alloc (Nat.le_refl _) _)) (reads_one w2 _ 22) (elems_one (hs2.below ((Below.refl _ _).alloc (Nat.le_refl _) _)) hsi2 htl2) (span_lt _ hb2) (span_ap _ hP) (by rw [HLK.out]; simp; omega) ?_; intro v5 w5 hP5 hg5 hm5; clear hm5)
      have hsz5 := hg5.size
      simp at hsz5
      have hb5 : Below w.heap.size w w5 := ((hbel.trans (hb2.mono hbel.size)).alloc (by have := hbel.size; have := hb2.size; omega) _).grown hg5 (by have := hbel.size; have := hb2.size; simp; omega) (fun j hj => by
        by_cases h : w.heap.size ≤ j
        · exact h
        · exact absurd hj (hP.apart fun hq => h hq.1))
      have hPn := hP5.mono (R := Span w.heap.size w5) (fun j hj => by
        have h1 := hbel.size
        have h2 := hb2.size
        rcases hj with hj | hj | hj
        · exact ⟨hj.1, by have := hj.2; omega⟩
        · exact ⟨by have := hj.1; omega, by have := hj.2; omega⟩
        · have h3 := hj.1
          simp at h3
          exact ⟨by omega, hj.2⟩)
      rw [← HT.out] at hPn
      clear hP5 hg5 hP2 hP hs2 hsi2 htl2 HT HLK
      go_wp2
      go_roundw
      case rel => exact ⟨k + 1, by omega, by go_num, hPn, hb5⟩
      case measure => simp [intOf]; omega
    · have hkI : k = I := by omega
      subst hkI
      have hlt : k < N := hIl
      have hp := HI.out
      rcases a with _ | ⟨g, off, ar⟩
      · obtain ⟨a', c', hv', _, _, h3', _⟩ := h
        simp only [Value.slice.injEq] at hv'
        obtain ⟨rfl, _, _⟩ := hv'
        have := (h3' rfl).1
        rw [this] at hp
        simp at hp
      obtain ⟨rfl, hg, hcc⟩ := h4 g off ar rfl (by have := HN.out; omega)
      obtain ⟨dv, hmc, hsd⟩ := hcc k (bx, bd) hp
      have hmr := hmc.below hg (hbel.mono (Nat.le_refl _))
      obtain ⟨c0, c1, c2, c3, c4, c5, c6, c7, c8, c9, c10, c11⟩ := hmr
      simp only at c0 c1 c2 c3 c4 c5 c6 c7 c8 c9 c10 c11 hsd
      obtain ⟨da, dc, rfl, _⟩ := id hsd
      have hsr := hsd.below hbel
      have hal : Below wr.heap.size wr (wr.alloc (.cells ⟨bx.cells (.slice da bd.length dc)⟩ 24)) := (Below.refl _ wr).alloc (Nat.le_refl _) _
      have hen := mEncode_bad bx (.slice da bd.length dc) bd _ (hsr.below hal) HBD.out
      have hbe : (ckM bx bd == 0) = false := by simp [HBD.out]
      have hbn : (ckM bx bd != 0) = true := by simp [HBD.out]
      have HBa := hid (hbel.trans (hal.mono hbel.size))
      simp only [Mg.val, Mg.cells] at hen HBa
      clear hmc hcc hp h4 hP hsr hsd hal
      go_wp2_with fail
      refine hen.mono ?_
      rintro e w2 ⟨rfl, hb2⟩
      have HB2 := hid (HBa.out.trans (hb2.mono HBa.out.size))
      clear c0 c1 c2 c3 c4 c5 c6 c7 c8 c9 c10 c11 hen hb2
      go_wp2
      go_ret2
      exact ⟨rfl, HB2.out⟩

def backB (k : Int) : Bool := (k == 2) || (k == 4) || (k == 6) || (k == 7) || (k == 8)
set_option maxHeartbeats 2000000 in
theorem mBack_any (x : Mg) (v : Value) (w : World) : Calls Try.prog 24 #[x.val v] w fun e w' => e = .returned (.bool (backB x.k)) ∧ Below w.heap.size w w' := by
  obtain ⟨k, c, b, i, s, q, m, n, l, o, p⟩ := x
  have hal := (Below.refl w.heap.size w).alloc (Nat.le_refl _) (.cells ⟨(⟨k, c, b, i, s, q, m, n, l, o, p⟩ : Mg).cells v⟩ 24)
  have HB := hid hal
  simp only [Mg.val, Mg.cells] at *
  clear hal
  by_cases h2 : k = 2
  · subst h2
    go_enter Try.func24, Try.ntmps24
    go_wp2
    all_goals (go_ret; exact ⟨rfl, HB.out⟩)
  by_cases h4 : k = 4
  · subst h4
    go_enter Try.func24, Try.ntmps24
    go_wp2
    all_goals (go_ret; exact ⟨rfl, HB.out⟩)
  by_cases h6 : k = 6
  · subst h6
    go_enter Try.func24, Try.ntmps24
    go_wp2
    all_goals (go_ret; exact ⟨rfl, HB.out⟩)
  by_cases h7 : k = 7
  · subst h7
    go_enter Try.func24, Try.ntmps24
    go_wp2
    all_goals (go_ret; exact ⟨rfl, HB.out⟩)
  by_cases h8 : k = 8
  · subst h8
    go_enter Try.func24, Try.ntmps24
    go_wp2
    all_goals (go_ret; exact ⟨rfl, HB.out⟩)
  have hb : backB k = false := by simp [backB, h2, h4, h6, h7, h8]
  rw [hb]
  go_enter Try.func24, Try.ntmps24
  go_wp2
  all_goals (go_ret; exact ⟨rfl, HB.out⟩)

set_option maxHeartbeats 2000000 in
theorem rBack_any (x : Mg) (v : Value) (w : World) : Calls Try.prog 25 #[x.val v] w fun e w' => e = .returned (.bool (backB x.k)) ∧ Below w.heap.size w w' := by
  have hfm := form_any x.k
  obtain ⟨k, c, b, i, s, q, m, n, l, o, p⟩ := x
  have hal := (Below.refl w.heap.size w).alloc (Nat.le_refl _) (.cells ⟨(⟨k, c, b, i, s, q, m, n, l, o, p⟩ : Mg).cells v⟩ 24)
  have HB := hid hal
  simp only [Mg.val, Mg.cells] at *
  clear hal
  by_cases h1 : k = 1
  · subst h1
    have hne : (strL (formL 1)).toList.isEmpty = false := by kernel_rfl
    go_enter Try.func25, Try.ntmps25
    go_wp2_with (go_at_call 30; refine (hfm _).mono ?_; rintro e w2 ⟨rfl, hw2⟩; subst hw2)
    all_goals (go_ret; exact ⟨rfl, HB.out⟩)
  by_cases h2 : k = 2
  · subst h2
    have hne : (strL (formL 2)).toList.isEmpty = false := by kernel_rfl
    go_enter Try.func25, Try.ntmps25
    go_wp2_with (go_at_call 30; refine (hfm _).mono ?_; rintro e w2 ⟨rfl, hw2⟩; subst hw2)
    all_goals (go_ret; exact ⟨rfl, HB.out⟩)
  by_cases h3 : k = 3
  · subst h3
    have hne : (strL (formL 3)).toList.isEmpty = false := by kernel_rfl
    go_enter Try.func25, Try.ntmps25
    go_wp2_with (go_at_call 30; refine (hfm _).mono ?_; rintro e w2 ⟨rfl, hw2⟩; subst hw2)
    all_goals (go_ret; exact ⟨rfl, HB.out⟩)
  by_cases h4 : k = 4
  · subst h4
    have hne : (strL (formL 4)).toList.isEmpty = false := by kernel_rfl
    go_enter Try.func25, Try.ntmps25
    go_wp2_with (go_at_call 30; refine (hfm _).mono ?_; rintro e w2 ⟨rfl, hw2⟩; subst hw2)
    all_goals (go_ret; exact ⟨rfl, HB.out⟩)
  by_cases h5 : k = 5
  · subst h5
    have hne : (strL (formL 5)).toList.isEmpty = false := by kernel_rfl
    go_enter Try.func25, Try.ntmps25
    go_wp2_with (go_at_call 30; refine (hfm _).mono ?_; rintro e w2 ⟨rfl, hw2⟩; subst hw2)
    all_goals (go_ret; exact ⟨rfl, HB.out⟩)
  by_cases h6 : k = 6
  · subst h6
    have hne : (strL (formL 6)).toList.isEmpty = false := by kernel_rfl
    go_enter Try.func25, Try.ntmps25
    go_wp2_with (go_at_call 30; refine (hfm _).mono ?_; rintro e w2 ⟨rfl, hw2⟩; subst hw2)
    all_goals (go_ret; exact ⟨rfl, HB.out⟩)
  by_cases h7 : k = 7
  · subst h7
    have hne : (strL (formL 7)).toList.isEmpty = false := by kernel_rfl
    go_enter Try.func25, Try.ntmps25
    go_wp2_with (go_at_call 30; refine (hfm _).mono ?_; rintro e w2 ⟨rfl, hw2⟩; subst hw2)
    all_goals (go_ret; exact ⟨rfl, HB.out⟩)
  by_cases h8 : k = 8
  · subst h8
    have hne : (strL (formL 8)).toList.isEmpty = false := by kernel_rfl
    go_enter Try.func25, Try.ntmps25
    go_wp2_with (go_at_call 30; refine (hfm _).mono ?_; rintro e w2 ⟨rfl, hw2⟩; subst hw2)
    all_goals (go_ret; exact ⟨rfl, HB.out⟩)
  have hb : backB k = false := by simp [backB, h2, h4, h6, h7, h8]
  have hf : formL k = [] := by simp [formL, h1, h2, h3, h4, h5, h6, h7, h8]
  rw [hf, show strL [] = ⟨#[]⟩ from rfl] at hfm
  rw [hb]
  go_enter Try.func25, Try.ntmps25
  go_wp2_with (go_at_call 30; refine (hfm _).mono ?_; rintro e w2 ⟨rfl, hw2⟩; subst hw2)
  all_goals (go_ret; exact ⟨rfl, HB.out⟩)
end Go.Proofs.Ytoadcaennlfadaa
