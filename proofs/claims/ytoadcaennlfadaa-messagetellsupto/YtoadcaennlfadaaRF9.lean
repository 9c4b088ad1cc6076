/- waybillref09: Frames. -/
import Derived.Test.YtoadcaennlfadaaRF8
import Derived.Test.YtoadcaennlfadaaRF6
import Derived.Test.YtoadcaennlfadaaMF3
import Derived.Test.YtoadcaennlfadaaMF5
namespace Go.Proofs.Ytoadcaennlfadaa
open Go.RowKit
set_option maxRecDepth 20000

set_option maxHeartbeats 8000000 in
theorem rFrames_any (v : Value) (ms : List (Mg × List Int)) (w : World) (h : MSeg w v ms) (hdo : ∀ p ∈ ms, ∀ z ∈ p.2, 0 ≤ z ∧ z ≤ 255) (I : Nat) (hI : I ≤ ms.length) (hok : ∀ p ∈ ms.take I, ckM p.1 p.2 = 0) (E : Int) (hE : I = ms.length ∧ E = 0 ∨ E ≠ 0 ∧ ∃ bx bd, ms[I]? = some (bx, bd) ∧ E = ckM bx bd) (hfl : (Pl.framesOf (ms.map encP)).length ≤ 140737488350000) :
    Calls Try.prog 15 #[v] w fun e w' => ∃ o, e = .returned (.tuple #[o, .int .i64 E]) ∧ Seg .u8 w' o (if E = 0 then Pl.framesOf (ms.map encP) else []) ∧ Below w.heap.size w w' := by
  obtain ⟨a, cap, rfl, h1, h2, _⟩ := id h
  unfold maxLen at h2
  obtain ⟨N, hN⟩ : ∃ N, N = ms.length := ⟨_, rfl⟩
  have HN := hid hN
  rw [← hN] at h1 h hI hE ⊢
  have HS := hid h
  have HDO := hid hdo
  have HOK := hid hok
  have HE := hid hE
  have HFL := hid hfl
  clear hN h hdo hok hE hfl
  generalize hFR : (if E = 0 then Pl.framesOf (ms.map encP) else []) = FR
  have HFR := hid hFR
  clear hFR
  go_enter Try.func15, Try.ntmps15
  go_wp2_with fail
  go_loopw [4, 5] (fun o i wr => ∃ k : Nat, k ≤ I ∧ i = .int .i64 k ∧ Hid (Seg .u8 wr o (Pl.framesOf ((ms.map encP).take k))) ∧ Below w.heap.size w wr) (fun _ i _ => N - (intOf i).toNat)
  case atStart => exact ⟨0, Nat.zero_le _, rfl, Seg.nil _ _, Below.refl _ _⟩
  case round =>
    obtain ⟨k, hk, rfl, hSo, hbel⟩ := hrel
    by_cases hlt : k < N
    · obtain ⟨x, t, hp⟩ : ∃ x t, ms[k]? = some (x, t) := ⟨(ms[k]'(by have := HN.out; omega)).1, (ms[k]'(by have := HN.out; omega)).2, by rw [List.getElem?_eq_getElem (by have := HN.out; omega)]⟩
      obtain ⟨g, off, dv, rfl, hg, hcc, hsd⟩ := HS.out.at k x t hp
      have hdd := HDO.out _ (List.mem_of_getElem? hp)
      obtain ⟨r0, r1, r2, r3, r4, r5, r6, r7, r8, r9, r10, r11⟩ := hcc.below hg hbel
      have hsr := hsd.below hbel
      obtain ⟨da, dc, hdv, _⟩ := id hsr
      by_cases hkI : k < I
      · have hck : ckM x t = 0 := HOK.out (x, t) (List.mem_of_getElem? (i := k) (by rw [List.getElem?_take_of_lt hkI]; exact hp))
        have hen := rEncode_ok x dv t wr hsr hdd hck
        have hft := enc_fits hck hdd
        have hmk : (ms.map encP)[k]? = some (encM x t) := by rw [List.getElem?_map, hp]; rfl
        have HT := hid (frames_take hmk)
        have hle := frames_take_le (ms.map encP) k
        have hle2 := HFL.out
        have HPT := hid (fun o u W (h1 : Seg .u8 W o (Pl.framesOf ((ms.map encP).take k))) (h2 : Seg .u8 W u (encM x t)) => rput3_any o u _ _ W h1 h2 hft (by omega))
        generalize hTL : t.length = TL at hdv
        clear hTL
        subst hdv
        simp only [Mg.val] at hen
        clear hsr hsd hcc hdd hp hck hft hmk hle hle2
        go_wp2_with fail
        refine hen.mono ?_
        rintro e w2 ⟨bv, rfl, o2, b2⟩
        have hpt := HPT.out u4 bv w2 (hSo.out.below b2) (Seg.own o2)
        obtain ⟨ba, bc, rfl⟩ := own_shape8 o2
        have HB2 := hid (hbel.trans (b2.mono hbel.size))
        clear r0 r1 r2 r3 r4 r5 r6 r7 r8 r9 r10 r11 hen o2 b2 hSo hbel HPT
        go_wp2_with fail
        refine hpt.mono ?_
        rintro e w3 ⟨o3, rfl, s3, b3⟩
        rw [← HT.out] at s3
        have HS3 := hid s3
        have hb3 := HB2.out.trans (b3.mono HB2.out.size)
        clear hpt s3 b3 HT HB2
        go_wp2
        go_roundw
        case rel => exact ⟨k + 1, by omega, by go_num, HS3, hb3⟩
        case measure => simp [intOf]; omega
      · have hkk : k = I := by omega
        subst hkk
        rcases HE.out with ⟨e1, _⟩ | ⟨e1, bx, bd, e2, e3⟩
        · omega
        rw [hp] at e2
        cases e2
        have hen := rEncode_bad x dv t wr hsr hdd (by rw [← e3]; exact e1)
        rw [← e3] at hen
        have hbe : (E == 0) = false := by simp [e1]
        have hbn : (E != 0) = true := by simp [e1]
        have HF : Hid (FR = []) := by show _ = _; rw [← HFR.out, if_neg e1]
        generalize hTL : t.length = TL at hdv
        clear hTL
        subst hdv
        simp only [Mg.val] at hen
        clear hsr hsd hcc hdd hp e1 e3
        go_wp2_with fail
        refine hen.mono ?_
        rintro e w2 ⟨rfl, b2⟩
        have HB2 := hid (hbel.trans (b2.mono hbel.size))
        clear r0 r1 r2 r3 r4 r5 r6 r7 r8 r9 r10 r11 hen b2 hSo hbel
        go_wp2
        go_ret2
        exact ⟨_, rfl, by rw [HF.out]; exact Seg.nil _ _, HB2.out⟩
    · have hke : (ms.map encP).take k = ms.map encP := List.take_of_length_le (by rw [List.length_map]; have := HN.out; omega)
      rw [hke] at hSo
      have hE0 : E = 0 := by
        rcases HE.out with ⟨_, e1⟩ | ⟨_, bx, bd, e2, _⟩
        · exact e1
        · have := (List.getElem?_eq_some_iff.1 e2).1
          have := HN.out
          omega
      have HF : Hid (FR = Pl.framesOf (ms.map encP)) := by show _ = _; rw [← HFR.out, if_pos hE0]
      subst hE0
      clear hke
      go_wp2
      go_ret2
      exact ⟨_, rfl, by rw [HF.out]; exact hSo.out, hbel⟩
end Go.Proofs.Ytoadcaennlfadaa
