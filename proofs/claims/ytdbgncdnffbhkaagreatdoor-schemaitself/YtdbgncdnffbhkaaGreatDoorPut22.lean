/- Are schemas one? What Text has told is printed: a schema told, as one of any make; what a text tells. Types that lie anywhere; are types, methods one? Are schemas one, wherever they lie? -/
import Derived.Test.YtdbgncdnffbhkaaGreatDoorPut21
import Derived.Laws.StructEq
import Derived.Deep.CutRange
import Derived.Test.YtdbgncdnffbhkaaGreatDoorPut19
namespace Go.Proofs.YtdbgncdnffbhkaaGreatDoor
open Go.RowKit
set_option maxRecDepth 20000

theorem Rows.below {α : Type} {T : TypeId} {m : Nat} {R : α → List Value → World → Prop} {B : Nat} {w w' : World} {v : Value} {xs : List α} (h : Rows T m R B w v xs) (hb : Below w.heap.size w w') (hR : ∀ a c, R a c w → R a c w') : Rows T m R B w' v xs :=
  h.ch (X := fun _ _ => False) (Ch.below hb) hR (fun _ _ h => h)

set_option maxHeartbeats 64000000 in
set_option maxRecDepth 4000 in
theorem sameSchema_true (Ba Bb : Nat) (ds : List Pl.Decl) (w : World) (s1 s2 s3 t1 t2 t3 : Value) (hA : SchV Ba ds s1 s2 s3 w) (hB : SchV Bb ds t1 t2 t3 w) : Calls Tryz.prog 17 #[.agg #[s1, s2, s3], .agg #[t1, t2, t3]] w fun e w' => e = .returned (.bool true) ∧ Below w.heap.size w w' := by
  obtain ⟨a1, c1, a2, c2, a3, c3, rfl, rfl, rfl⟩ := hA.shape
  obtain ⟨b1, d1, b2, d2, b3, d3, rfl, rfl, rfl⟩ := hB.shape
  obtain ⟨hA1, hA2, hA3⟩ := hA
  obtain ⟨hB1, hB2, hB3⟩ := hB
  obtain ⟨m1, hm1⟩ : ∃ m, m = (stOf ds).length := ⟨_, rfl⟩
  obtain ⟨m2, hm2⟩ : ∃ m, m = (enOf ds).length := ⟨_, rfl⟩
  obtain ⟨m3, hm3⟩ : ∃ m, m = (svOf ds).length := ⟨_, rfl⟩
  rw [← hm1] at hA1 hB1 ⊢
  rw [← hm2] at hA2 hB2 ⊢
  rw [← hm3] at hA3 hB3 ⊢
  have HA1 := hid hA1
  have HA2 := hid hA2
  have HA3 := hid hA3
  have HB1 := hid hB1
  have HB2 := hid hB2
  have HB3 := hid hB3
  have Hm1 := hid hm1
  have Hm2 := hid hm2
  have Hm3 := hid hm3
  have hk1 : m1 ≤ 9223372036854775807 := by
    rcases Nat.eq_zero_or_pos m1 with h | h
    · omega
    · obtain ⟨x, hx⟩ : ∃ x, (stOf ds)[0]? = some x := ⟨(stOf ds)[0]'(by omega), by simp⟩
      obtain ⟨_, cap, _, he, h1, h2, _⟩ := hA1.at hx
      unfold maxLen at h2
      omega
  have hk2 : m2 ≤ 9223372036854775807 := by
    rcases Nat.eq_zero_or_pos m2 with h | h
    · omega
    · obtain ⟨x, hx⟩ : ∃ x, (enOf ds)[0]? = some x := ⟨(enOf ds)[0]'(by omega), by simp⟩
      obtain ⟨_, cap, _, he, h1, h2, _⟩ := hA2.at hx
      unfold maxLen at h2
      omega
  have hk3 : m3 ≤ 9223372036854775807 := by
    rcases Nat.eq_zero_or_pos m3 with h | h
    · omega
    · obtain ⟨x, hx⟩ : ∃ x, (svOf ds)[0]? = some x := ⟨(svOf ds)[0]'(by omega), by simp⟩
      obtain ⟨_, cap, _, he, h1, h2, _⟩ := hA3.at hx
      unfold maxLen at h2
      omega
  have hb0 := below_next (below_alloc w (.cells #[.slice a1 m1 c1, .slice a2 m2 c2, .slice a3 m3 c3] 26)) (below_alloc _ (.cells #[.slice b1 m1 d1, .slice b2 m2 d2, .slice b3 m3 d3] 26))
  have hX := (Bx.new w [.slice a1 m1 c1, .slice a2 m2 c2, .slice a3 m3 c3] 26).alloc (.cells #[.slice b1 m1 d1, .slice b2 m2 d2, .slice b3 m3 d3] 26)
  have hY := Bx.newAt (w := w.alloc (.cells #[.slice a1 m1 c1, .slice a2 m2 c2, .slice a3 m3 c3] 26)) (g := w.heap.size + 1) (by simp) [.slice b1 m1 d1, .slice b2 m2 d2, .slice b3 m3 d3] 26
  clear hA1 hA2 hA3 hB1 hB2 hB3 hm1 hm2 hm3
  have e1 : ((m1 : Int) != (m1 : Int)) = false := by simp
  have e2 : ((m2 : Int) != (m2 : Int)) = false := by simp
  have e3 : ((m3 : Int) != (m3 : Int)) = false := by simp
  go_enter Tryz.func17, Tryz.ntmps17
  go_wp2_with fail
  change Bx ((w.alloc (.cells #[.slice a1 m1 c1, .slice a2 m2 c2, .slice a3 m3 c3] 26)).alloc (.cells #[.slice b1 m1 d1, .slice b2 m2 d2, .slice b3 m3 d3] 26)) _ _ _ at hY
  obtain ⟨bx, hbx⟩ : ∃ b, b = w.heap.size := ⟨_, rfl⟩
  obtain ⟨bY, hbY⟩ : ∃ b, b = w.heap.size + 1 := ⟨_, rfl⟩
  rw [← hbY] at hY ⊢
  rw [← hbx] at hX ⊢
  clear hbx hbY e1 e2 e3
  generalize (w.alloc (.cells #[.slice a1 m1 c1, .slice a2 m2 c2, .slice a3 m3 c3] 26)).alloc (.cells #[.slice b1 m1 d1, .slice b2 m2 d2, .slice b3 m3 d3] 26) = w0 at *
  go_loopw [5] (fun i wr => ∃ k : Nat, k ≤ m1 ∧ i = .int .i64 k ∧ Below w0.heap.size w0 wr) (fun i _ => m1 - (intOf i).toNat)
  case atStart => exact ⟨0, Nat.zero_le _, rfl, Below.refl _ _⟩
  case round =>
    obtain ⟨k, hk, rfl, hbk⟩ := hrel
    have hXk := hX.below hbk
    have hYk := hY.below hbk
    have x0 := hXk.cell 0 rfl
    have x1 := hXk.cell 1 rfl
    have x2 := hXk.cell 2 rfl
    have y0 := hYk.cell 0 rfl
    have y1 := hYk.cell 1 rfl
    have y2 := hYk.cell 2 rfl
    have lx := hXk.lt
    have ly := hYk.lt
    by_cases hlt : k < m1
    · obtain ⟨x, hx⟩ : ∃ x, (stOf ds)[k]? = some x := ⟨(stOf ds)[k]'(by have := Hm1.out; omega), by simp⟩
      have hbw := below_next hb0 hbk
      have hRa := HA1.out.below hbw (fun a c h => SctR.ch (n := 0) (Tr := 60) (.inl rfl) (Ch.below hbw) a c h)
      have hRb := HB1.out.below hbw (fun a c h => SctR.ch (n := 0) (Tr := 60) (.inl rfl) (Ch.below hbw) a c h)
      obtain ⟨g, cap, c, hv, -, -, hg, ⟨s, ad, m, cp, rfl, hs, hF⟩, -, hc⟩ := hRa.at hx
      obtain ⟨g', cap', c', hv', -, -, hg', ⟨s', ad', m', cp', rfl, hs', hF'⟩, -, hc'⟩ := hRb.at hx
      injection hv with ha1 hl1 hx1
      injection hv' with hb1' hl1' hx1'
      clear hl1 hl1'
      subst ha1 hb1' hx1 hx1'
      have hss : s = s' := bl_inj (hs.trans hs'.symm)
      subst hss
      have hm : m = x.2.length := by obtain ⟨_, _, hfe⟩ := hF.shape; injection hfe
      have hm' : m' = x.2.length := by obtain ⟨_, _, hfe⟩ := hF'.shape; injection hfe
      have hmm : m' = m := by rw [hm', ← hm]
      subst hmm
      have q0 := hc 0 _ rfl
      have q1 := hc 1 _ rfl
      have r0 := hc' 0 _ rfl
      have r1 := hc' 1 _ rfl
      simp only [Nat.add_zero] at q0 r0
      have hki : (0 : Int) ≤ (k : Int) ∧ (k : Int) < (m1 : Int) := by omega
      have HF := hid hF
      have HF' := hid hF'
      clear hc hc' hRa hRb hs hs' hx hF hF' hm'
      have Hm := hid hm
      clear hm
      go_wp2_with fail
      go_upto_region 6 with fail
      go_cut [6, 7] (fun p q wx => ∃ bA bB, p = .pointer (some ⟨bA, 0, none⟩) ∧ q = .pointer (some ⟨bB, 0, none⟩) ∧ Bx wx bA [.string s, .slice ad m' cp] 60 ∧ Bx wx bB [.string s, .slice ad' m' cp'] 60 ∧ Below wr.heap.size wr wx)
      case first =>
        go_region
        all_goals
          go_wp2
          go_meet
          first
            | exact ⟨wr.heap.size, wr.heap.size + 1, rfl, rfl, ((Bx.new wr _ _).alloc _).below (Below.refl _ _).drew, (Bx.newAt (by simp) _ _).below (Below.refl _ _).drew, (below_next (below_alloc wr _) (below_alloc _ _)).drew⟩
            | exact ⟨wr.heap.size + 1, wr.heap.size, rfl, rfl, (Bx.newAt (by simp) _ _).below (Below.refl _ _).drew, ((Bx.new wr _ _).alloc _).below (Below.refl _ _).drew, (below_next (below_alloc wr _) (below_alloc _ _)).drew⟩
      case rest =>
        obtain ⟨bA, bB, rfl, rfl, hPA, hPB, hbc⟩ := hcut
        have p0 := hPA.cell 0 rfl
        have p1 := hPA.cell 1 rfl
        have o0 := hPB.cell 0 rfl
        have o1 := hPB.cell 1 rfl
        have hbc' := hbk.trans (hbc.mono hbk.size)
        have hF5 := HF.out.below hbc (fun a c h => FldR.below h hbc)
        have hF5' := HF'.out.below hbc (fun a c h => FldR.below h hbc)
        have HF5 := hid hF5
        have HF5' := hid hF5'
        generalize wc = w5 at *
        clear q0 q1 r0 r1 x0 x1 x2 y0 y1 y2 lx ly hXk hYk HF HF' hF5 hF5' hg hg'
        have em : ((m' : Int) != (m' : Int)) = false := by simp
        have hkm : m' ≤ 9223372036854775807 := by
          rcases Nat.eq_zero_or_pos m' with h | h
          · omega
          · obtain ⟨x', hx'⟩ : ∃ x', x.2[0]? = some x' := ⟨x.2[0]'(by have := Hm.out; omega), by simp⟩
            obtain ⟨_, cap, _, he, h1, h2, _⟩ := HF5.out.at hx'
            have := Hm.out
            unfold maxLen at h2
            omega
        go_wp2_with fail
        clear p0 p1 o0 o1
        go_loopw [8] (fun i wx => ∃ j : Nat, j ≤ m' ∧ i = .int .i64 j ∧ Below w5.heap.size w5 wx) (fun i _ => m' - (intOf i).toNat)
        case atStart => exact ⟨0, Nat.zero_le _, rfl, Below.refl _ _⟩
        case round =>
          obtain ⟨j, hj, rfl, hbj⟩ := hrel
          have hPAj := hPA.below hbj
          have hPBj := hPB.below hbj
          have p1 := hPAj.cell 1 rfl
          have o1 := hPBj.cell 1 rfl
          by_cases hlj : j < m'
          · obtain ⟨f, hf⟩ : ∃ f, x.2[j]? = some f := ⟨x.2[j]'(by have := Hm.out; omega), by simp⟩
            have hGa := HF5.out.below hbj (fun a c h => FldR.below h hbj)
            have hGb := HF5'.out.below hbj (fun a c h => FldR.below h hbj)
            obtain ⟨ga, capa, ca, hva, -, -, hga, ⟨sf, kf, nf, adf, mf, cpf, rfl, hsf, htf⟩, -, hca⟩ := hGa.at hf
            obtain ⟨gb, capb, cb, hvb, -, -, hgb, ⟨sf', kf', nf', adf', mf', cpf', rfl, hsf', htf'⟩, -, hcb⟩ := hGb.at hf
            injection hva with hva hla hxa
            injection hvb with hvb hlb hxb
            clear hla hlb
            subst hva hvb hxa hxb
            have hss : sf = sf' := bl_inj (hsf.trans hsf'.symm)
            subst hss
            have q0 := hca 0 _ rfl
            have q1 := hca 1 _ rfl
            have q2 := hca 2 _ rfl
            have q3 := hca 3 _ rfl
            have q4 := hca 4 _ rfl
            have r0 := hcb 0 _ rfl
            have r1 := hcb 1 _ rfl
            have r2 := hcb 2 _ rfl
            have r3 := hcb 3 _ rfl
            have r4 := hcb 4 _ rfl
            simp only [Nat.add_zero] at q0 r0
            have hji : (0 : Int) ≤ (j : Int) ∧ (j : Int) < (m' : Int) := by omega
            have lA := hPAj.lt
            have lB := hPBj.lt
            have HTA := hid htf
            have HTB := hid htf'
            clear hca hcb hGa hGb hsf hsf' htf htf'
            generalize f.num = NF at *
            generalize f.ty = TF at *
            clear hf
            go_wp2_with fail
            go_upto_region 12 with fail
            go_cut [9, 10] from 75 to 111 (fun p q wx => ∃ bC bD, p = .pointer (some ⟨bC, 0, none⟩) ∧ q = .pointer (some ⟨bD, 0, none⟩) ∧ Bx wx bC [.string sf, .int .i64 (NF : Int), .int .i64 kf, .string nf, .slice adf mf cpf] 83 ∧ Bx wx bD [.string sf, .int .i64 (NF : Int), .int .i64 kf', .string nf', .slice adf' mf' cpf'] 83 ∧ Below wr.heap.size wr wx)
            case first =>
              go_region
              all_goals
                go_wp2
                go_meet
                first
                  | exact ⟨wr.heap.size, wr.heap.size + 1, rfl, rfl, ((Bx.new wr _ _).alloc _).below (Below.refl _ _).drew, (Bx.newAt (by simp) _ _).below (Below.refl _ _).drew, (below_next (below_alloc wr _) (below_alloc _ _)).drew⟩
                  | exact ⟨wr.heap.size + 1, wr.heap.size, rfl, rfl, (Bx.newAt (by simp) _ _).below (Below.refl _ _).drew, ((Bx.new wr _ _).alloc _).below (Below.refl _ _).drew, (below_next (below_alloc wr _) (below_alloc _ _)).drew⟩
            case rest =>
              obtain ⟨bC, bD, rfl, rfl, hPC, hPD, hbd⟩ := hcut
              have i0 := hPC.cell 0 rfl
              have i1 := hPC.cell 1 rfl
              have i2 := hPC.cell 2 rfl
              have i3 := hPC.cell 3 rfl
              have i4 := hPC.cell 4 rfl
              have l0 := hPD.cell 0 rfl
              have l1 := hPD.cell 1 rfl
              have l2 := hPD.cell 2 rfl
              have l3 := hPD.cell 3 rfl
              have l4 := hPD.cell 4 rfl
              have hst := sameType_true Ba Bb TF wc _ _ _ _ _ _ (HTA.out.below hbd) (HTB.out.below hbd)
              have hbjd := hbj.trans (hbd.mono hbj.size)
              have en : ((NF : Int) != (NF : Int)) = false := by simp
              clear hPC hPD p1 o1 q0 q1 q2 q3 q4 r0 r1 r2 r3 r4
              go_wp2_with fail
              refine hst.mono ?_
              rintro e w7 ⟨rfl, hb7⟩
              clear i0 i1 i2 i3 i4 l0 l1 l2 l3 l4 hst
              go_wp2
              go_roundw
              case rel => exact ⟨j + 1, by omega, by go_num, hbjd.trans (hb7.mono hbjd.size)⟩
              case measure => simp [intOf]; omega
          · have hbx := hbc'.trans (hbj.mono hbc'.size)
            go_wp2
            exact ⟨⟨k + 1, by omega, by go_num, hbx⟩, by simp [intOf]; omega⟩
    · have hb1 : Below w0.heap.size w0 wr := hbk
      go_wp2_with fail
      clear hbk hlt hk x0 y0
      obtain ⟨w1, hw1⟩ : ∃ w1, w1 = wr := ⟨_, rfl⟩
      rw [← hw1] at hb1 hXk hYk x1 x2 y1 y2 lx ly
      go_loopw [11] (fun i wr => ∃ k : Nat, k ≤ m2 ∧ i = .int .i64 k ∧ Below w0.heap.size w0 wr) (fun i _ => m2 - (intOf i).toNat)
      case atStart => exact ⟨0, Nat.zero_le _, rfl, by rw [← hw1]; exact hb1⟩
      case round =>
        obtain ⟨k, hk, rfl, hbk⟩ := hrel
        have hXk := hX.below hbk
        have hYk := hY.below hbk
        have x1 := hXk.cell 1 rfl
        have x2 := hXk.cell 2 rfl
        have y1 := hYk.cell 1 rfl
        have y2 := hYk.cell 2 rfl
        have lx := hXk.lt
        have ly := hYk.lt
        by_cases hlt : k < m2
        · obtain ⟨x, hx⟩ : ∃ x, (enOf ds)[k]? = some x := ⟨(enOf ds)[k]'(by have := Hm2.out; omega), by simp⟩
          have hbw := below_next hb0 hbk
          have hRa := HA2.out.below hbw (fun a c h => EnmR.ch (n := 0) (Tr := 60) (.inl rfl) (Ch.below hbw) a c h)
          have hRb := HB2.out.below hbw (fun a c h => EnmR.ch (n := 0) (Tr := 60) (.inl rfl) (Ch.below hbw) a c h)
          obtain ⟨g, cap, c, hv, -, -, hg, ⟨s, ad, m, cp, rfl, hs, hF⟩, -, hc⟩ := hRa.at hx
          obtain ⟨g', cap', c', hv', -, -, hg', ⟨s', ad', m', cp', rfl, hs', hF'⟩, -, hc'⟩ := hRb.at hx
          injection hv with ha1 hl1 hx1
          injection hv' with hb1' hl1' hx1'
          clear hl1 hl1'
          subst ha1 hb1' hx1 hx1'
          have hss : s = s' := bl_inj (hs.trans hs'.symm)
          subst hss
          have hm : m = x.2.length := by obtain ⟨_, _, hfe⟩ := hF.shape; injection hfe
          have hm' : m' = x.2.length := by obtain ⟨_, _, hfe⟩ := hF'.shape; injection hfe
          have hmm : m' = m := by rw [hm', ← hm]
          subst hmm
          have q0 := hc 0 _ rfl
          have q1 := hc 1 _ rfl
          have r0 := hc' 0 _ rfl
          have r1 := hc' 1 _ rfl
          simp only [Nat.add_zero] at q0 r0
          have hki : (0 : Int) ≤ (k : Int) ∧ (k : Int) < (m2 : Int) := by omega
          have HF := hid hF
          have HF' := hid hF'
          clear hc hc' hRa hRb hs hs' hx hF hF' hm'
          have Hm := hid hm
          clear hm
          go_wp2_with fail
          go_upto_region 18 with fail
          go_cut [12, 13] (fun p q wx => ∃ bA bB, p = .pointer (some ⟨bA, 0, none⟩) ∧ q = .pointer (some ⟨bB, 0, none⟩) ∧ Bx wx bA [.string s, .slice ad m' cp] 64 ∧ Bx wx bB [.string s, .slice ad' m' cp'] 64 ∧ Below wr.heap.size wr wx)
          case first =>
            go_region
            all_goals
              go_wp2
              go_meet
              first
                | exact ⟨wr.heap.size, wr.heap.size + 1, rfl, rfl, ((Bx.new wr _ _).alloc _).below (Below.refl _ _).drew, (Bx.newAt (by simp) _ _).below (Below.refl _ _).drew, (below_next (below_alloc wr _) (below_alloc _ _)).drew⟩
                | exact ⟨wr.heap.size + 1, wr.heap.size, rfl, rfl, (Bx.newAt (by simp) _ _).below (Below.refl _ _).drew, ((Bx.new wr _ _).alloc _).below (Below.refl _ _).drew, (below_next (below_alloc wr _) (below_alloc _ _)).drew⟩
          case rest =>
            obtain ⟨bA, bB, rfl, rfl, hPA, hPB, hbc⟩ := hcut
            have p0 := hPA.cell 0 rfl
            have p1 := hPA.cell 1 rfl
            have o0 := hPB.cell 0 rfl
            have o1 := hPB.cell 1 rfl
            have hbc' := hbk.trans (hbc.mono hbk.size)
            have hF5 := HF.out.below hbc (fun a c h => h)
            have hF5' := HF'.out.below hbc (fun a c h => h)
            have HF5 := hid hF5
            have HF5' := hid hF5'
            generalize wc = w5 at *
            clear q0 q1 r0 r1 x1 x2 y1 y2 lx ly hXk hYk HF HF' hF5 hF5' hg hg'
            have em : ((m' : Int) != (m' : Int)) = false := by simp
            have hkm : m' ≤ 9223372036854775807 := by
              rcases Nat.eq_zero_or_pos m' with h | h
              · omega
              · obtain ⟨x', hx'⟩ : ∃ x', x.2[0]? = some x' := ⟨x.2[0]'(by have := Hm.out; omega), by simp⟩
                obtain ⟨_, cap, _, he, h1, h2, _⟩ := HF5.out.at hx'
                have := Hm.out
                unfold maxLen at h2
                omega
            go_wp2_with fail
            clear p0 p1 o0 o1
            go_loopw [14] (fun i wx => ∃ j : Nat, j ≤ m' ∧ i = .int .i64 j ∧ Below w5.heap.size w5 wx) (fun i _ => m' - (intOf i).toNat)
            case atStart => exact ⟨0, Nat.zero_le _, rfl, Below.refl _ _⟩
            case round =>
              obtain ⟨j, hj, rfl, hbj⟩ := hrel
              have hPAj := hPA.below hbj
              have hPBj := hPB.below hbj
              have p1 := hPAj.cell 1 rfl
              have o1 := hPBj.cell 1 rfl
              by_cases hlj : j < m'
              · obtain ⟨f, hf⟩ : ∃ f, x.2[j]? = some f := ⟨x.2[j]'(by have := Hm.out; omega), by simp⟩
                have hGa := HF5.out.below hbj (fun a c h => h)
                have hGb := HF5'.out.below hbj (fun a c h => h)
                obtain ⟨ga, capa, ca, hva, -, -, hga, ⟨sf, rfl, hsf⟩, -, hca⟩ := hGa.at hf
                obtain ⟨gb, capb, cb, hvb, -, -, hgb, ⟨sf', rfl, hsf'⟩, -, hcb⟩ := hGb.at hf
                injection hva with hva hla hxa
                injection hvb with hvb hlb hxb
                clear hla hlb
                subst hva hvb hxa hxb
                have hss : sf = sf' := bl_inj (hsf.trans hsf'.symm)
                subst hss
                have q0 := hca 0 _ rfl
                have q1 := hca 1 _ rfl
                have r0 := hcb 0 _ rfl
                have r1 := hcb 1 _ rfl
                simp only [Nat.add_zero] at q0 r0
                have hji : (0 : Int) ≤ (j : Int) ∧ (j : Int) < (m' : Int) := by omega
                clear hca hcb hGa hGb hsf hsf'
                generalize f.num = NF at *
                clear hf
                have en : ((NF : Int) == (NF : Int)) = true := by simp
                go_wp2_with fail
                go_quiet (fail)
                go_wp2
                exact ⟨⟨j + 1, by omega, by go_num, below_drewN hbj nq⟩, by simp [intOf]; omega⟩
              · have hbx := hbc'.trans (hbj.mono hbc'.size)
                go_wp2
                exact ⟨⟨k + 1, by omega, by go_num, hbx⟩, by simp [intOf]; omega⟩
        · have hb1 : Below w0.heap.size w0 wr := hbk
          go_wp2_with fail
          clear hbk hlt hk x1 y1
          obtain ⟨w1, hw1⟩ : ∃ w1, w1 = wr := ⟨_, rfl⟩
          rw [← hw1] at hb1 hXk hYk x2 y2 lx ly
          go_loopw [15] (fun i wr => ∃ k : Nat, k ≤ m3 ∧ i = .int .i64 k ∧ Below w0.heap.size w0 wr) (fun i _ => m3 - (intOf i).toNat)
          case atStart => exact ⟨0, Nat.zero_le _, rfl, by rw [← hw1]; exact hb1⟩
          case round =>
            obtain ⟨k, hk, rfl, hbk⟩ := hrel
            have hXk := hX.below hbk
            have hYk := hY.below hbk
            have x2 := hXk.cell 2 rfl
            have y2 := hYk.cell 2 rfl
            have lx := hXk.lt
            have ly := hYk.lt
            by_cases hlt : k < m3
            · obtain ⟨x, hx⟩ : ∃ x, (svOf ds)[k]? = some x := ⟨(svOf ds)[k]'(by have := Hm3.out; omega), by simp⟩
              have hbw := below_next hb0 hbk
              have hRa := HA3.out.below hbw (fun a c h => SvcR.ch (n := 0) (Tr := 60) (.inl rfl) (Ch.below hbw) a c h)
              have hRb := HB3.out.below hbw (fun a c h => SvcR.ch (n := 0) (Tr := 60) (.inl rfl) (Ch.below hbw) a c h)
              obtain ⟨g, cap, c, hv, -, -, hg, ⟨s, ad, m, cp, rfl, hs, hF⟩, -, hc⟩ := hRa.at hx
              obtain ⟨g', cap', c', hv', -, -, hg', ⟨s', ad', m', cp', rfl, hs', hF'⟩, -, hc'⟩ := hRb.at hx
              injection hv with ha1 hl1 hx1
              injection hv' with hb1' hl1' hx1'
              clear hl1 hl1'
              subst ha1 hb1' hx1 hx1'
              have hss : s = s' := bl_inj (hs.trans hs'.symm)
              subst hss
              have hm : m = x.2.length := by obtain ⟨_, _, hfe⟩ := hF.shape; injection hfe
              have hm' : m' = x.2.length := by obtain ⟨_, _, hfe⟩ := hF'.shape; injection hfe
              have hmm : m' = m := by rw [hm', ← hm]
              subst hmm
              have q0 := hc 0 _ rfl
              have q1 := hc 1 _ rfl
              have r0 := hc' 0 _ rfl
              have r1 := hc' 1 _ rfl
              simp only [Nat.add_zero] at q0 r0
              have hki : (0 : Int) ≤ (k : Int) ∧ (k : Int) < (m3 : Int) := by omega
              have HF := hid hF
              have HF' := hid hF'
              clear hc hc' hRa hRb hs hs' hx hF hF' hm'
              have Hm := hid hm
              clear hm
              go_wp2_with fail
              go_upto_region 29 with fail
              go_cut [16, 17] (fun p q wx => ∃ bA bB, p = .pointer (some ⟨bA, 0, none⟩) ∧ q = .pointer (some ⟨bB, 0, none⟩) ∧ Bx wx bA [.string s, .slice ad m' cp] 67 ∧ Bx wx bB [.string s, .slice ad' m' cp'] 67 ∧ Below wr.heap.size wr wx)
              case first =>
                go_region
                all_goals
                  go_wp2
                  go_meet
                  first
                    | exact ⟨wr.heap.size, wr.heap.size + 1, rfl, rfl, ((Bx.new wr _ _).alloc _).below (Below.refl _ _).drew, (Bx.newAt (by simp) _ _).below (Below.refl _ _).drew, (below_next (below_alloc wr _) (below_alloc _ _)).drew⟩
                    | exact ⟨wr.heap.size + 1, wr.heap.size, rfl, rfl, (Bx.newAt (by simp) _ _).below (Below.refl _ _).drew, ((Bx.new wr _ _).alloc _).below (Below.refl _ _).drew, (below_next (below_alloc wr _) (below_alloc _ _)).drew⟩
              case rest =>
                obtain ⟨bA, bB, rfl, rfl, hPA, hPB, hbc⟩ := hcut
                have p0 := hPA.cell 0 rfl
                have p1 := hPA.cell 1 rfl
                have o0 := hPB.cell 0 rfl
                have o1 := hPB.cell 1 rfl
                have hbc' := hbk.trans (hbc.mono hbk.size)
                have hF5 := HF.out.below hbc (fun a c h => MthR.below h hbc)
                have hF5' := HF'.out.below hbc (fun a c h => MthR.below h hbc)
                have HF5 := hid hF5
                have HF5' := hid hF5'
                generalize wc = w5 at *
                clear q0 q1 r0 r1 x2 y2 lx ly hXk hYk HF HF' hF5 hF5' hg hg'
                have em : ((m' : Int) != (m' : Int)) = false := by simp
                have hkm : m' ≤ 9223372036854775807 := by
                  rcases Nat.eq_zero_or_pos m' with h | h
                  · omega
                  · obtain ⟨x', hx'⟩ : ∃ x', x.2[0]? = some x' := ⟨x.2[0]'(by have := Hm.out; omega), by simp⟩
                    obtain ⟨_, cap, _, he, h1, h2, _⟩ := HF5.out.at hx'
                    have := Hm.out
                    unfold maxLen at h2
                    omega
                go_wp2_with fail
                clear p0 p1 o0 o1
                go_loopw [18] (fun i wx => ∃ j : Nat, j ≤ m' ∧ i = .int .i64 j ∧ Below w5.heap.size w5 wx) (fun i _ => m' - (intOf i).toNat)
                case atStart => exact ⟨0, Nat.zero_le _, rfl, Below.refl _ _⟩
                case round =>
                  obtain ⟨j, hj, rfl, hbj⟩ := hrel
                  have hPAj := hPA.below hbj
                  have hPBj := hPB.below hbj
                  have p1 := hPAj.cell 1 rfl
                  have o1 := hPBj.cell 1 rfl
                  by_cases hlj : j < m'
                  · obtain ⟨f, hf⟩ : ∃ f, x.2[j]? = some f := ⟨x.2[j]'(by have := Hm.out; omega), by simp⟩
                    have hGa := HF5.out.below hbj (fun a c h => MthR.below h hbj)
                    have hGb := HF5'.out.below hbj (fun a c h => MthR.below h hbj)
                    obtain ⟨ga, capa, ca, hva, -, -, hga, hMa, -, hca⟩ := hGa.at hf
                    obtain ⟨gb, capb, cb, hvb, -, -, hgb, hMb, -, hcb⟩ := hGb.at hf
                    have hsm := fun W (hb : Below wr.heap.size wr W) => sameMethod_true Ba Bb f W ca cb (hMa.below hb) (hMb.below hb)
                    obtain ⟨sf, k1, n1, u1, v1, w1', k2, n2, u2, v2, w2', rfl, hsf, -, -⟩ := hMa
                    obtain ⟨sf', k3, n3, u3, v3, w3', k4, n4, u4', v4, w4', rfl, hsf', -, -⟩ := hMb
                    injection hva with hva hla hxa
                    injection hvb with hvb hlb hxb
                    have hxa := hxa.symm
                    have hxb := hxb.symm
                    subst hva hvb hxa hxb
                    have hss : sf = sf' := bl_inj (hsf.trans hsf'.symm)
                    subst hss
                    clear hla hlb
                    have q0 := hca 0 _ rfl
                    have r0 := hcb 0 _ rfl
                    have q1 := hca 1 _ rfl
                    have r1 := hcb 1 _ rfl
                    have q2 := hca 2 _ rfl
                    have r2 := hcb 2 _ rfl
                    have q3 := hca 3 _ rfl
                    have r3 := hcb 3 _ rfl
                    have q4 := hca 4 _ rfl
                    have r4 := hcb 4 _ rfl
                    have q5 := hca 5 _ rfl
                    have r5 := hcb 5 _ rfl
                    have q6 := hca 6 _ rfl
                    have r6 := hcb 6 _ rfl
                    have q7 := hca 7 _ rfl
                    have r7 := hcb 7 _ rfl
                    have hji : (0 : Int) ≤ (j : Int) ∧ (j : Int) < (m' : Int) := by omega
                    clear hca hcb hGa hGb hsf hsf'
                    generalize f.once = O at *
                    clear hf
                    simp only [Nat.add_zero] at q0 r0
                    go_wp2_with fail
                    obtain ⟨val, hval⟩ : ∃ val : Nat → Value, val = fun jx => match jx with | 0 => .pointer (some ⟨bA, 1, none⟩) | 1 => .slice (some ⟨ga, 0, none⟩) m' capa | 2 => .int .i64 (j : Int) | 3 => .pointer (some ⟨ga, 0 + j * 8, none⟩) | 4 => .agg #[.string sf, .bool O, .int .i64 k1, .string n1, .slice u1 v1 w1', .int .i64 k2, .string n2, .slice u2 v2 w2'] | 5 => .pointer (some ⟨bB, 1, none⟩) | 6 => .slice (some ⟨gb, 0, none⟩) m' capb | 7 => .int .i64 (j : Int) | 8 => .pointer (some ⟨gb, 0 + j * 8, none⟩) | 9 => .agg #[.string sf, .bool O, .int .i64 k3, .string n3, .slice u3 v3 w3', .int .i64 k4, .string n4, .slice u4' v4 w4'] | 10 => .bool true | 11 => .bool false | _ => undef := ⟨_, rfl⟩
                    refine wp_region_fixed (R := fun W => Below wr.heap.size wr W) val (by kernel_rfl) (by kernel_rfl) (by kernel_rfl) (Below.refl _ _).drew ?step ?done
                    case step =>
                        subst hval
                        intro ix o ho A W hsz hdf hfr hdep hR
                        rcases ix with _ | _ | _ | _ | _ | _ | _ | _ | _ | _ | _ | _ | ix
                        · injection ho with ho
                          subst ho
                          have e16 : A.eval (.tmp 16) = .pointer (some ⟨bA, 0, none⟩) := (hfr 16 (noDst_spec (by kernel_rfl))).trans rfl
                          exact gOp_fld (v := .pointer (some ⟨bA, 1, none⟩)) rfl (wanted_plain rfl) rfl e16 (by go_simp) ⟨_, rfl, rfl, Below.refl _ _, hR⟩
                        · injection ho with ho
                          subst ho
                          have e199 : A.eval (.tmp 199) = .pointer (some ⟨bA, 1, none⟩) := hdep ⟨0, .data⟩ (by simp) rfl _ _ rfl rfl
                          have p1 := (hR.cell hPAj.lt).trans p1
                          exact gOp_ld (v := .slice (some ⟨ga, 0, none⟩) m' capa) rfl (wanted_plain rfl) rfl e199 (by go_simp) ⟨_, rfl, rfl, Below.refl _ _, hR⟩
                        · injection ho with ho
                          subst ho
                          have e18 : A.eval (.tmp 18) = .int .i64 (j : Int) := (hfr 18 (noDst_spec (by kernel_rfl))).trans rfl
                          exact gOp_mv rfl (wanted_plain rfl) (.inl rfl) e18 ⟨_, rfl, rfl, Below.refl _ _, hR⟩
                        · injection ho with ho
                          subst ho
                          have e200 : A.eval (.tmp 200) = .slice (some ⟨ga, 0, none⟩) m' capa := hdep ⟨1, .data⟩ (by simp) rfl _ _ rfl rfl
                          have e201 : A.eval (.tmp 201) = .int .i64 (j : Int) := hdep ⟨2, .data⟩ (by simp) rfl _ _ rfl rfl
                          have hji := hji
                          exact gOp_ix (v := .pointer (some ⟨ga, 0 + j * 8, none⟩)) rfl (wanted_plain rfl) rfl e200 e201 (by go_simp) ⟨_, rfl, rfl, Below.refl _ _, hR⟩
                        · injection ho with ho
                          subst ho
                          have e202 : A.eval (.tmp 202) = .pointer (some ⟨ga, 0 + j * 8, none⟩) := hdep ⟨3, .data⟩ (by simp) rfl _ _ rfl rfl
                          have q0 := (hR.cell hga).trans q0
                          have q1 := (hR.cell hga).trans q1
                          have q2 := (hR.cell hga).trans q2
                          have q3 := (hR.cell hga).trans q3
                          have q4 := (hR.cell hga).trans q4
                          have q5 := (hR.cell hga).trans q5
                          have q6 := (hR.cell hga).trans q6
                          have q7 := (hR.cell hga).trans q7
                          exact gOp_ld (v := .agg #[.string sf, .bool O, .int .i64 k1, .string n1, .slice u1 v1 w1', .int .i64 k2, .string n2, .slice u2 v2 w2']) rfl (wanted_plain rfl) rfl e202 (by go_simp) ⟨_, rfl, rfl, Below.refl _ _, hR⟩
                        · injection ho with ho
                          subst ho
                          have e17 : A.eval (.tmp 17) = .pointer (some ⟨bB, 0, none⟩) := (hfr 17 (noDst_spec (by kernel_rfl))).trans rfl
                          exact gOp_fld (v := .pointer (some ⟨bB, 1, none⟩)) rfl (wanted_plain rfl) rfl e17 (by go_simp) ⟨_, rfl, rfl, Below.refl _ _, hR⟩
                        · injection ho with ho
                          subst ho
                          have e204 : A.eval (.tmp 204) = .pointer (some ⟨bB, 1, none⟩) := hdep ⟨5, .data⟩ (by simp) rfl _ _ rfl rfl
                          have o1 := (hR.cell hPBj.lt).trans o1
                          exact gOp_ld (v := .slice (some ⟨gb, 0, none⟩) m' capb) rfl (wanted_plain rfl) rfl e204 (by go_simp) ⟨_, rfl, rfl, Below.refl _ _, hR⟩
                        · injection ho with ho
                          subst ho
                          have e18 : A.eval (.tmp 18) = .int .i64 (j : Int) := (hfr 18 (noDst_spec (by kernel_rfl))).trans rfl
                          exact gOp_mv rfl (wanted_plain rfl) (.inl rfl) e18 ⟨_, rfl, rfl, Below.refl _ _, hR⟩
                        · injection ho with ho
                          subst ho
                          have e205 : A.eval (.tmp 205) = .slice (some ⟨gb, 0, none⟩) m' capb := hdep ⟨6, .data⟩ (by simp) rfl _ _ rfl rfl
                          have e206 : A.eval (.tmp 206) = .int .i64 (j : Int) := hdep ⟨7, .data⟩ (by simp) rfl _ _ rfl rfl
                          have hji := hji
                          exact gOp_ix (v := .pointer (some ⟨gb, 0 + j * 8, none⟩)) rfl (wanted_plain rfl) rfl e205 e206 (by go_simp) ⟨_, rfl, rfl, Below.refl _ _, hR⟩
                        · injection ho with ho
                          subst ho
                          have e207 : A.eval (.tmp 207) = .pointer (some ⟨gb, 0 + j * 8, none⟩) := hdep ⟨8, .data⟩ (by simp) rfl _ _ rfl rfl
                          have r0 := (hR.cell hgb).trans r0
                          have r1 := (hR.cell hgb).trans r1
                          have r2 := (hR.cell hgb).trans r2
                          have r3 := (hR.cell hgb).trans r3
                          have r4 := (hR.cell hgb).trans r4
                          have r5 := (hR.cell hgb).trans r5
                          have r6 := (hR.cell hgb).trans r6
                          have r7 := (hR.cell hgb).trans r7
                          exact gOp_ld (v := .agg #[.string sf, .bool O, .int .i64 k3, .string n3, .slice u3 v3 w3', .int .i64 k4, .string n4, .slice u4' v4 w4']) rfl (wanted_plain rfl) rfl e207 (by go_simp) ⟨_, rfl, rfl, Below.refl _ _, hR⟩
                        · injection ho with ho
                          subst ho
                          have e203 : A.eval (.tmp 203) = .agg #[.string sf, .bool O, .int .i64 k1, .string n1, .slice u1 v1 w1', .int .i64 k2, .string n2, .slice u2 v2 w2'] := hdep ⟨4, .data⟩ (by simp) rfl _ _ rfl rfl
                          have e208 : A.eval (.tmp 208) = .agg #[.string sf, .bool O, .int .i64 k3, .string n3, .slice u3 v3 w3', .int .i64 k4, .string n4, .slice u4' v4 w4'] := hdep ⟨9, .data⟩ (by simp) rfl _ _ rfl rfl
                          refine gOp_enter rfl (wanted_plain rfl) 19 #[.agg #[.string sf, .bool O, .int .i64 k1, .string n1, .slice u1 v1 w1', .int .i64 k2, .string n2, .slice u2 v2 w2'], .agg #[.string sf, .bool O, .int .i64 k3, .string n3, .slice u3 v3 w3', .int .i64 k4, .string n4, .slice u4' v4 w4']] (run_call _ (fun _ _ => rfl) _ _ rfl _ (by simp [e203, e208])) ?_
                          refine (hsm W hR).mono ?_
                          rintro e w' ⟨rfl, hb'⟩
                          exact ⟨_, rfl, _, rfl, rfl, hb', hR.trans (hb'.mono hR.size)⟩
                        · injection ho with ho
                          subst ho
                          have e209 : A.eval (.tmp 209) = .bool true := hdep ⟨10, .data⟩ (by simp) rfl _ _ rfl rfl
                          exact gOp_not rfl (wanted_plain rfl) rfl e209 ⟨_, rfl, rfl, Below.refl _ _, hR⟩
                        · simp at ho
                    case done =>
                        intro W hR
                        subst hval
                        simp only [putL, Act.put, List.setIfInBounds_toArray, List.set_cons_zero, List.set_cons_succ]
                        go_wp2
                        go_roundw
                        case rel => exact ⟨j + 1, by omega, by go_num, hbj.trans (hR.mono hbj.size)⟩
                        case measure => simp [intOf]; omega
                  · have hbx := hbc'.trans (hbj.mono hbc'.size)
                    go_wp2
                    exact ⟨⟨k + 1, by omega, by go_num, hbx⟩, by simp [intOf]; omega⟩
            · go_wp2
              go_ret
              exact ⟨rfl, below_next hb0 hbk⟩
end Go.Proofs.YtdbgncdnffbhkaaGreatDoor

namespace Go.Proofs.YtdbgncdnffbhkaaGreatDoor
open Go.RowKit

theorem ly_nil (B n : Nat) (w : World) : LyS B n [] w (.slice none 0 0) := by
  cases n with
  | zero => exact ⟨_, _, _, rfl⟩
  | succ n => exact ⟨none, 0, rfl, by simp, fun i g h => by simp at h⟩

theorem TyC.ly {B : Nat} {w : World} (t : Pl.Ty) : ∀ (n : Nat) (a b c : Value), Pl.okTy t → TyC B t w a b c → Ly w.heap.size n (Pl.emb t) w a b c := by
  induction t with
  | plain k =>
    rintro n a b c hok ⟨rfl, rfl, rfl⟩
    exact ⟨rfl, ⟨_, rfl, rfl, by unfold maxLen; decide⟩, ly_nil _ _ _⟩
  | named x =>
    rintro n a b c hok ⟨rfl, ⟨s, rfl, hs⟩, rfl⟩
    refine ⟨rfl, ⟨s, rfl, hs, ?_⟩, ly_nil _ _ _⟩
    have := Pl.name_len hok
    rw [← hs, bl_length] at this
    unfold maxLen
    omega
  | list t ih =>
    rintro n a b c hok ⟨rfl, rfl, g, x, y, z, rfl, hB, hg, hc⟩
    refine ⟨rfl, ⟨_, rfl, rfl, by unfold maxLen; decide⟩, ?_⟩
    cases n with
    | zero => exact ⟨_, _, _, rfl⟩
    | succ n => exact LyS.one (ih n x y z hok hc) hg.lt hg
  | opt t ih =>
    rintro n a b c hok ⟨rfl, rfl, g, x, y, z, rfl, hB, hg, hc⟩
    refine ⟨rfl, ⟨_, rfl, rfl, by unfold maxLen; decide⟩, ?_⟩
    cases n with
    | zero => exact ⟨_, _, _, rfl⟩
    | succ n => exact LyS.one (ih n x y z hok hc) hg.lt hg

theorem Rows.sl {α β : Type} {T : TypeId} {m : Nat} {R : α → List Value → World → Prop} {R' : β → List Value → World → Prop} {B : Nat} {w : World} {v : Value} {xs : List α} (f : α → β) (h : Rows T m R B w v xs) (hl : xs.length ≤ 1000) (hR : ∀ a ∈ xs, ∀ c, R a c w → R' (f a) c w) : SlR m R' w.heap.size w v (xs.map f) := by
  obtain ⟨ad, cp, hv⟩ := h.shape
  refine ⟨ad, cp, by rw [List.length_map]; exact hv, by rw [List.length_map]; omega, fun i x hx => ?_⟩
  rw [List.getElem?_map] at hx
  obtain ⟨a, ha, rfl⟩ := Option.map_eq_some_iff.1 hx
  obtain ⟨g, cap, c, h1, _, _, h4, h5, _, h7⟩ := h.at ha
  rw [h1] at hv
  cases hv
  exact ⟨g, 0, c, rfl, h4, fun j u hu => by rw [Nat.zero_add]; exact h7 j u hu, hR a (List.mem_of_getElem? ha) c h5⟩

theorem small_name {s : ByteArray} {x : List Nat} (h : bl s = x) (hx : Pl.okName x) : s.size ≤ maxLen := by
  have := Pl.name_len hx
  rw [← h, bl_length] at this
  unfold maxLen
  omega

/-- A schema that was told lies as one of any make. -/
theorem SchV.sch {B : Nat} {ds : List Pl.Decl} {s1 s2 s3 : Value} {w : World} (h : SchV B ds s1 s2 s3 w) (n : Nat) (hok : ∀ d ∈ Pl.inOrder (stOf ds) (enOf ds) (svOf ds), Pl.okDecl d) (hl : (stOf ds).length + (enOf ds).length + (svOf ds).length ≤ 64) :
    SchL w.heap.size n ((stOf ds).map Pl.embSt) ((enOf ds).map Pl.embEn) ((svOf ds).map Pl.embSv) s1 s2 s3 w := by
  obtain ⟨h1, h2, h3⟩ := h
  refine ⟨h1.sl _ (by omega) ?_, h2.sl _ (by omega) ?_, h3.sl _ (by omega) ?_⟩
  · rintro a ha c ⟨s, ad, m, cp, rfl, hs, hr⟩
    have hd := hok (Pl.mkSt a) (List.mem_append_left _ (List.mem_append_left _ (List.mem_map_of_mem ha)))
    refine ⟨s, _, rfl, hs, small_name hs hd.1, hr.sl _ (by have := hd.2.1; omega) ?_⟩
    rintro f hf c ⟨s, k, sn, ad, m, cp, rfl, hs, ht⟩
    have hf2 := hd.2.2 f hf
    exact ⟨s, _, _, _, rfl, hs, small_name hs hf2.2.1, TyC.ly f.ty n _ _ _ hf2.2.2.1 ht⟩
  · rintro a ha c ⟨s, ad, m, cp, rfl, hs, hr⟩
    have hd := hok (Pl.mkEn a) (List.mem_append_left _ (List.mem_append_right _ (List.mem_map_of_mem ha)))
    refine ⟨s, _, rfl, hs, small_name hs hd.1, hr.sl _ (by have := hd.2.1; omega) ?_⟩
    rintro f hf c ⟨s, rfl, hs⟩
    have hf2 := hd.2.2 f hf
    exact ⟨s, rfl, hs, small_name hs hf2.2⟩
  · rintro a ha c ⟨s, ad, m, cp, rfl, hs, hr⟩
    have hd := hok (Pl.mkSv a) (List.mem_append_right _ (List.mem_map_of_mem ha))
    refine ⟨s, _, rfl, hs, small_name hs hd.1, hr.sl _ (by have := hd.2.1; omega) ?_⟩
    rintro f hf c ⟨s, k, sn, ad, m, cp, k', sn', ad', m', cp', rfl, hs, ht, ht'⟩
    have hf2 := hd.2.2 f hf
    exact ⟨s, _, _, _, _, _, _, rfl, hs, small_name hs hf2.1, TyC.ly f.arg n _ _ _ hf2.2.1 ht, TyC.ly f.res n _ _ _ hf2.2.2.2.1 ht'⟩

/-- A text that declares something. -/
def TOk (s : ByteArray) (ds : List Pl.Decl) : Prop := (tokA s).2.2 = 0 ∧ Pl.declsP 64 ((tokA s).1.map Pl.kt) = .ok ds []
def TBad (s : ByteArray) (er : Int) : Prop := (tokA s).2.2 = er ∨ ∃ r e, (tokA s).2.2 = 0 ∧ Pl.declsP 64 ((tokA s).1.map Pl.kt) = .bad r e ∧ er = (e : Int)

theorem cons_line {t : Pl.Tok} {x : List Pl.Tok × Nat × Int} {ln : Nat} (h : x.2.2 ≠ 0 → ln ≤ x.2.1) : (Pl.tokCons t x).2.2 ≠ 0 → ln ≤ (Pl.tokCons t x).2.1 := by
  unfold Pl.tokCons
  split
  · intro h; exact absurd rfl h
  · exact h
theorem tok_line (f : Nat) : ∀ (l : List Nat) (ln : Nat), (Pl.tokS f l ln).2.2 ≠ 0 → ln ≤ (Pl.tokS f l ln).2.1 := by
  induction f with
  | zero => intro l ln h; exact absurd rfl h
  | succ f ih =>
    intro l ln
    cases l with
    | nil => intro h; exact absurd rfl h
    | cons c r =>
      simp only [Pl.tokS]
      split
      · intro h; exact Nat.le_trans (Nat.le_succ _) (ih r (ln + 1) h)
      · split
        · exact ih r ln
        · split
          · exact ih _ ln
          · split
            · exact cons_line (ih r ln)
            · split
              · split
                · exact cons_line (ih _ ln)
                · intro _; exact Nat.le_refl _
              · intro _; exact Nat.le_refl _

theorem lines_pos (s : ByteArray) (tl : List T3) (h : tl.map asTok = (tokA s).1) (i : Nat) : 0 < lineAt tl i := by
  unfold lineAt
  cases hg : tl[min i (tl.length - 1)]? with
  | none => simp
  | some t =>
    have hm : asTok t ∈ (tokA s).1 := by rw [← h]; exact List.mem_map_of_mem (List.mem_of_getElem? hg)
    unfold tokA at hm
    split at hm
    · cases hm
    · have := ((Pl.tok_within _ _ _).1 _ hm).1
      exact this

theorem text_out (s : ByteArray) (w : World) : Calls Tryz.prog 26 #[.string s] w fun e w' =>
    (∃ (ln : Nat) (er : Int), er ≠ 0 ∧ TBad s er ∧ (0 < ln ∨ er = 5) ∧ e = .returned (.tuple #[.agg #[.slice none 0 0, .slice none 0 0, .slice none 0 0], .int .i64 (ln : Int), .int .i64 er]) ∧ Below w.heap.size w w') ∨
    (∃ ds s1 s2 s3, TOk s ds ∧ e = .returned (.tuple #[.agg #[s1, s2, s3], .int .i64 0, .int .i64 0]) ∧ SchV w.heap.size ds s1 s2 s3 w' ∧ Below w.heap.size w w') := by
  refine (text_any s w).mono ?_
  rintro e w' (⟨h1, rfl, hb⟩ | ⟨h1, tl, hm, hp⟩)
  · refine .inl ⟨_, _, h1, .inl rfl, ?_, rfl, hb⟩
    unfold tokA at h1 ⊢
    split
    · exact .inr rfl
    · rename_i hs
      rw [if_neg hs] at h1
      exact .inl (tok_line _ _ _ h1)
  · cases hR : Pl.declsP 64 ((tokA s).1.map Pl.kt) with
    | ok ds r =>
      rw [hR] at hp
      obtain ⟨s1, s2, s3, rfl, hV, hb⟩ := hp
      have hr := Pl.decls_end 64 _ _ _ hR
      subst hr
      exact .inr ⟨ds, s1, s2, s3, ⟨h1, hR⟩, rfl, hV, hb⟩
    | bad r er =>
      rw [hR] at hp
      obtain ⟨i', _, _, rfl, hb⟩ := hp
      have hne := NZ.decls 64 _ _ _ hR
      exact .inl ⟨_, _, by simpa using hne, .inr ⟨r, er, h1, hR, rfl⟩, .inl (lines_pos s tl hm i'), rfl, hb⟩

theorem fm_none {α β : Type} (l : List α) : List.filterMap (fun _ => (none : Option β)) l = [] := List.filterMap_eq_nil_iff.2 (fun _ _ => rfl)
theorem stOf_in (a : List (List Nat × List Pl.Fld)) (b : List (List Nat × List Pl.Cas)) (c : List (List Nat × List Pl.Mth)) : stOf (Pl.inOrder a b c) = a ∧ enOf (Pl.inOrder a b c) = b ∧ svOf (Pl.inOrder a b c) = c := by
  unfold stOf enOf svOf Pl.inOrder
  refine ⟨?_, ?_, ?_⟩
  · simp only [List.filterMap_append, List.filterMap_map]
    show List.filterMap some a ++ List.filterMap (fun _ => none) b ++ List.filterMap (fun _ => none) c = a
    rw [fm_none, fm_none]
    simp
  · simp only [List.filterMap_append, List.filterMap_map]
    show List.filterMap (fun _ => none) a ++ List.filterMap some b ++ List.filterMap (fun _ => none) c = b
    rw [fm_none, fm_none]
    simp
  · simp only [List.filterMap_append, List.filterMap_map]
    show List.filterMap (fun _ => none) a ++ List.filterMap (fun _ => none) b ++ List.filterMap some c = c
    rw [fm_none, fm_none]
    simp
theorem of_mem (ds : List Pl.Decl) : ∀ d ∈ Pl.inOrder (stOf ds) (enOf ds) (svOf ds), d ∈ ds := by
  intro d hd
  simp only [Pl.inOrder, List.mem_append, List.mem_map] at hd
  rcases hd with (⟨y, hy, rfl⟩ | ⟨y, hy, rfl⟩) | ⟨y, hy, rfl⟩
  · obtain ⟨x, hx, he⟩ := List.mem_filterMap.1 hy
    cases x <;> simp at he
    subst he
    exact hx
  · obtain ⟨x, hx, he⟩ := List.mem_filterMap.1 hy
    cases x <;> simp at he
    subst he
    exact hx
  · obtain ⟨x, hx, he⟩ := List.mem_filterMap.1 hy
    cases x <;> simp at he
    subst he
    exact hx
theorem of_len (ds : List Pl.Decl) : (stOf ds).length + (enOf ds).length + (svOf ds).length = ds.length := by
  induction ds with
  | nil => rfl
  | cons d ds ih =>
    unfold stOf enOf svOf at *
    cases d <;> simp only [List.filterMap_cons, List.length_cons] <;> omega

theorem tok_okKt (s : ByteArray) : ∀ x ∈ (tokA s).1.map Pl.kt, Pl.okKt x := by
  intro x hx
  obtain ⟨t, ht, rfl⟩ := List.mem_map.1 hx
  unfold tokA at ht
  split at ht
  · cases ht
  · have h := Pl.tok_ok _ _ _ t ht
    exact h

/-- What a text declares may be. -/
theorem TOk.good {s : ByteArray} {ds : List Pl.Decl} (h : TOk s ds) : (∀ d ∈ Pl.inOrder (stOf ds) (enOf ds) (svOf ds), Pl.okDecl d) ∧ (stOf ds).length + (enOf ds).length + (svOf ds).length ≤ 64 := by
  obtain ⟨⟨h1, h2⟩, _⟩ := Pl.Gd.decls 64 _ _ _ (tok_okKt s) h.2
  exact ⟨fun d hd => h2 d (of_mem ds d hd), by rw [of_len]; exact h1⟩

/-- The text of declarations declares them. -/
theorem back_out (t : ByteArray) (ds : List Pl.Decl) (hok : ∀ d ∈ ds, Pl.okDecl d) (hl : ds.length ≤ 64) (ht : bl t = (ds.map Pl.declX).flatten) (hs : t.size ≤ 65536) : TOk t ds := by
  have hA : tokA t = Pl.tok (bl t) 1 := by unfold tokA; rw [if_neg (by omega)]
  obtain ⟨h1, h2⟩ := Pl.text_toks ds hok
  rw [← ht, ← hA] at h1 h2
  refine ⟨h1, ?_⟩
  rw [h2]
  exact Pl.decls_back ds 64 hl hok
theorem TOk.one {t : ByteArray} {a b : List Pl.Decl} (h : TOk t a) (k : TOk t b) : a = b := by
  have := h.2.symm.trans k.2
  cases this
  rfl
theorem TOk.notBad {t : ByteArray} {a : List Pl.Decl} (h : TOk t a) {er : Int} (k : TBad t er) : er = 0 := by
  rcases k with k | ⟨r, e, _, k, _⟩
  · rw [← k]; exact h.1
  · rw [h.2] at k; cases k
end Go.Proofs.YtdbgncdnffbhkaaGreatDoor

namespace Go.Proofs.YtdbgncdnffbhkaaGreatDoor
open Go.RowKit
set_option maxRecDepth 20000

/-- A type as it lies, anywhere. -/
def TyG (w : World) : Pl.Ty → Value → Value → Value → Prop
  | .plain k, a, b, c => a = .int .i64 (k : Int) ∧ (∃ s, b = .string s ∧ bl s = []) ∧ ∃ ad cp, c = .slice ad 0 cp
  | .named x, a, b, c => a = .int .i64 8 ∧ (∃ s, b = .string s ∧ bl s = x) ∧ ∃ ad cp, c = .slice ad 0 cp
  | .list t, a, b, c => a = .int .i64 6 ∧ (∃ s, b = .string s ∧ bl s = []) ∧ ∃ g off cp x y z, c = .slice (some ⟨g, off, none⟩) 1 cp ∧ g < w.heap.size ∧ w.cell? ⟨g, off, none⟩ = some x ∧ w.cell? ⟨g, off + 1, none⟩ = some y ∧ w.cell? ⟨g, off + 2, none⟩ = some z ∧ TyG w t x y z
  | .opt t, a, b, c => a = .int .i64 7 ∧ (∃ s, b = .string s ∧ bl s = []) ∧ ∃ g off cp x y z, c = .slice (some ⟨g, off, none⟩) 1 cp ∧ g < w.heap.size ∧ w.cell? ⟨g, off, none⟩ = some x ∧ w.cell? ⟨g, off + 1, none⟩ = some y ∧ w.cell? ⟨g, off + 2, none⟩ = some z ∧ TyG w t x y z
/-- A slice of one type, or of none. -/
def OfG (w : World) (v : Value) (t : Option Pl.Ty) : Prop :=
  match t with
  | none => ∃ ad cp, v = .slice ad 0 cp
  | some t => ∃ g off cp x y z, v = .slice (some ⟨g, off, none⟩) 1 cp ∧ g < w.heap.size ∧ w.cell? ⟨g, off, none⟩ = some x ∧ w.cell? ⟨g, off + 1, none⟩ = some y ∧ w.cell? ⟨g, off + 2, none⟩ = some z ∧ TyG w t x y z
theorem TyG.parts {t : Pl.Ty} {w : World} {a b c : Value} (h : TyG w t a b c) : a = .int .i64 (kindOf t) ∧ (∃ s, b = .string s ∧ bl s = nameOf t) ∧ OfG w c (inner t) := by
  cases t <;> exact h
theorem TyG.below {w w' : World} (hb : Below w.heap.size w w') (t : Pl.Ty) : ∀ (a b c : Value), TyG w t a b c → TyG w' t a b c := by
  induction t with
  | plain k => intro a b c h; exact h
  | named x => intro a b c h; exact h
  | list t ih =>
    rintro a b c ⟨h1, h2, g, off, cp, x, y, z, h3, h4, h5, h6, h7, h8⟩
    exact ⟨h1, h2, g, off, cp, x, y, z, h3, Nat.lt_of_lt_of_le h4 hb.size, (hb.cell h4).trans h5, (hb.cell h4).trans h6, (hb.cell h4).trans h7, ih _ _ _ h8⟩
  | opt t ih =>
    rintro a b c ⟨h1, h2, g, off, cp, x, y, z, h3, h4, h5, h6, h7, h8⟩
    exact ⟨h1, h2, g, off, cp, x, y, z, h3, Nat.lt_of_lt_of_le h4 hb.size, (hb.cell h4).trans h5, (hb.cell h4).trans h6, (hb.cell h4).trans h7, ih _ _ _ h8⟩
theorem OfG.below {w w' : World} {v : Value} {t : Option Pl.Ty} (h : OfG w v t) (hb : Below w.heap.size w w') : OfG w' v t := by
  cases t with
  | none => exact h
  | some t =>
    obtain ⟨g, off, cp, x, y, z, h3, h4, h5, h6, h7, h8⟩ := h
    exact ⟨g, off, cp, x, y, z, h3, Nat.lt_of_lt_of_le h4 hb.size, (hb.cell h4).trans h5, (hb.cell h4).trans h6, (hb.cell h4).trans h7, TyG.below hb _ _ _ _ h8⟩
theorem OfG.shape {w : World} {v : Value} {t : Option Pl.Ty} (h : OfG w v t) : ∃ ad m cp, v = .slice ad m cp := by
  cases t with
  | none => obtain ⟨ad, cp, rfl⟩ := h; exact ⟨_, _, _, rfl⟩
  | some t => obtain ⟨g, off, cp, x, y, z, rfl, _⟩ := h; exact ⟨_, _, _, rfl⟩
theorem TyG.shape {w : World} {t : Pl.Ty} {a b c : Value} (h : TyG w t a b c) : ∃ k s ad m cp, a = .int .i64 k ∧ b = .string s ∧ c = .slice ad m cp := by
  obtain ⟨h1, ⟨s, h2, _⟩, h3⟩ := h.parts
  obtain ⟨ad, m, cp, h4⟩ := h3.shape
  exact ⟨_, s, ad, m, cp, h1, h2, h4⟩

theorem Ly.tyG {B : Nat} {w : World} (hB : B ≤ w.heap.size) (t : Pl.Ty) : ∀ (n : Nat) (a b c : Value), Pl.tyD t ≤ n → Ly B n (Pl.emb t) w a b c → TyG w t a b c := by
  have nil : ∀ (n : Nat) (c : Value), 1 ≤ n → LyS B n [] w c → ∃ ad cp, c = .slice ad 0 cp := by
    intro n c hn h
    obtain ⟨n', rfl⟩ : ∃ n', n = n' + 1 := ⟨n - 1, by omega⟩
    obtain ⟨ad, cp, h1, _⟩ := h
    exact ⟨ad, cp, h1⟩
  induction t with
  | plain k =>
    rintro n a b c hn ⟨h1, ⟨s, h2, h3, _⟩, h4⟩
    exact ⟨h1, ⟨s, h2, h3⟩, nil n c hn h4⟩
  | named x =>
    rintro n a b c hn ⟨h1, ⟨s, h2, h3, _⟩, h4⟩
    exact ⟨h1, ⟨s, h2, h3⟩, nil n c hn h4⟩
  | list t ih =>
    rintro n a b c hn ⟨h1, ⟨s, h2, h3, _⟩, h4⟩
    simp only [Pl.tyD] at hn
    obtain ⟨n', rfl⟩ : ∃ n', n = n' + 1 := ⟨n - 1, by omega⟩
    obtain ⟨blk, off, cp, k', s', o', rfl, q2, q3, q4, q5, hly⟩ := LyS.first (g := Pl.emb t) h4
    exact ⟨h1, ⟨s, h2, h3⟩, blk, off, cp, k', s', o', rfl, Nat.lt_of_lt_of_le q2 hB, q3, q4, q5, ih n' _ _ _ (by omega) hly⟩
  | opt t ih =>
    rintro n a b c hn ⟨h1, ⟨s, h2, h3, _⟩, h4⟩
    simp only [Pl.tyD] at hn
    obtain ⟨n', rfl⟩ : ∃ n', n = n' + 1 := ⟨n - 1, by omega⟩
    obtain ⟨blk, off, cp, k', s', o', rfl, q2, q3, q4, q5, hly⟩ := LyS.first (g := Pl.emb t) h4
    exact ⟨h1, ⟨s, h2, h3⟩, blk, off, cp, k', s', o', rfl, Nat.lt_of_lt_of_le q2 hB, q3, q4, q5, ih n' _ _ _ (by omega) hly⟩

set_option maxHeartbeats 1000000 in
theorem gsameTypes_none (xa xb : Option Addr) (ca cb : Nat) (w : World) : Calls Tryz.prog 65 #[.slice xa 0 ca, .slice xb 0 cb] w fun e w' => e = .returned (.bool true) ∧ Below w.heap.size w w' := by
  go_enter Tryz.func65, Tryz.ntmps65
  go_wp2_with fail
  go_rounds 1
  go_ret
  exact ⟨rfl, Below.refl _ _⟩

set_option maxHeartbeats 16000000 in
set_option maxRecDepth 4000 in
theorem gsameTypes_one (ga gb fa fb ca cb : Nat) (k : Int) (s : ByteArray) (oa ob : Value) (w : World) (hga : ga < w.heap.size) (hgb : gb < w.heap.size) (a0 : w.cell? ⟨ga, fa, none⟩ = some (.int .i64 k)) (a1 : w.cell? ⟨ga, fa + 1, none⟩ = some (.string s)) (a2 : w.cell? ⟨ga, fa + 2, none⟩ = some oa) (b0 : w.cell? ⟨gb, fb, none⟩ = some (.int .i64 k)) (b1 : w.cell? ⟨gb, fb + 1, none⟩ = some (.string s)) (b2 : w.cell? ⟨gb, fb + 2, none⟩ = some ob) (sha : ∃ ad m cp, oa = .slice ad m cp) (shb : ∃ ad m cp, ob = .slice ad m cp)
    (hrec : ∀ W, Below w.heap.size w W → Calls Tryz.prog 65 #[oa, ob] W fun e w' => e = .returned (.bool true) ∧ Below W.heap.size W w') :
    Calls Tryz.prog 65 #[.slice (some ⟨ga, fa, none⟩) 1 ca, .slice (some ⟨gb, fb, none⟩) 1 cb] w fun e w' => e = .returned (.bool true) ∧ Below w.heap.size w w' := by
  obtain ⟨ad, ma, cpa, rfl⟩ := sha
  obtain ⟨bd, mb, cpb, rfl⟩ := shb
  generalize hoa : Value.slice ad ma cpa = oa at *
  generalize hob : Value.slice bd mb cpb = ob at *
  go_enter Tryz.func65, Tryz.ntmps65
  go_wp2_with fail
  go_loopw [5] (fun i wr => (i = .int .i64 0 ∨ i = .int .i64 1) ∧ Below w.heap.size w wr) (fun i _ => 2 - (intOf i).toNat)
  case atStart => exact ⟨.inl rfl, Below.refl _ _⟩
  case round =>
    obtain ⟨hi, hbw⟩ := hrel
    rcases hi with rfl | rfl
    · go_wp2_with fail
      obtain ⟨val, hval⟩ : ∃ val : Nat → Value, val = fun jx => match jx with | 0 => .slice (some ⟨ga, fa, none⟩) 1 ca | 1 => .int .i64 (0 : Int) | 2 => .pointer (some ⟨ga, fa, none⟩) | 3 => .pointer (some ⟨ga, fa, none⟩) | 4 => .int .i64 k | 5 => .slice (some ⟨gb, fb, none⟩) 1 cb | 6 => .int .i64 (0 : Int) | 7 => .pointer (some ⟨gb, fb, none⟩) | 8 => .pointer (some ⟨gb, fb, none⟩) | 9 => .int .i64 k | 10 => .bool false | 11 => .bool false | 12 => .slice (some ⟨ga, fa, none⟩) 1 ca | 13 => .int .i64 (0 : Int) | 14 => .pointer (some ⟨ga, fa, none⟩) | 15 => .pointer (some ⟨ga, fa + 1, none⟩) | 16 => .string s | 17 => .slice (some ⟨gb, fb, none⟩) 1 cb | 18 => .int .i64 (0 : Int) | 19 => .pointer (some ⟨gb, fb, none⟩) | 20 => .pointer (some ⟨gb, fb + 1, none⟩) | 21 => .string s | 22 => .bool false | 23 => .bool false | 24 => .bool false | 25 => .slice (some ⟨ga, fa, none⟩) 1 ca | 26 => .int .i64 (0 : Int) | 27 => .pointer (some ⟨ga, fa, none⟩) | 28 => .pointer (some ⟨ga, fa + 2, none⟩) | 29 => oa | 30 => .slice (some ⟨gb, fb, none⟩) 1 cb | 31 => .int .i64 (0 : Int) | 32 => .pointer (some ⟨gb, fb, none⟩) | 33 => .pointer (some ⟨gb, fb + 2, none⟩) | 34 => ob | 35 => .bool true | 36 => .bool false | 37 => .bool false | _ => undef := ⟨_, rfl⟩
      refine wp_region_fixed (R := fun W => Below w.heap.size w W) val (by kernel_rfl) (by kernel_rfl) (by kernel_rfl) hbw.drew ?step ?done
      case step =>
        subst hval
        intro ix o ho A W hsz hdf hfr hdep hR
        rcases ix with _ | _ | _ | _ | _ | _ | _ | _ | _ | _ | _ | _ | _ | _ | _ | _ | _ | _ | _ | _ | _ | _ | _ | _ | _ | _ | _ | _ | _ | _ | _ | _ | _ | _ | _ | _ | _ | _ | ix
        · injection ho with ho
          subst ho
          have e0 : A.eval (.tmp 0) = .slice (some ⟨ga, fa, none⟩) 1 ca := (hfr 0 (noDst_spec (by kernel_rfl))).trans rfl
          exact gOp_mv rfl (wanted_plain rfl) (.inl rfl) e0 ⟨_, rfl, rfl, Below.refl _ _, hR⟩
        · injection ho with ho
          subst ho
          have e5 : A.eval (.tmp 5) = .int .i64 (0 : Int) := (hfr 5 (noDst_spec (by kernel_rfl))).trans rfl
          exact gOp_mv rfl (wanted_plain rfl) (.inl rfl) e5 ⟨_, rfl, rfl, Below.refl _ _, hR⟩
        · injection ho with ho
          subst ho
          have e17 : A.eval (.tmp 17) = .slice (some ⟨ga, fa, none⟩) 1 ca := hdep ⟨0, .data⟩ (by simp) rfl _ _ rfl rfl
          have e18 : A.eval (.tmp 18) = .int .i64 (0 : Int) := hdep ⟨1, .data⟩ (by simp) rfl _ _ rfl rfl
          exact gOp_ix (v := .pointer (some ⟨ga, fa, none⟩)) rfl (wanted_plain rfl) rfl e17 e18 (by go_simp) ⟨_, rfl, rfl, Below.refl _ _, hR⟩
        · injection ho with ho
          subst ho
          have e19 : A.eval (.tmp 19) = .pointer (some ⟨ga, fa, none⟩) := hdep ⟨2, .data⟩ (by simp) rfl _ _ rfl rfl
          exact gOp_fld (v := .pointer (some ⟨ga, fa, none⟩)) rfl (wanted_plain rfl) rfl e19 (by go_simp) ⟨_, rfl, rfl, Below.refl _ _, hR⟩
        · injection ho with ho
          subst ho
          have e20 : A.eval (.tmp 20) = .pointer (some ⟨ga, fa, none⟩) := hdep ⟨3, .data⟩ (by simp) rfl _ _ rfl rfl
          have x0 := (hR.cell hga).trans a0
          exact gOp_ld (v := .int .i64 k) rfl (wanted_plain rfl) rfl e20 (by go_simp) ⟨_, rfl, rfl, Below.refl _ _, hR⟩
        · injection ho with ho
          subst ho
          have e1 : A.eval (.tmp 1) = .slice (some ⟨gb, fb, none⟩) 1 cb := (hfr 1 (noDst_spec (by kernel_rfl))).trans rfl
          exact gOp_mv rfl (wanted_plain rfl) (.inl rfl) e1 ⟨_, rfl, rfl, Below.refl _ _, hR⟩
        · injection ho with ho
          subst ho
          have e5 : A.eval (.tmp 5) = .int .i64 (0 : Int) := (hfr 5 (noDst_spec (by kernel_rfl))).trans rfl
          exact gOp_mv rfl (wanted_plain rfl) (.inl rfl) e5 ⟨_, rfl, rfl, Below.refl _ _, hR⟩
        · injection ho with ho
          subst ho
          have e22 : A.eval (.tmp 22) = .slice (some ⟨gb, fb, none⟩) 1 cb := hdep ⟨5, .data⟩ (by simp) rfl _ _ rfl rfl
          have e23 : A.eval (.tmp 23) = .int .i64 (0 : Int) := hdep ⟨6, .data⟩ (by simp) rfl _ _ rfl rfl
          exact gOp_ix (v := .pointer (some ⟨gb, fb, none⟩)) rfl (wanted_plain rfl) rfl e22 e23 (by go_simp) ⟨_, rfl, rfl, Below.refl _ _, hR⟩
        · injection ho with ho
          subst ho
          have e24 : A.eval (.tmp 24) = .pointer (some ⟨gb, fb, none⟩) := hdep ⟨7, .data⟩ (by simp) rfl _ _ rfl rfl
          exact gOp_fld (v := .pointer (some ⟨gb, fb, none⟩)) rfl (wanted_plain rfl) rfl e24 (by go_simp) ⟨_, rfl, rfl, Below.refl _ _, hR⟩
        · injection ho with ho
          subst ho
          have e25 : A.eval (.tmp 25) = .pointer (some ⟨gb, fb, none⟩) := hdep ⟨8, .data⟩ (by simp) rfl _ _ rfl rfl
          have x0 := (hR.cell hgb).trans b0
          exact gOp_ld (v := .int .i64 k) rfl (wanted_plain rfl) rfl e25 (by go_simp) ⟨_, rfl, rfl, Below.refl _ _, hR⟩
        · injection ho with ho
          subst ho
          have e21 : A.eval (.tmp 21) = .int .i64 k := hdep ⟨4, .data⟩ (by simp) rfl _ _ rfl rfl
          have e26 : A.eval (.tmp 26) = .int .i64 k := hdep ⟨9, .data⟩ (by simp) rfl _ _ rfl rfl
          exact gOp_ok (v := .bool false) rfl (wanted_plain rfl) (run_bin rfl e21 e26 (by go_simp) (by go_simp)) ⟨_, rfl, rfl, Below.refl _ _, hR⟩
        · injection ho with ho
          subst ho
          have e27 : A.eval (.tmp 27) = .bool false := hdep ⟨10, .data⟩ (by simp) rfl _ _ rfl rfl
          exact gOp_mv rfl (wanted_plain rfl) (.inl rfl) e27 ⟨_, rfl, rfl, Below.refl _ _, hR⟩
        · injection ho with ho
          subst ho
          have e0 : A.eval (.tmp 0) = .slice (some ⟨ga, fa, none⟩) 1 ca := (hfr 0 (noDst_spec (by kernel_rfl))).trans rfl
          exact gOp_mv rfl (wanted_on false 11 28 _ rfl rfl rfl (hdep ⟨11, .guard⟩ (by simp) rfl _ _ rfl rfl)) (.inl rfl) e0 ⟨_, rfl, rfl, Below.refl _ _, hR⟩
        · injection ho with ho
          subst ho
          have e5 : A.eval (.tmp 5) = .int .i64 (0 : Int) := (hfr 5 (noDst_spec (by kernel_rfl))).trans rfl
          exact gOp_mv rfl (wanted_on false 11 28 _ rfl rfl rfl (hdep ⟨11, .guard⟩ (by simp) rfl _ _ rfl rfl)) (.inl rfl) e5 ⟨_, rfl, rfl, Below.refl _ _, hR⟩
        · injection ho with ho
          subst ho
          have e29 : A.eval (.tmp 29) = .slice (some ⟨ga, fa, none⟩) 1 ca := hdep ⟨12, .data⟩ (by simp) rfl _ _ rfl rfl
          have e30 : A.eval (.tmp 30) = .int .i64 (0 : Int) := hdep ⟨13, .data⟩ (by simp) rfl _ _ rfl rfl
          exact gOp_ix (v := .pointer (some ⟨ga, fa, none⟩)) rfl (wanted_on false 11 28 _ rfl rfl rfl (hdep ⟨11, .guard⟩ (by simp) rfl _ _ rfl rfl)) rfl e29 e30 (by go_simp) ⟨_, rfl, rfl, Below.refl _ _, hR⟩
        · injection ho with ho
          subst ho
          have e31 : A.eval (.tmp 31) = .pointer (some ⟨ga, fa, none⟩) := hdep ⟨14, .data⟩ (by simp) rfl _ _ rfl rfl
          exact gOp_fld (v := .pointer (some ⟨ga, fa + 1, none⟩)) rfl (wanted_on false 11 28 _ rfl rfl rfl (hdep ⟨11, .guard⟩ (by simp) rfl _ _ rfl rfl)) rfl e31 (by go_simp) ⟨_, rfl, rfl, Below.refl _ _, hR⟩
        · injection ho with ho
          subst ho
          have e32 : A.eval (.tmp 32) = .pointer (some ⟨ga, fa + 1, none⟩) := hdep ⟨15, .data⟩ (by simp) rfl _ _ rfl rfl
          have x0 := (hR.cell hga).trans a1
          exact gOp_ld (v := .string s) rfl (wanted_on false 11 28 _ rfl rfl rfl (hdep ⟨11, .guard⟩ (by simp) rfl _ _ rfl rfl)) rfl e32 (by go_simp) ⟨_, rfl, rfl, Below.refl _ _, hR⟩
        · injection ho with ho
          subst ho
          have e1 : A.eval (.tmp 1) = .slice (some ⟨gb, fb, none⟩) 1 cb := (hfr 1 (noDst_spec (by kernel_rfl))).trans rfl
          exact gOp_mv rfl (wanted_on false 11 28 _ rfl rfl rfl (hdep ⟨11, .guard⟩ (by simp) rfl _ _ rfl rfl)) (.inl rfl) e1 ⟨_, rfl, rfl, Below.refl _ _, hR⟩
        · injection ho with ho
          subst ho
          have e5 : A.eval (.tmp 5) = .int .i64 (0 : Int) := (hfr 5 (noDst_spec (by kernel_rfl))).trans rfl
          exact gOp_mv rfl (wanted_on false 11 28 _ rfl rfl rfl (hdep ⟨11, .guard⟩ (by simp) rfl _ _ rfl rfl)) (.inl rfl) e5 ⟨_, rfl, rfl, Below.refl _ _, hR⟩
        · injection ho with ho
          subst ho
          have e34 : A.eval (.tmp 34) = .slice (some ⟨gb, fb, none⟩) 1 cb := hdep ⟨17, .data⟩ (by simp) rfl _ _ rfl rfl
          have e35 : A.eval (.tmp 35) = .int .i64 (0 : Int) := hdep ⟨18, .data⟩ (by simp) rfl _ _ rfl rfl
          exact gOp_ix (v := .pointer (some ⟨gb, fb, none⟩)) rfl (wanted_on false 11 28 _ rfl rfl rfl (hdep ⟨11, .guard⟩ (by simp) rfl _ _ rfl rfl)) rfl e34 e35 (by go_simp) ⟨_, rfl, rfl, Below.refl _ _, hR⟩
        · injection ho with ho
          subst ho
          have e36 : A.eval (.tmp 36) = .pointer (some ⟨gb, fb, none⟩) := hdep ⟨19, .data⟩ (by simp) rfl _ _ rfl rfl
          exact gOp_fld (v := .pointer (some ⟨gb, fb + 1, none⟩)) rfl (wanted_on false 11 28 _ rfl rfl rfl (hdep ⟨11, .guard⟩ (by simp) rfl _ _ rfl rfl)) rfl e36 (by go_simp) ⟨_, rfl, rfl, Below.refl _ _, hR⟩
        · injection ho with ho
          subst ho
          have e37 : A.eval (.tmp 37) = .pointer (some ⟨gb, fb + 1, none⟩) := hdep ⟨20, .data⟩ (by simp) rfl _ _ rfl rfl
          have x0 := (hR.cell hgb).trans b1
          exact gOp_ld (v := .string s) rfl (wanted_on false 11 28 _ rfl rfl rfl (hdep ⟨11, .guard⟩ (by simp) rfl _ _ rfl rfl)) rfl e37 (by go_simp) ⟨_, rfl, rfl, Below.refl _ _, hR⟩
        · injection ho with ho
          subst ho
          have e33 : A.eval (.tmp 33) = .string s := hdep ⟨16, .data⟩ (by simp) rfl _ _ rfl rfl
          have e38 : A.eval (.tmp 38) = .string s := hdep ⟨21, .data⟩ (by simp) rfl _ _ rfl rfl
          exact gOp_ok (v := .bool false) rfl (wanted_on false 11 28 _ rfl rfl rfl (hdep ⟨11, .guard⟩ (by simp) rfl _ _ rfl rfl)) (run_bin rfl e33 e38 (by go_simp) (by go_simp)) ⟨_, rfl, rfl, Below.refl _ _, hR⟩
        · injection ho with ho
          subst ho
          have e28 : A.eval (.tmp 28) = .bool false := hdep ⟨11, .data⟩ (by simp) rfl _ _ rfl rfl
          have e39 : A.eval (.tmp 39) = .bool false := hdep ⟨22, .data⟩ (by simp) rfl _ _ rfl rfl
          exact gOp_pk (v := .bool false) rfl (wanted_plain rfl) rfl e28 (by first | exact e39 | rfl) ⟨_, rfl, rfl, Below.refl _ _, hR⟩
        · injection ho with ho
          subst ho
          have e40 : A.eval (.tmp 40) = .bool false := hdep ⟨23, .data⟩ (by simp) rfl _ _ rfl rfl
          exact gOp_mv rfl (wanted_plain rfl) (.inl rfl) e40 ⟨_, rfl, rfl, Below.refl _ _, hR⟩
        · injection ho with ho
          subst ho
          have e0 : A.eval (.tmp 0) = .slice (some ⟨ga, fa, none⟩) 1 ca := (hfr 0 (noDst_spec (by kernel_rfl))).trans rfl
          exact gOp_mv rfl (wanted_on false 24 41 _ rfl rfl rfl (hdep ⟨24, .guard⟩ (by simp) rfl _ _ rfl rfl)) (.inl rfl) e0 ⟨_, rfl, rfl, Below.refl _ _, hR⟩
        · injection ho with ho
          subst ho
          have e5 : A.eval (.tmp 5) = .int .i64 (0 : Int) := (hfr 5 (noDst_spec (by kernel_rfl))).trans rfl
          exact gOp_mv rfl (wanted_on false 24 41 _ rfl rfl rfl (hdep ⟨24, .guard⟩ (by simp) rfl _ _ rfl rfl)) (.inl rfl) e5 ⟨_, rfl, rfl, Below.refl _ _, hR⟩
        · injection ho with ho
          subst ho
          have e42 : A.eval (.tmp 42) = .slice (some ⟨ga, fa, none⟩) 1 ca := hdep ⟨25, .data⟩ (by simp) rfl _ _ rfl rfl
          have e43 : A.eval (.tmp 43) = .int .i64 (0 : Int) := hdep ⟨26, .data⟩ (by simp) rfl _ _ rfl rfl
          exact gOp_ix (v := .pointer (some ⟨ga, fa, none⟩)) rfl (wanted_on false 24 41 _ rfl rfl rfl (hdep ⟨24, .guard⟩ (by simp) rfl _ _ rfl rfl)) rfl e42 e43 (by go_simp) ⟨_, rfl, rfl, Below.refl _ _, hR⟩
        · injection ho with ho
          subst ho
          have e44 : A.eval (.tmp 44) = .pointer (some ⟨ga, fa, none⟩) := hdep ⟨27, .data⟩ (by simp) rfl _ _ rfl rfl
          exact gOp_fld (v := .pointer (some ⟨ga, fa + 2, none⟩)) rfl (wanted_on false 24 41 _ rfl rfl rfl (hdep ⟨24, .guard⟩ (by simp) rfl _ _ rfl rfl)) rfl e44 (by go_simp) ⟨_, rfl, rfl, Below.refl _ _, hR⟩
        · injection ho with ho
          subst ho
          have e45 : A.eval (.tmp 45) = .pointer (some ⟨ga, fa + 2, none⟩) := hdep ⟨28, .data⟩ (by simp) rfl _ _ rfl rfl
          have x0 := (hR.cell hga).trans a2
          exact gOp_ld (v := oa) rfl (wanted_on false 24 41 _ rfl rfl rfl (hdep ⟨24, .guard⟩ (by simp) rfl _ _ rfl rfl)) rfl e45 (by go_simp) ⟨_, rfl, rfl, Below.refl _ _, hR⟩
        · injection ho with ho
          subst ho
          have e1 : A.eval (.tmp 1) = .slice (some ⟨gb, fb, none⟩) 1 cb := (hfr 1 (noDst_spec (by kernel_rfl))).trans rfl
          exact gOp_mv rfl (wanted_on false 24 41 _ rfl rfl rfl (hdep ⟨24, .guard⟩ (by simp) rfl _ _ rfl rfl)) (.inl rfl) e1 ⟨_, rfl, rfl, Below.refl _ _, hR⟩
        · injection ho with ho
          subst ho
          have e5 : A.eval (.tmp 5) = .int .i64 (0 : Int) := (hfr 5 (noDst_spec (by kernel_rfl))).trans rfl
          exact gOp_mv rfl (wanted_on false 24 41 _ rfl rfl rfl (hdep ⟨24, .guard⟩ (by simp) rfl _ _ rfl rfl)) (.inl rfl) e5 ⟨_, rfl, rfl, Below.refl _ _, hR⟩
        · injection ho with ho
          subst ho
          have e47 : A.eval (.tmp 47) = .slice (some ⟨gb, fb, none⟩) 1 cb := hdep ⟨30, .data⟩ (by simp) rfl _ _ rfl rfl
          have e48 : A.eval (.tmp 48) = .int .i64 (0 : Int) := hdep ⟨31, .data⟩ (by simp) rfl _ _ rfl rfl
          exact gOp_ix (v := .pointer (some ⟨gb, fb, none⟩)) rfl (wanted_on false 24 41 _ rfl rfl rfl (hdep ⟨24, .guard⟩ (by simp) rfl _ _ rfl rfl)) rfl e47 e48 (by go_simp) ⟨_, rfl, rfl, Below.refl _ _, hR⟩
        · injection ho with ho
          subst ho
          have e49 : A.eval (.tmp 49) = .pointer (some ⟨gb, fb, none⟩) := hdep ⟨32, .data⟩ (by simp) rfl _ _ rfl rfl
          exact gOp_fld (v := .pointer (some ⟨gb, fb + 2, none⟩)) rfl (wanted_on false 24 41 _ rfl rfl rfl (hdep ⟨24, .guard⟩ (by simp) rfl _ _ rfl rfl)) rfl e49 (by go_simp) ⟨_, rfl, rfl, Below.refl _ _, hR⟩
        · injection ho with ho
          subst ho
          have e50 : A.eval (.tmp 50) = .pointer (some ⟨gb, fb + 2, none⟩) := hdep ⟨33, .data⟩ (by simp) rfl _ _ rfl rfl
          have x0 := (hR.cell hgb).trans b2
          exact gOp_ld (v := ob) rfl (wanted_on false 24 41 _ rfl rfl rfl (hdep ⟨24, .guard⟩ (by simp) rfl _ _ rfl rfl)) rfl e50 (by go_simp) ⟨_, rfl, rfl, Below.refl _ _, hR⟩
        · injection ho with ho
          subst ho
          have e46 : A.eval (.tmp 46) = oa := hdep ⟨29, .data⟩ (by simp) rfl _ _ rfl rfl
          have e51 : A.eval (.tmp 51) = ob := hdep ⟨34, .data⟩ (by simp) rfl _ _ rfl rfl
          refine gOp_enter rfl (wanted_on false 24 41 _ rfl rfl rfl (hdep ⟨24, .guard⟩ (by simp) rfl _ _ rfl rfl)) 65 #[oa, ob] (run_call _ (fun _ _ => rfl) _ _ rfl _ (by simp [e46, e51])) ?_
          refine (hrec W hR).mono ?_
          rintro e w' ⟨rfl, hb'⟩
          exact ⟨_, rfl, _, rfl, rfl, hb', hR.trans (hb'.mono hR.size)⟩
        · injection ho with ho
          subst ho
          have e52 : A.eval (.tmp 52) = .bool true := hdep ⟨35, .data⟩ (by simp) rfl _ _ rfl rfl
          exact gOp_not rfl (wanted_on false 24 41 _ rfl rfl rfl (hdep ⟨24, .guard⟩ (by simp) rfl _ _ rfl rfl)) rfl e52 ⟨_, rfl, rfl, Below.refl _ _, hR⟩
        · injection ho with ho
          subst ho
          have e41 : A.eval (.tmp 41) = .bool false := hdep ⟨24, .data⟩ (by simp) rfl _ _ rfl rfl
          have e53 : A.eval (.tmp 53) = .bool false := hdep ⟨36, .data⟩ (by simp) rfl _ _ rfl rfl
          exact gOp_pk (v := .bool false) rfl (wanted_plain rfl) rfl e41 (by first | exact e53 | rfl) ⟨_, rfl, rfl, Below.refl _ _, hR⟩
        · simp at ho
      case done =>
        intro W hR
        subst hval
        simp only [putL, Act.put, List.setIfInBounds_toArray, List.set_cons_zero, List.set_cons_succ]
        go_wp2
        exact ⟨⟨.inr rfl, hR⟩, by simp [intOf]⟩
    · go_wp2
      go_ret
      exact ⟨rfl, hbw⟩

theorem gsameOf : ∀ (t : Pl.Ty) (w : World) (va vb : Value), OfG w va (some t) → OfG w vb (some t) → Calls Tryz.prog 65 #[va, vb] w fun e w' => e = .returned (.bool true) ∧ Below w.heap.size w w' := by
  have step : ∀ (t : Pl.Ty), (∀ u, inner t = some u → ∀ (w : World) (va vb : Value), OfG w va (some u) → OfG w vb (some u) → Calls Tryz.prog 65 #[va, vb] w fun e w' => e = .returned (.bool true) ∧ Below w.heap.size w w') → ∀ (w : World) (va vb : Value), OfG w va (some t) → OfG w vb (some t) → Calls Tryz.prog 65 #[va, vb] w fun e w' => e = .returned (.bool true) ∧ Below w.heap.size w w' := by
    intro t hin w va vb hva hvb
    obtain ⟨ga, fa, ca, x, y, z, rfl, hga, hx0, hx1, hx2, hta⟩ := hva
    obtain ⟨gb, fb, cb, x', y', z', rfl, hgb, hy0, hy1, hy2, htb⟩ := hvb
    obtain ⟨rfl, ⟨s, rfl, hs⟩, hoa⟩ := hta.parts
    obtain ⟨rfl, ⟨s', rfl, hs'⟩, hob⟩ := htb.parts
    have hss : s = s' := bl_inj (hs.trans hs'.symm)
    subst hss
    refine gsameTypes_one ga gb fa fb ca cb (kindOf t) s z z' w hga hgb hx0 hx1 hx2 hy0 hy1 hy2 hoa.shape hob.shape (fun W hb => ?_)
    have h1 := hoa.below hb
    have h2 := hob.below hb
    cases hi : inner t with
    | none =>
      rw [hi] at h1 h2
      obtain ⟨x1, c1, rfl⟩ := h1
      obtain ⟨x2, c2, rfl⟩ := h2
      exact gsameTypes_none x1 x2 c1 c2 W
    | some u =>
      rw [hi] at h1 h2
      exact hin u hi W z z' h1 h2
  intro t
  induction t with
  | plain k => exact step _ (fun u hu => by simp [inner] at hu)
  | named x => exact step _ (fun u hu => by simp [inner] at hu)
  | list t ih => exact step _ (fun u hu => by simp [inner] at hu; subst hu; exact ih)
  | opt t ih => exact step _ (fun u hu => by simp [inner] at hu; subst hu; exact ih)

theorem OfG.ofBx {w : World} {t : Pl.Ty} {b : Nat} {x y z : Value} (hB : Bx w b [x, y, z] 34) (h : TyG w t x y z) : OfG w (.slice (some ⟨b, 0, none⟩) 1 1) (some t) :=
  ⟨b, 0, 1, x, y, z, rfl, hB.lt, hB.cell 0 rfl, hB.cell 1 rfl, hB.cell 2 rfl, h⟩

set_option maxHeartbeats 4000000 in
set_option maxRecDepth 4000 in
theorem gsameType_true (t : Pl.Ty) (w : World) (a b c a' b' c' : Value) (h : TyG w t a b c) (h' : TyG w t a' b' c') : Calls Tryz.prog 40 #[.agg #[a, b, c], .agg #[a', b', c']] w fun e w' => e = .returned (.bool true) ∧ Below w.heap.size w w' := by
  obtain ⟨k, sn, ad, m, cp, rfl, rfl, rfl⟩ := h.shape
  obtain ⟨k', sn', ad', m', cp', rfl, rfl, rfl⟩ := h'.shape
  have hb1 := below_next (below_alloc w (.cells #[.int .i64 k, .string sn, .slice ad m cp] 34)) (below_alloc _ (.cells #[.int .i64 k', .string sn', .slice ad' m' cp'] 34))
  have hb2 := below_next hb1 (below_alloc _ (.cells #[.int .i64 k, .string sn, .slice ad m cp] 34))
  have hb3 := below_next hb2 (below_alloc _ (.cells #[.int .i64 k', .string sn', .slice ad' m' cp'] 34))
  have hs := gsameOf t _ (.slice (some ⟨w.heap.size + 2, 0, none⟩) 1 1) (.slice (some ⟨w.heap.size + 3, 0, none⟩) 1 1) (OfG.ofBx ((Bx.newAt (w := ((w.alloc (.cells #[.int .i64 k, .string sn, .slice ad m cp] 34)).alloc (.cells #[.int .i64 k', .string sn', .slice ad' m' cp'] 34))) (g := w.heap.size + 2) (by simp) [.int .i64 k, .string sn, .slice ad m cp] 34).alloc (.cells #[.int .i64 k', .string sn', .slice ad' m' cp'] 34)) (TyG.below hb3 _ _ _ _ h)) (OfG.ofBx (Bx.newAt (w := (((w.alloc (.cells #[.int .i64 k, .string sn, .slice ad m cp] 34)).alloc (.cells #[.int .i64 k', .string sn', .slice ad' m' cp'] 34)).alloc (.cells #[.int .i64 k, .string sn, .slice ad m cp] 34))) (g := w.heap.size + 3) (by simp) [.int .i64 k', .string sn', .slice ad' m' cp'] 34) (TyG.below hb3 _ _ _ _ h'))
  clear h h'
  go_enter Tryz.func40, Tryz.ntmps40
  go_wp2_with fail
  refine hs.mono ?_
  rintro e w5 ⟨rfl, hb5⟩
  go_wp2
  go_ret
  exact ⟨rfl, below_next hb3 hb5⟩

def FldG (f : Pl.Fld) (c : List Value) (w : World) : Prop := ∃ s k sn ad m cp, c = [.string s, .int .i64 (f.num : Int), .int .i64 k, .string sn, .slice ad m cp] ∧ bl s = f.name ∧ TyG w f.ty (.int .i64 k) (.string sn) (.slice ad m cp)
def CasG (f : Pl.Cas) (c : List Value) (_ : World) : Prop := ∃ s, c = [.string s, .int .i64 (f.num : Int)] ∧ bl s = f.name
def MthG (f : Pl.Mth) (c : List Value) (w : World) : Prop := ∃ s k sn ad m cp k' sn' ad' m' cp', c = [.string s, .bool f.once, .int .i64 k, .string sn, .slice ad m cp, .int .i64 k', .string sn', .slice ad' m' cp'] ∧ bl s = f.name ∧ TyG w f.arg (.int .i64 k) (.string sn) (.slice ad m cp) ∧ TyG w f.res (.int .i64 k') (.string sn') (.slice ad' m' cp')

set_option maxHeartbeats 4000000 in
set_option maxRecDepth 4000 in
theorem gsameMethod_true (f : Pl.Mth) (w : World) (c c' : List Value) (h : MthG f c w) (h' : MthG f c' w) : Calls Tryz.prog 19 #[.agg ⟨c⟩, .agg ⟨c'⟩] w fun e w' => e = .returned (.bool true) ∧ Below w.heap.size w w' := by
  obtain ⟨s, k1, n1, a1, m1, p1, k2, n2, a2, m2, p2, rfl, hs, ht1, ht2⟩ := h
  obtain ⟨s', k3, n3, a3, m3, p3, k4, n4, a4, m4, p4, rfl, hs', ht3, ht4⟩ := h'
  have hss : s = s' := bl_inj (hs.trans hs'.symm)
  subst hss
  have hb1 := below_next (below_alloc w (.cells #[.string s, .bool f.once, .int .i64 k1, .string n1, .slice a1 m1 p1, .int .i64 k2, .string n2, .slice a2 m2 p2] 36)) (below_alloc _ (.cells #[.string s, .bool f.once, .int .i64 k3, .string n3, .slice a3 m3 p3, .int .i64 k4, .string n4, .slice a4 m4 p4] 36))
  have hA := (Bx.new w [.string s, .bool f.once, .int .i64 k1, .string n1, .slice a1 m1 p1, .int .i64 k2, .string n2, .slice a2 m2 p2] 36).alloc (.cells #[.string s, .bool f.once, .int .i64 k3, .string n3, .slice a3 m3 p3, .int .i64 k4, .string n4, .slice a4 m4 p4] 36)
  have hB := Bx.newAt (w := w.alloc (.cells #[.string s, .bool f.once, .int .i64 k1, .string n1, .slice a1 m1 p1, .int .i64 k2, .string n2, .slice a2 m2 p2] 36)) (g := w.heap.size + 1) (by simp) [.string s, .bool f.once, .int .i64 k3, .string n3, .slice a3 m3 p3, .int .i64 k4, .string n4, .slice a4 m4 p4] 36
  have hty1 := fun W (hb : Below w.heap.size w W) => gsameType_true f.arg W _ _ _ _ _ _ (TyG.below hb _ _ _ _ ht1) (TyG.below hb _ _ _ _ ht3)
  have hty2 := fun W (hb : Below w.heap.size w W) => gsameType_true f.res W _ _ _ _ _ _ (TyG.below hb _ _ _ _ ht2) (TyG.below hb _ _ _ _ ht4)
  clear ht1 ht2 ht3 ht4 hs hs'
  generalize f.once = O at *
  have hT1 := hty1 _ hb1
  change Bx ((w.alloc (.cells #[.string s, .bool O, .int .i64 k1, .string n1, .slice a1 m1 p1, .int .i64 k2, .string n2, .slice a2 m2 p2] 36)).alloc (.cells #[.string s, .bool O, .int .i64 k3, .string n3, .slice a3 m3 p3, .int .i64 k4, .string n4, .slice a4 m4 p4] 36)) _ _ _ at hB
  go_enter Tryz.func19, Tryz.ntmps19
  go_wp2_with fail
  refine hT1.mono ?_
  rintro e w2 ⟨rfl, hb2⟩
  have hb12 := below_next hb1 hb2
  have hA2 := hA.below hb2
  have hB2 := hB.below hb2
  have x5 := hA2.cell 5 rfl
  have x6 := hA2.cell 6 rfl
  have x7 := hA2.cell 7 rfl
  have y5 := hB2.cell 5 rfl
  have y6 := hB2.cell 6 rfl
  have y7 := hB2.cell 7 rfl
  have hT2 := hty2 _ hb12
  go_wp2_with fail
  refine hT2.mono ?_
  rintro e w3 ⟨rfl, hb3⟩
  go_wp2
  go_ret
  exact ⟨rfl, below_next hb12 hb3⟩
end Go.Proofs.YtdbgncdnffbhkaaGreatDoor

namespace Go.Proofs.YtdbgncdnffbhkaaGreatDoor
open Go.RowKit
set_option maxRecDepth 20000

/-- A slice of structs of m cells each, anywhere. -/
def Rw {α : Type} (m : Nat) (R : α → List Value → World → Prop) (w : World) (v : Value) (xs : List α) : Prop :=
  ∃ ad cap, v = .slice ad xs.length cap ∧ xs.length ≤ 9223372036854775807 ∧ ∀ (i : Nat) (a : α), xs[i]? = some a → ∃ g off c, ad = some ⟨g, off, none⟩ ∧ g < w.heap.size ∧ R a c w ∧ ∀ (j : Nat) (u : Value), c[j]? = some u → w.cell? ⟨g, off + i * m + j, none⟩ = some u
theorem Rw.shape {α : Type} {m : Nat} {R : α → List Value → World → Prop} {w : World} {v : Value} {xs : List α} (h : Rw m R w v xs) : ∃ ad cp, v = .slice ad xs.length cp := by
  obtain ⟨ad, cp, h1, _⟩ := h
  exact ⟨ad, cp, h1⟩
theorem Rw.at {α : Type} {m : Nat} {R : α → List Value → World → Prop} {w : World} {v : Value} {xs : List α} (h : Rw m R w v xs) {i : Nat} {a : α} (hi : xs[i]? = some a) :
    ∃ g off cap c, v = .slice (some ⟨g, off, none⟩) xs.length cap ∧ g < w.heap.size ∧ R a c w ∧ ∀ (j : Nat) (u : Value), c[j]? = some u → w.cell? ⟨g, off + i * m + j, none⟩ = some u := by
  obtain ⟨ad, cap, h1, _, h3⟩ := h
  obtain ⟨g, off, c, rfl, q2, q3, q4⟩ := h3 i a hi
  exact ⟨g, off, cap, c, h1, q2, q3, q4⟩
theorem Rw.below {α : Type} {m : Nat} {R : α → List Value → World → Prop} {w w' : World} {v : Value} {xs : List α} (h : Rw m R w v xs) (hb : Below w.heap.size w w') (hR : ∀ a c, R a c w → R a c w') : Rw m R w' v xs := by
  obtain ⟨ad, cap, h1, h2, h3⟩ := h
  refine ⟨ad, cap, h1, h2, fun i a hi => ?_⟩
  obtain ⟨g, off, c, q1, q2, q3, q4⟩ := h3 i a hi
  exact ⟨g, off, c, q1, Nat.lt_of_lt_of_le q2 hb.size, hR a c q3, fun j u hu => (hb.cell q2).trans (q4 j u hu)⟩
theorem FldG.below {w w' : World} (hb : Below w.heap.size w w') (f : Pl.Fld) (c : List Value) (h : FldG f c w) : FldG f c w' := by
  obtain ⟨s, k, sn, ad, m, cp, h1, h2, h3⟩ := h
  exact ⟨s, k, sn, ad, m, cp, h1, h2, TyG.below hb _ _ _ _ h3⟩
theorem MthG.below {w w' : World} (hb : Below w.heap.size w w') (f : Pl.Mth) (c : List Value) (h : MthG f c w) : MthG f c w' := by
  obtain ⟨s, k, sn, ad, m, cp, k', sn', ad', m', cp', h1, h2, h3, h4⟩ := h
  exact ⟨s, k, sn, ad, m, cp, k', sn', ad', m', cp', h1, h2, TyG.below hb _ _ _ _ h3, TyG.below hb _ _ _ _ h4⟩
/-- A declaration's cells: name, parts. -/
def DecG {α : Type} (n : Nat) (R : α → List Value → World → Prop) (x : List Nat × List α) (c : List Value) (w : World) : Prop := ∃ s ad m cp, c = [.string s, .slice ad m cp] ∧ bl s = x.1 ∧ Rw n R w (.slice ad m cp) x.2
theorem DecG.below {α : Type} {n : Nat} {R : α → List Value → World → Prop} {w w' : World} (hb : Below w.heap.size w w') (hR : ∀ a c, R a c w → R a c w') (x : List Nat × List α) (c : List Value) (h : DecG n R x c w) : DecG n R x c w' := by
  obtain ⟨s, ad, m, cp, h1, h2, h3⟩ := h
  exact ⟨s, ad, m, cp, h1, h2, h3.below hb hR⟩
/-- A schema of declarations, anywhere. -/
def SchG (st : List (List Nat × List Pl.Fld)) (en : List (List Nat × List Pl.Cas)) (sv : List (List Nat × List Pl.Mth)) (s1 s2 s3 : Value) (w : World) : Prop :=
  Rw 2 (DecG 5 FldG) w s1 st ∧ Rw 2 (DecG 2 CasG) w s2 en ∧ Rw 2 (DecG 8 MthG) w s3 sv
theorem SchG.shape {st : List (List Nat × List Pl.Fld)} {en : List (List Nat × List Pl.Cas)} {sv : List (List Nat × List Pl.Mth)} {s1 s2 s3 : Value} {w : World} (h : SchG st en sv s1 s2 s3 w) : ∃ a1 c1 a2 c2 a3 c3, s1 = .slice a1 st.length c1 ∧ s2 = .slice a2 en.length c2 ∧ s3 = .slice a3 sv.length c3 := by
  obtain ⟨a1, c1, e1⟩ := h.1.shape
  obtain ⟨a2, c2, e2⟩ := h.2.1.shape
  obtain ⟨a3, c3, e3⟩ := h.2.2.shape
  exact ⟨a1, c1, a2, c2, a3, c3, e1, e2, e3⟩
theorem SchG.below {st : List (List Nat × List Pl.Fld)} {en : List (List Nat × List Pl.Cas)} {sv : List (List Nat × List Pl.Mth)} {s1 s2 s3 : Value} {w w' : World} (h : SchG st en sv s1 s2 s3 w) (hb : Below w.heap.size w w') : SchG st en sv s1 s2 s3 w' :=
  ⟨h.1.below hb (DecG.below hb (FldG.below hb)), h.2.1.below hb (DecG.below hb (fun _ _ h => h)), h.2.2.below hb (DecG.below hb (MthG.below hb))⟩

theorem SlR.rw {α β : Type} {m : Nat} {R : β → List Value → World → Prop} {R' : α → List Value → World → Prop} {B : Nat} {w : World} {v : Value} {xs : List α} (f : α → β) (hB : B ≤ w.heap.size) (h : SlR m R B w v (xs.map f)) (hR : ∀ a ∈ xs, ∀ c, R (f a) c w → R' a c w) : Rw m R' w v xs := by
  obtain ⟨ad, cp, h1, h2, h3⟩ := h
  rw [List.length_map] at h1 h2
  refine ⟨ad, cp, h1, h2, fun i a hi => ?_⟩
  obtain ⟨blk, off, c, q1, q2, q3, q4⟩ := h3 i (f a) (by rw [List.getElem?_map, hi]; rfl)
  exact ⟨blk, off, c, q1, Nat.lt_of_lt_of_le q2 hB, hR a (List.mem_of_getElem? hi) c q4, q3⟩
/-- A schema of any make that is one of declarations that may be. -/
theorem SchL.g {B n : Nat} {w : World} {st : List (List Nat × List Pl.Fld)} {en : List (List Nat × List Pl.Cas)} {sv : List (List Nat × List Pl.Mth)} {s1 s2 s3 : Value} (hB : B ≤ w.heap.size) (hn : 8 ≤ n) (h : SchL B n (st.map Pl.embSt) (en.map Pl.embEn) (sv.map Pl.embSv) s1 s2 s3 w) (hok : ∀ d ∈ Pl.inOrder st en sv, Pl.okDecl d) : SchG st en sv s1 s2 s3 w := by
  obtain ⟨h1, h2, h3⟩ := h
  refine ⟨h1.rw _ hB ?_, h2.rw _ hB ?_, h3.rw _ hB ?_⟩
  · rintro a ha c ⟨s, v, rfl, hs, _, hr⟩
    have hd := hok (Pl.mkSt a) (List.mem_append_left _ (List.mem_append_left _ (List.mem_map_of_mem ha)))
    obtain ⟨ad, cp, rfl⟩ := hr.shape
    refine ⟨s, ad, _, cp, rfl, hs, hr.rw _ hB ?_⟩
    rintro f hf c ⟨s, k, sn, o, rfl, hs, _, hl⟩
    have hf2 := hd.2.2 f hf
    have hg := Ly.tyG hB f.ty n _ _ _ (by have := hf2.2.2.2; omega) hl
    obtain ⟨k', s', ad', m', cp', rfl, rfl, rfl⟩ := hg.shape
    exact ⟨s, _, _, _, _, _, rfl, hs, hg⟩
  · rintro a ha c ⟨s, v, rfl, hs, _, hr⟩
    obtain ⟨ad, cp, rfl⟩ := hr.shape
    refine ⟨s, ad, _, cp, rfl, hs, hr.rw _ hB ?_⟩
    rintro f hf c ⟨s, rfl, hs, _⟩
    exact ⟨s, rfl, hs⟩
  · rintro a ha c ⟨s, v, rfl, hs, _, hr⟩
    have hd := hok (Pl.mkSv a) (List.mem_append_right _ (List.mem_map_of_mem ha))
    obtain ⟨ad, cp, rfl⟩ := hr.shape
    refine ⟨s, ad, _, cp, rfl, hs, hr.rw _ hB ?_⟩
    rintro f hf c ⟨s, k, sn, o, k2, sn2, o2, rfl, hs, _, hl, hl2⟩
    have hf2 := hd.2.2 f hf
    have hg := Ly.tyG hB f.arg n _ _ _ (by have := hf2.2.2.1; omega) hl
    have hg2 := Ly.tyG hB f.res n _ _ _ (by have := hf2.2.2.2.2; omega) hl2
    obtain ⟨k', s', ad', m', cp', rfl, rfl, rfl⟩ := hg.shape
    obtain ⟨k3, s3, ad3, m3, cp3, rfl, rfl, rfl⟩ := hg2.shape
    exact ⟨s, _, _, _, _, _, _, _, _, _, _, rfl, hs, hg, hg2⟩

set_option maxHeartbeats 64000000 in
set_option maxRecDepth 4000 in
theorem gsameSchema_true (st : List (List Nat × List Pl.Fld)) (en : List (List Nat × List Pl.Cas)) (sv : List (List Nat × List Pl.Mth)) (w : World) (s1 s2 s3 t1 t2 t3 : Value) (hA : SchG st en sv s1 s2 s3 w) (hB : SchG st en sv t1 t2 t3 w) : Calls Tryz.prog 17 #[.agg #[s1, s2, s3], .agg #[t1, t2, t3]] w fun e w' => e = .returned (.bool true) ∧ Below w.heap.size w w' := by
  obtain ⟨a1, c1, a2, c2, a3, c3, rfl, rfl, rfl⟩ := hA.shape
  obtain ⟨b1, d1, b2, d2, b3, d3, rfl, rfl, rfl⟩ := hB.shape
  obtain ⟨hA1, hA2, hA3⟩ := hA
  obtain ⟨hB1, hB2, hB3⟩ := hB
  obtain ⟨m1, hm1⟩ : ∃ m, m = st.length := ⟨_, rfl⟩
  obtain ⟨m2, hm2⟩ : ∃ m, m = en.length := ⟨_, rfl⟩
  obtain ⟨m3, hm3⟩ : ∃ m, m = sv.length := ⟨_, rfl⟩
  rw [← hm1] at hA1 hB1 ⊢
  rw [← hm2] at hA2 hB2 ⊢
  rw [← hm3] at hA3 hB3 ⊢
  have HA1 := hid hA1
  have HA2 := hid hA2
  have HA3 := hid hA3
  have HB1 := hid hB1
  have HB2 := hid hB2
  have HB3 := hid hB3
  have Hm1 := hid hm1
  have Hm2 := hid hm2
  have Hm3 := hid hm3
  have hk1 : m1 ≤ 9223372036854775807 := by
    obtain ⟨_, _, _, h, _⟩ := hA1
    have := hm1
    omega
  have hk2 : m2 ≤ 9223372036854775807 := by
    obtain ⟨_, _, _, h, _⟩ := hA2
    have := hm2
    omega
  have hk3 : m3 ≤ 9223372036854775807 := by
    obtain ⟨_, _, _, h, _⟩ := hA3
    have := hm3
    omega
  have hb0 := below_next (below_alloc w (.cells #[.slice a1 m1 c1, .slice a2 m2 c2, .slice a3 m3 c3] 26)) (below_alloc _ (.cells #[.slice b1 m1 d1, .slice b2 m2 d2, .slice b3 m3 d3] 26))
  have hX := (Bx.new w [.slice a1 m1 c1, .slice a2 m2 c2, .slice a3 m3 c3] 26).alloc (.cells #[.slice b1 m1 d1, .slice b2 m2 d2, .slice b3 m3 d3] 26)
  have hY := Bx.newAt (w := w.alloc (.cells #[.slice a1 m1 c1, .slice a2 m2 c2, .slice a3 m3 c3] 26)) (g := w.heap.size + 1) (by simp) [.slice b1 m1 d1, .slice b2 m2 d2, .slice b3 m3 d3] 26
  clear hA1 hA2 hA3 hB1 hB2 hB3 hm1 hm2 hm3
  have e1 : ((m1 : Int) != (m1 : Int)) = false := by simp
  have e2 : ((m2 : Int) != (m2 : Int)) = false := by simp
  have e3 : ((m3 : Int) != (m3 : Int)) = false := by simp
  go_enter Tryz.func17, Tryz.ntmps17
  go_wp2_with fail
  change Bx ((w.alloc (.cells #[.slice a1 m1 c1, .slice a2 m2 c2, .slice a3 m3 c3] 26)).alloc (.cells #[.slice b1 m1 d1, .slice b2 m2 d2, .slice b3 m3 d3] 26)) _ _ _ at hY
  obtain ⟨bx, hbx⟩ : ∃ b, b = w.heap.size := ⟨_, rfl⟩
  obtain ⟨bY, hbY⟩ : ∃ b, b = w.heap.size + 1 := ⟨_, rfl⟩
  rw [← hbY] at hY ⊢
  rw [← hbx] at hX ⊢
  clear hbx hbY e1 e2 e3
  generalize (w.alloc (.cells #[.slice a1 m1 c1, .slice a2 m2 c2, .slice a3 m3 c3] 26)).alloc (.cells #[.slice b1 m1 d1, .slice b2 m2 d2, .slice b3 m3 d3] 26) = w0 at *
  go_loopw [5] (fun i wr => ∃ k : Nat, k ≤ m1 ∧ i = .int .i64 k ∧ Below w0.heap.size w0 wr) (fun i _ => m1 - (intOf i).toNat)
  case atStart => exact ⟨0, Nat.zero_le _, rfl, Below.refl _ _⟩
  case round =>
    obtain ⟨k, hk, rfl, hbk⟩ := hrel
    have hXk := hX.below hbk
    have hYk := hY.below hbk
    have x0 := hXk.cell 0 rfl
    have x1 := hXk.cell 1 rfl
    have x2 := hXk.cell 2 rfl
    have y0 := hYk.cell 0 rfl
    have y1 := hYk.cell 1 rfl
    have y2 := hYk.cell 2 rfl
    have lx := hXk.lt
    have ly := hYk.lt
    by_cases hlt : k < m1
    · obtain ⟨x, hx⟩ : ∃ x, st[k]? = some x := ⟨st[k]'(by have := Hm1.out; omega), by simp⟩
      have hbw := below_next hb0 hbk
      have hRa := HA1.out.below hbw (fun a c h => DecG.below hbw (FldG.below hbw) a c h)
      have hRb := HB1.out.below hbw (fun a c h => DecG.below hbw (FldG.below hbw) a c h)
      obtain ⟨g, of1, cap, c, hv, hg, ⟨s, ad, m, cp, rfl, hs, hF⟩, hc⟩ := hRa.at hx
      obtain ⟨g', of2, cap', c', hv', hg', ⟨s', ad', m', cp', rfl, hs', hF'⟩, hc'⟩ := hRb.at hx
      injection hv with ha1 hl1 hx1
      injection hv' with hb1' hl1' hx1'
      clear hl1 hl1'
      subst ha1 hb1' hx1 hx1'
      have hss : s = s' := bl_inj (hs.trans hs'.symm)
      subst hss
      have hm : m = x.2.length := by obtain ⟨_, _, hfe⟩ := hF.shape; injection hfe
      have hm' : m' = x.2.length := by obtain ⟨_, _, hfe⟩ := hF'.shape; injection hfe
      have hmm : m' = m := by rw [hm', ← hm]
      subst hmm
      have q0 := hc 0 _ rfl
      have q1 := hc 1 _ rfl
      have r0 := hc' 0 _ rfl
      have r1 := hc' 1 _ rfl
      simp only [Nat.add_zero] at q0 r0
      have hki : (0 : Int) ≤ (k : Int) ∧ (k : Int) < (m1 : Int) := by omega
      have HF := hid hF
      have HF' := hid hF'
      clear hc hc' hRa hRb hs hs' hx hF hF' hm'
      have Hm := hid hm
      clear hm
      go_wp2_with fail
      go_upto_region 6 with fail
      go_cut [6, 7] (fun p q wx => ∃ bA bB, p = .pointer (some ⟨bA, 0, none⟩) ∧ q = .pointer (some ⟨bB, 0, none⟩) ∧ Bx wx bA [.string s, .slice ad m' cp] 60 ∧ Bx wx bB [.string s, .slice ad' m' cp'] 60 ∧ Below wr.heap.size wr wx)
      case first =>
        go_region
        all_goals
          go_wp2
          go_meet
          first
            | exact ⟨wr.heap.size, wr.heap.size + 1, rfl, rfl, ((Bx.new wr _ _).alloc _).below (Below.refl _ _).drew, (Bx.newAt (by simp) _ _).below (Below.refl _ _).drew, (below_next (below_alloc wr _) (below_alloc _ _)).drew⟩
            | exact ⟨wr.heap.size + 1, wr.heap.size, rfl, rfl, (Bx.newAt (by simp) _ _).below (Below.refl _ _).drew, ((Bx.new wr _ _).alloc _).below (Below.refl _ _).drew, (below_next (below_alloc wr _) (below_alloc _ _)).drew⟩
      case rest =>
        obtain ⟨bA, bB, rfl, rfl, hPA, hPB, hbc⟩ := hcut
        have p0 := hPA.cell 0 rfl
        have p1 := hPA.cell 1 rfl
        have o0 := hPB.cell 0 rfl
        have o1 := hPB.cell 1 rfl
        have hbc' := hbk.trans (hbc.mono hbk.size)
        have hF5 := HF.out.below hbc (fun a c h => FldG.below hbc a c h)
        have hF5' := HF'.out.below hbc (fun a c h => FldG.below hbc a c h)
        have HF5 := hid hF5
        have HF5' := hid hF5'
        generalize wc = w5 at *
        clear q0 q1 r0 r1 x0 x1 x2 y0 y1 y2 lx ly hXk hYk HF HF' hF5 hF5' hg hg'
        have em : ((m' : Int) != (m' : Int)) = false := by simp
        have hkm : m' ≤ 9223372036854775807 := by
          obtain ⟨_, _, _, h, _⟩ := HF5.out
          have := Hm.out
          omega
        go_wp2_with fail
        clear p0 p1 o0 o1
        go_loopw [8] (fun i wx => ∃ j : Nat, j ≤ m' ∧ i = .int .i64 j ∧ Below w5.heap.size w5 wx) (fun i _ => m' - (intOf i).toNat)
        case atStart => exact ⟨0, Nat.zero_le _, rfl, Below.refl _ _⟩
        case round =>
          obtain ⟨j, hj, rfl, hbj⟩ := hrel
          have hPAj := hPA.below hbj
          have hPBj := hPB.below hbj
          have p1 := hPAj.cell 1 rfl
          have o1 := hPBj.cell 1 rfl
          by_cases hlj : j < m'
          · obtain ⟨f, hf⟩ : ∃ f, x.2[j]? = some f := ⟨x.2[j]'(by have := Hm.out; omega), by simp⟩
            have hGa := HF5.out.below hbj (fun a c h => FldG.below hbj a c h)
            have hGb := HF5'.out.below hbj (fun a c h => FldG.below hbj a c h)
            obtain ⟨ga, ofa, capa, ca, hva, hga, ⟨sf, kf, nf, adf, mf, cpf, rfl, hsf, htf⟩, hca⟩ := hGa.at hf
            obtain ⟨gb, ofb, capb, cb, hvb, hgb, ⟨sf', kf', nf', adf', mf', cpf', rfl, hsf', htf'⟩, hcb⟩ := hGb.at hf
            injection hva with hva hla hxa
            injection hvb with hvb hlb hxb
            clear hla hlb
            subst hva hvb hxa hxb
            have hss : sf = sf' := bl_inj (hsf.trans hsf'.symm)
            subst hss
            have q0 := hca 0 _ rfl
            have q1 := hca 1 _ rfl
            have q2 := hca 2 _ rfl
            have q3 := hca 3 _ rfl
            have q4 := hca 4 _ rfl
            have r0 := hcb 0 _ rfl
            have r1 := hcb 1 _ rfl
            have r2 := hcb 2 _ rfl
            have r3 := hcb 3 _ rfl
            have r4 := hcb 4 _ rfl
            simp only [Nat.add_zero] at q0 r0
            have hji : (0 : Int) ≤ (j : Int) ∧ (j : Int) < (m' : Int) := by omega
            have lA := hPAj.lt
            have lB := hPBj.lt
            have HTA := hid htf
            have HTB := hid htf'
            clear hca hcb hGa hGb hsf hsf' htf htf'
            generalize f.num = NF at *
            generalize f.ty = TF at *
            clear hf
            go_wp2_with fail
            go_upto_region 12 with fail
            go_cut [9, 10] from 75 to 111 (fun p q wx => ∃ bC bD, p = .pointer (some ⟨bC, 0, none⟩) ∧ q = .pointer (some ⟨bD, 0, none⟩) ∧ Bx wx bC [.string sf, .int .i64 (NF : Int), .int .i64 kf, .string nf, .slice adf mf cpf] 83 ∧ Bx wx bD [.string sf, .int .i64 (NF : Int), .int .i64 kf', .string nf', .slice adf' mf' cpf'] 83 ∧ Below wr.heap.size wr wx)
            case first =>
              go_region
              all_goals
                go_wp2
                go_meet
                first
                  | exact ⟨wr.heap.size, wr.heap.size + 1, rfl, rfl, ((Bx.new wr _ _).alloc _).below (Below.refl _ _).drew, (Bx.newAt (by simp) _ _).below (Below.refl _ _).drew, (below_next (below_alloc wr _) (below_alloc _ _)).drew⟩
                  | exact ⟨wr.heap.size + 1, wr.heap.size, rfl, rfl, (Bx.newAt (by simp) _ _).below (Below.refl _ _).drew, ((Bx.new wr _ _).alloc _).below (Below.refl _ _).drew, (below_next (below_alloc wr _) (below_alloc _ _)).drew⟩
            case rest =>
              obtain ⟨bC, bD, rfl, rfl, hPC, hPD, hbd⟩ := hcut
              have i0 := hPC.cell 0 rfl
              have i1 := hPC.cell 1 rfl
              have i2 := hPC.cell 2 rfl
              have i3 := hPC.cell 3 rfl
              have i4 := hPC.cell 4 rfl
              have l0 := hPD.cell 0 rfl
              have l1 := hPD.cell 1 rfl
              have l2 := hPD.cell 2 rfl
              have l3 := hPD.cell 3 rfl
              have l4 := hPD.cell 4 rfl
              have hst := gsameType_true TF wc _ _ _ _ _ _ (TyG.below hbd _ _ _ _ HTA.out) (TyG.below hbd _ _ _ _ HTB.out)
              have hbjd := hbj.trans (hbd.mono hbj.size)
              have enf : ((NF : Int) != (NF : Int)) = false := by simp
              clear hPC hPD p1 o1 q0 q1 q2 q3 q4 r0 r1 r2 r3 r4
              go_wp2_with fail
              refine hst.mono ?_
              rintro e w7 ⟨rfl, hb7⟩
              clear i0 i1 i2 i3 i4 l0 l1 l2 l3 l4 hst
              go_wp2
              go_roundw
              case rel => exact ⟨j + 1, by omega, by go_num, hbjd.trans (hb7.mono hbjd.size)⟩
              case measure => simp [intOf]; omega
          · have hbx := hbc'.trans (hbj.mono hbc'.size)
            go_wp2
            exact ⟨⟨k + 1, by omega, by go_num, hbx⟩, by simp [intOf]; omega⟩
    · have hb1 : Below w0.heap.size w0 wr := hbk
      go_wp2_with fail
      clear hbk hlt hk x0 y0
      obtain ⟨w1, hw1⟩ : ∃ w1, w1 = wr := ⟨_, rfl⟩
      rw [← hw1] at hb1 hXk hYk x1 x2 y1 y2 lx ly
      go_loopw [11] (fun i wr => ∃ k : Nat, k ≤ m2 ∧ i = .int .i64 k ∧ Below w0.heap.size w0 wr) (fun i _ => m2 - (intOf i).toNat)
      case atStart => exact ⟨0, Nat.zero_le _, rfl, by rw [← hw1]; exact hb1⟩
      case round =>
        obtain ⟨k, hk, rfl, hbk⟩ := hrel
        have hXk := hX.below hbk
        have hYk := hY.below hbk
        have x1 := hXk.cell 1 rfl
        have x2 := hXk.cell 2 rfl
        have y1 := hYk.cell 1 rfl
        have y2 := hYk.cell 2 rfl
        have lx := hXk.lt
        have ly := hYk.lt
        by_cases hlt : k < m2
        · obtain ⟨x, hx⟩ : ∃ x, en[k]? = some x := ⟨en[k]'(by have := Hm2.out; omega), by simp⟩
          have hbw := below_next hb0 hbk
          have hRa := HA2.out.below hbw (fun a c h => DecG.below hbw (fun _ _ h => h) a c h)
          have hRb := HB2.out.below hbw (fun a c h => DecG.below hbw (fun _ _ h => h) a c h)
          obtain ⟨g, of1, cap, c, hv, hg, ⟨s, ad, m, cp, rfl, hs, hF⟩, hc⟩ := hRa.at hx
          obtain ⟨g', of2, cap', c', hv', hg', ⟨s', ad', m', cp', rfl, hs', hF'⟩, hc'⟩ := hRb.at hx
          injection hv with ha1 hl1 hx1
          injection hv' with hb1' hl1' hx1'
          clear hl1 hl1'
          subst ha1 hb1' hx1 hx1'
          have hss : s = s' := bl_inj (hs.trans hs'.symm)
          subst hss
          have hm : m = x.2.length := by obtain ⟨_, _, hfe⟩ := hF.shape; injection hfe
          have hm' : m' = x.2.length := by obtain ⟨_, _, hfe⟩ := hF'.shape; injection hfe
          have hmm : m' = m := by rw [hm', ← hm]
          subst hmm
          have q0 := hc 0 _ rfl
          have q1 := hc 1 _ rfl
          have r0 := hc' 0 _ rfl
          have r1 := hc' 1 _ rfl
          simp only [Nat.add_zero] at q0 r0
          have hki : (0 : Int) ≤ (k : Int) ∧ (k : Int) < (m2 : Int) := by omega
          have HF := hid hF
          have HF' := hid hF'
          clear hc hc' hRa hRb hs hs' hx hF hF' hm'
          have Hm := hid hm
          clear hm
          go_wp2_with fail
          go_upto_region 18 with fail
          go_cut [12, 13] (fun p q wx => ∃ bA bB, p = .pointer (some ⟨bA, 0, none⟩) ∧ q = .pointer (some ⟨bB, 0, none⟩) ∧ Bx wx bA [.string s, .slice ad m' cp] 64 ∧ Bx wx bB [.string s, .slice ad' m' cp'] 64 ∧ Below wr.heap.size wr wx)
          case first =>
            go_region
            all_goals
              go_wp2
              go_meet
              first
                | exact ⟨wr.heap.size, wr.heap.size + 1, rfl, rfl, ((Bx.new wr _ _).alloc _).below (Below.refl _ _).drew, (Bx.newAt (by simp) _ _).below (Below.refl _ _).drew, (below_next (below_alloc wr _) (below_alloc _ _)).drew⟩
                | exact ⟨wr.heap.size + 1, wr.heap.size, rfl, rfl, (Bx.newAt (by simp) _ _).below (Below.refl _ _).drew, ((Bx.new wr _ _).alloc _).below (Below.refl _ _).drew, (below_next (below_alloc wr _) (below_alloc _ _)).drew⟩
          case rest =>
            obtain ⟨bA, bB, rfl, rfl, hPA, hPB, hbc⟩ := hcut
            have p0 := hPA.cell 0 rfl
            have p1 := hPA.cell 1 rfl
            have o0 := hPB.cell 0 rfl
            have o1 := hPB.cell 1 rfl
            have hbc' := hbk.trans (hbc.mono hbk.size)
            have hF5 := HF.out.below hbc (fun a c h => h)
            have hF5' := HF'.out.below hbc (fun a c h => h)
            have HF5 := hid hF5
            have HF5' := hid hF5'
            generalize wc = w5 at *
            clear q0 q1 r0 r1 x1 x2 y1 y2 lx ly hXk hYk HF HF' hF5 hF5' hg hg'
            have em : ((m' : Int) != (m' : Int)) = false := by simp
            have hkm : m' ≤ 9223372036854775807 := by
              obtain ⟨_, _, _, h, _⟩ := HF5.out
              have := Hm.out
              omega
            go_wp2_with fail
            clear p0 p1 o0 o1
            go_loopw [14] (fun i wx => ∃ j : Nat, j ≤ m' ∧ i = .int .i64 j ∧ Below w5.heap.size w5 wx) (fun i _ => m' - (intOf i).toNat)
            case atStart => exact ⟨0, Nat.zero_le _, rfl, Below.refl _ _⟩
            case round =>
              obtain ⟨j, hj, rfl, hbj⟩ := hrel
              have hPAj := hPA.below hbj
              have hPBj := hPB.below hbj
              have p1 := hPAj.cell 1 rfl
              have o1 := hPBj.cell 1 rfl
              by_cases hlj : j < m'
              · obtain ⟨f, hf⟩ : ∃ f, x.2[j]? = some f := ⟨x.2[j]'(by have := Hm.out; omega), by simp⟩
                have hGa := HF5.out.below hbj (fun a c h => h)
                have hGb := HF5'.out.below hbj (fun a c h => h)
                obtain ⟨ga, ofa, capa, ca, hva, hga, ⟨sf, rfl, hsf⟩, hca⟩ := hGa.at hf
                obtain ⟨gb, ofb, capb, cb, hvb, hgb, ⟨sf', rfl, hsf'⟩, hcb⟩ := hGb.at hf
                injection hva with hva hla hxa
                injection hvb with hvb hlb hxb
                clear hla hlb
                subst hva hvb hxa hxb
                have hss : sf = sf' := bl_inj (hsf.trans hsf'.symm)
                subst hss
                have q0 := hca 0 _ rfl
                have q1 := hca 1 _ rfl
                have r0 := hcb 0 _ rfl
                have r1 := hcb 1 _ rfl
                simp only [Nat.add_zero] at q0 r0
                have hji : (0 : Int) ≤ (j : Int) ∧ (j : Int) < (m' : Int) := by omega
                clear hca hcb hGa hGb hsf hsf'
                generalize f.num = NF at *
                clear hf
                have enf : ((NF : Int) == (NF : Int)) = true := by simp
                go_wp2_with fail
                go_quiet (fail)
                go_wp2
                exact ⟨⟨j + 1, by omega, by go_num, below_drewN hbj nq⟩, by simp [intOf]; omega⟩
              · have hbx := hbc'.trans (hbj.mono hbc'.size)
                go_wp2
                exact ⟨⟨k + 1, by omega, by go_num, hbx⟩, by simp [intOf]; omega⟩
        · have hb1 : Below w0.heap.size w0 wr := hbk
          go_wp2_with fail
          clear hbk hlt hk x1 y1
          obtain ⟨w1, hw1⟩ : ∃ w1, w1 = wr := ⟨_, rfl⟩
          rw [← hw1] at hb1 hXk hYk x2 y2 lx ly
          go_loopw [15] (fun i wr => ∃ k : Nat, k ≤ m3 ∧ i = .int .i64 k ∧ Below w0.heap.size w0 wr) (fun i _ => m3 - (intOf i).toNat)
          case atStart => exact ⟨0, Nat.zero_le _, rfl, by rw [← hw1]; exact hb1⟩
          case round =>
            obtain ⟨k, hk, rfl, hbk⟩ := hrel
            have hXk := hX.below hbk
            have hYk := hY.below hbk
            have x2 := hXk.cell 2 rfl
            have y2 := hYk.cell 2 rfl
            have lx := hXk.lt
            have ly := hYk.lt
            by_cases hlt : k < m3
            · obtain ⟨x, hx⟩ : ∃ x, sv[k]? = some x := ⟨sv[k]'(by have := Hm3.out; omega), by simp⟩
              have hbw := below_next hb0 hbk
              have hRa := HA3.out.below hbw (fun a c h => DecG.below hbw (MthG.below hbw) a c h)
              have hRb := HB3.out.below hbw (fun a c h => DecG.below hbw (MthG.below hbw) a c h)
              obtain ⟨g, of1, cap, c, hv, hg, ⟨s, ad, m, cp, rfl, hs, hF⟩, hc⟩ := hRa.at hx
              obtain ⟨g', of2, cap', c', hv', hg', ⟨s', ad', m', cp', rfl, hs', hF'⟩, hc'⟩ := hRb.at hx
              injection hv with ha1 hl1 hx1
              injection hv' with hb1' hl1' hx1'
              clear hl1 hl1'
              subst ha1 hb1' hx1 hx1'
              have hss : s = s' := bl_inj (hs.trans hs'.symm)
              subst hss
              have hm : m = x.2.length := by obtain ⟨_, _, hfe⟩ := hF.shape; injection hfe
              have hm' : m' = x.2.length := by obtain ⟨_, _, hfe⟩ := hF'.shape; injection hfe
              have hmm : m' = m := by rw [hm', ← hm]
              subst hmm
              have q0 := hc 0 _ rfl
              have q1 := hc 1 _ rfl
              have r0 := hc' 0 _ rfl
              have r1 := hc' 1 _ rfl
              simp only [Nat.add_zero] at q0 r0
              have hki : (0 : Int) ≤ (k : Int) ∧ (k : Int) < (m3 : Int) := by omega
              have HF := hid hF
              have HF' := hid hF'
              clear hc hc' hRa hRb hs hs' hx hF hF' hm'
              have Hm := hid hm
              clear hm
              go_wp2_with fail
              go_upto_region 29 with fail
              go_cut [16, 17] (fun p q wx => ∃ bA bB, p = .pointer (some ⟨bA, 0, none⟩) ∧ q = .pointer (some ⟨bB, 0, none⟩) ∧ Bx wx bA [.string s, .slice ad m' cp] 67 ∧ Bx wx bB [.string s, .slice ad' m' cp'] 67 ∧ Below wr.heap.size wr wx)
              case first =>
                go_region
                all_goals
                  go_wp2
                  go_meet
                  first
                    | exact ⟨wr.heap.size, wr.heap.size + 1, rfl, rfl, ((Bx.new wr _ _).alloc _).below (Below.refl _ _).drew, (Bx.newAt (by simp) _ _).below (Below.refl _ _).drew, (below_next (below_alloc wr _) (below_alloc _ _)).drew⟩
                    | exact ⟨wr.heap.size + 1, wr.heap.size, rfl, rfl, (Bx.newAt (by simp) _ _).below (Below.refl _ _).drew, ((Bx.new wr _ _).alloc _).below (Below.refl _ _).drew, (below_next (below_alloc wr _) (below_alloc _ _)).drew⟩
              case rest =>
                obtain ⟨bA, bB, rfl, rfl, hPA, hPB, hbc⟩ := hcut
                have p0 := hPA.cell 0 rfl
                have p1 := hPA.cell 1 rfl
                have o0 := hPB.cell 0 rfl
                have o1 := hPB.cell 1 rfl
                have hbc' := hbk.trans (hbc.mono hbk.size)
                have hF5 := HF.out.below hbc (fun a c h => MthG.below hbc a c h)
                have hF5' := HF'.out.below hbc (fun a c h => MthG.below hbc a c h)
                have HF5 := hid hF5
                have HF5' := hid hF5'
                generalize wc = w5 at *
                clear q0 q1 r0 r1 x2 y2 lx ly hXk hYk HF HF' hF5 hF5' hg hg'
                have em : ((m' : Int) != (m' : Int)) = false := by simp
                have hkm : m' ≤ 9223372036854775807 := by
                  obtain ⟨_, _, _, h, _⟩ := HF5.out
                  have := Hm.out
                  omega
                go_wp2_with fail
                clear p0 p1 o0 o1
                go_loopw [18] (fun i wx => ∃ j : Nat, j ≤ m' ∧ i = .int .i64 j ∧ Below w5.heap.size w5 wx) (fun i _ => m' - (intOf i).toNat)
                case atStart => exact ⟨0, Nat.zero_le _, rfl, Below.refl _ _⟩
                case round =>
                  obtain ⟨j, hj, rfl, hbj⟩ := hrel
                  have hPAj := hPA.below hbj
                  have hPBj := hPB.below hbj
                  have p1 := hPAj.cell 1 rfl
                  have o1 := hPBj.cell 1 rfl
                  by_cases hlj : j < m'
                  · obtain ⟨f, hf⟩ : ∃ f, x.2[j]? = some f := ⟨x.2[j]'(by have := Hm.out; omega), by simp⟩
                    have hGa := HF5.out.below hbj (fun a c h => MthG.below hbj a c h)
                    have hGb := HF5'.out.below hbj (fun a c h => MthG.below hbj a c h)
                    obtain ⟨ga, ofa, capa, ca, hva, hga, hMa, hca⟩ := hGa.at hf
                    obtain ⟨gb, ofb, capb, cb, hvb, hgb, hMb, hcb⟩ := hGb.at hf
                    have hsm := fun W (hb : Below wr.heap.size wr W) => gsameMethod_true f W ca cb (MthG.below hb _ _ hMa) (MthG.below hb _ _ hMb)
                    obtain ⟨sf, k1, n1, u1, v1, w1', k2, n2, u2, v2, w2', rfl, hsf, -, -⟩ := hMa
                    obtain ⟨sf', k3, n3, u3, v3, w3', k4, n4, u4', v4, w4', rfl, hsf', -, -⟩ := hMb
                    injection hva with hva hla hxa
                    injection hvb with hvb hlb hxb
                    have hxa := hxa.symm
                    have hxb := hxb.symm
                    subst hva hvb hxa hxb
                    have hss : sf = sf' := bl_inj (hsf.trans hsf'.symm)
                    subst hss
                    clear hla hlb
                    have q0 := hca 0 _ rfl
                    have r0 := hcb 0 _ rfl
                    have q1 := hca 1 _ rfl
                    have r1 := hcb 1 _ rfl
                    have q2 := hca 2 _ rfl
                    have r2 := hcb 2 _ rfl
                    have q3 := hca 3 _ rfl
                    have r3 := hcb 3 _ rfl
                    have q4 := hca 4 _ rfl
                    have r4 := hcb 4 _ rfl
                    have q5 := hca 5 _ rfl
                    have r5 := hcb 5 _ rfl
                    have q6 := hca 6 _ rfl
                    have r6 := hcb 6 _ rfl
                    have q7 := hca 7 _ rfl
                    have r7 := hcb 7 _ rfl
                    have hji : (0 : Int) ≤ (j : Int) ∧ (j : Int) < (m' : Int) := by omega
                    clear hca hcb hGa hGb hsf hsf'
                    generalize f.once = O at *
                    clear hf
                    simp only [Nat.add_zero] at q0 r0
                    go_wp2_with fail
                    obtain ⟨val, hval⟩ : ∃ val : Nat → Value, val = fun jx => match jx with | 0 => .pointer (some ⟨bA, 1, none⟩) | 1 => .slice (some ⟨ga, ofa, none⟩) m' capa | 2 => .int .i64 (j : Int) | 3 => .pointer (some ⟨ga, ofa + j * 8, none⟩) | 4 => .agg #[.string sf, .bool O, .int .i64 k1, .string n1, .slice u1 v1 w1', .int .i64 k2, .string n2, .slice u2 v2 w2'] | 5 => .pointer (some ⟨bB, 1, none⟩) | 6 => .slice (some ⟨gb, ofb, none⟩) m' capb | 7 => .int .i64 (j : Int) | 8 => .pointer (some ⟨gb, ofb + j * 8, none⟩) | 9 => .agg #[.string sf, .bool O, .int .i64 k3, .string n3, .slice u3 v3 w3', .int .i64 k4, .string n4, .slice u4' v4 w4'] | 10 => .bool true | 11 => .bool false | _ => undef := ⟨_, rfl⟩
                    refine wp_region_fixed (R := fun W => Below wr.heap.size wr W) val (by kernel_rfl) (by kernel_rfl) (by kernel_rfl) (Below.refl _ _).drew ?step ?done
                    case step =>
                        subst hval
                        intro ix o ho A W hsz hdf hfr hdep hR
                        rcases ix with _ | _ | _ | _ | _ | _ | _ | _ | _ | _ | _ | _ | ix
                        · injection ho with ho
                          subst ho
                          have e16 : A.eval (.tmp 16) = .pointer (some ⟨bA, 0, none⟩) := (hfr 16 (noDst_spec (by kernel_rfl))).trans rfl
                          exact gOp_fld (v := .pointer (some ⟨bA, 1, none⟩)) rfl (wanted_plain rfl) rfl e16 (by go_simp) ⟨_, rfl, rfl, Below.refl _ _, hR⟩
                        · injection ho with ho
                          subst ho
                          have e199 : A.eval (.tmp 199) = .pointer (some ⟨bA, 1, none⟩) := hdep ⟨0, .data⟩ (by simp) rfl _ _ rfl rfl
                          have p1 := (hR.cell hPAj.lt).trans p1
                          exact gOp_ld (v := .slice (some ⟨ga, ofa, none⟩) m' capa) rfl (wanted_plain rfl) rfl e199 (by go_simp) ⟨_, rfl, rfl, Below.refl _ _, hR⟩
                        · injection ho with ho
                          subst ho
                          have e18 : A.eval (.tmp 18) = .int .i64 (j : Int) := (hfr 18 (noDst_spec (by kernel_rfl))).trans rfl
                          exact gOp_mv rfl (wanted_plain rfl) (.inl rfl) e18 ⟨_, rfl, rfl, Below.refl _ _, hR⟩
                        · injection ho with ho
                          subst ho
                          have e200 : A.eval (.tmp 200) = .slice (some ⟨ga, ofa, none⟩) m' capa := hdep ⟨1, .data⟩ (by simp) rfl _ _ rfl rfl
                          have e201 : A.eval (.tmp 201) = .int .i64 (j : Int) := hdep ⟨2, .data⟩ (by simp) rfl _ _ rfl rfl
                          have hji := hji
                          exact gOp_ix (v := .pointer (some ⟨ga, ofa + j * 8, none⟩)) rfl (wanted_plain rfl) rfl e200 e201 (by go_simp) ⟨_, rfl, rfl, Below.refl _ _, hR⟩
                        · injection ho with ho
                          subst ho
                          have e202 : A.eval (.tmp 202) = .pointer (some ⟨ga, ofa + j * 8, none⟩) := hdep ⟨3, .data⟩ (by simp) rfl _ _ rfl rfl
                          have q0 := (hR.cell hga).trans q0
                          have q1 := (hR.cell hga).trans q1
                          have q2 := (hR.cell hga).trans q2
                          have q3 := (hR.cell hga).trans q3
                          have q4 := (hR.cell hga).trans q4
                          have q5 := (hR.cell hga).trans q5
                          have q6 := (hR.cell hga).trans q6
                          have q7 := (hR.cell hga).trans q7
                          exact gOp_ld (v := .agg #[.string sf, .bool O, .int .i64 k1, .string n1, .slice u1 v1 w1', .int .i64 k2, .string n2, .slice u2 v2 w2']) rfl (wanted_plain rfl) rfl e202 (by go_simp) ⟨_, rfl, rfl, Below.refl _ _, hR⟩
                        · injection ho with ho
                          subst ho
                          have e17 : A.eval (.tmp 17) = .pointer (some ⟨bB, 0, none⟩) := (hfr 17 (noDst_spec (by kernel_rfl))).trans rfl
                          exact gOp_fld (v := .pointer (some ⟨bB, 1, none⟩)) rfl (wanted_plain rfl) rfl e17 (by go_simp) ⟨_, rfl, rfl, Below.refl _ _, hR⟩
                        · injection ho with ho
                          subst ho
                          have e204 : A.eval (.tmp 204) = .pointer (some ⟨bB, 1, none⟩) := hdep ⟨5, .data⟩ (by simp) rfl _ _ rfl rfl
                          have o1 := (hR.cell hPBj.lt).trans o1
                          exact gOp_ld (v := .slice (some ⟨gb, ofb, none⟩) m' capb) rfl (wanted_plain rfl) rfl e204 (by go_simp) ⟨_, rfl, rfl, Below.refl _ _, hR⟩
                        · injection ho with ho
                          subst ho
                          have e18 : A.eval (.tmp 18) = .int .i64 (j : Int) := (hfr 18 (noDst_spec (by kernel_rfl))).trans rfl
                          exact gOp_mv rfl (wanted_plain rfl) (.inl rfl) e18 ⟨_, rfl, rfl, Below.refl _ _, hR⟩
                        · injection ho with ho
                          subst ho
                          have e205 : A.eval (.tmp 205) = .slice (some ⟨gb, ofb, none⟩) m' capb := hdep ⟨6, .data⟩ (by simp) rfl _ _ rfl rfl
                          have e206 : A.eval (.tmp 206) = .int .i64 (j : Int) := hdep ⟨7, .data⟩ (by simp) rfl _ _ rfl rfl
                          have hji := hji
                          exact gOp_ix (v := .pointer (some ⟨gb, ofb + j * 8, none⟩)) rfl (wanted_plain rfl) rfl e205 e206 (by go_simp) ⟨_, rfl, rfl, Below.refl _ _, hR⟩
                        · injection ho with ho
                          subst ho
                          have e207 : A.eval (.tmp 207) = .pointer (some ⟨gb, ofb + j * 8, none⟩) := hdep ⟨8, .data⟩ (by simp) rfl _ _ rfl rfl
                          have r0 := (hR.cell hgb).trans r0
                          have r1 := (hR.cell hgb).trans r1
                          have r2 := (hR.cell hgb).trans r2
                          have r3 := (hR.cell hgb).trans r3
                          have r4 := (hR.cell hgb).trans r4
                          have r5 := (hR.cell hgb).trans r5
                          have r6 := (hR.cell hgb).trans r6
                          have r7 := (hR.cell hgb).trans r7
                          exact gOp_ld (v := .agg #[.string sf, .bool O, .int .i64 k3, .string n3, .slice u3 v3 w3', .int .i64 k4, .string n4, .slice u4' v4 w4']) rfl (wanted_plain rfl) rfl e207 (by go_simp) ⟨_, rfl, rfl, Below.refl _ _, hR⟩
                        · injection ho with ho
                          subst ho
                          have e203 : A.eval (.tmp 203) = .agg #[.string sf, .bool O, .int .i64 k1, .string n1, .slice u1 v1 w1', .int .i64 k2, .string n2, .slice u2 v2 w2'] := hdep ⟨4, .data⟩ (by simp) rfl _ _ rfl rfl
                          have e208 : A.eval (.tmp 208) = .agg #[.string sf, .bool O, .int .i64 k3, .string n3, .slice u3 v3 w3', .int .i64 k4, .string n4, .slice u4' v4 w4'] := hdep ⟨9, .data⟩ (by simp) rfl _ _ rfl rfl
                          refine gOp_enter rfl (wanted_plain rfl) 19 #[.agg #[.string sf, .bool O, .int .i64 k1, .string n1, .slice u1 v1 w1', .int .i64 k2, .string n2, .slice u2 v2 w2'], .agg #[.string sf, .bool O, .int .i64 k3, .string n3, .slice u3 v3 w3', .int .i64 k4, .string n4, .slice u4' v4 w4']] (run_call _ (fun _ _ => rfl) _ _ rfl _ (by simp [e203, e208])) ?_
                          refine (hsm W hR).mono ?_
                          rintro e w' ⟨rfl, hb'⟩
                          exact ⟨_, rfl, _, rfl, rfl, hb', hR.trans (hb'.mono hR.size)⟩
                        · injection ho with ho
                          subst ho
                          have e209 : A.eval (.tmp 209) = .bool true := hdep ⟨10, .data⟩ (by simp) rfl _ _ rfl rfl
                          exact gOp_not rfl (wanted_plain rfl) rfl e209 ⟨_, rfl, rfl, Below.refl _ _, hR⟩
                        · simp at ho
                    case done =>
                        intro W hR
                        subst hval
                        simp only [putL, Act.put, List.setIfInBounds_toArray, List.set_cons_zero, List.set_cons_succ]
                        go_wp2
                        go_roundw
                        case rel => exact ⟨j + 1, by omega, by go_num, hbj.trans (hR.mono hbj.size)⟩
                        case measure => simp [intOf]; omega
                  · have hbx := hbc'.trans (hbj.mono hbc'.size)
                    go_wp2
                    exact ⟨⟨k + 1, by omega, by go_num, hbx⟩, by simp [intOf]; omega⟩
            · go_wp2
              go_ret
              exact ⟨rfl, below_next hb0 hbk⟩
end Go.Proofs.YtdbgncdnffbhkaaGreatDoor

