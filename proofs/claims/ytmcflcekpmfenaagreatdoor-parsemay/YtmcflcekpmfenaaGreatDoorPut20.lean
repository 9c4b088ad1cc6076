/- Are schemas one? What Text has told is printed: a schema told, as one of any make; what a text tells. ParseMay: the walk. -/
import Derived.Test.YtmcflcekpmfenaaGreatDoorPut19
import Derived.Laws.StructEq
import Derived.Deep.CutRange
namespace Go.Proofs.YtmcflcekpmfenaaGreatDoor
open Go.RowKit
set_option maxRecDepth 20000

theorem Rows.below {α : Type} {T : TypeId} {m : Nat} {R : α → List Value → World → Prop} {B : Nat} {w w' : World} {v : Value} {xs : List α} (h : Rows T m R B w v xs) (hb : Below w.heap.size w w') (hR : ∀ a c, R a c w → R a c w') : Rows T m R B w' v xs :=
  h.ch (X := fun _ _ => False) (Ch.below hb) hR (fun _ _ h => h)

set_option maxHeartbeats 64000000 in
set_option maxRecDepth 4000 in
theorem sameSchema_true (Ba Bb : Nat) (ds : List Pl.Decl) (w : World) (s1 s2 s3 t1 t2 t3 : Value) (hA : SchV Ba ds s1 s2 s3 w) (hB : SchV Bb ds t1 t2 t3 w) : Calls Tryz.prog 12 #[.agg #[s1, s2, s3], .agg #[t1, t2, t3]] w fun e w' => e = .returned (.bool true) ∧ Below w.heap.size w w' := by
  obtain ⟨a1, c1, a2, c2, a3, c3, rfl, rfl, rfl⟩ := hA.shape
  obtain ⟨b1, d1, b2, d2, b3, d3, rfl, rfl, rfl⟩ := hB.shape
  obtain ⟨hA1, hA2, hA3⟩ := hA
  obtain ⟨hB1, hB2, hB3⟩ := hB
  obtain ⟨m1, hm1⟩ : ∃ m, m = (stOf ds).length := ⟨_, rfl⟩
  obtain ⟨m2, hm2⟩ : ∃ m, m = (enOf ds).length := ⟨_, rfl⟩
  obtain ⟨m3, hm3⟩ : ∃ m, m = (svOf ds).length := ⟨_, rfl⟩
  rw [← hm1] at hA1 hB1 ⊢
  rw [← hm2] at hA2 hB2 ⊢
  rw [← hm3] at hA3 hB3 ⊢
  have HA1 := hid hA1
  have HA2 := hid hA2
  have HA3 := hid hA3
  have HB1 := hid hB1
  have HB2 := hid hB2
  have HB3 := hid hB3
  have Hm1 := hid hm1
  have Hm2 := hid hm2
  have Hm3 := hid hm3
  have hk1 : m1 ≤ 9223372036854775807 := by
    rcases Nat.eq_zero_or_pos m1 with h | h
    · omega
    · obtain ⟨x, hx⟩ : ∃ x, (stOf ds)[0]? = some x := ⟨(stOf ds)[0]'(by omega), by simp⟩
      obtain ⟨_, cap, _, he, h1, h2, _⟩ := hA1.at hx
      unfold maxLen at h2
      omega
  have hk2 : m2 ≤ 9223372036854775807 := by
    rcases Nat.eq_zero_or_pos m2 with h | h
    · omega
    · obtain ⟨x, hx⟩ : ∃ x, (enOf ds)[0]? = some x := ⟨(enOf ds)[0]'(by omega), by simp⟩
      obtain ⟨_, cap, _, he, h1, h2, _⟩ := hA2.at hx
      unfold maxLen at h2
      omega
  have hk3 : m3 ≤ 9223372036854775807 := by
    rcases Nat.eq_zero_or_pos m3 with h | h
    · omega
    · obtain ⟨x, hx⟩ : ∃ x, (svOf ds)[0]? = some x := ⟨(svOf ds)[0]'(by omega), by simp⟩
      obtain ⟨_, cap, _, he, h1, h2, _⟩ := hA3.at hx
      unfold maxLen at h2
      omega
  have hb0 := below_next (below_alloc w (.cells #[.slice a1 m1 c1, .slice a2 m2 c2, .slice a3 m3 c3] 27)) (below_alloc _ (.cells #[.slice b1 m1 d1, .slice b2 m2 d2, .slice b3 m3 d3] 27))
  have hX := (Bx.new w [.slice a1 m1 c1, .slice a2 m2 c2, .slice a3 m3 c3] 27).alloc (.cells #[.slice b1 m1 d1, .slice b2 m2 d2, .slice b3 m3 d3] 27)
  have hY := Bx.newAt (w := w.alloc (.cells #[.slice a1 m1 c1, .slice a2 m2 c2, .slice a3 m3 c3] 27)) (g := w.heap.size + 1) (by simp) [.slice b1 m1 d1, .slice b2 m2 d2, .slice b3 m3 d3] 27
  clear hA1 hA2 hA3 hB1 hB2 hB3 hm1 hm2 hm3
  have e1 : ((m1 : Int) != (m1 : Int)) = false := by simp
  have e2 : ((m2 : Int) != (m2 : Int)) = false := by simp
  have e3 : ((m3 : Int) != (m3 : Int)) = false := by simp
  go_enter Tryz.func12, Tryz.ntmps12
  go_wp2_with fail
  change Bx ((w.alloc (.cells #[.slice a1 m1 c1, .slice a2 m2 c2, .slice a3 m3 c3] 27)).alloc (.cells #[.slice b1 m1 d1, .slice b2 m2 d2, .slice b3 m3 d3] 27)) _ _ _ at hY
  obtain ⟨bx, hbx⟩ : ∃ b, b = w.heap.size := ⟨_, rfl⟩
  obtain ⟨bY, hbY⟩ : ∃ b, b = w.heap.size + 1 := ⟨_, rfl⟩
  rw [← hbY] at hY ⊢
  rw [← hbx] at hX ⊢
  clear hbx hbY e1 e2 e3
  generalize (w.alloc (.cells #[.slice a1 m1 c1, .slice a2 m2 c2, .slice a3 m3 c3] 27)).alloc (.cells #[.slice b1 m1 d1, .slice b2 m2 d2, .slice b3 m3 d3] 27) = w0 at *
  go_loopw [5] (fun i wr => ∃ k : Nat, k ≤ m1 ∧ i = .int .i64 k ∧ Below w0.heap.size w0 wr) (fun i _ => m1 - (intOf i).toNat)
  case atStart => exact ⟨0, Nat.zero_le _, rfl, Below.refl _ _⟩
  case round =>
    obtain ⟨k, hk, rfl, hbk⟩ := hrel
    have hXk := hX.below hbk
    have hYk := hY.below hbk
    have x0 := hXk.cell 0 rfl
    have x1 := hXk.cell 1 rfl
    have x2 := hXk.cell 2 rfl
    have y0 := hYk.cell 0 rfl
    have y1 := hYk.cell 1 rfl
    have y2 := hYk.cell 2 rfl
    have lx := hXk.lt
    have ly := hYk.lt
    by_cases hlt : k < m1
    · obtain ⟨x, hx⟩ : ∃ x, (stOf ds)[k]? = some x := ⟨(stOf ds)[k]'(by have := Hm1.out; omega), by simp⟩
      have hbw := below_next hb0 hbk
      have hRa := HA1.out.below hbw (fun a c h => SctR.ch (n := 0) (Tr := 85) (.inl rfl) (Ch.below hbw) a c h)
      have hRb := HB1.out.below hbw (fun a c h => SctR.ch (n := 0) (Tr := 85) (.inl rfl) (Ch.below hbw) a c h)
      obtain ⟨g, cap, c, hv, -, -, hg, ⟨s, ad, m, cp, rfl, hs, hF⟩, -, hc⟩ := hRa.at hx
      obtain ⟨g', cap', c', hv', -, -, hg', ⟨s', ad', m', cp', rfl, hs', hF'⟩, -, hc'⟩ := hRb.at hx
      injection hv with ha1 hl1 hx1
      injection hv' with hb1' hl1' hx1'
      clear hl1 hl1'
      subst ha1 hb1' hx1 hx1'
      have hss : s = s' := bl_inj (hs.trans hs'.symm)
      subst hss
      have hm : m = x.2.length := by obtain ⟨_, _, hfe⟩ := hF.shape; injection hfe
      have hm' : m' = x.2.length := by obtain ⟨_, _, hfe⟩ := hF'.shape; injection hfe
      have hmm : m' = m := by rw [hm', ← hm]
      subst hmm
      have q0 := hc 0 _ rfl
      have q1 := hc 1 _ rfl
      have r0 := hc' 0 _ rfl
      have r1 := hc' 1 _ rfl
      simp only [Nat.add_zero] at q0 r0
      have hki : (0 : Int) ≤ (k : Int) ∧ (k : Int) < (m1 : Int) := by omega
      have HF := hid hF
      have HF' := hid hF'
      clear hc hc' hRa hRb hs hs' hx hF hF' hm'
      have Hm := hid hm
      clear hm
      go_wp2_with fail
      go_upto_region 6 with fail
      go_cut [6, 7] (fun p q wx => ∃ bA bB, p = .pointer (some ⟨bA, 0, none⟩) ∧ q = .pointer (some ⟨bB, 0, none⟩) ∧ Bx wx bA [.string s, .slice ad m' cp] 85 ∧ Bx wx bB [.string s, .slice ad' m' cp'] 85 ∧ Below wr.heap.size wr wx)
      case first =>
        go_region
        all_goals
          go_wp2
          go_meet
          first
            | exact ⟨wr.heap.size, wr.heap.size + 1, rfl, rfl, ((Bx.new wr _ _).alloc _).below (Below.refl _ _).drew, (Bx.newAt (by simp) _ _).below (Below.refl _ _).drew, (below_next (below_alloc wr _) (below_alloc _ _)).drew⟩
            | exact ⟨wr.heap.size + 1, wr.heap.size, rfl, rfl, (Bx.newAt (by simp) _ _).below (Below.refl _ _).drew, ((Bx.new wr _ _).alloc _).below (Below.refl _ _).drew, (below_next (below_alloc wr _) (below_alloc _ _)).drew⟩
      case rest =>
        obtain ⟨bA, bB, rfl, rfl, hPA, hPB, hbc⟩ := hcut
        have p0 := hPA.cell 0 rfl
        have p1 := hPA.cell 1 rfl
        have o0 := hPB.cell 0 rfl
        have o1 := hPB.cell 1 rfl
        have hbc' := hbk.trans (hbc.mono hbk.size)
        have hF5 := HF.out.below hbc (fun a c h => FldR.below h hbc)
        have hF5' := HF'.out.below hbc (fun a c h => FldR.below h hbc)
        have HF5 := hid hF5
        have HF5' := hid hF5'
        generalize wc = w5 at *
        clear q0 q1 r0 r1 x0 x1 x2 y0 y1 y2 lx ly hXk hYk HF HF' hF5 hF5' hg hg'
        have em : ((m' : Int) != (m' : Int)) = false := by simp
        have hkm : m' ≤ 9223372036854775807 := by
          rcases Nat.eq_zero_or_pos m' with h | h
          · omega
          · obtain ⟨x', hx'⟩ : ∃ x', x.2[0]? = some x' := ⟨x.2[0]'(by have := Hm.out; omega), by simp⟩
            obtain ⟨_, cap, _, he, h1, h2, _⟩ := HF5.out.at hx'
            have := Hm.out
            unfold maxLen at h2
            omega
        go_wp2_with fail
        clear p0 p1 o0 o1
        go_loopw [8] (fun i wx => ∃ j : Nat, j ≤ m' ∧ i = .int .i64 j ∧ Below w5.heap.size w5 wx) (fun i _ => m' - (intOf i).toNat)
        case atStart => exact ⟨0, Nat.zero_le _, rfl, Below.refl _ _⟩
        case round =>
          obtain ⟨j, hj, rfl, hbj⟩ := hrel
          have hPAj := hPA.below hbj
          have hPBj := hPB.below hbj
          have p1 := hPAj.cell 1 rfl
          have o1 := hPBj.cell 1 rfl
          by_cases hlj : j < m'
          · obtain ⟨f, hf⟩ : ∃ f, x.2[j]? = some f := ⟨x.2[j]'(by have := Hm.out; omega), by simp⟩
            have hGa := HF5.out.below hbj (fun a c h => FldR.below h hbj)
            have hGb := HF5'.out.below hbj (fun a c h => FldR.below h hbj)
            obtain ⟨ga, capa, ca, hva, -, -, hga, ⟨sf, kf, nf, adf, mf, cpf, rfl, hsf, htf⟩, -, hca⟩ := hGa.at hf
            obtain ⟨gb, capb, cb, hvb, -, -, hgb, ⟨sf', kf', nf', adf', mf', cpf', rfl, hsf', htf'⟩, -, hcb⟩ := hGb.at hf
            injection hva with hva hla hxa
            injection hvb with hvb hlb hxb
            clear hla hlb
            subst hva hvb hxa hxb
            have hss : sf = sf' := bl_inj (hsf.trans hsf'.symm)
            subst hss
            have q0 := hca 0 _ rfl
            have q1 := hca 1 _ rfl
            have q2 := hca 2 _ rfl
            have q3 := hca 3 _ rfl
            have q4 := hca 4 _ rfl
            have r0 := hcb 0 _ rfl
            have r1 := hcb 1 _ rfl
            have r2 := hcb 2 _ rfl
            have r3 := hcb 3 _ rfl
            have r4 := hcb 4 _ rfl
            simp only [Nat.add_zero] at q0 r0
            have hji : (0 : Int) ≤ (j : Int) ∧ (j : Int) < (m' : Int) := by omega
            have lA := hPAj.lt
            have lB := hPBj.lt
            have HTA := hid htf
            have HTB := hid htf'
            clear hca hcb hGa hGb hsf hsf' htf htf'
            generalize f.num = NF at *
            generalize f.ty = TF at *
            clear hf
            go_wp2_with fail
            go_upto_region 12 with fail
            go_cut [9, 10] from 75 to 111 (fun p q wx => ∃ bC bD, p = .pointer (some ⟨bC, 0, none⟩) ∧ q = .pointer (some ⟨bD, 0, none⟩) ∧ Bx wx bC [.string sf, .int .i64 (NF : Int), .int .i64 kf, .string nf, .slice adf mf cpf] 88 ∧ Bx wx bD [.string sf, .int .i64 (NF : Int), .int .i64 kf', .string nf', .slice adf' mf' cpf'] 88 ∧ Below wr.heap.size wr wx)
            case first =>
              go_region
              all_goals
                go_wp2
                go_meet
                first
                  | exact ⟨wr.heap.size, wr.heap.size + 1, rfl, rfl, ((Bx.new wr _ _).alloc _).below (Below.refl _ _).drew, (Bx.newAt (by simp) _ _).below (Below.refl _ _).drew, (below_next (below_alloc wr _) (below_alloc _ _)).drew⟩
                  | exact ⟨wr.heap.size + 1, wr.heap.size, rfl, rfl, (Bx.newAt (by simp) _ _).below (Below.refl _ _).drew, ((Bx.new wr _ _).alloc _).below (Below.refl _ _).drew, (below_next (below_alloc wr _) (below_alloc _ _)).drew⟩
            case rest =>
              obtain ⟨bC, bD, rfl, rfl, hPC, hPD, hbd⟩ := hcut
              have i0 := hPC.cell 0 rfl
              have i1 := hPC.cell 1 rfl
              have i2 := hPC.cell 2 rfl
              have i3 := hPC.cell 3 rfl
              have i4 := hPC.cell 4 rfl
              have l0 := hPD.cell 0 rfl
              have l1 := hPD.cell 1 rfl
              have l2 := hPD.cell 2 rfl
              have l3 := hPD.cell 3 rfl
              have l4 := hPD.cell 4 rfl
              have hst := sameType_true Ba Bb TF wc _ _ _ _ _ _ (HTA.out.below hbd) (HTB.out.below hbd)
              have hbjd := hbj.trans (hbd.mono hbj.size)
              have en : ((NF : Int) != (NF : Int)) = false := by simp
              clear hPC hPD p1 o1 q0 q1 q2 q3 q4 r0 r1 r2 r3 r4
              go_wp2_with fail
              refine hst.mono ?_
              rintro e w7 ⟨rfl, hb7⟩
              clear i0 i1 i2 i3 i4 l0 l1 l2 l3 l4 hst
              go_wp2
              go_roundw
              case rel => exact ⟨j + 1, by omega, by go_num, hbjd.trans (hb7.mono hbjd.size)⟩
              case measure => simp [intOf]; omega
          · have hbx := hbc'.trans (hbj.mono hbc'.size)
            go_wp2
            exact ⟨⟨k + 1, by omega, by go_num, hbx⟩, by simp [intOf]; omega⟩
    · have hb1 : Below w0.heap.size w0 wr := hbk
      go_wp2_with fail
      clear hbk hlt hk x0 y0
      obtain ⟨w1, hw1⟩ : ∃ w1, w1 = wr := ⟨_, rfl⟩
      rw [← hw1] at hb1 hXk hYk x1 x2 y1 y2 lx ly
      go_loopw [11] (fun i wr => ∃ k : Nat, k ≤ m2 ∧ i = .int .i64 k ∧ Below w0.heap.size w0 wr) (fun i _ => m2 - (intOf i).toNat)
      case atStart => exact ⟨0, Nat.zero_le _, rfl, by rw [← hw1]; exact hb1⟩
      case round =>
        obtain ⟨k, hk, rfl, hbk⟩ := hrel
        have hXk := hX.below hbk
        have hYk := hY.below hbk
        have x1 := hXk.cell 1 rfl
        have x2 := hXk.cell 2 rfl
        have y1 := hYk.cell 1 rfl
        have y2 := hYk.cell 2 rfl
        have lx := hXk.lt
        have ly := hYk.lt
        by_cases hlt : k < m2
        · obtain ⟨x, hx⟩ : ∃ x, (enOf ds)[k]? = some x := ⟨(enOf ds)[k]'(by have := Hm2.out; omega), by simp⟩
          have hbw := below_next hb0 hbk
          have hRa := HA2.out.below hbw (fun a c h => EnmR.ch (n := 0) (Tr := 85) (.inl rfl) (Ch.below hbw) a c h)
          have hRb := HB2.out.below hbw (fun a c h => EnmR.ch (n := 0) (Tr := 85) (.inl rfl) (Ch.below hbw) a c h)
          obtain ⟨g, cap, c, hv, -, -, hg, ⟨s, ad, m, cp, rfl, hs, hF⟩, -, hc⟩ := hRa.at hx
          obtain ⟨g', cap', c', hv', -, -, hg', ⟨s', ad', m', cp', rfl, hs', hF'⟩, -, hc'⟩ := hRb.at hx
          injection hv with ha1 hl1 hx1
          injection hv' with hb1' hl1' hx1'
          clear hl1 hl1'
          subst ha1 hb1' hx1 hx1'
          have hss : s = s' := bl_inj (hs.trans hs'.symm)
          subst hss
          have hm : m = x.2.length := by obtain ⟨_, _, hfe⟩ := hF.shape; injection hfe
          have hm' : m' = x.2.length := by obtain ⟨_, _, hfe⟩ := hF'.shape; injection hfe
          have hmm : m' = m := by rw [hm', ← hm]
          subst hmm
          have q0 := hc 0 _ rfl
          have q1 := hc 1 _ rfl
          have r0 := hc' 0 _ rfl
          have r1 := hc' 1 _ rfl
          simp only [Nat.add_zero] at q0 r0
          have hki : (0 : Int) ≤ (k : Int) ∧ (k : Int) < (m2 : Int) := by omega
          have HF := hid hF
          have HF' := hid hF'
          clear hc hc' hRa hRb hs hs' hx hF hF' hm'
          have Hm := hid hm
          clear hm
          go_wp2_with fail
          go_upto_region 18 with fail
          go_cut [12, 13] (fun p q wx => ∃ bA bB, p = .pointer (some ⟨bA, 0, none⟩) ∧ q = .pointer (some ⟨bB, 0, none⟩) ∧ Bx wx bA [.string s, .slice ad m' cp] 92 ∧ Bx wx bB [.string s, .slice ad' m' cp'] 92 ∧ Below wr.heap.size wr wx)
          case first =>
            go_region
            all_goals
              go_wp2
              go_meet
              first
                | exact ⟨wr.heap.size, wr.heap.size + 1, rfl, rfl, ((Bx.new wr _ _).alloc _).below (Below.refl _ _).drew, (Bx.newAt (by simp) _ _).below (Below.refl _ _).drew, (below_next (below_alloc wr _) (below_alloc _ _)).drew⟩
                | exact ⟨wr.heap.size + 1, wr.heap.size, rfl, rfl, (Bx.newAt (by simp) _ _).below (Below.refl _ _).drew, ((Bx.new wr _ _).alloc _).below (Below.refl _ _).drew, (below_next (below_alloc wr _) (below_alloc _ _)).drew⟩
          case rest =>
            obtain ⟨bA, bB, rfl, rfl, hPA, hPB, hbc⟩ := hcut
            have p0 := hPA.cell 0 rfl
            have p1 := hPA.cell 1 rfl
            have o0 := hPB.cell 0 rfl
            have o1 := hPB.cell 1 rfl
            have hbc' := hbk.trans (hbc.mono hbk.size)
            have hF5 := HF.out.below hbc (fun a c h => h)
            have hF5' := HF'.out.below hbc (fun a c h => h)
            have HF5 := hid hF5
            have HF5' := hid hF5'
            generalize wc = w5 at *
            clear q0 q1 r0 r1 x1 x2 y1 y2 lx ly hXk hYk HF HF' hF5 hF5' hg hg'
            have em : ((m' : Int) != (m' : Int)) = false := by simp
            have hkm : m' ≤ 9223372036854775807 := by
              rcases Nat.eq_zero_or_pos m' with h | h
              · omega
              · obtain ⟨x', hx'⟩ : ∃ x', x.2[0]? = some x' := ⟨x.2[0]'(by have := Hm.out; omega), by simp⟩
                obtain ⟨_, cap, _, he, h1, h2, _⟩ := HF5.out.at hx'
                have := Hm.out
                unfold maxLen at h2
                omega
            go_wp2_with fail
            clear p0 p1 o0 o1
            go_loopw [14] (fun i wx => ∃ j : Nat, j ≤ m' ∧ i = .int .i64 j ∧ Below w5.heap.size w5 wx) (fun i _ => m' - (intOf i).toNat)
            case atStart => exact ⟨0, Nat.zero_le _, rfl, Below.refl _ _⟩
            case round =>
              obtain ⟨j, hj, rfl, hbj⟩ := hrel
              have hPAj := hPA.below hbj
              have hPBj := hPB.below hbj
              have p1 := hPAj.cell 1 rfl
              have o1 := hPBj.cell 1 rfl
              by_cases hlj : j < m'
              · obtain ⟨f, hf⟩ : ∃ f, x.2[j]? = some f := ⟨x.2[j]'(by have := Hm.out; omega), by simp⟩
                have hGa := HF5.out.below hbj (fun a c h => h)
                have hGb := HF5'.out.below hbj (fun a c h => h)
                obtain ⟨ga, capa, ca, hva, -, -, hga, ⟨sf, rfl, hsf⟩, -, hca⟩ := hGa.at hf
                obtain ⟨gb, capb, cb, hvb, -, -, hgb, ⟨sf', rfl, hsf'⟩, -, hcb⟩ := hGb.at hf
                injection hva with hva hla hxa
                injection hvb with hvb hlb hxb
                clear hla hlb
                subst hva hvb hxa hxb
                have hss : sf = sf' := bl_inj (hsf.trans hsf'.symm)
                subst hss
                have q0 := hca 0 _ rfl
                have q1 := hca 1 _ rfl
                have r0 := hcb 0 _ rfl
                have r1 := hcb 1 _ rfl
                simp only [Nat.add_zero] at q0 r0
                have hji : (0 : Int) ≤ (j : Int) ∧ (j : Int) < (m' : Int) := by omega
                clear hca hcb hGa hGb hsf hsf'
                generalize f.num = NF at *
                clear hf
                have en : ((NF : Int) == (NF : Int)) = true := by simp
                go_wp2_with fail
                go_quiet (fail)
                go_wp2
                exact ⟨⟨j + 1, by omega, by go_num, below_drewN hbj nq⟩, by simp [intOf]; omega⟩
              · have hbx := hbc'.trans (hbj.mono hbc'.size)
                go_wp2
                exact ⟨⟨k + 1, by omega, by go_num, hbx⟩, by simp [intOf]; omega⟩
        · have hb1 : Below w0.heap.size w0 wr := hbk
          go_wp2_with fail
          clear hbk hlt hk x1 y1
          obtain ⟨w1, hw1⟩ : ∃ w1, w1 = wr := ⟨_, rfl⟩
          rw [← hw1] at hb1 hXk hYk x2 y2 lx ly
          go_loopw [15] (fun i wr => ∃ k : Nat, k ≤ m3 ∧ i = .int .i64 k ∧ Below w0.heap.size w0 wr) (fun i _ => m3 - (intOf i).toNat)
          case atStart => exact ⟨0, Nat.zero_le _, rfl, by rw [← hw1]; exact hb1⟩
          case round =>
            obtain ⟨k, hk, rfl, hbk⟩ := hrel
            have hXk := hX.below hbk
            have hYk := hY.below hbk
            have x2 := hXk.cell 2 rfl
            have y2 := hYk.cell 2 rfl
            have lx := hXk.lt
            have ly := hYk.lt
            by_cases hlt : k < m3
            · obtain ⟨x, hx⟩ : ∃ x, (svOf ds)[k]? = some x := ⟨(svOf ds)[k]'(by have := Hm3.out; omega), by simp⟩
              have hbw := below_next hb0 hbk
              have hRa := HA3.out.below hbw (fun a c h => SvcR.ch (n := 0) (Tr := 85) (.inl rfl) (Ch.below hbw) a c h)
              have hRb := HB3.out.below hbw (fun a c h => SvcR.ch (n := 0) (Tr := 85) (.inl rfl) (Ch.below hbw) a c h)
              obtain ⟨g, cap, c, hv, -, -, hg, ⟨s, ad, m, cp, rfl, hs, hF⟩, -, hc⟩ := hRa.at hx
              obtain ⟨g', cap', c', hv', -, -, hg', ⟨s', ad', m', cp', rfl, hs', hF'⟩, -, hc'⟩ := hRb.at hx
              injection hv with ha1 hl1 hx1
              injection hv' with hb1' hl1' hx1'
              clear hl1 hl1'
              subst ha1 hb1' hx1 hx1'
              have hss : s = s' := bl_inj (hs.trans hs'.symm)
              subst hss
              have hm : m = x.2.length := by obtain ⟨_, _, hfe⟩ := hF.shape; injection hfe
              have hm' : m' = x.2.length := by obtain ⟨_, _, hfe⟩ := hF'.shape; injection hfe
              have hmm : m' = m := by rw [hm', ← hm]
              subst hmm
              have q0 := hc 0 _ rfl
              have q1 := hc 1 _ rfl
              have r0 := hc' 0 _ rfl
              have r1 := hc' 1 _ rfl
              simp only [Nat.add_zero] at q0 r0
              have hki : (0 : Int) ≤ (k : Int) ∧ (k : Int) < (m3 : Int) := by omega
              have HF := hid hF
              have HF' := hid hF'
              clear hc hc' hRa hRb hs hs' hx hF hF' hm'
              have Hm := hid hm
              clear hm
              go_wp2_with fail
              go_upto_region 29 with fail
              go_cut [16, 17] (fun p q wx => ∃ bA bB, p = .pointer (some ⟨bA, 0, none⟩) ∧ q = .pointer (some ⟨bB, 0, none⟩) ∧ Bx wx bA [.string s, .slice ad m' cp] 97 ∧ Bx wx bB [.string s, .slice ad' m' cp'] 97 ∧ Below wr.heap.size wr wx)
              case first =>
                go_region
                all_goals
                  go_wp2
                  go_meet
                  first
                    | exact ⟨wr.heap.size, wr.heap.size + 1, rfl, rfl, ((Bx.new wr _ _).alloc _).below (Below.refl _ _).drew, (Bx.newAt (by simp) _ _).below (Below.refl _ _).drew, (below_next (below_alloc wr _) (below_alloc _ _)).drew⟩
                    | exact ⟨wr.heap.size + 1, wr.heap.size, rfl, rfl, (Bx.newAt (by simp) _ _).below (Below.refl _ _).drew, ((Bx.new wr _ _).alloc _).below (Below.refl _ _).drew, (below_next (below_alloc wr _) (below_alloc _ _)).drew⟩
              case rest =>
                obtain ⟨bA, bB, rfl, rfl, hPA, hPB, hbc⟩ := hcut
                have p0 := hPA.cell 0 rfl
                have p1 := hPA.cell 1 rfl
                have o0 := hPB.cell 0 rfl
                have o1 := hPB.cell 1 rfl
                have hbc' := hbk.trans (hbc.mono hbk.size)
                have hF5 := HF.out.below hbc (fun a c h => MthR.below h hbc)
                have hF5' := HF'.out.below hbc (fun a c h => MthR.below h hbc)
                have HF5 := hid hF5
                have HF5' := hid hF5'
                generalize wc = w5 at *
                clear q0 q1 r0 r1 x2 y2 lx ly hXk hYk HF HF' hF5 hF5' hg hg'
                have em : ((m' : Int) != (m' : Int)) = false := by simp
                have hkm : m' ≤ 9223372036854775807 := by
                  rcases Nat.eq_zero_or_pos m' with h | h
                  · omega
                  · obtain ⟨x', hx'⟩ : ∃ x', x.2[0]? = some x' := ⟨x.2[0]'(by have := Hm.out; omega), by simp⟩
                    obtain ⟨_, cap, _, he, h1, h2, _⟩ := HF5.out.at hx'
                    have := Hm.out
                    unfold maxLen at h2
                    omega
                go_wp2_with fail
                clear p0 p1 o0 o1
                go_loopw [18] (fun i wx => ∃ j : Nat, j ≤ m' ∧ i = .int .i64 j ∧ Below w5.heap.size w5 wx) (fun i _ => m' - (intOf i).toNat)
                case atStart => exact ⟨0, Nat.zero_le _, rfl, Below.refl _ _⟩
                case round =>
                  obtain ⟨j, hj, rfl, hbj⟩ := hrel
                  have hPAj := hPA.below hbj
                  have hPBj := hPB.below hbj
                  have p1 := hPAj.cell 1 rfl
                  have o1 := hPBj.cell 1 rfl
                  by_cases hlj : j < m'
                  · obtain ⟨f, hf⟩ : ∃ f, x.2[j]? = some f := ⟨x.2[j]'(by have := Hm.out; omega), by simp⟩
                    have hGa := HF5.out.below hbj (fun a c h => MthR.below h hbj)
                    have hGb := HF5'.out.below hbj (fun a c h => MthR.below h hbj)
                    obtain ⟨ga, capa, ca, hva, -, -, hga, hMa, -, hca⟩ := hGa.at hf
                    obtain ⟨gb, capb, cb, hvb, -, -, hgb, hMb, -, hcb⟩ := hGb.at hf
                    have hsm := fun W (hb : Below wr.heap.size wr W) => sameMethod_true Ba Bb f W ca cb (hMa.below hb) (hMb.below hb)
                    obtain ⟨sf, k1, n1, u1, v1, w1', k2, n2, u2, v2, w2', rfl, hsf, -, -⟩ := hMa
                    obtain ⟨sf', k3, n3, u3, v3, w3', k4, n4, u4', v4, w4', rfl, hsf', -, -⟩ := hMb
                    injection hva with hva hla hxa
                    injection hvb with hvb hlb hxb
                    have hxa := hxa.symm
                    have hxb := hxb.symm
                    subst hva hvb hxa hxb
                    have hss : sf = sf' := bl_inj (hsf.trans hsf'.symm)
                    subst hss
                    clear hla hlb
                    have q0 := hca 0 _ rfl
                    have r0 := hcb 0 _ rfl
                    have q1 := hca 1 _ rfl
                    have r1 := hcb 1 _ rfl
                    have q2 := hca 2 _ rfl
                    have r2 := hcb 2 _ rfl
                    have q3 := hca 3 _ rfl
                    have r3 := hcb 3 _ rfl
                    have q4 := hca 4 _ rfl
                    have r4 := hcb 4 _ rfl
                    have q5 := hca 5 _ rfl
                    have r5 := hcb 5 _ rfl
                    have q6 := hca 6 _ rfl
                    have r6 := hcb 6 _ rfl
                    have q7 := hca 7 _ rfl
                    have r7 := hcb 7 _ rfl
                    have hji : (0 : Int) ≤ (j : Int) ∧ (j : Int) < (m' : Int) := by omega
                    clear hca hcb hGa hGb hsf hsf'
                    generalize f.once = O at *
                    clear hf
                    simp only [Nat.add_zero] at q0 r0
                    go_wp2_with fail
                    obtain ⟨val, hval⟩ : ∃ val : Nat → Value, val = fun jx => match jx with | 0 => .pointer (some ⟨bA, 1, none⟩) | 1 => .slice (some ⟨ga, 0, none⟩) m' capa | 2 => .int .i64 (j : Int) | 3 => .pointer (some ⟨ga, 0 + j * 8, none⟩) | 4 => .agg #[.string sf, .bool O, .int .i64 k1, .string n1, .slice u1 v1 w1', .int .i64 k2, .string n2, .slice u2 v2 w2'] | 5 => .pointer (some ⟨bB, 1, none⟩) | 6 => .slice (some ⟨gb, 0, none⟩) m' capb | 7 => .int .i64 (j : Int) | 8 => .pointer (some ⟨gb, 0 + j * 8, none⟩) | 9 => .agg #[.string sf, .bool O, .int .i64 k3, .string n3, .slice u3 v3 w3', .int .i64 k4, .string n4, .slice u4' v4 w4'] | 10 => .bool true | 11 => .bool false | _ => undef := ⟨_, rfl⟩
                    refine wp_region_fixed (R := fun W => Below wr.heap.size wr W) val (by kernel_rfl) (by kernel_rfl) (by kernel_rfl) (Below.refl _ _).drew ?step ?done
                    case step =>
                        subst hval
                        intro ix o ho A W hsz hdf hfr hdep hR
                        rcases ix with _ | _ | _ | _ | _ | _ | _ | _ | _ | _ | _ | _ | ix
                        · injection ho with ho
                          subst ho
                          have e16 : A.eval (.tmp 16) = .pointer (some ⟨bA, 0, none⟩) := (hfr 16 (noDst_spec (by kernel_rfl))).trans rfl
                          exact gOp_fld (v := .pointer (some ⟨bA, 1, none⟩)) rfl (wanted_plain rfl) rfl e16 (by go_simp) ⟨_, rfl, rfl, Below.refl _ _, hR⟩
                        · injection ho with ho
                          subst ho
                          have e199 : A.eval (.tmp 199) = .pointer (some ⟨bA, 1, none⟩) := hdep ⟨0, .data⟩ (by simp) rfl _ _ rfl rfl
                          have p1 := (hR.cell hPAj.lt).trans p1
                          exact gOp_ld (v := .slice (some ⟨ga, 0, none⟩) m' capa) rfl (wanted_plain rfl) rfl e199 (by go_simp) ⟨_, rfl, rfl, Below.refl _ _, hR⟩
                        · injection ho with ho
                          subst ho
                          have e18 : A.eval (.tmp 18) = .int .i64 (j : Int) := (hfr 18 (noDst_spec (by kernel_rfl))).trans rfl
                          exact gOp_mv rfl (wanted_plain rfl) (.inl rfl) e18 ⟨_, rfl, rfl, Below.refl _ _, hR⟩
                        · injection ho with ho
                          subst ho
                          have e200 : A.eval (.tmp 200) = .slice (some ⟨ga, 0, none⟩) m' capa := hdep ⟨1, .data⟩ (by simp) rfl _ _ rfl rfl
                          have e201 : A.eval (.tmp 201) = .int .i64 (j : Int) := hdep ⟨2, .data⟩ (by simp) rfl _ _ rfl rfl
                          have hji := hji
                          exact gOp_ix (v := .pointer (some ⟨ga, 0 + j * 8, none⟩)) rfl (wanted_plain rfl) rfl e200 e201 (by go_simp) ⟨_, rfl, rfl, Below.refl _ _, hR⟩
                        · injection ho with ho
                          subst ho
                          have e202 : A.eval (.tmp 202) = .pointer (some ⟨ga, 0 + j * 8, none⟩) := hdep ⟨3, .data⟩ (by simp) rfl _ _ rfl rfl
                          have q0 := (hR.cell hga).trans q0
                          have q1 := (hR.cell hga).trans q1
                          have q2 := (hR.cell hga).trans q2
                          have q3 := (hR.cell hga).trans q3
                          have q4 := (hR.cell hga).trans q4
                          have q5 := (hR.cell hga).trans q5
                          have q6 := (hR.cell hga).trans q6
                          have q7 := (hR.cell hga).trans q7
                          exact gOp_ld (v := .agg #[.string sf, .bool O, .int .i64 k1, .string n1, .slice u1 v1 w1', .int .i64 k2, .string n2, .slice u2 v2 w2']) rfl (wanted_plain rfl) rfl e202 (by go_simp) ⟨_, rfl, rfl, Below.refl _ _, hR⟩
                        · injection ho with ho
                          subst ho
                          have e17 : A.eval (.tmp 17) = .pointer (some ⟨bB, 0, none⟩) := (hfr 17 (noDst_spec (by kernel_rfl))).trans rfl
                          exact gOp_fld (v := .pointer (some ⟨bB, 1, none⟩)) rfl (wanted_plain rfl) rfl e17 (by go_simp) ⟨_, rfl, rfl, Below.refl _ _, hR⟩
                        · injection ho with ho
                          subst ho
                          have e204 : A.eval (.tmp 204) = .pointer (some ⟨bB, 1, none⟩) := hdep ⟨5, .data⟩ (by simp) rfl _ _ rfl rfl
                          have o1 := (hR.cell hPBj.lt).trans o1
                          exact gOp_ld (v := .slice (some ⟨gb, 0, none⟩) m' capb) rfl (wanted_plain rfl) rfl e204 (by go_simp) ⟨_, rfl, rfl, Below.refl _ _, hR⟩
                        · injection ho with ho
                          subst ho
                          have e18 : A.eval (.tmp 18) = .int .i64 (j : Int) := (hfr 18 (noDst_spec (by kernel_rfl))).trans rfl
                          exact gOp_mv rfl (wanted_plain rfl) (.inl rfl) e18 ⟨_, rfl, rfl, Below.refl _ _, hR⟩
                        · injection ho with ho
                          subst ho
                          have e205 : A.eval (.tmp 205) = .slice (some ⟨gb, 0, none⟩) m' capb := hdep ⟨6, .data⟩ (by simp) rfl _ _ rfl rfl
                          have e206 : A.eval (.tmp 206) = .int .i64 (j : Int) := hdep ⟨7, .data⟩ (by simp) rfl _ _ rfl rfl
                          have hji := hji
                          exact gOp_ix (v := .pointer (some ⟨gb, 0 + j * 8, none⟩)) rfl (wanted_plain rfl) rfl e205 e206 (by go_simp) ⟨_, rfl, rfl, Below.refl _ _, hR⟩
                        · injection ho with ho
                          subst ho
                          have e207 : A.eval (.tmp 207) = .pointer (some ⟨gb, 0 + j * 8, none⟩) := hdep ⟨8, .data⟩ (by simp) rfl _ _ rfl rfl
                          have r0 := (hR.cell hgb).trans r0
                          have r1 := (hR.cell hgb).trans r1
                          have r2 := (hR.cell hgb).trans r2
                          have r3 := (hR.cell hgb).trans r3
                          have r4 := (hR.cell hgb).trans r4
                          have r5 := (hR.cell hgb).trans r5
                          have r6 := (hR.cell hgb).trans r6
                          have r7 := (hR.cell hgb).trans r7
                          exact gOp_ld (v := .agg #[.string sf, .bool O, .int .i64 k3, .string n3, .slice u3 v3 w3', .int .i64 k4, .string n4, .slice u4' v4 w4']) rfl (wanted_plain rfl) rfl e207 (by go_simp) ⟨_, rfl, rfl, Below.refl _ _, hR⟩
                        · injection ho with ho
                          subst ho
                          have e203 : A.eval (.tmp 203) = .agg #[.string sf, .bool O, .int .i64 k1, .string n1, .slice u1 v1 w1', .int .i64 k2, .string n2, .slice u2 v2 w2'] := hdep ⟨4, .data⟩ (by simp) rfl _ _ rfl rfl
                          have e208 : A.eval (.tmp 208) = .agg #[.string sf, .bool O, .int .i64 k3, .string n3, .slice u3 v3 w3', .int .i64 k4, .string n4, .slice u4' v4 w4'] := hdep ⟨9, .data⟩ (by simp) rfl _ _ rfl rfl
                          refine gOp_enter rfl (wanted_plain rfl) 39 #[.agg #[.string sf, .bool O, .int .i64 k1, .string n1, .slice u1 v1 w1', .int .i64 k2, .string n2, .slice u2 v2 w2'], .agg #[.string sf, .bool O, .int .i64 k3, .string n3, .slice u3 v3 w3', .int .i64 k4, .string n4, .slice u4' v4 w4']] (run_call _ (fun _ _ => rfl) _ _ rfl _ (by simp [e203, e208])) ?_
                          refine (hsm W hR).mono ?_
                          rintro e w' ⟨rfl, hb'⟩
                          exact ⟨_, rfl, _, rfl, rfl, hb', hR.trans (hb'.mono hR.size)⟩
                        · injection ho with ho
                          subst ho
                          have e209 : A.eval (.tmp 209) = .bool true := hdep ⟨10, .data⟩ (by simp) rfl _ _ rfl rfl
                          exact gOp_not rfl (wanted_plain rfl) rfl e209 ⟨_, rfl, rfl, Below.refl _ _, hR⟩
                        · simp at ho
                    case done =>
                        intro W hR
                        subst hval
                        simp only [putL, Act.put, List.setIfInBounds_toArray, List.set_cons_zero, List.set_cons_succ]
                        go_wp2
                        go_roundw
                        case rel => exact ⟨j + 1, by omega, by go_num, hbj.trans (hR.mono hbj.size)⟩
                        case measure => simp [intOf]; omega
                  · have hbx := hbc'.trans (hbj.mono hbc'.size)
                    go_wp2
                    exact ⟨⟨k + 1, by omega, by go_num, hbx⟩, by simp [intOf]; omega⟩
            · go_wp2
              go_ret
              exact ⟨rfl, below_next hb0 hbk⟩
end Go.Proofs.YtmcflcekpmfenaaGreatDoor

namespace Go.Proofs.YtmcflcekpmfenaaGreatDoor
open Go.RowKit

theorem ly_nil (B n : Nat) (w : World) : LyS B n [] w (.slice none 0 0) := by
  cases n with
  | zero => exact ⟨_, _, _, rfl⟩
  | succ n => exact ⟨none, 0, rfl, by simp, fun i g h => by simp at h⟩

theorem TyC.ly {B : Nat} {w : World} (t : Pl.Ty) : ∀ (n : Nat) (a b c : Value), Pl.okTy t → TyC B t w a b c → Ly w.heap.size n (Pl.emb t) w a b c := by
  induction t with
  | plain k =>
    rintro n a b c hok ⟨rfl, rfl, rfl⟩
    exact ⟨rfl, ⟨_, rfl, rfl, by unfold maxLen; decide⟩, ly_nil _ _ _⟩
  | named x =>
    rintro n a b c hok ⟨rfl, ⟨s, rfl, hs⟩, rfl⟩
    refine ⟨rfl, ⟨s, rfl, hs, ?_⟩, ly_nil _ _ _⟩
    have := Pl.name_len hok
    rw [← hs, bl_length] at this
    unfold maxLen
    omega
  | list t ih =>
    rintro n a b c hok ⟨rfl, rfl, g, x, y, z, rfl, hB, hg, hc⟩
    refine ⟨rfl, ⟨_, rfl, rfl, by unfold maxLen; decide⟩, ?_⟩
    cases n with
    | zero => exact ⟨_, _, _, rfl⟩
    | succ n => exact LyS.one (ih n x y z hok hc) hg.lt hg
  | opt t ih =>
    rintro n a b c hok ⟨rfl, rfl, g, x, y, z, rfl, hB, hg, hc⟩
    refine ⟨rfl, ⟨_, rfl, rfl, by unfold maxLen; decide⟩, ?_⟩
    cases n with
    | zero => exact ⟨_, _, _, rfl⟩
    | succ n => exact LyS.one (ih n x y z hok hc) hg.lt hg

theorem Rows.sl {α β : Type} {T : TypeId} {m : Nat} {R : α → List Value → World → Prop} {R' : β → List Value → World → Prop} {B : Nat} {w : World} {v : Value} {xs : List α} (f : α → β) (h : Rows T m R B w v xs) (hl : xs.length ≤ 1000) (hR : ∀ a ∈ xs, ∀ c, R a c w → R' (f a) c w) : SlR m R' w.heap.size w v (xs.map f) := by
  obtain ⟨ad, cp, hv⟩ := h.shape
  refine ⟨ad, cp, by rw [List.length_map]; exact hv, by rw [List.length_map]; omega, fun i x hx => ?_⟩
  rw [List.getElem?_map] at hx
  obtain ⟨a, ha, rfl⟩ := Option.map_eq_some_iff.1 hx
  obtain ⟨g, cap, c, h1, _, _, h4, h5, _, h7⟩ := h.at ha
  rw [h1] at hv
  cases hv
  exact ⟨g, 0, c, rfl, h4, fun j u hu => by rw [Nat.zero_add]; exact h7 j u hu, hR a (List.mem_of_getElem? ha) c h5⟩

theorem small_name {s : ByteArray} {x : List Nat} (h : bl s = x) (hx : Pl.okName x) : s.size ≤ maxLen := by
  have := Pl.name_len hx
  rw [← h, bl_length] at this
  unfold maxLen
  omega

/-- A schema that was told lies as one of any make. -/
theorem SchV.sch {B : Nat} {ds : List Pl.Decl} {s1 s2 s3 : Value} {w : World} (h : SchV B ds s1 s2 s3 w) (n : Nat) (hok : ∀ d ∈ Pl.inOrder (stOf ds) (enOf ds) (svOf ds), Pl.okDecl d) (hl : (stOf ds).length + (enOf ds).length + (svOf ds).length ≤ 64) :
    SchL w.heap.size n ((stOf ds).map Pl.embSt) ((enOf ds).map Pl.embEn) ((svOf ds).map Pl.embSv) s1 s2 s3 w := by
  obtain ⟨h1, h2, h3⟩ := h
  refine ⟨h1.sl _ (by omega) ?_, h2.sl _ (by omega) ?_, h3.sl _ (by omega) ?_⟩
  · rintro a ha c ⟨s, ad, m, cp, rfl, hs, hr⟩
    have hd := hok (Pl.mkSt a) (List.mem_append_left _ (List.mem_append_left _ (List.mem_map_of_mem ha)))
    refine ⟨s, _, rfl, hs, small_name hs hd.1, hr.sl _ (by have := hd.2.1; omega) ?_⟩
    rintro f hf c ⟨s, k, sn, ad, m, cp, rfl, hs, ht⟩
    have hf2 := hd.2.2 f hf
    exact ⟨s, _, _, _, rfl, hs, small_name hs hf2.2.1, TyC.ly f.ty n _ _ _ hf2.2.2.1 ht⟩
  · rintro a ha c ⟨s, ad, m, cp, rfl, hs, hr⟩
    have hd := hok (Pl.mkEn a) (List.mem_append_left _ (List.mem_append_right _ (List.mem_map_of_mem ha)))
    refine ⟨s, _, rfl, hs, small_name hs hd.1, hr.sl _ (by have := hd.2.1; omega) ?_⟩
    rintro f hf c ⟨s, rfl, hs⟩
    have hf2 := hd.2.2 f hf
    exact ⟨s, rfl, hs, small_name hs hf2.2⟩
  · rintro a ha c ⟨s, ad, m, cp, rfl, hs, hr⟩
    have hd := hok (Pl.mkSv a) (List.mem_append_right _ (List.mem_map_of_mem ha))
    refine ⟨s, _, rfl, hs, small_name hs hd.1, hr.sl _ (by have := hd.2.1; omega) ?_⟩
    rintro f hf c ⟨s, k, sn, ad, m, cp, k', sn', ad', m', cp', rfl, hs, ht, ht'⟩
    have hf2 := hd.2.2 f hf
    exact ⟨s, _, _, _, _, _, _, rfl, hs, small_name hs hf2.1, TyC.ly f.arg n _ _ _ hf2.2.1 ht, TyC.ly f.res n _ _ _ hf2.2.2.2.1 ht'⟩

/-- A text that declares something. -/
def TOk (s : ByteArray) (ds : List Pl.Decl) : Prop := (tokA s).2.2 = 0 ∧ Pl.declsP 64 ((tokA s).1.map Pl.kt) = .ok ds []
def TBad (s : ByteArray) (er : Int) : Prop := (tokA s).2.2 = er ∨ ∃ r e, (tokA s).2.2 = 0 ∧ Pl.declsP 64 ((tokA s).1.map Pl.kt) = .bad r e ∧ er = (e : Int)

theorem cons_line {t : Pl.Tok} {x : List Pl.Tok × Nat × Int} {ln : Nat} (h : x.2.2 ≠ 0 → ln ≤ x.2.1) : (Pl.tokCons t x).2.2 ≠ 0 → ln ≤ (Pl.tokCons t x).2.1 := by
  unfold Pl.tokCons
  split
  · intro h; exact absurd rfl h
  · exact h
theorem tok_line (f : Nat) : ∀ (l : List Nat) (ln : Nat), (Pl.tokS f l ln).2.2 ≠ 0 → ln ≤ (Pl.tokS f l ln).2.1 := by
  induction f with
  | zero => intro l ln h; exact absurd rfl h
  | succ f ih =>
    intro l ln
    cases l with
    | nil => intro h; exact absurd rfl h
    | cons c r =>
      simp only [Pl.tokS]
      split
      · intro h; exact Nat.le_trans (Nat.le_succ _) (ih r (ln + 1) h)
      · split
        · exact ih r ln
        · split
          · exact ih _ ln
          · split
            · exact cons_line (ih r ln)
            · split
              · split
                · exact cons_line (ih _ ln)
                · intro _; exact Nat.le_refl _
              · intro _; exact Nat.le_refl _

theorem lines_pos (s : ByteArray) (tl : List T3) (h : tl.map asTok = (tokA s).1) (i : Nat) : 0 < lineAt tl i := by
  unfold lineAt
  cases hg : tl[min i (tl.length - 1)]? with
  | none => simp
  | some t =>
    have hm : asTok t ∈ (tokA s).1 := by rw [← h]; exact List.mem_map_of_mem (List.mem_of_getElem? hg)
    unfold tokA at hm
    split at hm
    · cases hm
    · have := ((Pl.tok_within _ _ _).1 _ hm).1
      exact this

theorem text_out (s : ByteArray) (w : World) : Calls Tryz.prog 8 #[.string s] w fun e w' =>
    (∃ (ln : Nat) (er : Int), er ≠ 0 ∧ TBad s er ∧ (0 < ln ∨ er = 5) ∧ e = .returned (.tuple #[.agg #[.slice none 0 0, .slice none 0 0, .slice none 0 0], .int .i64 (ln : Int), .int .i64 er]) ∧ Below w.heap.size w w') ∨
    (∃ ds s1 s2 s3, TOk s ds ∧ e = .returned (.tuple #[.agg #[s1, s2, s3], .int .i64 0, .int .i64 0]) ∧ SchV w.heap.size ds s1 s2 s3 w' ∧ Below w.heap.size w w') := by
  refine (text_any s w).mono ?_
  rintro e w' (⟨h1, rfl, hb⟩ | ⟨h1, tl, hm, hp⟩)
  · refine .inl ⟨_, _, h1, .inl rfl, ?_, rfl, hb⟩
    unfold tokA at h1 ⊢
    split
    · exact .inr rfl
    · rename_i hs
      rw [if_neg hs] at h1
      exact .inl (tok_line _ _ _ h1)
  · cases hR : Pl.declsP 64 ((tokA s).1.map Pl.kt) with
    | ok ds r =>
      rw [hR] at hp
      obtain ⟨s1, s2, s3, rfl, hV, hb⟩ := hp
      have hr := Pl.decls_end 64 _ _ _ hR
      subst hr
      exact .inr ⟨ds, s1, s2, s3, ⟨h1, hR⟩, rfl, hV, hb⟩
    | bad r er =>
      rw [hR] at hp
      obtain ⟨i', _, _, rfl, hb⟩ := hp
      have hne := NZ.decls 64 _ _ _ hR
      exact .inl ⟨_, _, by simpa using hne, .inr ⟨r, er, h1, hR, rfl⟩, .inl (lines_pos s tl hm i'), rfl, hb⟩

theorem fm_none {α β : Type} (l : List α) : List.filterMap (fun _ => (none : Option β)) l = [] := List.filterMap_eq_nil_iff.2 (fun _ _ => rfl)
theorem stOf_in (a : List (List Nat × List Pl.Fld)) (b : List (List Nat × List Pl.Cas)) (c : List (List Nat × List Pl.Mth)) : stOf (Pl.inOrder a b c) = a ∧ enOf (Pl.inOrder a b c) = b ∧ svOf (Pl.inOrder a b c) = c := by
  unfold stOf enOf svOf Pl.inOrder
  refine ⟨?_, ?_, ?_⟩
  · simp only [List.filterMap_append, List.filterMap_map]
    show List.filterMap some a ++ List.filterMap (fun _ => none) b ++ List.filterMap (fun _ => none) c = a
    rw [fm_none, fm_none]
    simp
  · simp only [List.filterMap_append, List.filterMap_map]
    show List.filterMap (fun _ => none) a ++ List.filterMap some b ++ List.filterMap (fun _ => none) c = b
    rw [fm_none, fm_none]
    simp
  · simp only [List.filterMap_append, List.filterMap_map]
    show List.filterMap (fun _ => none) a ++ List.filterMap (fun _ => none) b ++ List.filterMap some c = c
    rw [fm_none, fm_none]
    simp
theorem of_mem (ds : List Pl.Decl) : ∀ d ∈ Pl.inOrder (stOf ds) (enOf ds) (svOf ds), d ∈ ds := by
  intro d hd
  simp only [Pl.inOrder, List.mem_append, List.mem_map] at hd
  rcases hd with (⟨y, hy, rfl⟩ | ⟨y, hy, rfl⟩) | ⟨y, hy, rfl⟩
  · obtain ⟨x, hx, he⟩ := List.mem_filterMap.1 hy
    cases x <;> simp at he
    subst he
    exact hx
  · obtain ⟨x, hx, he⟩ := List.mem_filterMap.1 hy
    cases x <;> simp at he
    subst he
    exact hx
  · obtain ⟨x, hx, he⟩ := List.mem_filterMap.1 hy
    cases x <;> simp at he
    subst he
    exact hx
theorem of_len (ds : List Pl.Decl) : (stOf ds).length + (enOf ds).length + (svOf ds).length = ds.length := by
  induction ds with
  | nil => rfl
  | cons d ds ih =>
    unfold stOf enOf svOf at *
    cases d <;> simp only [List.filterMap_cons, List.length_cons] <;> omega

theorem tok_okKt (s : ByteArray) : ∀ x ∈ (tokA s).1.map Pl.kt, Pl.okKt x := by
  intro x hx
  obtain ⟨t, ht, rfl⟩ := List.mem_map.1 hx
  unfold tokA at ht
  split at ht
  · cases ht
  · have h := Pl.tok_ok _ _ _ t ht
    exact h

/-- What a text declares may be. -/
theorem TOk.good {s : ByteArray} {ds : List Pl.Decl} (h : TOk s ds) : (∀ d ∈ Pl.inOrder (stOf ds) (enOf ds) (svOf ds), Pl.okDecl d) ∧ (stOf ds).length + (enOf ds).length + (svOf ds).length ≤ 64 := by
  obtain ⟨⟨h1, h2⟩, _⟩ := Pl.Gd.decls 64 _ _ _ (tok_okKt s) h.2
  exact ⟨fun d hd => h2 d (of_mem ds d hd), by rw [of_len]; exact h1⟩

/-- The text of declarations declares them. -/
theorem back_out (t : ByteArray) (ds : List Pl.Decl) (hok : ∀ d ∈ ds, Pl.okDecl d) (hl : ds.length ≤ 64) (ht : bl t = (ds.map Pl.declX).flatten) (hs : t.size ≤ 65536) : TOk t ds := by
  have hA : tokA t = Pl.tok (bl t) 1 := by unfold tokA; rw [if_neg (by omega)]
  obtain ⟨h1, h2⟩ := Pl.text_toks ds hok
  rw [← ht, ← hA] at h1 h2
  refine ⟨h1, ?_⟩
  rw [h2]
  exact Pl.decls_back ds 64 hl hok
theorem TOk.one {t : ByteArray} {a b : List Pl.Decl} (h : TOk t a) (k : TOk t b) : a = b := by
  have := h.2.symm.trans k.2
  cases this
  rfl
theorem TOk.notBad {t : ByteArray} {a : List Pl.Decl} (h : TOk t a) {er : Int} (k : TBad t er) : er = 0 := by
  rcases k with k | ⟨r, e, _, k, _⟩
  · rw [← k]; exact h.1
  · rw [h.2] at k; cases k
end Go.Proofs.YtmcflcekpmfenaaGreatDoor

namespace Go.Proofs.YtmcflcekpmfenaaGreatDoor
open Go.RowKit

theorem Tab.up {B B' : Nat} {w : World} (h : Tab B w) (hB : B ≤ B') : Tab B' w := ⟨h.1, fun g hg => Nat.lt_of_lt_of_le (h.2 g hg) hB⟩

set_option maxHeartbeats 16000000 in
theorem may_walk (s : ByteArray) (w : World) (ht : Tab w.heap.size w) : Calls Tryz.prog 5 #[.string s] w fun e w' => e = .returned (.bool true) ∧ Below w.heap.size w w' := by
  have hal := alive_any w
  have hnum := fun (n : Int) (w : World) => num_any n w
  go_enter Tryz.func5, Tryz.ntmps5
  go_wp2_with fail
  refine hal.mono ?_
  rintro e w1 ⟨rfl, hb1⟩
  have ht1 := ht.below hb1
  have htx := text_out s w1
  clear hal ht
  go_wp2_with fail
  refine htx.mono ?_
  clear htx
  rintro e w2 (⟨ln, er, her, hbad, hln, rfl, hb2⟩ | ⟨ds, s1, s2, s3, hok, rfl, hV, hb2⟩)
  · have HW2 := hid (below_next hb1 hb2)
    have hx := below_alloc w2 (.cells #[.slice none 0 0, .slice none 0 0, .slice none 0 0] 27)
    have HW3 := hid (below_next HW2.out hx)
    have hq : (er == 0) = false := by simp [her]
    clear hb1 hb2 hx hbad
    go_wp2_with fail
    refine (hnum er _).mono ?_
    rintro e w3 ⟨rfl, hq3⟩
    subst w3
    by_cases hl0 : 0 < ln
    · have hl1 : (0 : Int) < (ln : Int) := by omega
      go_wp2
      go_ret
      exact ⟨rfl, HW3.out⟩
    · have h5 : er = 5 := by
        rcases hln with h | h
        · exact absurd h hl0
        · exact h
      subst h5
      have hl1 : ¬ (0 : Int) < (ln : Int) := by omega
      go_wp2_with fail
      refine (hnum 5 _).mono ?_
      rintro e w3 ⟨rfl, hq3⟩
      subst w3
      go_wp2
      go_ret
      exact ⟨rfl, HW3.out⟩
  · obtain ⟨a1, c1, a2, c2, a3, c3, rfl, rfl, rfl⟩ := hV.shape
    obtain ⟨hgood, hlen⟩ := hok.good
    have hbx := below_alloc w2 (.cells #[.slice a1 (stOf ds).length c1, .slice a2 (enOf ds).length c2, .slice a3 (svOf ds).length c3] 27)
    have hBx := Bx.new w2 [.slice a1 (stOf ds).length c1, .slice a2 (enOf ds).length c2, .slice a3 (svOf ds).length c3] 27
    have hV3 := hV.below hbx
    have ht3 := (ht1.below hb2).below hbx
    have hbw := below_next (below_next hb1 hb2) hbx
    have hpr := print_any 99 (Nat.le_refl _) _ _ _ _ _ _ _ (hV3.sch 99 hgood hlen) (ht3.up hbw.size)
    rw [Pl.schW_ok _ _ _ hgood hlen] at hpr
    have HG := hid hgood
    have HL := hid hlen
    have HV := hid hV3
    clear hgood hlen hok hV hV3 ht1 ht3 hb1 hb2
    have hlt2 := hBx.lt
    have x0 := hBx.cell 0 rfl
    have x1 := hBx.cell 1 rfl
    have x2 := hBx.cell 2 rfl
    change _ < (w2.alloc (.cells #[.slice a1 (stOf ds).length c1, .slice a2 (enOf ds).length c2, .slice a3 (svOf ds).length c3] 27)).heap.size at hlt2
    change World.cell? (w2.alloc (.cells #[.slice a1 (stOf ds).length c1, .slice a2 (enOf ds).length c2, .slice a3 (svOf ds).length c3] 27)) _ = _ at x0
    change World.cell? (w2.alloc (.cells #[.slice a1 (stOf ds).length c1, .slice a2 (enOf ds).length c2, .slice a3 (svOf ds).length c3] 27)) _ = _ at x1
    change World.cell? (w2.alloc (.cells #[.slice a1 (stOf ds).length c1, .slice a2 (enOf ds).length c2, .slice a3 (svOf ds).length c3] 27)) _ = _ at x2
    change Bx (w2.alloc (.cells #[.slice a1 (stOf ds).length c1, .slice a2 (enOf ds).length c2, .slice a3 (svOf ds).length c3] 27)) _ _ _ at hBx
    go_wp2_with fail
    refine (hnum 0 _).mono ?_
    rintro e w3 ⟨rfl, hq3⟩
    subst w3
    clear hbx
    generalize hm1 : (stOf ds).length = m1 at *
    generalize hm2 : (enOf ds).length = m2 at *
    generalize hm3 : (svOf ds).length = m3 at *
    generalize w2.alloc (.cells #[.slice a1 m1 c1, .slice a2 m2 c2, .slice a3 m3 c3] 27) = w3 at *
    generalize w2.heap.size = bX at *
    go_wp2_with fail
    refine hpr.mono ?_
    rintro e w4 ⟨t, rfl, htb, hb4⟩
    have hbw4 := below_next hbw hb4
    have hB4 := hBx.below hb4
    have hV4 := HV.out.below hb4
    have htx := text_out t w4
    have HT := hid htb
    clear hpr htb hBx x0 x1 x2 hlt2 HV hbw hb4
    go_wp2_with fail
    refine htx.mono ?_
    clear htx
    have hds : t.size ≤ 65536 → TOk t (Pl.inOrder (stOf ds) (enOf ds) (svOf ds)) := fun hs => back_out t _ HG.out (by
      have := HL.out
      simp only [Pl.inOrder, List.length_append, List.length_map]
      omega) HT.out hs
    have HD := hid hds
    clear hds
    rintro e w5 (⟨ln, er, her, hbad, hln, rfl, hb5⟩ | ⟨ds', s1, s2, s3, hok', rfl, hV5, hb5⟩)
    · have hbig : 65536 < t.size := by
        rcases Nat.lt_or_ge 65536 t.size with h | h
        · exact h
        · exact absurd ((HD.out h).notBad hbad) her
      have hbigI : (65536 : Int) < (t.size : Int) := by omega
      have hx := below_alloc w5 (.cells #[.slice none 0 0, .slice none 0 0, .slice none 0 0] 27)
      have HW := hid (below_next (below_next hbw4 hb5) hx)
      clear hb5 hbw4 hx hV4 hB4 hbad
      go_wp2_with fail
      refine (hnum 0 _).mono ?_
      rintro e w6 ⟨rfl, hq6⟩
      subst w6
      go_wp2
      go_ret
      exact ⟨rfl, HW.out⟩
    · obtain ⟨b1, d1, b2, d2, b3, d3, rfl, rfl, rfl⟩ := hV5.shape
      have hx := below_alloc w5 (.cells #[.slice b1 (stOf ds').length d1, .slice b2 (enOf ds').length d2, .slice b3 (svOf ds').length d3] 27)
      have hBy := Bx.new w5 [.slice b1 (stOf ds').length d1, .slice b2 (enOf ds').length d2, .slice b3 (svOf ds').length d3] 27
      have HW := hid (below_next (below_next hbw4 hb5) hx)
      by_cases hbig : 65536 < t.size
      · have hbigI : (65536 : Int) < (t.size : Int) := by omega
        clear hb5 hbw4 hx hV4 hB4 hBy hV5
        go_wp2_with fail
        refine (hnum 0 _).mono ?_
        rintro e w6 ⟨rfl, hq6⟩
        subst w6
        go_wp2
        go_ret
        exact ⟨rfl, HW.out⟩
      · have hbigI : ¬ (65536 : Int) < (t.size : Int) := by omega
        have hdd := hok'.one (HD.out (by omega))
        have hV6 := hV5.below hx
        have hVx := (hV4.below hb5).below hx
        have hBx6 := (hB4.below hb5).below hx
        have hV7 : SchV w4.heap.size ds (.slice b1 (stOf ds').length d1) (.slice b2 (enOf ds').length d2) (.slice b3 (svOf ds').length d3) (w5.alloc (.cells #[.slice b1 (stOf ds').length d1, .slice b2 (enOf ds').length d2, .slice b3 (svOf ds').length d3] 27)) := by
          obtain ⟨e1, e2, e3⟩ := stOf_in (stOf ds) (enOf ds) (svOf ds)
          rw [← hdd] at e1 e2 e3
          obtain ⟨q1, q2, q3⟩ := hV6
          refine ⟨?_, ?_, ?_⟩
          · rw [← e1]; exact q1
          · rw [← e2]; exact q2
          · rw [← e3]; exact q3
        have hsame := sameSchema_true _ _ ds _ _ _ _ _ _ _ hVx hV7
        change Bx (w5.alloc (.cells #[.slice b1 (stOf ds').length d1, .slice b2 (enOf ds').length d2, .slice b3 (svOf ds').length d3] 27)) _ _ _ at hBy
        have x0 := hBx6.cell 0 rfl
        have x1 := hBx6.cell 1 rfl
        have x2 := hBx6.cell 2 rfl
        have y0 := hBy.cell 0 rfl
        have y1 := hBy.cell 1 rfl
        have y2 := hBy.cell 2 rfl
        have hlx := hBx6.lt
        have hly := hBy.lt
        clear hb5 hbw4 hx hV4 hB4 hBy hV5 hV6 hVx hBx6 hV7
        generalize (stOf ds').length = n1 at *
        generalize (enOf ds').length = n2 at *
        generalize (svOf ds').length = n3 at *
        go_wp2_with fail
        refine (hnum 0 _).mono ?_
        rintro e w6 ⟨rfl, hq6⟩
        subst w6
        generalize w5.alloc (.cells #[.slice b1 n1 d1, .slice b2 n2 d2, .slice b3 n3 d3] 27) = w6 at *
        generalize w5.heap.size = bY at *
        go_wp2_with fail
        refine (hnum 0 _).mono ?_
        rintro e w7 ⟨rfl, hq7⟩
        subst w7
        go_wp2_with fail
        refine hsame.mono ?_
        rintro e w8 ⟨rfl, hb8⟩
        have HF := hid (below_next HW.out hb8)
        clear hsame hb8
        go_wp2
        go_ret
        exact ⟨rfl, HF.out⟩
end Go.Proofs.YtmcflcekpmfenaaGreatDoor

