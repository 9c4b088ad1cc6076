/- FramePieces: the walk. -/
import Derived.Test.YtlfgnllmomeajaaPiecesC
import Derived.Deep.RegionLaw
import Derived.BigQuiet
import Derived.Deep.QuietTactic
namespace Go.Proofs.Ytlfgnllmomeajaa.framePieces
open Go.ChangeShapes Go.WideShapes Go.ChangeAt Go.RowKit
open Go.ChangeMaps (open_string shut_string)

theorem step_call2 {P : Program} {w : World} {ops : Array Oper} {o : Oper} {a : Act} {K : Act → World → Prop} {Q : Exit → Act → World → Prop} {E : Prop} {v u : Value} (f : Nat) (eg : ∀ args w, (callFunc f args).run P w = .ok (.enter f args) w) (hg : o.guard = none) (s t : Nat) (ts : Array TypeId) (hop : o.op = .call { callee := .value (.func f), args := #[.tmp s, .tmp t], argTypes := ts }) (hs : a.tmps.getD s undef = v) (ht : a.tmps.getD t undef = u)
    (h : Calls P f #[v, u] w fun e w' => ∃ x, e = .returned x ∧ K (a.put o.dst x) w') : if Region.wanted o (yielded ops a.tmps) = true then Oper.wp P o a w K Q else E := by
  have hw : Region.wanted o (yielded ops a.tmps) = true := by simp [Region.wanted, hg]
  rw [if_pos hw]
  unfold Oper.wp
  have hs' : a.eval (.tmp s) = v := hs
  have ht' : a.eval (.tmp t) = u := ht
  have hrun : (execOp a.eval o).run P w = .ok (.enter f #[v, u]) w := by
    simp [execOp, hop, hs', ht', resolve, invoke, show a.eval (.func f) = .func (.func f) #[] #[] from rfl, Deferred.ofValue, eg]
  rw [hrun]
  refine h.mono ?_
  rintro e w' ⟨x, rfl, hk⟩
  exact hk
theorem Try.enter10 : ∀ args w, (callFunc 10 args).run Try.prog w = .ok (.enter 10 args) w := fun _ _ => rfl
theorem Try.enter21 : ∀ args w, (callFunc 21 args).run Try.prog w = .ok (.enter 21 args) w := fun _ _ => rfl
theorem Try.enter16 : ∀ args w, (callFunc 16 args).run Try.prog w = .ok (.enter 16 args) w := fun _ _ => rfl
theorem segs_below {w w' : World} {v : Value} {ls : List (List Int)} (h : Segs w v ls) (hb : Below w.heap.size w w') : Segs w' v ls := by
  obtain ⟨b, off, cap, h1, h2, h3, h4⟩ := h
  refine ⟨b, off, cap, h1, h2, h3, fun i hi => ?_⟩
  obtain ⟨u, hu, hs⟩ := h4 i hi
  exact ⟨u, (hb.cell (World.block_lt_of_cell? w _ hu)).trans hu, hs.below hb⟩

set_option maxHeartbeats 8000000 in
set_option maxRecDepth 4000 in
theorem walk (v0 : Value) (ls : List (List Int)) {w : World} (hs0 : Texts w v0 ls) (ho0 : ∀ l ∈ ls, ∀ z ∈ l, 0 ≤ z ∧ z ≤ 255) (v1 : Value) (cs : List Int) (hs1 : Seg .i64 w v1 cs) (ho1 : ∀ z ∈ cs, -9223372036854775808 ≤ z ∧ z ≤ 9223372036854775807) :
    Calls Try.prog 6 #[v0, v1] w fun e w' => e = .returned (.bool true) ∧ Below w.heap.size w w' := by
  obtain ⟨a0, c0, hv0, h1, h2, h3, h4⟩ := id hs0
  generalize hN : ls.length = N at hv0 h1
  have HN : Hid (ls.length = N) := hN
  subst hv0
  unfold maxLen at h2
  go_enter Try.func6, Try.ntmps6
  go_wp2_with fail
  refine (alive_any w).mono ?_
  rintro e w1 ⟨rfl, hb1⟩
  clear hN
  go_wp2
  have hcl := cut_len ls
  rw [HN.out] at hcl
  go_loopw [5, 6] (fun b i wr => ∃ k : Nat, k ≤ N ∧ k ≤ 6 ∧ i = .int .i64 k ∧ Seg .u8 wr b (Pl.framesOf ((cutTo ls).take k)) ∧ Hid (∀ p ∈ (cutTo ls).take k, Pl.fits p) ∧ Below w.heap.size w wr) (fun _ i _ => 6 - (intOf i).toNat)
  case atStart => exact ⟨0, Nat.zero_le _, Nat.zero_le _, rfl, by simpa [Pl.framesOf] using Seg.nil .u8 w1, fun p hp => by simp at hp, hb1⟩
  case round =>
    obtain ⟨k, hk, hk6, rfl, hsb, HF, hbel⟩ := hrel
    have hfl := frames_small ls k
    by_cases hlt : k < N ∧ k < 6
    · obtain ⟨hltN, hlt6⟩ := hlt
      obtain ⟨g, off, rfl, hg, hc⟩ := texts_at (w := w) (ls := ls) (by rw [HN.out]; omega) h3 h4
      obtain ⟨u, hcu, hsu⟩ := hc k (by rw [HN.out]; exact hltN)
      have hcr := (hbel.cell (p := ⟨g, off + k, none⟩) hg).trans hcu
      have hou := ho0 (ls.getD k []) (by have := HN.out; simp [List.getD, show k < ls.length by omega])
      have hbd := below_drew hbel
      have hbdr := below_drew (Below.refl wr.heap.size wr)
      have hsr := hsu.below hbd
      have HS : Hid (Pl.framesOf ((cutTo ls).take (k + 1)) = Pl.framesOf ((cutTo ls).take k) ++ Pl.frameOf ((ls.getD k []).take 600)) := by
        show _ = _
        rw [frames_succ (by omega), cut_at ls k (by rw [HN.out]; exact hltN) hlt6]
      have HT : Hid ((cutTo ls).take (k + 1) = (cutTo ls).take k ++ [(ls.getD k []).take 600]) := by
        show _ = _
        rw [take_succ_getD (by omega), cut_at ls k (by rw [HN.out]; exact hltN) hlt6]
      generalize ls.getD k [] = p at *
      obtain ⟨au, cu, hvu, hu1, hu2, hu3, hu4⟩ := id hsr
      generalize hpn : p.length = pn at hvu hu1
      subst hvu
      have HPN : Hid (p.length = pn) := hpn
      obtain ⟨m, hm, hmp, hm6, hm0⟩ : ∃ m : Nat, (if (600 : Int) < (pn : Int) then (600 : Int) else (pn : Int)) = (m : Int) ∧ m ≤ pn ∧ m ≤ 600 ∧ p.take 600 = p.take m := by
        by_cases h : (600 : Int) < (pn : Int)
        · exact ⟨600, by rw [if_pos h]; rfl, by omega, by omega, rfl⟩
        · exact ⟨pn, by rw [if_neg h], by omega, by omega, by rw [List.take_of_length_le (by omega), List.take_of_length_le (by omega)]⟩
      rw [hm0] at HS HT
      have hsm := seg_head (m := m) hsr (by omega)
      have hom : Pl.Octs (p.take m) := fun z hz => hou z (List.mem_of_mem_take hz)
      have hlm : (p.take m).length = m := by rw [List.length_take]; omega
      unfold maxLen at hu2
      clear hc hu3 hu4 hpn hm0 hsu hcu
      by_cases hbad : Pl.errP (p.take m) = 0
      · have hfit := fits_of hbad hom
        have hput := fput_one (w := wr.drew) wr.heap.size rfl (hsb.below hbdr) hsm hfit (by omega)
        rw [← HS.out] at hput
        have HF2 : Hid (∀ q ∈ (cutTo ls).take (k + 1), Pl.fits q) := by
          intro q hq
          rw [HT.out] at hq
          rcases List.mem_append.1 hq with h | h
          · exact HF.out q h
          · rw [List.mem_singleton.1 h]
            exact hfit
        clear HS HT HF
        have hmcu : m ≤ cu := by omega
        go_wp2_with fail
        go_region_law (refine step_call2 (v := u5) (u := .slice (some ⟨wr.heap.size, 0, none⟩) 1 1) (o := { dst := some 46, op := .call { callee := .value (.func 10), args := #[.tmp 33, .tmp 45], argTypes := #[22, 33] }, type := _, pos := _, after := _, guard := none }) 10 Try.enter10 rfl 33 45 _ rfl (by first | (simp; done) | (unfold Act.put; simp; done)) (by first | (simp; done) | (unfold Act.put; simp; done)) ?_; refine hput.mono ?_; rintro e w2 ⟨v2, rfl, hP2, _, hb2⟩; refine ⟨_, rfl, ?_⟩; have hs2 := hP2.seg; have hb02 := hbd.trans (hb2.mono hbd.size); clear hP2 hb2)
        all_goals
          go_wp2_with (go_at_call 17; refine (num_any _ _).mono ?_; rintro e w6 ⟨rfl, hw6⟩; subst w6)
          go_roundw
          case rel => exact ⟨k + 1, by omega, by omega, by go_num, hs2, HF2, hb02⟩
          case measure => simp [intOf]; omega
      · have hput := fput_none (w := wr.drew) (v := u5) wr.heap.size rfl hsm hbad
        have hpe : pn = 0 := by
          unfold Pl.errP at hbad
          rw [hlm] at hbad
          by_cases h0 : m = 0
          · by_cases h : (600 : Int) < (pn : Int)
            · rw [if_pos h] at hm
              omega
            · rw [if_neg h] at hm
              omega
          · exfalso
            apply hbad
            simp only [h0, if_false]
            rw [if_neg (by omega)]
        have hcr2 : ∀ W, Below wr.heap.size wr W → W.cell? ⟨g, off + k, none⟩ = some (.slice au pn cu) := fun W hb => (hb.cell (p := ⟨g, off + k, none⟩) (by have := hbel.size; simp; omega)).trans hcr
        have hpeI : ((pn : Int) == 0) = true := by rw [hpe]; rfl
        have hne : (Pl.errP (p.take m) != 0) = true := by simp [hbad]
        generalize Pl.errP (p.take m) = ee at hput hne
        clear HS HT HF hpe hbad
        have hmcu : m ≤ cu := by omega
        go_wp2_with fail
        go_region_law (refine step_call2 (v := u5) (u := .slice (some ⟨wr.heap.size, 0, none⟩) 1 1) (o := { dst := some 46, op := .call { callee := .value (.func 10), args := #[.tmp 33, .tmp 45], argTypes := #[22, 33] }, type := _, pos := _, after := _, guard := none }) 10 Try.enter10 rfl 33 45 _ rfl (by first | (simp; done) | (unfold Act.put; simp; done)) (by first | (simp; done) | (unfold Act.put; simp; done)) ?_; refine hput.mono ?_; rintro e w2 ⟨rfl, hb2⟩; refine ⟨_, rfl, ?_⟩; have hb02 := hbd.trans (hb2.mono hbd.size); have hcr3 := hcr2 w2 (hbdr.trans hb2); clear hb2)
        all_goals
          go_wp2_with (go_at_call 17; refine (num_any _ _).mono ?_; rintro e w6 ⟨rfl, hw6⟩; subst w6)
          go_ret
          exact ⟨rfl, hb02⟩
    · have hke : k = (cutTo ls).length := by omega
      have hF : ∀ p ∈ cutTo ls, Pl.fits p := by
        have := HF.out
        rw [hke, List.take_length] at this
        exact this
      have hfl2 := frames_small ls (cutTo ls).length
      rw [List.take_length] at hfl2
      rw [hke, List.take_length] at hsb
      have hPL6 : (cutTo ls).length ≤ 6 := by omega
      have HMN : Hid ((cutTo ls).length = min N 6) := hcl
      have HK : Hid (∀ i, i < (cutTo ls).length → (cutTo ls).getD i [] = (ls.getD i []).take 600) := fun i hi => cut_at ls i (by have := HN.out; omega) (by omega)
      generalize cutTo ls = PL at *
      obtain ⟨a1, c1, hv1, g1, g2, g3, g4⟩ := id hs1
      generalize hC : cs.length = C at hv1 g1
      have HC : Hid (cs.length = C) := hC
      subst hv1
      unfold maxLen at g2
      clear hC HF hke hfl
      go_upto_region 5 with fail
      go_cut [29] (fun b wx => b = .bool false ∧ wr = wx)
      case first =>
        go_wp2
        all_goals
          go_meet
          exact ⟨by first | rfl | (congr 1; exact decide_eq_false (by omega)), rfl⟩
      case rest =>
        obtain ⟨rfl, hwc⟩ := hcut
        subst hwc
        go_wp2_with fail
        obtain ⟨wA, hwA⟩ : ∃ x, x = wr := ⟨_, rfl⟩
        subst hwA
        have hB9 := Box.new 45 wA (.slice none 0 0) (.bool false)
        have hal9 := (Below.refl wA.heap.size wA).alloc (Nat.le_refl _) (.cells #[.slice none 0 0, .bool false] 45)
        have hz9 : (wA.alloc (.cells #[.slice none 0 0, .bool false] 45)).heap.size = wA.heap.size + 1 := by simp
        generalize wA.alloc (.cells #[.slice none 0 0, .bool false] 45) = wb at *
        have hofr := octs_frames hF
        go_loopw [5, 10, 11] (fun b got i w2 => ∃ (k j : Nat) (rest held : List Int) (fh : Value), k ≤ 20 ∧ k ≤ C ∧ i = .int .i64 k ∧ Seg .u8 wA b rest ∧ Below wA.heap.size wA w2 ∧ wA.heap.size + 1 ≤ w2.heap.size ∧ Box 45 wA.heap.size w2 fh (.bool false) ∧ w2.ownsRow 0 5 1 fh held.length (u8s held) ∧ Hid ((Pl.getF held).2.2 = 71 ∧ held ++ rest = Pl.framesOf (PL.drop j) ∧ Pl.Octs held ∧ Pl.Octs rest) ∧ j ≤ PL.length ∧ held.length + rest.length ≤ 3690 ∧ Pays (Span (wA.heap.size + 1) w2) w2 got (PL.take j)) (fun _ _ i _ => 20 - (intOf i).toNat)
        case atStart => exact ⟨0, 0, _, [], _, by omega, Nat.zero_le _, rfl, hsb, hal9, by omega, hB9, World.ownsRow_nil _ _ _ _, ⟨by rw [Pl.getF_nil], by simp, Pl.octs_nil, hofr⟩, Nat.zero_le _, by simpa using hfl2, Pays.nil _ _⟩
        case round =>
          obtain ⟨i, j, rest, held, fh, hi20, hiC, rfl, hsb2, hb2, hsz2, hB2, hsh, HP, hj, hsum, hpay⟩ := hrel
          clear hsb hB9 hal9 hz9
          have hb02 := hbel.trans (hb2.mono hbel.size)
          obtain ⟨hP1, hP2, hoh, hor⟩ := HP.out
          have hck : Pl.checkF held false = 0 := by
            have h3 := Pl.getF_none_len _ hoh hP1
            unfold Pl.checkF
            rw [if_neg]
            rintro (g | g | g)
            · omega
            · simp at g
            · exact g hP1
          obtain ⟨ab, cb, hvb, q1, q2, q3, q4⟩ := id hsb2
          generalize hL : rest.length = L at hvb q1
          have HL : Hid (rest.length = L) := hL
          subst hvb
          rw [hL] at hsum
          unfold maxLen at q2
          obtain ⟨af, cf, hfh⟩ := own_shape hsh
          have hshS := own_seg hsh
          generalize hHL : held.length = hn at hsh hsum hfh
          have HHL : Hid (held.length = hn) := hHL
          subst hfh
          obtain ⟨ag, cg, hgt⟩ := hpay.shape
          generalize hGL : (PL.take j).length = gn at hgt
          subst hgt
          have hbdr := below_drew (Below.refl wr.heap.size wr)
          clear hL q3 q4 hHL hGL
          by_cases hlt2 : i < C ∧ i < 20
          · obtain ⟨hltC, hlt20⟩ := hlt2
            obtain ⟨bz, oz, rfl, hbz, hcz⟩ := seg_at (w := w) (l := cs) (by rw [HC.out]; omega) g3 g4
            have hcz2 := (hb02.cell (p := ⟨bz, oz + i, none⟩) hbz).trans (hcz i (by rw [HC.out]; exact hltC))
            have hzb := ho1 (cs.getD i 0) (by have := HC.out; simp [List.getD, show i < cs.length by omega])
            generalize cs.getD i 0 = z at *
            have hN1 : (0 : Int) < (L : Int) + 1 := by omega
            have ht1 := Int.tmod_lt_of_pos z hN1
            have ht2 := Int.lt_tmod_of_pos z hN1
            obtain ⟨K, hK⟩ := Int.eq_ofNat_of_zero_le (Int.tmod_nonneg ((L : Int) + 1) (show 0 ≤ z.tmod ((L : Int) + 1) + L + 1 by omega))
            have hKL : (K : Int) < (L : Int) + 1 := by
              rw [← hK]
              exact Int.tmod_lt_of_pos _ hN1
            have hne : (((L : Int) + 1) == 0) = false := by simp; omega
            clear hcz
            have hKL' : K ≤ rest.length := by have := HL.out; omega
            have hpc := seg_head (m := K) hsb2 hKL'
            obtain ⟨vt, hvt, hst⟩ := tail_all hsb2 K hKL'
            obtain ⟨i', held', hij, hfd, hn', he', hlh, htk⟩ := piece_fd PL j held (rest.take K) (rest.drop K) hF (by rw [List.append_assoc, List.take_append_drop]; exact hP2)
            have hopc : Pl.Octs (rest.take K) := Pl.octs_take hor K
            have hlpc : (rest.take K).length = K := by rw [List.length_take]; omega
            have hfeed : ∀ (W' : World) (nb : Nat), Below wr.heap.size wr W' → Segs W' (.slice (some ⟨nb, 0, none⟩) 1 1) [rest.take K] → Calls Try.prog 21 #[.agg #[.slice af hn cf, .bool false], .slice (some ⟨nb, 0, none⟩) 1 1] W' fun e w' => FeedsTo W' (held', false, (PL.drop j).take i', 0) e w' := by
              intro W' nb hb hsg
              have h := ffeed_good (.slice af hn cf) (.slice (some ⟨nb, 0, none⟩) 1 1) held false [rest.take K] W' (hshS.below hb) hsg hoh (by intro r hr; rw [List.mem_singleton.1 hr]; exact hopc) hck (by simp [lens]; have := HHL.out; omega)
              rw [show [rest.take K].foldl Pl.fd (held, false, [], 0) = (held', false, (PL.drop j).take i', 0) from hfd] at h
              exact h
            obtain ⟨f0, f1, f2, f3, f4⟩ := hB2.facts
            have hkc : (K : Int) ≤ cb := by omega
            have hpd := hpc.below (hb2.trans (hbdr.mono hb2.size))
            have z1 : Below wr.heap.size wr (wr.drew.alloc (.cells #[.slice ab K cb] 22)) := hbdr.alloc (Nat.le_refl _) _
            have s1 := Segs.one 22 hpd
            have z2 : Below wr.heap.size wr ((wr.drew.alloc (.cells #[.slice none 0 0, .bool false] 45)).alloc (.cells #[.slice ab K cb] 22)) := (hbdr.alloc (Nat.le_refl _) _).alloc (by simp) _
            have s2 := Segs.one 22 (hpd.below ((Below.refl _ _).alloc (Nat.le_refl _) (.cells #[.slice none 0 0, .bool false] 45)))
            rw [show (wr.drew.alloc (.cells #[.slice none 0 0, .bool false] 45)).heap.size = wr.heap.size + 1 by simp] at s2
            have z3 : Below wr.heap.size wr ((wr.drew.alloc (.cells #[.slice ab K cb] 22)).alloc (.cells #[.slice none 0 0, .bool false] 45)) := (hbdr.alloc (Nat.le_refl _) _).alloc (by simp) _
            have s3 : Segs ((wr.drew.alloc (.cells #[.slice ab K cb] 22)).alloc (.cells #[.slice none 0 0, .bool false] 45)) (.slice (some ⟨wr.heap.size, 0, none⟩) 1 1) [rest.take K] := segs_below s1 ((Below.refl _ _).alloc (Nat.le_refl _) _)
            have x2 : Box 45 wr.heap.size ((wr.drew.alloc (.cells #[.slice none 0 0, .bool false] 45)).alloc (.cells #[.slice ab K cb] 22)) (.slice none 0 0) (.bool false) := (Box.new 45 wr.drew _ _).below ((Below.refl _ _).alloc (Nat.le_refl _) _) (by simp)
            have x3 : Box 45 (wr.heap.size + 1) ((wr.drew.alloc (.cells #[.slice ab K cb] 22)).alloc (.cells #[.slice none 0 0, .bool false] 45)) (.slice none 0 0) (.bool false) := by
              have h := Box.new 45 (wr.drew.alloc (.cells #[.slice ab K cb] 22)) (.slice none 0 0) (.bool false)
              rw [show (wr.drew.alloc (.cells #[.slice ab K cb] 22)).heap.size = wr.heap.size + 1 by simp] at h
              exact h
            have hf1 := hfeed _ _ z1 s1
            have hf2 := hfeed _ _ z2 s2
            have hf3 := hfeed _ _ z3 s3
            clear hfeed
            go_upto_region 17 with fail
            go_cut [13, 14, 15] (fun p m e wx => ∃ (b13 : Nat) (x : Value), p = .pointer (some ⟨b13, 0, none⟩) ∧ e = .int .i64 0 ∧ Box 45 b13 wx x (.bool false) ∧ wr.heap.size ≤ b13 ∧ wx.ownsRow 0 5 1 x held'.length (u8s held') ∧ Pays (Span wr.heap.size wx) wx m ((PL.drop j).take i') ∧ Below wr.heap.size wr wx)
            case first =>
              go_region_law (first
                | (refine step_call2 (v := .agg #[.slice af hn cf, .bool false]) (u := .slice (some ⟨wr.heap.size + 1, 0, none⟩) 1 1) (o := { dst := some 92, op := .call { callee := .value (.func 21), args := #[.tmp 87, .tmp 91], argTypes := #[45, 33] }, type := _, pos := _, after := _, guard := none }) 21 Try.enter21 rfl 87 91 _ rfl (by first | (simp; done) | (unfold Act.put; simp; done)) (by first | (simp; done) | (unfold Act.put; simp; done)) ?_; refine hf2.mono ?_; rintro e w5 ⟨x, lv, rfl, hox, hpx, hb5⟩; have FA := first_A z2 (Nat.le_refl _) x2 hox hpx hb5; obtain ⟨_, _, _, k3, k4⟩ := (x2.below hb5 x2.facts.2.2.1).facts; obtain ⟨k1, k2, _, _, _⟩ := (x2.below hb5 x2.facts.2.2.1).facts; obtain ⟨ax, cx, rfl⟩ := own_shape hox; refine ⟨_, rfl, ?_⟩)
                | (refine step_call2 (v := .agg #[.slice af hn cf, .bool false]) (u := .slice (some ⟨wr.heap.size, 0, none⟩) 1 1) (o := { dst := some 92, op := .call { callee := .value (.func 21), args := #[.tmp 87, .tmp 91], argTypes := #[45, 33] }, type := _, pos := _, after := _, guard := none }) 21 Try.enter21 rfl 87 91 _ rfl (by first | (simp; done) | (unfold Act.put; simp; done)) (by first | (simp; done) | (unfold Act.put; simp; done)) ?_; first
                    | (refine hf1.mono ?_; rintro e w5 ⟨x, lv, rfl, hox, hpx, hb5⟩; have FB := first_B z1 hox hpx hb5; obtain ⟨ax, cx, rfl⟩ := own_shape hox; refine ⟨_, rfl, ?_⟩)
                    | (refine hf3.mono ?_; rintro e w5 ⟨x, lv, rfl, hox, hpx, hb5⟩; have FA := first_A z3 (by omega) x3 hox hpx hb5; obtain ⟨k1, k2, _, k3, k4⟩ := (x3.below hb5 x3.facts.2.2.1).facts; obtain ⟨ax, cx, rfl⟩ := own_shape hox; refine ⟨_, rfl, ?_⟩)))
              all_goals
                go_wp2
                go_meet
                first
                  | exact ⟨_, _, rfl, rfl, FB.1, FB.2.2.2.2, FB.2.1, FB.2.2.1, FB.2.2.2.1⟩
                  | exact ⟨_, _, rfl, rfl, FA.1, by omega, FA.2.1, FA.2.2.1, FA.2.2.2⟩
            case rest =>
              obtain ⟨b13, x, rfl, rfl, hX13, hb13, hox, hpm, hbx⟩ := hcut
              obtain ⟨ax, cx, hxs⟩ := own_shape hox
              obtain ⟨am, cm, hms⟩ := hpm.shape
              have hoxL : held'.length ≤ 3690 := by have := HHL.out; omega
              generalize hHn : held'.length = hn2 at hox hxs hoxL
              have HHn : Hid (held'.length = hn2) := hHn
              generalize hMn : ((PL.drop j).take i').length = mn at hms
              subst hxs hms
              clear hHn hMn z1 z2 z3 s1 s2 s3 x2 x3 hf1 hf2 hf3 hpd f0 f1 f3 f4
              have hwz := hbx.size
              have hB9c : Box 45 wA.heap.size wc (.slice af hn cf) (.bool false) := hB2.below hbx f2
              have hbdc := below_drew (Below.refl wc.heap.size wc)
              have hzd : wc.drew.heap.size = wc.heap.size := by simp
              have hpyD := (hpay.below hbx).below hbdc
              obtain ⟨ys, hRd, hEd⟩ := (hpm.below hbdc).reads
              have hQ : ∀ k, Span (wA.heap.size + 1) wr k → k < wc.drew.heap.size := fun k hk => by have := hk.2; rw [hzd]; omega
              have hRR : ∀ k, Span wr.heap.size wc k → k < wc.drew.heap.size ∧ (Value.slice ag gn cg).ownBlock ≠ some k := fun k hk => ⟨by have := hk.2; rw [hzd]; exact this, hpay.apart fun hq => by have h1 := hk.1; have h2 := hq.2; omega⟩
              have hl1 : (PL.take j).length + ((PL.drop j).take i').length ≤ 5864062014805 := by simp only [List.length_take, List.length_drop]; omega
              have hX13D : Box 45 b13 wc.drew (.slice ax hn2 cx) (.bool false) := hX13.below hbdc hX13.facts.2.2.1
              have hB9D : Box 45 wA.heap.size wc.drew (.slice af hn cf) (.bool false) := hB9c.below hbdc hB9c.facts.2.2.1
              have hne9 : (Value.slice ag gn cg).ownBlock ≠ some wA.heap.size := box_apart hB9D hpyD
              have hne13 : (Value.slice ag gn cg).ownBlock ≠ some b13 := box_apart hX13D hpyD
              have hoxD := ownsRow_below hox hbdc
              have hapx := own_apart hoxD hpyD
              obtain ⟨l1, l2, _, _, _⟩ := hX13D.facts
              have hb913 : ¬ wA.heap.size = b13 := by omega
              go_wp2_with (go_at_call 17; refine (num_any _ _).mono ?_; rintro e w6 ⟨rfl, hw6⟩; subst w6)
              go_region_law (refine step_append_pays (o := { dst := some 102, op := .call { callee := .builtin .append, args := #[.tmp 100, .tmp 101], argTypes := #[33, 33] }, type := _, pos := _, after := _, guard := none }) _ rfl (.tmp 100) (.tmp 101) rfl (Span (wA.heap.size + 1) wr) (Span wr.heap.size wc) (.slice ag gn cg) (.slice am mn cm) (PL.take j) ((PL.drop j).take i') ys (by first | rfl | (simp [Act.eval]; done) | (unfold Act.put; simp [Act.eval]; done)) (by first | rfl | (simp [Act.eval]; done) | (unfold Act.put; simp [Act.eval]; done)) hpyD hRd hEd hQ hRR hl1 ?_; intro v13 w13 hP13 hg13 hm13; have hX13E := hX13D.kept hg13 hne13; have hB9E := hB9D.kept hg13 hne9; obtain ⟨j1, j2, _, _, _⟩ := hX13E.facts; obtain ⟨j3, j4, _, j5, j6⟩ := hB9E.facts; obtain ⟨a13, c13, hv13⟩ := hP13.shape; generalize hGn : (PL.take j ++ (PL.drop j).take i').length = gn2 at hv13; subst hv13)
              all_goals
                go_wp2
                have hE := piece_round hb2 hbx (by omega) hB9E hg13 hpay (by rw [HHn.out]; exact hoxD) hapx hP13
                have hofr' := octs_frames (fun p hp => hF p (List.mem_of_mem_drop (i := j + i') hp))
                refine ⟨⟨i + 1, j + i', rest.drop K, held', _, by omega, by omega, by go_num, hst, hE.1, hE.2.1, hE.2.2.1, hE.2.2.2.1, ⟨hn', he', fun q hq => hofr' q (by rw [← he']; exact List.mem_append_left _ hq), fun q hq => hor q (List.mem_of_mem_drop hq)⟩, by omega, ?_, by rw [htk]; exact hE.2.2.2.2⟩, by simp [intOf]; omega⟩
                rw [List.length_drop]
                have e1 := HHn.out
                have e2 := HL.out
                have e3 := HHL.out
                omega
          · -- TAIL
            have hlf := last_fd PL j held rest hF hP2
            have hsbr := hsb2.below hb2
            have z0 : Below wr.heap.size wr (wr.alloc (.cells #[.slice ab L cb] 22)) := (Below.refl _ wr).alloc (Nat.le_refl _) _
            have s0 := Segs.one 22 hsbr
            have hfeed : Calls Try.prog 21 #[.agg #[.slice af hn cf, .bool false], .slice (some ⟨wr.heap.size, 0, none⟩) 1 1] (wr.alloc (.cells #[.slice ab L cb] 22)) fun e w' => FeedsTo (wr.alloc (.cells #[.slice ab L cb] 22)) ([], false, PL.drop j, 0) e w' := by
              have h := ffeed_good (.slice af hn cf) (.slice (some ⟨wr.heap.size, 0, none⟩) 1 1) held false [rest] _ (hshS.below z0) s0 hoh (by intro r hr; rw [List.mem_singleton.1 hr]; exact hor) hck (by simp [lens]; have := HHL.out; have := HL.out; omega)
              rw [show [rest].foldl Pl.fd (held, false, [], 0) = ([], false, PL.drop j, 0) from hlf] at h
              exact h
            obtain ⟨f0, f1, f2, f3, f4⟩ := hB2.facts
            have hPn : (PL.take j).length + (PL.drop j).length = PL.length := by rw [List.length_take, List.length_drop]; omega
            have HPP : Hid (PL.take j ++ PL.drop j = PL) := List.take_append_drop j PL
            obtain ⟨M6, hM6⟩ : ∃ M6, M6 = PL.length := ⟨_, rfl⟩
            have HM6 : Hid (M6 = PL.length) := hM6
            have hmin : (if (6 : Int) < (N : Int) then (6 : Int) else (N : Int)) = (M6 : Int) := by
              have h := HMN.out
              split <;> omega
            have hM66 : M6 ≤ 6 ∧ M6 ≤ N := by have h := HMN.out; omega
            clear hM6
            go_wp2_with fail
            all_goals
              refine hfeed.mono ?_
              rintro e w5 ⟨x, lv, rfl, hox, hpx, hb5⟩
              obtain ⟨ax, cx, rfl⟩ := own_shape hox
              simp only [List.length_nil]
              have hb5r : Below wr.heap.size wr w5 := z0.trans (hb5.mono (by simp))
              have hX16 := Box.new 45 w5 (.slice ax 0 cx) (.bool false)
              have hal16 := (Below.refl w5.heap.size w5).alloc (Nat.le_refl _) (.cells #[.slice ax 0 cx, .bool false] 45)
              have hz16 : (w5.alloc (.cells #[.slice ax 0 cx, .bool false] 45)).heap.size = w5.heap.size + 1 := by simp
              have hpyE := (hpay.below hb5r).below hal16
              obtain ⟨ys, hRd, hEd⟩ := (hpx.below hal16).reads
              have hwz := hb5r.size
              have hwz5 := hb5.size
              have hQ : ∀ k, Span (wA.heap.size + 1) wr k → k < (w5.alloc (.cells #[.slice ax 0 cx, .bool false] 45)).heap.size := fun k hk => by have := hk.2; rw [hz16]; omega
              have hRR : ∀ k, Span (wr.alloc (.cells #[.slice ab L cb] 22)).heap.size w5 k → k < (w5.alloc (.cells #[.slice ax 0 cx, .bool false] 45)).heap.size ∧ (Value.slice ag gn cg).ownBlock ≠ some k := fun k hk => ⟨by have := hk.2; rw [hz16]; omega, hpay.apart fun hq => by have h1 := hk.1; have h2 := hq.2; simp at h1; omega⟩
              have hl1 : (PL.take j).length + (PL.drop j).length ≤ 5864062014805 := by rw [hPn]; omega
              have hne16 := box_apart hX16 hpyE
              obtain ⟨al, cl, hlv⟩ := hpx.shape
              generalize hLn : (PL.drop j).length = ln at hlv
              subst hlv
              clear hfeed hPn
              go_wp2_with (first | (at_builtin; refine wpList_append_pays _ rfl (.tmp 114) (.tmp 115) rfl (Span (wA.heap.size + 1) wr) (Span (wr.alloc (.cells #[.slice ab L cb] 22)).heap.size w5) (.slice ag gn cg) (.slice al ln cl) (PL.take j) (PL.drop j) ys rfl rfl hpyE hRd hEd hQ hRR hl1 ?_; intro v7 w7 hP7 hg7 hm7; have hX7 := hX16.kept hg7 hne16; obtain ⟨p1, p2, p3, p4, p5⟩ := hX7.facts; rw [HPP.out] at hP7; obtain ⟨a7, c7, hv7⟩ := hP7.shape; rw [← HM6.out] at hv7; subst hv7) | (go_at_call 17; refine (num_any _ _).mono ?_; rintro e w6 ⟨rfl, hw6⟩; subst w6))
              have hgs : ∀ q, (Value.slice ag gn cg).ownBlock = some q → wA.heap.size + 1 ≤ q := by
                intro q hq
                by_cases h : Span (wA.heap.size + 1) wr q
                · exact h.1
                · exact absurd hq (hpay.apart h)
              have hbE : Below w.heap.size w (w5.alloc (.cells #[.slice ax 0 cx, .bool false] 45)) := (hb02.trans (hb5r.mono hb02.size)).alloc (Nat.le_trans hb02.size hwz) _
              have hwA := hbel.size
              have hbw7 : Below w.heap.size w w7 := hbE.trans ⟨hg7.os, hg7.tape, hg7.output, hg7.size, fun q hq => hg7.block q (by have := hbE.size; omega) (fun e => by have := hgs q e.symm; omega)⟩
              have hTx : Texts w7 (.slice a7 M6 c7) PL := hP7.texts
              obtain ⟨a7', c7', hv7', t1, t2, t3, t4⟩ := id hTx
              simp only [Value.slice.injEq] at hv7'
              obtain ⟨rfl, _, rfl⟩ := hv7'
              clear hP7 hg7 hm7 hX7 hX16 hpyE hRd hEd hQ hRR hpx hox hgs hbE
              go_loopw [19] (fun i wr => ∃ k : Nat, k ≤ M6 ∧ i = .int .i64 k ∧ Below w7.heap.size w7 wr) (fun i _ => M6 - (intOf i).toNat)
              case atStart => exact ⟨0, Nat.zero_le _, rfl, Below.refl _ _⟩
              case round =>
                obtain ⟨q, hq, rfl, hb8⟩ := hrel
                have hbw8 : Below w.heap.size w wr := hbw7.trans (hb8.mono hbw7.size)
                by_cases hqM : q < M6
                · obtain ⟨gb, go, rfl, hgl, hgc⟩ := texts_at (w := w7) (ls := PL) (by have := HM6.out; omega) t3 t4
                  obtain ⟨u1, hc1, hs1'⟩ := hgc q (by have := HM6.out; omega)
                  obtain ⟨lb, lo, rfl, hll, hlc⟩ := texts_at (w := w) (ls := ls) (by rw [HN.out]; omega) h3 h4
                  obtain ⟨u2, hc2, hs2'⟩ := hlc q (by rw [HN.out]; omega)
                  have D1 := (hb8.cell (p := ⟨gb, go + q, none⟩) hgl).trans hc1
                  have D2 := (hbw8.cell (p := ⟨lb, lo + q, none⟩) hll).trans hc2
                  have S1 := hs1'.below hb8
                  have S2 := hs2'.below hbw8
                  have hoP : ∀ z ∈ PL.getD q [], 0 ≤ z ∧ z ≤ 255 := by
                    intro z hz
                    have hfit := hF (PL.getD q []) (by have := HM6.out; simp [List.getD, show q < PL.length by omega])
                    exact hfit.2.2 z hz
                  have hKq := HK.out q (by have := HM6.out; omega)
                  generalize ls.getD q [] = p at *
                  obtain ⟨au, cu, hvu, e1, e2, e3, e4⟩ := id S2
                  generalize hpn : p.length = pn at hvu e1
                  subst hvu
                  obtain ⟨m, hm, hmp, hm0⟩ : ∃ m : Nat, (if (600 : Int) < (pn : Int) then (600 : Int) else (pn : Int)) = (m : Int) ∧ m ≤ pn ∧ p.take 600 = p.take m := by
                    by_cases h : (600 : Int) < (pn : Int)
                    · exact ⟨600, by rw [if_pos h]; rfl, by omega, rfl⟩
                    · exact ⟨pn, by rw [if_neg h], by omega, by rw [List.take_of_length_le (by omega), List.take_of_length_le (by omega)]⟩
                  have S3 := seg_head (m := m) S2 (by omega)
                  rw [← hm0, ← hKq] at S3
                  obtain ⟨a1', c1', hv1', _⟩ := id S1
                  generalize PL.getD q [] = P1 at *
                  generalize hP1n : P1.length = n1 at hv1'
                  subst hv1'
                  unfold maxLen at e2
                  have hmc : (m : Int) ≤ cu := by omega
                  have hsb : ∀ nq, Calls Try.prog 16 #[.slice a1' n1 c1', .slice au m cu] (wr.drewN nq) fun e w' => e = .returned (.bool true) ∧ w' = wr.drewN nq := by
                    intro nq
                    refine (sameBytes_any _ _ P1 P1 (wr.drewN nq) (S1.below (below_drewN (Below.refl _ _) nq)) (S3.below (below_drewN (Below.refl _ _) nq)) hoP hoP).mono ?_
                    rintro e w' ⟨rfl, rfl⟩
                    exact ⟨by simp, rfl⟩
                  clear hgc hlc hc1 hc2 hs1' hs2' e3 e4 hpn hm0 hKq hP1n
                  go_wp2_with fail
                  go_quiet (first | (go_at_call 16; exact Calls.quiet_of_same (hsb _)))
                  go_wp2
                  exact ⟨⟨q + 1, by omega, by go_num, below_drewN hb8 nq⟩, by simp [intOf]; omega⟩
                · go_wp2
                  go_ret
                  exact ⟨rfl, hbw8⟩
end Go.Proofs.Ytlfgnllmomeajaa.framePieces
