/- waybillref09: Encode. -/
import Derived.Test.YtoadcaennlfadaaRF5
namespace Go.Proofs.Ytoadcaennlfadaa
open Go.RowKit
set_option maxRecDepth 20000

set_option maxHeartbeats 4000000 in
theorem rEncode_bad (x : Mg) (v : Value) (d : List Int) (w : World) (hs : Seg .u8 w v d) (hd : ∀ z ∈ d, 0 ≤ z ∧ z ≤ 255) (h : ckM x d ≠ 0) :
    Calls Try.prog 11 #[x.val v] w fun e w' => e = .returned (.tuple #[.slice none 0 0, .int .i64 (ckM x d)]) ∧ Below w.heap.size w w' := by
  have hc := fun w hs => rCheck_any x v d w hs hd
  obtain ⟨va, vcap, rfl, _⟩ := id hs
  have hbe : (ckM x d == 0) = false := by simp [h]
  have hbn : (ckM x d != 0) = true := by simp [h]
  generalize ckM x d = E at *
  have hal : ∀ o, Below w.heap.size w (w.alloc o) := fun o => (Below.refl _ w).alloc (Nat.le_refl _) o
  have hch := hc _ (hs.below (hal (.cells ⟨x.cells (.slice va d.length vcap)⟩ 24)))
  unfold Mg.val Mg.cells at *
  clear h hc
  go_enter Try.func11, Try.ntmps11
  go_wp2_with fail
  refine hch.mono ?_
  rintro e w1 ⟨rfl, hb⟩
  have hb1 : Below w.heap.size w w1 := (hal _).trans (hb.mono (by simp))
  clear hch hb
  go_wp2
  go_ret2
  exact ⟨rfl, hb1⟩

theorem flat_take_succN (g : Nat → List Int) (l : List Nat) (k : Nat) (h : k < l.length) : (l.take (k + 1)).flatMap g = (l.take k).flatMap g ++ g (l.getD k 0) := by
  rw [List.take_succ_eq_append_getElem h]
  simp only [List.flatMap_append, List.flatMap_cons, List.flatMap_nil, List.append_nil]
  simp [List.getD, h]
theorem encL_len (x : Mg) (d : List Int) (h : d.length ≤ 1024) (l : List Nat) : (l.flatMap fun c => encF x d (plc c)).length ≤ 1034 * l.length := by
  induction l with
  | nil => simp
  | cons f r ih =>
    have := encF_len x d (plc f) h
    simp only [List.flatMap_cons, List.length_append, List.length_cons]
    omega

set_option maxHeartbeats 8000000 in
theorem rEncode_ok (x : Mg) (v : Value) (d : List Int) (w : World) (hs : Seg .u8 w v d) (hd : ∀ z ∈ d, 0 ≤ z ∧ z ≤ 255) (h : ckM x d = 0) :
    Calls Try.prog 11 #[x.val v] w fun e w' => ∃ v', e = .returned (.tuple #[v', .int .i64 0]) ∧ w'.ownsRow w.heap.size 5 1 v' (encM x d).length (u8s (encM x d)) ∧ Below w.heap.size w w' := by
  have hc := fun w hs => rCheck_any x v d w hs hd
  obtain ⟨va, vcap, rfl, _⟩ := id hs
  obtain ⟨k1, k2, k3, _, _⟩ := ck_zero h
  rw [h] at hc
  have hk := used_kind k1
  have hfm := form_any x.k
  have HX := hid (fun i hi w => ix_form hk i hi w)
  have HLT := hid (fun i hi => form_let hk i hi)
  have hF7 := form_len hk
  have hfs := form_size hk
  have hb0 := num_bd k2 1
  have hbb : x.nums.getD 1 0 = x.b := rfl
  rw [hbb] at hb0
  have HEN : Hid (encM x d = (Pl.enc 9 x.k ++ Pl.enc 9 x.b) ++ (formL x.k).flatMap (fun c => encF x d (plc c))) := by
    show _ = _
    unfold encM
    rw [used_form k1, List.flatMap_cons, List.flatMap_map]
    have : encF x d 1 = Pl.enc 9 x.b := rfl
    rw [this, List.append_assoc]
  have hwk : IntKind.u64.wrap x.k = x.k := wrap_u64 _ (by omega) (by omega)
  have hwb : IntKind.u64.wrap x.b = x.b := wrap_u64 _ (by omega) (by omega)
  have HK2 := hid k2
  obtain ⟨FL, hFL⟩ : ∃ FL, FL = (formL x.k).length := ⟨_, rfl⟩
  have HFL := hid hFL
  rw [← hFL] at hF7 hfs
  have hal : ∀ o, Below w.heap.size w (w.alloc o) := fun o => (Below.refl _ w).alloc (Nat.le_refl _) o
  have hch := hc _ (hs.below (hal (.cells ⟨x.cells (.slice va d.length vcap)⟩ 24)))
  have hMB : MBx (w.alloc (.cells ⟨x.cells (.slice va d.length vcap)⟩ 24)) w.heap.size x (.slice va d.length vcap) := Bx.new _ _ _
  have HS := hid hs
  generalize encM x d = EN at *
  have hvl : x.val (.slice va d.length vcap) = .agg #[.int .i64 x.k, .int .i64 x.c, .int .i64 x.b, .int .i64 x.i, .int .i64 x.s, .int .i64 x.q, .int .i64 x.m, .int .i64 x.n, .int .i64 x.l, .int .i64 x.o, .int .i64 x.p, .slice va d.length vcap] := rfl
  rw [hvl] at hch ⊢
  have hp1 := fun W => rput_any (.slice none 0 0) [] x.k W (Seg.nil _ _) (by omega) (by omega) (by simp)
  have hel1 := Pl.enc_len_le 9 x.k
  have hel2 := Pl.enc_len_le 9 x.b
  have HP2 := hid (fun bv W hs => rput_any bv (Pl.enc 9 x.k) x.b W hs (by omega) (by omega) (by omega))
  simp only [Mg.cells] at hch
  obtain ⟨hk1, hk8⟩ := hk
  clear h hc k1 k2 hs hd hFL hvl hbb
  go_enter Try.func11, Try.ntmps11
  go_wp2_with fail
  refine hch.mono ?_
  rintro e w1 ⟨rfl, hb⟩
  have HB1 := hid (show Below w.heap.size w w1 from (hal _).trans (hb.mono (by simp)))
  have M1 := hMB.below hb
  have HM1 := hid M1
  obtain ⟨r0, r1, r2, r3, r4, r5, r6, r7, r8, r9, r10, r11⟩ := M1.facts
  have lm := M1.lt
  clear hch hb hMB hal M1
  have hp1D : ∀ n, Calls Try.prog 29 #[.slice none 0 0, .int .u64 x.k] (w1.drewN n) fun e w' => ∃ v', e = .returned v' ∧ w'.ownsRow w1.heap.size 5 1 v' (Pl.enc 9 x.k).length (u8s (Pl.enc 9 x.k)) ∧ Below w1.heap.size w1 w' := fun n => by
    have hbn := below_drewN (Below.refl w1.heap.size w1) n
    refine (hp1 (w1.drewN n)).mono ?_
    rintro e w' ⟨v', rfl, o, b⟩
    exact ⟨v', rfl, by simpa using o, hbn.trans b⟩
  have HP2D := hid (show ∀ bv W, Below w1.heap.size w1 W → W.ownsRow w1.heap.size 5 1 bv (Pl.enc 9 x.k).length (u8s (Pl.enc 9 x.k)) → Calls Try.prog 29 #[bv, .int .u64 x.b] W fun e w' => ∃ v', e = .returned v' ∧ w'.ownsRow w1.heap.size 5 1 v' (Pl.enc 9 x.k ++ Pl.enc 9 x.b).length (u8s (Pl.enc 9 x.k ++ Pl.enc 9 x.b)) ∧ Below w1.heap.size w1 w' from fun bv W b o => by
    refine (HP2.out bv W (Seg.own o)).mono ?_
    rintro e w' ⟨v', rfl, o', b'⟩
    exact ⟨v', rfl, ownsRow_lower o' b.size, b.trans (b'.mono b.size)⟩)
  clear hp1 HP2
  go_wp2_with fail
  go_region_with (first | (go_at_call 29; refine (HP2D.out _ _ (below_drewN b6 _) (ownsRow_below o6 (below_drewN (Below.refl _ _) _))).mono ?_; rintro e w7 ⟨v7, rfl, o7, b7⟩) | (go_at_call 29; refine (HP2D.out _ _ b6 o6).mono ?_; rintro e w7 ⟨v7, rfl, o7, b7⟩) | (go_at_call 29; refine (hp1D _).mono ?_; rintro e w6 ⟨v6, rfl, o6, b6⟩; have M6 := HM1.out.below b6; obtain ⟨t0, t1, t2, t3, t4, t5, t6, t7, t8, t9, t10, t11⟩ := M6.facts; have lm6 := M6.lt))
  all_goals
    have OW : Hid (w7.ownsRow w1.heap.size 5 1 v7 (Pl.enc 9 x.k ++ Pl.enc 9 x.b).length (u8s (Pl.enc 9 x.k ++ Pl.enc 9 x.b))) := o7
    have M7 := HM1.out.below b7
    have y0 := M7.facts.1
    have lm7 := M7.lt
    clear o7 o6 b6 M6 t0 t1 t2 t3 t4 t5 t6 t7 t8 t9 t10 t11 lm6 hp1D HP2D r0 r1 r2 r3 r4 r5 r6 r7 r8 r9 r10 r11 lm M7
    go_wp2_with (go_at_call 30; refine (hfm _).mono ?_; rintro e w8 ⟨rfl, hw8⟩; subst hw8)
    go_loopw [5, 7] (fun o i wr => ∃ k : Nat, k ≤ FL ∧ i = .int .i64 k ∧ Hid (wr.ownsRow w1.heap.size 5 1 o ((Pl.enc 9 x.k ++ Pl.enc 9 x.b) ++ ((formL x.k).take k).flatMap (fun c => encF x d (plc c))).length (u8s ((Pl.enc 9 x.k ++ Pl.enc 9 x.b) ++ ((formL x.k).take k).flatMap (fun c => encF x d (plc c))))) ∧ Below w1.heap.size w1 wr) (fun _ i _ => FL - (intOf i).toNat)
    case atStart => exact ⟨0, Nat.zero_le _, rfl, by simpa using OW, b7⟩
    case round =>
      obtain ⟨k, hk, rfl, hown, hbel⟩ := hrel
      clear OW y0 lm7 b7
      by_cases hlt : k < FL
      · have hix := fun w => HX.out k (by have := HFL.out; omega) w
        have hlet := HLT.out k (by have := HFL.out; omega)
        have HT := hid (flat_take_succN (fun c => encF x d (plc c)) (formL x.k) k (by have := HFL.out; omega))
        have Mr := HM1.out.below hbel
        have lmr := Mr.lt
        have hsd : Seg .u8 wr (.slice va d.length vcap) d := (HS.out.below HB1.out).below hbel
        have hll := encL_len x d k3 ((formL x.k).take k)
        have hll2 : ((formL x.k).take k).length ≤ 7 := by rw [List.length_take]; omega
        have HT1 := hid (show (Pl.enc 9 x.k ++ Pl.enc 9 x.b) ++ ((formL x.k).take (k + 1)).flatMap (fun c => encF x d (plc c)) = ((Pl.enc 9 x.k ++ Pl.enc 9 x.b) ++ ((formL x.k).take k).flatMap (fun c => encF x d (plc c))) ++ encF x d (plc ((formL x.k).getD k 0)) by rw [HT.out, List.append_assoc (Pl.enc 9 x.k ++ Pl.enc 9 x.b)])
        have hlk : ((Pl.enc 9 x.k ++ Pl.enc 9 x.b) ++ ((formL x.k).take k).flatMap (fun c => encF x d (plc c))).length ≤ 100000 := by simp only [List.length_append]; omega
        clear HT hll hll2
        generalize (formL x.k).getD k 0 = c at *
        generalize (Pl.enc 9 x.k ++ Pl.enc 9 x.b) ++ ((formL x.k).take k).flatMap (fun c => encF x d (plc c)) = LK at *
        have hso := Seg.own hown.out
        by_cases h100 : c = 100
        · subst h100
          have htx := rtexts_any u5 (.slice va d.length vcap) LK d wr hso hsd (by omega)
          have HT2 : Hid (LK ++ Pl.enc 9 d.length ++ d = (Pl.enc 9 x.k ++ Pl.enc 9 x.b) ++ ((formL x.k).take (k + 1)).flatMap (fun c => encF x d (plc c))) := by
            show _ = _
            rw [HT1.out]
            have : encF x d (plc 100) = Pl.enc 9 d.length ++ d := rfl
            rw [this, List.append_assoc]
          have c11 := Mr.facts.2.2.2.2.2.2.2.2.2.2.2
          clear HT1 hso hown hlet
          go_wp2_with fail
          refine htx.mono ?_
          rintro e w9 ⟨o2, rfl, hown2, hb9⟩
          have HO : Hid (w9.ownsRow w1.heap.size 5 1 o2 ((Pl.enc 9 x.k ++ Pl.enc 9 x.b) ++ ((formL x.k).take (k + 1)).flatMap (fun c => encF x d (plc c))).length (u8s ((Pl.enc 9 x.k ++ Pl.enc 9 x.b) ++ ((formL x.k).take (k + 1)).flatMap (fun c => encF x d (plc c))))) := by rw [← HT2.out]; exact ownsRow_lower hown2 hbel.size
          have hbb := hbel.trans (hb9.mono hbel.size)
          clear hown2 htx HT2
          go_wp2
          go_roundw
          case rel => exact ⟨k + 1, by omega, by go_num, HO, hbb⟩
          case measure => simp [intOf]; omega
        · have hlet2 := hlet.resolve_left h100
          have hcb : ((c : Int) == 100) = false := by simp; omega
          obtain ⟨hc0, hc10⟩ := plc_lt hlet2
          have hfd := fun W => field_any w.heap.size c W hlet2
          obtain ⟨j, hj⟩ : ∃ j : Nat, (plc c).toNat = j := ⟨_, rfl⟩
          have hj10 : j < 10 := by omega
          obtain ⟨hn0, hn1⟩ := num_bd HK2.out j
          have cm := mb_num Mr j hj10
          have hwr : IntKind.u64.wrap (x.nums.getD j 0) = x.nums.getD j 0 := wrap_u64 _ (by omega) (by omega)
          have htx := rput_any u5 LK (x.nums.getD j 0) wr hso (by omega) (by omega) (by omega)
          have HT2 : Hid (LK ++ Pl.enc 9 (x.nums.getD j 0) = (Pl.enc 9 x.k ++ Pl.enc 9 x.b) ++ ((formL x.k).take (k + 1)).flatMap (fun c => encF x d (plc c))) := by
            show _ = _
            rw [HT1.out]
            have : encF x d (plc c) = Pl.enc 9 (x.nums.getD j 0) := by unfold encF; rw [if_neg (by omega), hj]
            rw [this]
          rw [hj] at hfd
          generalize x.nums.getD j 0 = y at *
          clear HT1 hso hown hlet hlet2 hj hc0 hc10
          go_wp2_with (go_at_call 32; refine (hfd _).mono ?_; rintro e w6 ⟨rfl, hw6⟩; subst hw6)
          refine htx.mono ?_
          rintro e w9 ⟨o2, rfl, hown2, hb9⟩
          have HO : Hid (w9.ownsRow w1.heap.size 5 1 o2 ((Pl.enc 9 x.k ++ Pl.enc 9 x.b) ++ ((formL x.k).take (k + 1)).flatMap (fun c => encF x d (plc c))).length (u8s ((Pl.enc 9 x.k ++ Pl.enc 9 x.b) ++ ((formL x.k).take (k + 1)).flatMap (fun c => encF x d (plc c))))) := by rw [← HT2.out]; exact ownsRow_lower hown2 hbel.size
          have hbb := hbel.trans (hb9.mono hbel.size)
          clear hown2 htx HT2
          go_wp2
          go_roundw
          case rel => exact ⟨k + 1, by omega, by go_num, HO, hbb⟩
          case measure => simp [intOf]; omega
      · have hke : (formL x.k).take k = formL x.k := List.take_of_length_le (by have := HFL.out; omega)
        rw [hke, ← HEN.out] at hown
        have HO := hid (ownsRow_lower (C := w.heap.size) hown.out HB1.out.size)
        have HB := hid (HB1.out.trans (hbel.mono HB1.out.size))
        clear hke hown hbel
        go_wp2
        go_ret2
        exact ⟨_, rfl, HO.out, HB.out⟩
end Go.Proofs.Ytoadcaennlfadaa
