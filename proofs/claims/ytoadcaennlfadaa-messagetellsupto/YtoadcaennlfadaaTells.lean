/- For all messages m, n and all octets b, up to a bulk of 1048576: whether m may be, its octets, the octets' message, frames of both, messages of frames and to whom it goes are as the reference tells (the law MessageTells answers true), and no other memory is touched. -/
import Derived.Test.YtoadcaennlfadaaTL1
import Derived.Test.YtoadcaennlfadaaOW1
import Derived.Test.YtoadcaennlfadaaMN5
import Derived.Test.YtoadcaennlfadaaQO
import Derived.Test.YtoadcaennlfadaaRows
namespace Go.Proofs.Ytoadcaennlfadaa.messageTells
open Go.ChangeShapes Go.WideShapes Go.ChangeAt Go.RowKit
open Go.ChangeMaps (open_string shut_string)
set_option maxRecDepth 20000

theorem mseg_two {w : World} {b : Nat} {x y : Mg} {v u : Value} {d e : List Int} (h : Bx w b (x.cells v ++ y.cells u) 24) (hs : Seg .u8 w v d) (hu : Seg .u8 w u e) : MSeg w (.slice (some ⟨b, 0, none⟩) 2 2) [(x, d), (y, e)] := by
  refine ⟨some ⟨b, 0, none⟩, 2, rfl, by simp, by unfold maxLen; omega, (fun h => by cases h), fun g off ar ha _ => ?_⟩
  cases ha
  refine ⟨rfl, h.lt, fun i p hp => ?_⟩
  have hi : i = 0 ∨ i = 1 := by
    have := (List.getElem?_eq_some_iff.1 hp).1
    simp at this
    omega
  rcases hi with rfl | rfl
  · simp at hp
    subst hp
    exact ⟨v, ⟨h.cell 0 rfl, h.cell 1 rfl, h.cell 2 rfl, h.cell 3 rfl, h.cell 4 rfl, h.cell 5 rfl, h.cell 6 rfl, h.cell 7 rfl, h.cell 8 rfl, h.cell 9 rfl, h.cell 10 rfl, h.cell 11 rfl⟩, hs⟩
  · simp at hp
    subst hp
    exact ⟨u, ⟨h.cell 12 rfl, h.cell 13 rfl, h.cell 14 rfl, h.cell 15 rfl, h.cell 16 rfl, h.cell 17 rfl, h.cell 18 rfl, h.cell 19 rfl, h.cell 20 rfl, h.cell 21 rfl, h.cell 22 rfl, h.cell 23 rfl⟩, hu⟩

theorem two_E (x y : Mg) (d e : List Int) : ∃ I E, (∀ p ∈ [(x, d), (y, e)].take I, ckM p.1 p.2 = 0) ∧ I ≤ [(x, d), (y, e)].length ∧ (I = [(x, d), (y, e)].length ∧ E = 0 ∨ E ≠ 0 ∧ ∃ bx bd, [(x, d), (y, e)][I]? = some (bx, bd) ∧ E = ckM bx bd) := by
  by_cases h1 : ckM x d = 0
  · by_cases h2 : ckM y e = 0
    · exact ⟨2, 0, by simp [h1, h2], by simp, .inl ⟨rfl, rfl⟩⟩
    · exact ⟨1, ckM y e, by simp [h1], by simp, .inr ⟨h2, y, e, rfl, rfl⟩⟩
  · exact ⟨0, ckM x d, by simp, by simp, .inr ⟨h1, x, d, rfl, rfl⟩⟩

theorem enc_any_len (x : Mg) (d : List Int) : (encM x d).length ≤ 200 + d.length := by
  have hk := Pl.enc_len_le 9 x.k
  have hF : ∀ f, f ≠ 10 → (encF x d f).length ≤ 10 := fun f hf => by unfold encF; rw [if_neg hf]; exact Pl.enc_len_le 9 _
  have hT : (encF x d 10).length ≤ 10 + d.length := by
    unfold encF
    rw [if_pos rfl, List.length_append]
    have := Pl.enc_len_le 9 d.length
    omega
  have a0 := hF 0 (by decide)
  have a1 := hF 1 (by decide)
  have a2 := hF 2 (by decide)
  have a3 := hF 3 (by decide)
  have a4 := hF 4 (by decide)
  have a5 := hF 5 (by decide)
  have a6 := hF 6 (by decide)
  have a7 := hF 7 (by decide)
  have a8 := hF 8 (by decide)
  have a9 := hF 9 (by decide)
  have hl : (encM x d).length = (Pl.enc 9 x.k).length + ((usedP x.k).flatMap (encF x d)).length := by unfold encM; rw [List.length_append]
  have hu : ((usedP x.k).flatMap (encF x d)).length ≤ 150 + d.length := by
    unfold usedP
    repeat' split
    all_goals simp only [List.flatMap_cons, List.flatMap_nil, List.length_append, List.length_nil]
    all_goals omega
  omega
theorem frames_two (x y : Mg) (d e : List Int) : (Pl.framesOf ([(x, d), (y, e)].map encP)).length ≤ 500 + d.length + e.length := by
  have h1 := enc_any_len x d
  have h2 := enc_any_len y e
  have h3 := Pl.frame_len (encM x d)
  have h4 := Pl.frame_len (encM y e)
  have h5 := Pl.enc_len_le 9 (encM x d).length
  have h6 := Pl.enc_len_le 9 (encM y e).length
  simp only [Pl.framesOf, List.map_cons, List.map_nil, encP, List.flatMap_cons, List.flatMap_nil, List.length_append, List.length_nil]
  omega

theorem gOp_eqI {ops : Array Oper} {Q : Exit → Act → World → Prop} {i : Nat} {o : Oper} {a : Act} {w : World} {K : Act → World → Prop} (ho : ops[i]? = some o) (hw : Region.wanted o (yielded ops a.tmps) = true) (s t : Nat) (hop : o.op = .binOp .eql 3 (.tmp s) (.tmp t) 3) (x : Int) (hs : a.eval (.tmp s) = .int .i64 x) (ht : a.eval (.tmp t) = .int .i64 x)
    (h : K (a.put o.dst (.bool true)) w) : wpOp Try.prog ops Q i K a w := by
  refine gOp_ok ho hw ?_ h
  simp only [execOp, hop, hs, ht]
  go_simp
theorem gOp_eqB {ops : Array Oper} {Q : Exit → Act → World → Prop} {i : Nat} {o : Oper} {a : Act} {w : World} {K : Act → World → Prop} (ho : ops[i]? = some o) (hw : Region.wanted o (yielded ops a.tmps) = true) (s t : Nat) (hop : o.op = .binOp .eql 4 (.tmp s) (.tmp t) 4) (x : Bool) (hs : a.eval (.tmp s) = .bool x) (ht : a.eval (.tmp t) = .bool x)
    (h : K (a.put o.dst (.bool true)) w) : wpOp Try.prog ops Q i K a w := by
  refine gOp_ok ho hw ?_ h
  simp only [execOp, hop, hs, ht]
  go_simp
theorem bstep {a b c : World} (h : Below a.heap.size a b) (k : Below b.heap.size b c) : Below a.heap.size a c := h.trans (k.mono h.size)
theorem frames_world (w : World) (z x y : Mg) (vz v u : Value) : MBx ((w.alloc (.cells ⟨z.cells vz⟩ 24)).alloc (.cells ⟨x.cells v ++ y.cells u⟩ 24)) w.heap.size z vz ∧ Bx ((w.alloc (.cells ⟨z.cells vz⟩ 24)).alloc (.cells ⟨x.cells v ++ y.cells u⟩ 24)) (w.heap.size + 1) (x.cells v ++ y.cells u) 24 ∧ Below w.heap.size w ((w.alloc (.cells ⟨z.cells vz⟩ 24)).alloc (.cells ⟨x.cells v ++ y.cells u⟩ 24)) := by
  have hz : (w.alloc (.cells ⟨z.cells vz⟩ 24)).heap.size = w.heap.size + 1 := by simp
  have h1 : MBx (w.alloc (.cells ⟨z.cells vz⟩ 24)) w.heap.size z vz := Bx.new _ _ _
  have h2 : Bx ((w.alloc (.cells ⟨z.cells vz⟩ 24)).alloc (.cells ⟨x.cells v ++ y.cells u⟩ 24)) (w.alloc (.cells ⟨z.cells vz⟩ 24)).heap.size (x.cells v ++ y.cells u) 24 := Bx.new _ _ _
  rw [hz] at h2
  have b1 : Below w.heap.size w (w.alloc (.cells ⟨z.cells vz⟩ 24)) := (Below.refl _ w).alloc (Nat.le_refl _) _
  exact ⟨h1.below ((Below.refl _ _).alloc (Nat.le_refl _) _), h2, b1.alloc b1.size _⟩
theorem two_world (w : World) (x y : Mg) (v u : Value) : MBx ((w.alloc (.cells ⟨x.cells v⟩ 24)).alloc (.cells ⟨y.cells u⟩ 24)) w.heap.size x v ∧ MBx ((w.alloc (.cells ⟨x.cells v⟩ 24)).alloc (.cells ⟨y.cells u⟩ 24)) (w.heap.size + 1) y u ∧ Below w.heap.size w ((w.alloc (.cells ⟨x.cells v⟩ 24)).alloc (.cells ⟨y.cells u⟩ 24)) := by
  have hz : (w.alloc (.cells ⟨x.cells v⟩ 24)).heap.size = w.heap.size + 1 := by simp
  have h1 : MBx (w.alloc (.cells ⟨x.cells v⟩ 24)) w.heap.size x v := Bx.new _ _ _
  have h2 : MBx ((w.alloc (.cells ⟨x.cells v⟩ 24)).alloc (.cells ⟨y.cells u⟩ 24)) (w.alloc (.cells ⟨x.cells v⟩ 24)).heap.size y u := Bx.new _ _ _
  rw [hz] at h2
  have b1 : Below w.heap.size w (w.alloc (.cells ⟨x.cells v⟩ 24)) := (Below.refl _ w).alloc (Nat.le_refl _) _
  exact ⟨h1.below ((Below.refl _ _).alloc (Nat.le_refl _) _), h2, b1.alloc b1.size _⟩

set_option maxHeartbeats 8000000 in
theorem walk (x : Mg) (v : Value) (d : List Int) {w : World} (hs : Seg .u8 w v d) (hod : ∀ z ∈ d, 0 ≤ z ∧ z ≤ 255) (y : Mg) (v2 : Value) (d2 : List Int) (hs2 : Seg .u8 w v2 d2) (hod2 : ∀ z ∈ d2, 0 ≤ z ∧ z ≤ 255) (bv : Value) (l : List Int) (hb : Seg .u8 w bv l) (hol : ∀ z ∈ l, 0 ≤ z ∧ z ≤ 255) (hlen : d.length + d2.length + l.length ≤ 1048576) :
    Calls Try.prog 3 #[x.val v, y.val v2, bv] w fun e w' => e = .returned (.bool true) ∧ Below w.heap.size w w' := by
  obtain ⟨I, E, ok, hI, hE⟩ := two_E x y d d2
  obtain ⟨ms, F, hrd⟩ := rdm_ex l hol
  obtain ⟨ba, bcap, rfl, hx1⟩ := id hb
  obtain ⟨va, vcap, rfl, hx2⟩ := id hs
  obtain ⟨wa, wcap, rfl, hx3⟩ := id hs2
  have hfl := frames_two x y d d2
  have hdo2 : ∀ p ∈ [(x, d), (y, d2)], ∀ z ∈ p.2, 0 ≤ z ∧ z ≤ 255 := by
    intro p hp
    simp at hp
    rcases hp with rfl | rfl
    · exact hod
    · exact hod2
  have HCB := hid (fun W hs => copyBytes_any (.slice ba l.length bcap) l W hs (by omega))
  have HEN := hid (fun W hs => mEncode_R x (.slice va d.length vcap) d W hs)
  have HRE := hid (fun W hs => rEncode_R x (.slice va d.length vcap) d W hs hod)
  have HDE := hid (fun u W hs => mDecode_any u l W hs hol (by omega))
  have HRD := hid (fun W hs => rDecode_any (.slice ba l.length bcap) l W hs hol (by omega))
  have HFR := hid (fun u W h => mFrames_R u [(x, d), (y, d2)] W h hdo2 I ok E hE (by omega) (by simp))
  have HRF := hid (fun u W h => rFrames_any u [(x, d), (y, d2)] W h hdo2 I hI ok E hE (by omega))
  have HRR := hid (fun u W hs => mRead_R u l W hs hol (by omega) ms F hrd)
  have HRS := hid (fun W hs => rRead_R (.slice ba l.length bcap) l W hs hol (by omega) ms F hrd)
  have HCK := hid (fun W hs => mCheck_any x (.slice va d.length vcap) d W hs)
  have HRK := hid (fun W hs => rCheck_any x (.slice va d.length vcap) d W hs hod)
  have HBK := hid (fun W => mBack_any x (.slice va d.length vcap) W)
  have HRB := hid (fun W => rBack_any x (.slice va d.length vcap) W)
  have hoe := encR_octs (x := x) hod
  have hodc : ∀ z ∈ (dcm l).2.1, 0 ≤ z ∧ z ≤ 255 := by
    by_cases h : (dcm l).2.2 = 0
    · obtain ⟨a, b, c⟩ : ∃ a b, dcm l = (a, b, 0) := ⟨(dcm l).1, (dcm l).2.1, by rw [← h]⟩
      exact (dcm_just hol (by rw [c])).2.2
    · rw [dcm_bad h]; simp
  have hofr : ∀ z ∈ (if E = 0 then Pl.framesOf ([(x, d), (y, d2)].map encP) else []), 0 ≤ z ∧ z ≤ 255 := by
    by_cases h0 : E = 0
    · rw [if_pos h0]
      have hI2 : I = [(x, d), (y, d2)].length := by
        rcases hE with ⟨h, _⟩ | ⟨h, _⟩
        · exact h
        · exact absurd h0 h
      rw [hI2, List.take_length] at ok
      intro z hz
      unfold Pl.framesOf at hz
      obtain ⟨p, hp, hzp⟩ := List.mem_flatMap.1 hz
      obtain ⟨q, hq, rfl⟩ := List.mem_map.1 hp
      exact octs_frame' (enc_fits (ok q hq) (hdo2 q hq)) z hzp
    · rw [if_neg h0]
      simp
  have homs : ∀ p ∈ ms, ∀ z ∈ p.2, 0 ≤ z ∧ z ≤ 255 := by
    rcases hrd with ⟨_, rfl, _⟩ | ⟨_, _, rfl, _⟩ | ⟨_, _, ⟨_, _, _, h⟩ | ⟨_, rfl, _⟩⟩
    · simp
    · simp
    · exact h
    · simp
  generalize (if E = 0 then Pl.framesOf ([(x, d), (y, d2)].map encP) else []) = FR at *
  generalize encR x d = EN at *
  generalize ckM x d = CK at *
  generalize backB x.k = BK at *
  generalize dcm l = DC at *
  obtain ⟨dx, dt, der⟩ := DC
  simp only at HDE HRD hodc
  have HMT := hid (fun (W : World) (bb : Nat) (h : Bx W bb (x.cells (.slice va d.length vcap) ++ y.cells (.slice wa d2.length wcap)) 24) hs hu => mseg_two (x := x) (y := y) (d := d) (e := d2) h hs hu)
  have HSB := hid hb
  have HSD := hid hs
  have HS2 := hid hs2
  have HOE := hid hoe
  have HOL := hid hol
  have HODC := hid hodc
  have HOFR := hid hofr
  have HOMS := hid homs
  obtain ⟨P0, Q0, hb0⟩ := two_world w x y (.slice va d.length vcap) (.slice wa d2.length wcap)
  have hc1 := HCB.out _ (HSB.out.below hb0)
  have HP0 := hid P0
  have HQ0 := hid Q0
  have HB0 := hid hb0
  simp only [Mg.val, Mg.cells] at *
  clear hx1 hx2 hx3 P0 Q0 hb0 hb hs hs2 hol hod hod2 hfl hdo2 hlen hrd hE hI ok hoe hodc hofr homs
  go_enter Try.func3, Try.ntmps3
  go_wp2_with fail
  refine hc1.mono ?_
  rintro e w1 ⟨o1, rfl, R1, b1⟩
  have P1 := HP0.out.below b1
  have Q1 := HQ0.out.below b1
  have hb1 := HB0.out.trans (b1.mono HB0.out.size)
  have HSa_1 := hid (Seg.own R1)
  have HB1 := hid hb1
  have HP1 := hid P1
  have HQ1 := hid Q1
  have lt1 := P1.lt
  have ltq1 := Q1.lt
  obtain ⟨r1_0, r1_1, r1_2, r1_3, r1_4, r1_5, r1_6, r1_7, r1_8, r1_9, r1_10, r1_11⟩ := P1.facts
  clear hc1 HP0 HQ0 HB0 P1 Q1 hb1
  have hc2 := HEN.out w1 (HSD.out.below HB1.out)
  go_wp2_with fail
  refine hc2.mono ?_
  rintro e w2 ⟨o2, rfl, R2, b2⟩
  have P2 := HP1.out.below b2
  have Q2 := HQ1.out.below b2
  have hb2 := HB1.out.trans (b2.mono HB1.out.size)
  have HSa_2 := hid (HSa_1.out.below b2)
  have HSb_2 := hid (Seg.own R2)
  have HB2 := hid hb2
  have HP2 := hid P2
  have HQ2 := hid Q2
  have lt2 := P2.lt
  have ltq2 := Q2.lt
  obtain ⟨r2_0, r2_1, r2_2, r2_3, r2_4, r2_5, r2_6, r2_7, r2_8, r2_9, r2_10, r2_11⟩ := P2.facts
  clear r1_0 r1_1 r1_2 r1_3 r1_4 r1_5 r1_6 r1_7 r1_8 r1_9 r1_10 r1_11 lt1 ltq1
  clear hc2 HP1 HQ1 HB1 P2 Q2 hb2 HSa_1
  have hc3 := HRE.out w2 (HSD.out.below HB2.out)
  go_wp2_with fail
  refine hc3.mono ?_
  rintro e w3 ⟨o3, rfl, R3, b3⟩
  have P3 := HP2.out.below b3
  have Q3 := HQ2.out.below b3
  have hb3 := HB2.out.trans (b3.mono HB2.out.size)
  have HSa_3 := hid (HSa_2.out.below b3)
  have HSb_3 := hid (HSb_2.out.below b3)
  have HSc_3 := hid (Seg.own R3)
  have HB3 := hid hb3
  have HP3 := hid P3
  have HQ3 := hid Q3
  have lt3 := P3.lt
  have ltq3 := Q3.lt
  obtain ⟨r3_0, r3_1, r3_2, r3_3, r3_4, r3_5, r3_6, r3_7, r3_8, r3_9, r3_10, r3_11⟩ := P3.facts
  clear r2_0 r2_1 r2_2 r2_3 r2_4 r2_5 r2_6 r2_7 r2_8 r2_9 r2_10 r2_11 lt2 ltq2
  clear hc3 HP2 HQ2 HB2 P3 Q3 hb3 HSa_2 HSb_2
  have hc4 := HDE.out o1 w3 HSa_3.out
  go_wp2_with fail
  refine hc4.mono ?_
  rintro e w4 ⟨o4, rfl, R4, b4⟩
  have P4 := HP3.out.below b4
  have Q4 := HQ3.out.below b4
  have hb4 := HB3.out.trans (b4.mono HB3.out.size)
  have HSa_4 := hid (HSa_3.out.below b4)
  have HSb_4 := hid (HSb_3.out.below b4)
  have HSc_4 := hid (HSc_3.out.below b4)
  have HSd_4 := hid (Seg.own R4)
  have HB4 := hid hb4
  have HP4 := hid P4
  have HQ4 := hid Q4
  have lt4 := P4.lt
  have ltq4 := Q4.lt
  obtain ⟨r4_0, r4_1, r4_2, r4_3, r4_4, r4_5, r4_6, r4_7, r4_8, r4_9, r4_10, r4_11⟩ := P4.facts
  clear r3_0 r3_1 r3_2 r3_3 r3_4 r3_5 r3_6 r3_7 r3_8 r3_9 r3_10 r3_11 lt3 ltq3
  clear hc4 HP3 HQ3 HB3 P4 Q4 hb4 HSa_3 HSb_3 HSc_3
  obtain ⟨a4, c4, rfl, hx4⟩ := id HSd_4.out
  clear hx4
  have U4 : MBx (w4.alloc (.cells ⟨dx.cells (.slice a4 dt.length c4)⟩ 24)) w4.heap.size dx (.slice a4 dt.length c4) := Bx.new _ _ _
  have n4 : Below w4.heap.size w4 (w4.alloc (.cells ⟨dx.cells (.slice a4 dt.length c4)⟩ 24)) := (Below.refl _ _).alloc (Nat.le_refl _) _
  have hc5 := HRD.out _ ((HSB.out.below HB4.out).below n4)
  have HN4 := hid n4
  have HU4 := hid U4
  simp only [Mg.cells] at hc5 HN4 HU4
  clear n4 U4
  go_wp2_with fail
  refine hc5.mono ?_
  rintro e w5 ⟨o5, rfl, R5, k5⟩
  have b5 := bstep HN4.out k5
  have HU5 := hid (HU4.out.below k5)
  clear HU4 HN4
  have P5 := HP4.out.below b5
  have Q5 := HQ4.out.below b5
  have hb5 := HB4.out.trans (b5.mono HB4.out.size)
  have HSa_5 := hid (HSa_4.out.below b5)
  have HSb_5 := hid (HSb_4.out.below b5)
  have HSc_5 := hid (HSc_4.out.below b5)
  have HSd_5 := hid (HSd_4.out.below b5)
  have HSe_5 := hid (Seg.own R5)
  have HB5 := hid hb5
  have HP5 := hid P5
  have HQ5 := hid Q5
  have lt5 := P5.lt
  have ltq5 := Q5.lt
  obtain ⟨r5_0, r5_1, r5_2, r5_3, r5_4, r5_5, r5_6, r5_7, r5_8, r5_9, r5_10, r5_11⟩ := P5.facts
  obtain ⟨q5_0, q5_1, q5_2, q5_3, q5_4, q5_5, q5_6, q5_7, q5_8, q5_9, q5_10, q5_11⟩ := Q5.facts
  clear r4_0 r4_1 r4_2 r4_3 r4_4 r4_5 r4_6 r4_7 r4_8 r4_9 r4_10 r4_11 lt4 ltq4
  clear hc5 HP4 HQ4 HB4 P5 Q5 hb5 HSa_4 HSb_4 HSc_4 HSd_4
  obtain ⟨a5, c5, rfl, hx5⟩ := id HSe_5.out
  clear hx5 k5
  obtain ⟨V5, G5, n5⟩ := frames_world w5 dx x y (.slice a5 dt.length c5) (.slice va d.length vcap) (.slice wa d2.length wcap)
  have hc6 := HFR.out _ _ (HMT.out _ _ G5 ((HSD.out.below HB5.out).below n5) ((HS2.out.below HB5.out).below n5))
  have HN5 := hid n5
  have HV5 := hid V5
  simp only [Mg.cells, List.cons_append, List.nil_append] at hc6 HN5 HV5
  clear n5 V5 G5
  go_wp2_with fail
  refine hc6.mono ?_
  rintro e w6 ⟨o6, rfl, S6, k6⟩
  have b6 := bstep HN5.out k6
  have HV6 := hid (HV5.out.below k6)
  have HU6 := hid (HU5.out.below b6)
  clear HV5 HN5 HU5
  have P6 := HP5.out.below b6
  have Q6 := HQ5.out.below b6
  have hb6 := HB5.out.trans (b6.mono HB5.out.size)
  have HSa_6 := hid (HSa_5.out.below b6)
  have HSb_6 := hid (HSb_5.out.below b6)
  have HSc_6 := hid (HSc_5.out.below b6)
  have HSd_6 := hid (HSd_5.out.below b6)
  have HSe_6 := hid (HSe_5.out.below b6)
  have HSf_6 := hid (S6)
  have HB6 := hid hb6
  have HP6 := hid P6
  have HQ6 := hid Q6
  have lt6 := P6.lt
  have ltq6 := Q6.lt
  obtain ⟨r6_0, r6_1, r6_2, r6_3, r6_4, r6_5, r6_6, r6_7, r6_8, r6_9, r6_10, r6_11⟩ := P6.facts
  obtain ⟨q6_0, q6_1, q6_2, q6_3, q6_4, q6_5, q6_6, q6_7, q6_8, q6_9, q6_10, q6_11⟩ := Q6.facts
  clear r5_0 r5_1 r5_2 r5_3 r5_4 r5_5 r5_6 r5_7 r5_8 r5_9 r5_10 r5_11 q5_0 q5_1 q5_2 q5_3 q5_4 q5_5 q5_6 q5_7 q5_8 q5_9 q5_10 q5_11 lt5 ltq5
  clear hc6 HP5 HQ5 HB5 P6 Q6 hb6 HSa_5 HSb_5 HSc_5 HSd_5 HSe_5
  clear k6
  have G6 : Bx (w6.alloc (.cells ⟨x.cells (.slice va d.length vcap) ++ y.cells (.slice wa d2.length wcap)⟩ 24)) w6.heap.size (x.cells (.slice va d.length vcap) ++ y.cells (.slice wa d2.length wcap)) 24 := Bx.new _ _ _
  have n6 : Below w6.heap.size w6 (w6.alloc (.cells ⟨x.cells (.slice va d.length vcap) ++ y.cells (.slice wa d2.length wcap)⟩ 24)) := (Below.refl _ _).alloc (Nat.le_refl _) _
  have hc7 := HRF.out _ _ (HMT.out _ _ G6 ((HSD.out.below HB6.out).below n6) ((HS2.out.below HB6.out).below n6))
  have HN6 := hid n6
  simp only [Mg.cells, List.cons_append, List.nil_append] at hc7 HN6
  clear n6 G6
  go_wp2_with fail
  refine hc7.mono ?_
  rintro e w7 ⟨o7, rfl, S7, k7⟩
  have b7 := bstep HN6.out k7
  have HV7 := hid (HV6.out.below b7)
  have HU7 := hid (HU6.out.below b7)
  clear HV6 HN6 HU6
  have P7 := HP6.out.below b7
  have Q7 := HQ6.out.below b7
  have hb7 := HB6.out.trans (b7.mono HB6.out.size)
  have HSa_7 := hid (HSa_6.out.below b7)
  have HSb_7 := hid (HSb_6.out.below b7)
  have HSc_7 := hid (HSc_6.out.below b7)
  have HSd_7 := hid (HSd_6.out.below b7)
  have HSe_7 := hid (HSe_6.out.below b7)
  have HSf_7 := hid (HSf_6.out.below b7)
  have HSg_7 := hid (S7)
  have HB7 := hid hb7
  have HP7 := hid P7
  have HQ7 := hid Q7
  have lt7 := P7.lt
  have ltq7 := Q7.lt
  obtain ⟨r7_0, r7_1, r7_2, r7_3, r7_4, r7_5, r7_6, r7_7, r7_8, r7_9, r7_10, r7_11⟩ := P7.facts
  clear r6_0 r6_1 r6_2 r6_3 r6_4 r6_5 r6_6 r6_7 r6_8 r6_9 r6_10 r6_11 q6_0 q6_1 q6_2 q6_3 q6_4 q6_5 q6_6 q6_7 q6_8 q6_9 q6_10 q6_11 lt6 ltq6
  clear hc7 HP6 HQ6 HB6 P7 Q7 hb7 HSa_6 HSb_6 HSc_6 HSd_6 HSe_6 HSf_6
  clear k7
  have hc8 := HRR.out o1 w7 HSa_7.out
  go_wp2_with fail
  refine hc8.mono ?_
  rintro e w8 ⟨o8, rfl, S8, b8⟩
  have HV8 := hid (HV7.out.below b8)
  have HU8 := hid (HU7.out.below b8)
  clear HV7 HU7
  have P8 := HP7.out.below b8
  have Q8 := HQ7.out.below b8
  have hb8 := HB7.out.trans (b8.mono HB7.out.size)
  have HSa_8 := hid (HSa_7.out.below b8)
  have HSb_8 := hid (HSb_7.out.below b8)
  have HSc_8 := hid (HSc_7.out.below b8)
  have HSd_8 := hid (HSd_7.out.below b8)
  have HSe_8 := hid (HSe_7.out.below b8)
  have HSf_8 := hid (HSf_7.out.below b8)
  have HSg_8 := hid (HSg_7.out.below b8)
  have HSh_8 := hid (S8)
  have HB8 := hid hb8
  have HP8 := hid P8
  have HQ8 := hid Q8
  have lt8 := P8.lt
  have ltq8 := Q8.lt
  obtain ⟨r8_0, r8_1, r8_2, r8_3, r8_4, r8_5, r8_6, r8_7, r8_8, r8_9, r8_10, r8_11⟩ := P8.facts
  clear r7_0 r7_1 r7_2 r7_3 r7_4 r7_5 r7_6 r7_7 r7_8 r7_9 r7_10 r7_11 lt7 ltq7
  clear hc8 HP7 HQ7 HB7 P8 Q8 hb8 HSa_7 HSb_7 HSc_7 HSd_7 HSe_7 HSf_7 HSg_7
  have hc9 := HRS.out w8 (HSB.out.below HB8.out)
  go_wp2_with fail
  refine hc9.mono ?_
  rintro e w9 ⟨o9, rfl, S9, b9⟩
  have HV9 := hid (HV8.out.below b9)
  have HU9 := hid (HU8.out.below b9)
  clear HV8 HU8
  have P9 := HP8.out.below b9
  have Q9 := HQ8.out.below b9
  have hb9 := HB8.out.trans (b9.mono HB8.out.size)
  have HSa_9 := hid (HSa_8.out.below b9)
  have HSb_9 := hid (HSb_8.out.below b9)
  have HSc_9 := hid (HSc_8.out.below b9)
  have HSd_9 := hid (HSd_8.out.below b9)
  have HSe_9 := hid (HSe_8.out.below b9)
  have HSf_9 := hid (HSf_8.out.below b9)
  have HSg_9 := hid (HSg_8.out.below b9)
  have HSh_9 := hid (HSh_8.out.below b9)
  have HSi_9 := hid (S9)
  have HB9 := hid hb9
  have HP9 := hid P9
  have HQ9 := hid Q9
  have lt9 := P9.lt
  have ltq9 := Q9.lt
  obtain ⟨r9_0, r9_1, r9_2, r9_3, r9_4, r9_5, r9_6, r9_7, r9_8, r9_9, r9_10, r9_11⟩ := P9.facts
  clear r8_0 r8_1 r8_2 r8_3 r8_4 r8_5 r8_6 r8_7 r8_8 r8_9 r8_10 r8_11 lt8 ltq8
  clear hc9 HP8 HQ8 HB8 P9 Q9 hb9 HSa_8 HSb_8 HSc_8 HSd_8 HSe_8 HSf_8 HSg_8 HSh_8
  have hc10 := sameBytes_any o2 o3 EN EN w9 HSb_9.out HSc_9.out HOE.out HOE.out
  rw [beq_self_eq_true] at hc10
  go_wp2_with fail
  refine hc10.mono ?_
  rintro e w9x ⟨rfl, rfl⟩
  obtain ⟨U9a, V9a⟩ := (⟨HU9.out, HV9.out⟩ : MBx w9 w4.heap.size dx (.slice a4 dt.length c4) ∧ MBx w9 w5.heap.size dx (.slice a5 dt.length c5))
  obtain ⟨u9_0, u9_1, u9_2, u9_3, u9_4, u9_5, u9_6, u9_7, u9_8, u9_9, u9_10, u9_11⟩ := (U9a).facts
  obtain ⟨v9_0, v9_1, v9_2, v9_3, v9_4, v9_5, v9_6, v9_7, v9_8, v9_9, v9_10, v9_11⟩ := (V9a).facts
  have ltu := U9a.lt
  have ltv := V9a.lt
  have hc11 := same_self dx (.slice a4 dt.length c4) (.slice a5 dt.length c5) dt w9 HSd_9.out HSe_9.out HODC.out
  simp only [Mg.val] at hc11
  clear U9a V9a
  go_wp2_with fail
  refine (num_any _ w9).mono ?_
  rintro e wx ⟨rfl, rfl⟩
  go_wp2_with fail
  refine hc11.mono ?_
  rintro e w10 ⟨rfl, b10⟩
  have P10 := HP9.out.below b10
  have hb10 := HB9.out.trans (b10.mono HB9.out.size)
  have HSa_10 := hid (HSa_9.out.below b10)
  have HSf_10 := hid (HSf_9.out.below b10)
  have HSg_10 := hid (HSg_9.out.below b10)
  have HSh_10 := hid (HSh_9.out.below b10)
  have HSi_10 := hid (HSi_9.out.below b10)
  have HB10 := hid hb10
  have HP10 := hid P10
  clear hc11 hc10 b10 hb10 P10 HU9 HV9 HSd_9 HSe_9 HSa_9 HSf_9 HSg_9 HSh_9 HSi_9 HSb_9 HSc_9 ltu ltv lt9 ltq9 HB9 HP9 HQ9
  clear u9_0 u9_1 u9_2 u9_3 u9_4 u9_5 u9_6 u9_7 u9_8 u9_9 u9_10 u9_11
  clear v9_0 v9_1 v9_2 v9_3 v9_4 v9_5 v9_6 v9_7 v9_8 v9_9 v9_10 v9_11
  clear r9_0 r9_1 r9_2 r9_3 r9_4 r9_5 r9_6 r9_7 r9_8 r9_9 r9_10 r9_11
  go_wp2_with fail
  refine (num_any _ w10).mono ?_
  rintro e wx ⟨rfl, rfl⟩
  have hc12 := sameBytes_any o6 o7 FR FR w10 HSf_10.out HSg_10.out HOFR.out HOFR.out
  rw [beq_self_eq_true] at hc12
  go_wp2_with fail
  refine hc12.mono ?_
  rintro e wx ⟨rfl, rfl⟩
  go_wp2_with fail
  refine (num_any _ w10).mono ?_
  rintro e wx ⟨rfl, rfl⟩
  have hc13 := sameMsgs_true o8 o9 ms w10 HSh_10.out HSi_10.out HOMS.out
  go_wp2_with fail
  refine hc13.mono ?_
  rintro e w11 ⟨rfl, b11⟩
  have P11 := HP10.out.below b11
  have hb11 := HB10.out.trans (b11.mono HB10.out.size)
  have HSa_11 := hid (HSa_10.out.below b11)
  have HB11 := hid hb11
  have HP11 := hid P11
  obtain ⟨r11_0, r11_1, r11_2, r11_3, r11_4, r11_5, r11_6, r11_7, r11_8, r11_9, r11_10, r11_11⟩ := (P11).facts
  have lt11 := P11.lt
  clear hc12 hc13 b11 hb11 P11 HSa_10 HSf_10 HSg_10 HSh_10 HSi_10 HB10 HP10
  go_wp2_with fail
  refine (num_any _ w11).mono ?_
  rintro e wx ⟨rfl, rfl⟩
  have hc14 := HCK.out w11 (HSD.out.below HB11.out)
  have HSY := hid (fun (W : World) h1 h2 => sameBytes_any o1 (.slice ba l.length bcap) l l W h1 h2 HOL.out HOL.out)
  simp only [beq_self_eq_true] at HSY
  clear hc14
  go_wp2_with fail
  obtain ⟨val, hval⟩ : ∃ val : Nat → Value, val = fun jx => match jx with | 0 => .agg #[.int .i64 x.k, .int .i64 x.c, .int .i64 x.b, .int .i64 x.i, .int .i64 x.s, .int .i64 x.q, .int .i64 x.m, .int .i64 x.n, .int .i64 x.l, .int .i64 x.o, .int .i64 x.p, .slice va d.length vcap] | 1 => .int .i64 CK | 2 => .int .i64 CK | 3 => .agg #[.int .i64 x.k, .int .i64 x.c, .int .i64 x.b, .int .i64 x.i, .int .i64 x.s, .int .i64 x.q, .int .i64 x.m, .int .i64 x.n, .int .i64 x.l, .int .i64 x.o, .int .i64 x.p, .slice va d.length vcap] | 4 => .int .i64 CK | 5 => .bool true | 6 => .bool true | 7 => .agg #[.int .i64 x.k, .int .i64 x.c, .int .i64 x.b, .int .i64 x.i, .int .i64 x.s, .int .i64 x.q, .int .i64 x.m, .int .i64 x.n, .int .i64 x.l, .int .i64 x.o, .int .i64 x.p, .slice va d.length vcap] | 8 => .bool BK | 9 => .agg #[.int .i64 x.k, .int .i64 x.c, .int .i64 x.b, .int .i64 x.i, .int .i64 x.s, .int .i64 x.q, .int .i64 x.m, .int .i64 x.n, .int .i64 x.l, .int .i64 x.o, .int .i64 x.p, .slice va d.length vcap] | 10 => .bool BK | 11 => .bool true | 12 => .bool true | 13 => .bool true | 14 => o1 | 15 => .slice ba l.length bcap | 16 => .bool true | 17 => .bool true | 18 => .bool true | 19 => .bool true | 20 => .bool true | 21 => .bool true | _ => undef := ⟨_, rfl⟩
  refine wp_region_fixed (R := fun W => Below w11.heap.size w11 W) val (by kernel_rfl) (by kernel_rfl) (by kernel_rfl) (below_drew (Below.refl _ _)) ?step ?done
  case step =>
    subst hval
    intro i o ho A W hsz hdf hfr hdep hR
    rcases i with _ | _ | _ | _ | _ | _ | _ | _ | _ | _ | _ | _ | _ | _ | _ | _ | _ | _ | _ | _ | _ | _ | i
    · injection ho with ho
      subst ho
      have e3 : A.eval (.tmp 3) = _ := (hfr 3 (noDst_spec (by kernel_rfl))).trans rfl
      have q0 := (hR.cell (p := ⟨w.heap.size, 0, none⟩) lt11).trans r11_0
      have q1 := (hR.cell (p := ⟨w.heap.size, 1, none⟩) lt11).trans r11_1
      have q2 := (hR.cell (p := ⟨w.heap.size, 2, none⟩) lt11).trans r11_2
      have q3 := (hR.cell (p := ⟨w.heap.size, 3, none⟩) lt11).trans r11_3
      have q4 := (hR.cell (p := ⟨w.heap.size, 4, none⟩) lt11).trans r11_4
      have q5 := (hR.cell (p := ⟨w.heap.size, 5, none⟩) lt11).trans r11_5
      have q6 := (hR.cell (p := ⟨w.heap.size, 6, none⟩) lt11).trans r11_6
      have q7 := (hR.cell (p := ⟨w.heap.size, 7, none⟩) lt11).trans r11_7
      have q8 := (hR.cell (p := ⟨w.heap.size, 8, none⟩) lt11).trans r11_8
      have q9 := (hR.cell (p := ⟨w.heap.size, 9, none⟩) lt11).trans r11_9
      have q10 := (hR.cell (p := ⟨w.heap.size, 10, none⟩) lt11).trans r11_10
      have q11 := (hR.cell (p := ⟨w.heap.size, 11, none⟩) lt11).trans r11_11
      have ltW : w.heap.size < W.heap.size := Nat.lt_of_lt_of_le lt11 hR.size
      exact gOp_ld (v := .agg #[.int .i64 x.k, .int .i64 x.c, .int .i64 x.b, .int .i64 x.i, .int .i64 x.s, .int .i64 x.q, .int .i64 x.m, .int .i64 x.n, .int .i64 x.l, .int .i64 x.o, .int .i64 x.p, .slice va d.length vcap]) rfl (wanted_plain rfl) rfl e3 (by go_simp) ⟨_, rfl, rfl, Below.refl _ _, hR⟩
    · injection ho with ho
      subst ho
      have e116 : A.eval (.tmp 116) = .agg #[.int .i64 x.k, .int .i64 x.c, .int .i64 x.b, .int .i64 x.i, .int .i64 x.s, .int .i64 x.q, .int .i64 x.m, .int .i64 x.n, .int .i64 x.l, .int .i64 x.o, .int .i64 x.p, .slice va d.length vcap] := hdep ⟨0, .data⟩ (by simp) rfl _ _ rfl rfl
      refine gOp_enter rfl (wanted_plain rfl) 22 #[.agg #[.int .i64 x.k, .int .i64 x.c, .int .i64 x.b, .int .i64 x.i, .int .i64 x.s, .int .i64 x.q, .int .i64 x.m, .int .i64 x.n, .int .i64 x.l, .int .i64 x.o, .int .i64 x.p, .slice va d.length vcap]] (run_call _ (fun _ _ => rfl) _ _ rfl _ (by simp [e116])) ?_
      refine (HCK.out W (HSD.out.below (bstep HB11.out hR))).mono ?_
      rintro e w' ⟨rfl, hb'⟩
      exact ⟨_, rfl, _, rfl, rfl, hb', bstep hR hb'⟩
    · injection ho with ho
      subst ho
      have e117 : A.eval (.tmp 117) = .int .i64 CK := hdep ⟨1, .data⟩ (by simp) rfl _ _ rfl rfl
      refine gOp_enter rfl (wanted_plain rfl) 19 #[.int .i64 CK] (run_call _ (fun _ _ => rfl) _ _ rfl _ (by simp [e117])) ?_
      refine (num_any CK W).mono ?_
      rintro e w' ⟨rfl, rfl⟩
      exact ⟨_, rfl, _, rfl, rfl, Below.refl _ _, hR⟩
    · injection ho with ho
      subst ho
      have e3 : A.eval (.tmp 3) = _ := (hfr 3 (noDst_spec (by kernel_rfl))).trans rfl
      have q0 := (hR.cell (p := ⟨w.heap.size, 0, none⟩) lt11).trans r11_0
      have q1 := (hR.cell (p := ⟨w.heap.size, 1, none⟩) lt11).trans r11_1
      have q2 := (hR.cell (p := ⟨w.heap.size, 2, none⟩) lt11).trans r11_2
      have q3 := (hR.cell (p := ⟨w.heap.size, 3, none⟩) lt11).trans r11_3
      have q4 := (hR.cell (p := ⟨w.heap.size, 4, none⟩) lt11).trans r11_4
      have q5 := (hR.cell (p := ⟨w.heap.size, 5, none⟩) lt11).trans r11_5
      have q6 := (hR.cell (p := ⟨w.heap.size, 6, none⟩) lt11).trans r11_6
      have q7 := (hR.cell (p := ⟨w.heap.size, 7, none⟩) lt11).trans r11_7
      have q8 := (hR.cell (p := ⟨w.heap.size, 8, none⟩) lt11).trans r11_8
      have q9 := (hR.cell (p := ⟨w.heap.size, 9, none⟩) lt11).trans r11_9
      have q10 := (hR.cell (p := ⟨w.heap.size, 10, none⟩) lt11).trans r11_10
      have q11 := (hR.cell (p := ⟨w.heap.size, 11, none⟩) lt11).trans r11_11
      have ltW : w.heap.size < W.heap.size := Nat.lt_of_lt_of_le lt11 hR.size
      exact gOp_ld (v := .agg #[.int .i64 x.k, .int .i64 x.c, .int .i64 x.b, .int .i64 x.i, .int .i64 x.s, .int .i64 x.q, .int .i64 x.m, .int .i64 x.n, .int .i64 x.l, .int .i64 x.o, .int .i64 x.p, .slice va d.length vcap]) rfl (wanted_plain rfl) rfl e3 (by go_simp) ⟨_, rfl, rfl, Below.refl _ _, hR⟩
    · injection ho with ho
      subst ho
      have e119 : A.eval (.tmp 119) = .agg #[.int .i64 x.k, .int .i64 x.c, .int .i64 x.b, .int .i64 x.i, .int .i64 x.s, .int .i64 x.q, .int .i64 x.m, .int .i64 x.n, .int .i64 x.l, .int .i64 x.o, .int .i64 x.p, .slice va d.length vcap] := hdep ⟨3, .data⟩ (by simp) rfl _ _ rfl rfl
      refine gOp_enter rfl (wanted_plain rfl) 23 #[.agg #[.int .i64 x.k, .int .i64 x.c, .int .i64 x.b, .int .i64 x.i, .int .i64 x.s, .int .i64 x.q, .int .i64 x.m, .int .i64 x.n, .int .i64 x.l, .int .i64 x.o, .int .i64 x.p, .slice va d.length vcap]] (run_call _ (fun _ _ => rfl) _ _ rfl _ (by simp [e119])) ?_
      refine (HRK.out W (HSD.out.below (bstep HB11.out hR))).mono ?_
      rintro e w' ⟨rfl, hb'⟩
      exact ⟨_, rfl, _, rfl, rfl, hb', bstep hR hb'⟩
    · injection ho with ho
      subst ho
      have e118 : A.eval (.tmp 118) = .int .i64 CK := hdep ⟨2, .data⟩ (by simp) rfl _ _ rfl rfl
      have e120 : A.eval (.tmp 120) = .int .i64 CK := hdep ⟨4, .data⟩ (by simp) rfl _ _ rfl rfl
      exact gOp_eqI rfl (wanted_plain rfl) 118 120 rfl CK e118 e120 ⟨_, rfl, rfl, Below.refl _ _, hR⟩
    · injection ho with ho
      subst ho
      have e121 : A.eval (.tmp 121) = .bool true := hdep ⟨5, .data⟩ (by simp) rfl _ _ rfl rfl
      exact gOp_mv rfl (wanted_plain rfl) (.inl rfl) e121 ⟨_, rfl, rfl, Below.refl _ _, hR⟩
    · injection ho with ho
      subst ho
      have e3 : A.eval (.tmp 3) = _ := (hfr 3 (noDst_spec (by kernel_rfl))).trans rfl
      have q0 := (hR.cell (p := ⟨w.heap.size, 0, none⟩) lt11).trans r11_0
      have q1 := (hR.cell (p := ⟨w.heap.size, 1, none⟩) lt11).trans r11_1
      have q2 := (hR.cell (p := ⟨w.heap.size, 2, none⟩) lt11).trans r11_2
      have q3 := (hR.cell (p := ⟨w.heap.size, 3, none⟩) lt11).trans r11_3
      have q4 := (hR.cell (p := ⟨w.heap.size, 4, none⟩) lt11).trans r11_4
      have q5 := (hR.cell (p := ⟨w.heap.size, 5, none⟩) lt11).trans r11_5
      have q6 := (hR.cell (p := ⟨w.heap.size, 6, none⟩) lt11).trans r11_6
      have q7 := (hR.cell (p := ⟨w.heap.size, 7, none⟩) lt11).trans r11_7
      have q8 := (hR.cell (p := ⟨w.heap.size, 8, none⟩) lt11).trans r11_8
      have q9 := (hR.cell (p := ⟨w.heap.size, 9, none⟩) lt11).trans r11_9
      have q10 := (hR.cell (p := ⟨w.heap.size, 10, none⟩) lt11).trans r11_10
      have q11 := (hR.cell (p := ⟨w.heap.size, 11, none⟩) lt11).trans r11_11
      have ltW : w.heap.size < W.heap.size := Nat.lt_of_lt_of_le lt11 hR.size
      exact gOp_ld (v := .agg #[.int .i64 x.k, .int .i64 x.c, .int .i64 x.b, .int .i64 x.i, .int .i64 x.s, .int .i64 x.q, .int .i64 x.m, .int .i64 x.n, .int .i64 x.l, .int .i64 x.o, .int .i64 x.p, .slice va d.length vcap]) rfl (wanted_on true 6 122 _ rfl rfl rfl (hdep ⟨6, .guard⟩ (by simp) rfl _ _ rfl rfl)) rfl e3 (by go_simp) ⟨_, rfl, rfl, Below.refl _ _, hR⟩
    · injection ho with ho
      subst ho
      have e123 : A.eval (.tmp 123) = .agg #[.int .i64 x.k, .int .i64 x.c, .int .i64 x.b, .int .i64 x.i, .int .i64 x.s, .int .i64 x.q, .int .i64 x.m, .int .i64 x.n, .int .i64 x.l, .int .i64 x.o, .int .i64 x.p, .slice va d.length vcap] := hdep ⟨7, .data⟩ (by simp) rfl _ _ rfl rfl
      refine gOp_enter rfl (wanted_on true 6 122 _ rfl rfl rfl (hdep ⟨6, .guard⟩ (by simp) rfl _ _ rfl rfl)) 24 #[.agg #[.int .i64 x.k, .int .i64 x.c, .int .i64 x.b, .int .i64 x.i, .int .i64 x.s, .int .i64 x.q, .int .i64 x.m, .int .i64 x.n, .int .i64 x.l, .int .i64 x.o, .int .i64 x.p, .slice va d.length vcap]] (run_call _ (fun _ _ => rfl) _ _ rfl _ (by simp [e123])) ?_
      refine (HBK.out W).mono ?_
      rintro e w' ⟨rfl, hb'⟩
      exact ⟨_, rfl, _, rfl, rfl, hb', bstep hR hb'⟩
    · injection ho with ho
      subst ho
      have e3 : A.eval (.tmp 3) = _ := (hfr 3 (noDst_spec (by kernel_rfl))).trans rfl
      have q0 := (hR.cell (p := ⟨w.heap.size, 0, none⟩) lt11).trans r11_0
      have q1 := (hR.cell (p := ⟨w.heap.size, 1, none⟩) lt11).trans r11_1
      have q2 := (hR.cell (p := ⟨w.heap.size, 2, none⟩) lt11).trans r11_2
      have q3 := (hR.cell (p := ⟨w.heap.size, 3, none⟩) lt11).trans r11_3
      have q4 := (hR.cell (p := ⟨w.heap.size, 4, none⟩) lt11).trans r11_4
      have q5 := (hR.cell (p := ⟨w.heap.size, 5, none⟩) lt11).trans r11_5
      have q6 := (hR.cell (p := ⟨w.heap.size, 6, none⟩) lt11).trans r11_6
      have q7 := (hR.cell (p := ⟨w.heap.size, 7, none⟩) lt11).trans r11_7
      have q8 := (hR.cell (p := ⟨w.heap.size, 8, none⟩) lt11).trans r11_8
      have q9 := (hR.cell (p := ⟨w.heap.size, 9, none⟩) lt11).trans r11_9
      have q10 := (hR.cell (p := ⟨w.heap.size, 10, none⟩) lt11).trans r11_10
      have q11 := (hR.cell (p := ⟨w.heap.size, 11, none⟩) lt11).trans r11_11
      have ltW : w.heap.size < W.heap.size := Nat.lt_of_lt_of_le lt11 hR.size
      exact gOp_ld (v := .agg #[.int .i64 x.k, .int .i64 x.c, .int .i64 x.b, .int .i64 x.i, .int .i64 x.s, .int .i64 x.q, .int .i64 x.m, .int .i64 x.n, .int .i64 x.l, .int .i64 x.o, .int .i64 x.p, .slice va d.length vcap]) rfl (wanted_on true 6 122 _ rfl rfl rfl (hdep ⟨6, .guard⟩ (by simp) rfl _ _ rfl rfl)) rfl e3 (by go_simp) ⟨_, rfl, rfl, Below.refl _ _, hR⟩
    · injection ho with ho
      subst ho
      have e125 : A.eval (.tmp 125) = .agg #[.int .i64 x.k, .int .i64 x.c, .int .i64 x.b, .int .i64 x.i, .int .i64 x.s, .int .i64 x.q, .int .i64 x.m, .int .i64 x.n, .int .i64 x.l, .int .i64 x.o, .int .i64 x.p, .slice va d.length vcap] := hdep ⟨9, .data⟩ (by simp) rfl _ _ rfl rfl
      refine gOp_enter rfl (wanted_on true 6 122 _ rfl rfl rfl (hdep ⟨6, .guard⟩ (by simp) rfl _ _ rfl rfl)) 25 #[.agg #[.int .i64 x.k, .int .i64 x.c, .int .i64 x.b, .int .i64 x.i, .int .i64 x.s, .int .i64 x.q, .int .i64 x.m, .int .i64 x.n, .int .i64 x.l, .int .i64 x.o, .int .i64 x.p, .slice va d.length vcap]] (run_call _ (fun _ _ => rfl) _ _ rfl _ (by simp [e125])) ?_
      refine (HRB.out W).mono ?_
      rintro e w' ⟨rfl, hb'⟩
      exact ⟨_, rfl, _, rfl, rfl, hb', bstep hR hb'⟩
    · injection ho with ho
      subst ho
      have e124 : A.eval (.tmp 124) = .bool BK := hdep ⟨8, .data⟩ (by simp) rfl _ _ rfl rfl
      have e126 : A.eval (.tmp 126) = .bool BK := hdep ⟨10, .data⟩ (by simp) rfl _ _ rfl rfl
      exact gOp_eqB rfl (wanted_on true 6 122 _ rfl rfl rfl (hdep ⟨6, .guard⟩ (by simp) rfl _ _ rfl rfl)) 124 126 rfl BK e124 e126 ⟨_, rfl, rfl, Below.refl _ _, hR⟩
    · injection ho with ho
      subst ho
      have e122 : A.eval (.tmp 122) = .bool true := hdep ⟨6, .data⟩ (by simp) rfl _ _ rfl rfl
      have e127 : A.eval (.tmp 127) = .bool true := hdep ⟨11, .data⟩ (by simp) rfl _ _ rfl rfl
      exact gOp_pk (v := .bool true) rfl (wanted_plain rfl) rfl e122 (by first | exact e127 | rfl) ⟨_, rfl, rfl, Below.refl _ _, hR⟩
    · injection ho with ho
      subst ho
      have e128 : A.eval (.tmp 128) = .bool true := hdep ⟨12, .data⟩ (by simp) rfl _ _ rfl rfl
      exact gOp_mv rfl (wanted_plain rfl) (.inl rfl) e128 ⟨_, rfl, rfl, Below.refl _ _, hR⟩
    · injection ho with ho
      subst ho
      have e7 : A.eval (.tmp 7) = _ := (hfr 7 (noDst_spec (by kernel_rfl))).trans rfl
      exact gOp_mv rfl (wanted_on true 13 129 _ rfl rfl rfl (hdep ⟨13, .guard⟩ (by simp) rfl _ _ rfl rfl)) (.inl rfl) e7 ⟨_, rfl, rfl, Below.refl _ _, hR⟩
    · injection ho with ho
      subst ho
      have e2 : A.eval (.tmp 2) = _ := (hfr 2 (noDst_spec (by kernel_rfl))).trans rfl
      exact gOp_mv rfl (wanted_on true 13 129 _ rfl rfl rfl (hdep ⟨13, .guard⟩ (by simp) rfl _ _ rfl rfl)) (.inl rfl) e2 ⟨_, rfl, rfl, Below.refl _ _, hR⟩
    · injection ho with ho
      subst ho
      have e130 : A.eval (.tmp 130) = o1 := hdep ⟨14, .data⟩ (by simp) rfl _ _ rfl rfl
      have e131 : A.eval (.tmp 131) = .slice ba l.length bcap := hdep ⟨15, .data⟩ (by simp) rfl _ _ rfl rfl
      refine gOp_enter rfl (wanted_on true 13 129 _ rfl rfl rfl (hdep ⟨13, .guard⟩ (by simp) rfl _ _ rfl rfl)) 18 #[o1, .slice ba l.length bcap] (run_call _ (fun _ _ => rfl) _ _ rfl _ (by simp [e130, e131])) ?_
      refine (HSY.out W (HSa_11.out.below hR) (HSB.out.below (bstep HB11.out hR))).mono ?_
      rintro e w' ⟨rfl, rfl⟩
      exact ⟨_, rfl, _, rfl, rfl, Below.refl _ _, hR⟩
    · injection ho with ho
      subst ho
      have e129 : A.eval (.tmp 129) = .bool true := hdep ⟨13, .data⟩ (by simp) rfl _ _ rfl rfl
      have e132 : A.eval (.tmp 132) = .bool true := hdep ⟨16, .data⟩ (by simp) rfl _ _ rfl rfl
      exact gOp_pk (v := .bool true) rfl (wanted_plain rfl) rfl e129 (by first | exact e132 | rfl) ⟨_, rfl, rfl, Below.refl _ _, hR⟩
    · injection ho with ho
      subst ho
      have e133 : A.eval (.tmp 133) = .bool true := hdep ⟨17, .data⟩ (by simp) rfl _ _ rfl rfl
      exact gOp_mv rfl (wanted_plain rfl) (.inl rfl) e133 ⟨_, rfl, rfl, Below.refl _ _, hR⟩
    · injection ho with ho
      subst ho
      refine gOp_enter rfl (wanted_on true 18 134 _ rfl rfl rfl (hdep ⟨18, .guard⟩ (by simp) rfl _ _ rfl rfl)) 26 #[] (run_call _ (fun _ _ => rfl) _ _ rfl _ (by simp)) ?_
      refine (malive_any W).mono ?_
      rintro e w' ⟨rfl, hb'⟩
      exact ⟨_, rfl, _, rfl, rfl, hb', bstep hR hb'⟩
    · injection ho with ho
      subst ho
      have e134 : A.eval (.tmp 134) = .bool true := hdep ⟨18, .data⟩ (by simp) rfl _ _ rfl rfl
      have e135 : A.eval (.tmp 135) = .bool true := hdep ⟨19, .data⟩ (by simp) rfl _ _ rfl rfl
      exact gOp_pk (v := .bool true) rfl (wanted_plain rfl) rfl e134 (by first | exact e135 | rfl) ⟨_, rfl, rfl, Below.refl _ _, hR⟩
    · injection ho with ho
      subst ho
      have e136 : A.eval (.tmp 136) = .bool true := hdep ⟨20, .data⟩ (by simp) rfl _ _ rfl rfl
      exact gOp_mv rfl (wanted_plain rfl) (.inr rfl) e136 ⟨_, rfl, rfl, Below.refl _ _, hR⟩
    · simp at ho
  case done =>
    intro W hR
    subst hval
    simp only [putL, Act.put, List.setIfInBounds_toArray, List.set_cons_zero, List.set_cons_succ]
    go_wp2
    go_ret
    exact ⟨rfl, bstep HB11.out hR⟩

set_option maxRecDepth 100000 in
theorem contract (H : Type) (enc : TypeId × Value → H) (W : World) (base : Nat) (args : Array Value) (ds gs : List (DataW H)) (before : List MemPlace)
    (hval : ∀ (j : Nat) t v, Try.f3.params[j]? = some t → args[j]? = some v → Value.okWide Try.prog W .any base t v)
    (hW : DataW.Whole enc Try.prog Try.f3.params.toList Rows.messageTellsSpec.vars false W args.toList ds gs before) (hk : Rows.uptoSmall H (ds ++ gs) = true) :
    Calls Try.prog 3 args W fun e W' => ∃ v, e = .returned v ∧ Rows.messageTellsSpec.post enc Try.prog Try.f3 false true false false W args v W' := by
  have hW' := hW
  obtain ⟨p, q, hA0, hV, rfl, hfz, hnd⟩ := hW
  have hA : DataW.TrodAll enc Try.prog W 0 (fun _ => true) true Try.f3.params.toList args.toList ds p := hA0
  rw [Try.params3] at hA hval
  obtain ⟨v0, vs0, d0, ds0, p0, q0, hargs, rfl, rfl, h0, r0⟩ := trodAll_cons hA
  obtain ⟨v1, vs1, d1, ds1, p1, q1, rfl, rfl, rfl, h1, r1⟩ := trodAll_cons r0
  obtain ⟨v2, vs2, d2, ds2, p2, q2, rfl, rfl, rfl, h2, r2⟩ := trodAll_cons r1
  obtain ⟨rfl, rfl, rfl⟩ := trodAll_nil r2
  obtain rfl : args = #[v0, v1, v2] := by cases args; simp_all
  obtain ⟨rfl, rfl⟩ := trodVars_none hV
  have k0 := h0
  have lt0 : ∀ x ∈ p0, x.block < W.heap.size := by obtain ⟨m, hm⟩ := k0; exact DataW.trod_lt m _ _ _ hm
  obtain ⟨x0, y0, l0, hv0, hs0, ho0, e0⟩ := open_msg (hval 0 24 v0 rfl rfl) h0
  subst hv0
  have k1 := h1
  have lt1 : ∀ x ∈ p1, x.block < W.heap.size := by obtain ⟨m, hm⟩ := k1; exact DataW.trod_lt m _ _ _ hm
  obtain ⟨x1, y1, l1, hv1, hs1, ho1, e1⟩ := open_msg (hval 1 24 v1 rfl rfl) h1
  subst hv1
  have k2 := h2
  have lt2 : ∀ x ∈ p2, x.block < W.heap.size := by obtain ⟨m, hm⟩ := k2; exact DataW.trod_lt m _ _ _ hm
  obtain ⟨l2, hs2, ho2, e2⟩ := open_octets (hval 2 22 v2 rfl rfl) h2
  have hlen : l0.length + l1.length + l2.length ≤ 1048576 := by
    have h := bulk_bound hk
    simp only [List.append_nil, Rows.uptoBulkAll] at h
    have b0 := e0
    have b1 := e1
    have b2 := octets_bulk e2
    omega
  clear hA0
  refine (walk x0 y0 l0 hs0 ho0 x1 y1 l1 hs1 ho1 v2 l2 hs2 ho2 hlen).mono fun e W' ⟨he, bel⟩ => ?_
  subst he
  exact ⟨_, rfl, _, _, _, [], _, [], hW', trodAll_mk1 (shut_bool Try.underlying4 _), (trodAll_cons_mk (Below.trod laidOut (by kernel_rfl) (of_decide_eq_true (by kernel_rfl)) k0 bel lt0) (trodAll_cons_mk (Below.trod laidOut (by kernel_rfl) (of_decide_eq_true (by kernel_rfl)) k1 bel lt1) (trodAll_cons_mk (Below.trod laidOut (by kernel_rfl) (of_decide_eq_true (by kernel_rfl)) k2 bel lt2) trodAll_mk0))), rfl, bel.frame _, fun h => by cases h⟩

set_option maxRecDepth 100000 in
theorem lifted (os : Os) (started : os.Started) (H : Type) (enc : TypeId × Value → H) (F : Stop.Interp) :
    ReturnsInHanded {} Try.checked os 3 .any ((Rows.OpenSpec.upto Rows.messageTellsSpec).pre6 enc Try.prog Try.f3 Rows.messageTellsUptoRow.domain false) (((Rows.OpenSpec.upto Rows.messageTellsSpec).at F).post enc Try.prog Try.f3 false true false false) := by
  refine returnsInHanded_of_cond (C := Try.checked) (s := Rows.OpenSpec.upto Rows.messageTellsSpec) (k := Rows.uptoSmall) rfl own started (by kernel_rfl) Try.func3
    (OpenSpec.witness (enc := enc) (C := Try.checked) (s := Rows.OpenSpec.upto Rows.messageTellsSpec) (k := Rows.uptoSmall) rfl false ⟨#[], #[.agg #[.int .i64 0, .int .i64 0, .int .i64 0, .int .i64 0, .int .i64 0, .int .i64 0, .int .i64 0, .int .i64 0, .int .i64 0, .int .i64 0, .int .i64 0, .slice none 0 0], .agg #[.int .i64 0, .int .i64 0, .int .i64 0, .int .i64 0, .int .i64 0, .int .i64 0, .int .i64 0, .int .i64 0, .int .i64 0, .int .i64 0, .int .i64 0, .slice none 0 0], .slice none 0 0], []⟩ 8 (by kernel_rfl) (by kernel_rfl) (by kernel_rfl)
      (x := ([.agg [.lit (.int .i64 0), .lit (.int .i64 0), .lit (.int .i64 0), .lit (.int .i64 0), .lit (.int .i64 0), .lit (.int .i64 0), .lit (.int .i64 0), .lit (.int .i64 0), .lit (.int .i64 0), .lit (.int .i64 0), .lit (.int .i64 0), .nil], .agg [.lit (.int .i64 0), .lit (.int .i64 0), .lit (.int .i64 0), .lit (.int .i64 0), .lit (.int .i64 0), .lit (.int .i64 0), .lit (.int .i64 0), .lit (.int .i64 0), .lit (.int .i64 0), .lit (.int .i64 0), .lit (.int .i64 0), .nil], .nil], [], [])) (by kernel_rfl) rfl (by kernel_rfl)) ?_
  intro W base args ds gs before hval hW _ hk _
  exact contract H enc W base args ds gs before hval hW hk

theorem over : Rows.MessageTellsUptoSaid :=
  OpenClaim.holds_of_cond 3 Try.f3 rfl rfl rfl rfl rfl rfl rfl ⟨rfl, rfl, rfl, rfl, rfl⟩ rfl rfl rfl rfl rfl (by kernel_rfl) Try.func3 (by kernel_rfl)
    (of_decide_eq_true (by kernel_rfl)) (by unfold Func.isWrapper; first | (rw [if_pos (by decide +kernel)]; kernel_rfl) | (rw [if_neg (by decide +kernel)]; exact ⟨rfl, rfl⟩))
    (fun os started H enc _ F => lifted os started H enc F)
end Go.Proofs.Ytoadcaennlfadaa.messageTells

namespace Go.Proofs.Ytoadcaennlfadaa
/-- THE STATEMENT. -/
theorem messageTellsUpto_holds : Rows.MessageTellsUptoSaid := messageTells.over
#print axioms messageTellsUpto_holds
end Go.Proofs.Ytoadcaennlfadaa
