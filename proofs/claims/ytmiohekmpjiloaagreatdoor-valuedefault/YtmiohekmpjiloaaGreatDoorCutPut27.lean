/- The reference's reader: structs, one field after the other. The reference's Parse, of tokens that declare structs alone. The reference's Text, of a text that declares structs alone. The reference's Find. The reference's Known, of types that may be. The reference's fields: 0 just if a struct's fields may be. The reference's depth of a struct of plain fields. The reference's names of a schema of one struct. The reference's Print: how long texts are; what a round keeps. The reference's Print, of a schema that may be. The reference's Check of a schema of one struct of plain fields. -/
import Derived.Test.YtmiohekmpjiloaaGreatDoorCutPut26
import Derived.Test.YtmiohekmpjiloaaGreatDoorCutPut16
import Derived.Test.YtmiohekmpjiloaaGreatDoorCutPut17
import Derived.Test.YtmiohekmpjiloaaGreatDoorCutPut22
namespace Go.Proofs.YtmiohekmpjiloaaGreatDoor
open Go.RowKit
set_option maxRecDepth 20000

theorem ch_grown_new {X : Nat → TypeId → Prop} {w w5 w6 : World} {row : Option Nat} (h : Ch X w w5) (hg : w5.grownBy w6 row) (hr : ∀ k, row = some k → w.heap.size ≤ k) : Ch X w w6 :=
  ⟨hg.os.trans h.os, hg.tape.trans h.tape, hg.output.trans h.output, Nat.le_trans h.size hg.size, fun g o ho hx => by
    have hlt := lt_of_some ho
    exact (hg.block g (Nat.lt_of_lt_of_le hlt h.size) (fun e => by have := hr g e.symm; omega)).trans (h.block g o ho hx)⟩
/-- Where the reader is. -/
def rdAt (b : Nat) (w : World) : Nat := match w.cell? ⟨b, 1, none⟩ with
  | some v => (intOf v).toNat
  | none => 0
theorem Rd.rdAt {b : Nat} {tv : Value} {tl : List Z3} {i : Nat} {s1 s2 s3 : Value} {w : World} (h : Rd b tv tl i s1 s2 s3 w) : rdAt b w = i := by
  unfold Go.Proofs.YtmiohekmpjiloaaGreatDoor.rdAt
  rw [h.box.cell 1 rfl]
  simp [intOf]
theorem Rd.grown {b : Nat} {tv : Value} {tl : List Z3} {i : Nat} {s1 s2 s3 : Value} {w w' : World} {row : Option Nat} (h : Rd b tv tl i s1 s2 s3 w) (hg : w.grownBy w' row) (hr : ∀ k, row = some k → b < k) : Rd b tv tl i s1 s2 s3 w' :=
  ⟨(hg.block b h.box.lt (fun e => by have := hr b e.symm; omega)).trans h.box,
   h.toks.belB ⟨hg.os, hg.tape, hg.output, hg.size, fun k hk => hg.block k (Nat.lt_trans hk h.box.lt) (fun e => by have := hr k e.symm; omega)⟩ h.old, h.few, h.old⟩
theorem Xr.no {b g : Nat} {T : TypeId} (h : T ≠ 209) : ¬ Xr b g T := fun hx => h hx.2

theorem Rows.ch2 {α : Type} {X : Nat → TypeId → Prop} {T : TypeId} {m : Nat} {R : α → List Value → World → Prop} {B : Nat} {w w' : World} {v : Value} {xs : List α} (h : Rows T m R B w v xs) (hc : Ch X w w') (hR : ∀ a c, R a c w → R a c w') (hX : ∀ k, v.ownBlock = some k → ¬ X k T) : Rows T m R B w' v xs := by
  obtain ⟨ps, h1, h2, h3⟩ := h
  exact ⟨ps, h1, fun p hp => ⟨hR _ _ (h2 p hp).1, (h2 p hp).2⟩, own_ch h3 hc hX⟩
theorem Rows.lt {α : Type} {T : TypeId} {m : Nat} {R : α → List Value → World → Prop} {B : Nat} {w : World} {v : Value} {xs : List α} (h : Rows T m R B w v xs) {k : Nat} (hk : v.ownBlock = some k) : B ≤ k ∧ k < w.heap.size := by
  obtain ⟨ps, h1, h2, h3⟩ := h
  obtain ⟨q1, cur, q2⟩ := own_block h3 hk
  exact ⟨q1, lt_of_some q2⟩
/-- The box of a field that is on its way. -/
def Xf (q : Nat) (g : Nat) (T : TypeId) : Prop := g = q ∧ T = 61
def Xl (_ : Nat) (T : TypeId) : Prop := T = 61
/-- What lies beside the reader while a field is read: the struct's box, its fields so far, the field's box. -/
structure Fi (b p q n0 B : Nat) (tv : Value) (tl : List Z3) (s1 s2 s3 : Value) (nm : ByteArray) (fv : Value) (fs : List Pl.Fld) (cs : List Value) (i : Nat) (w : World) (wr : World) : Prop where
  hp : Bx wr p [.string nm, fv] 59
  hq : Bx wr q cs 61
  hf : Rows 61 5 (FldR B) n0 wr fv fs
  hr : Rd b tv tl i s1 s2 s3 wr
  hc : Ch (Xr b) w wr
  far : ∀ k, fv.ownBlock = some k → k < q
theorem Fi.ch {b p q n0 B : Nat} {tv : Value} {tl : List Z3} {s1 s2 s3 : Value} {nm : ByteArray} {fv : Value} {fs : List Pl.Fld} {cs : List Value} {i j : Nat} {w wr wr' : World} (h : Fi b p q n0 B tv tl s1 s2 s3 nm fv fs cs i w wr) (hc : Ch (Xr b) wr wr') (hr : Rd b tv tl j s1 s2 s3 wr') : Fi b p q n0 B tv tl s1 s2 s3 nm fv fs cs j w wr' :=
  ⟨h.hp.ch hc (Xr.no (by decide)), h.hq.ch hc (Xr.no (by decide)), h.hf.ch hc (fun a c hh => FldR.ch hc (fun _ _ => Xr.no (by decide)) a c hh) (fun _ _ => Xr.no (by decide)), hr, h.hc.trans hc, h.far⟩
theorem Fi.set {b p q n0 B : Nat} {tv : Value} {tl : List Z3} {s1 s2 s3 : Value} {nm : ByteArray} {fv : Value} {fs : List Pl.Fld} {cs : List Value} {i : Nat} {w wr : World} (h : Fi b p q n0 B tv tl s1 s2 s3 nm fv fs cs i w wr) (hpq : p ≠ q) (hbq : b < q) (hwq : w.heap.size ≤ q) (k : Nat) (u : Value) : Fi b p q n0 B tv tl s1 s2 s3 nm fv fs (cs.set k u) i w (wr.setCell ⟨q, k, none⟩ u) := by
  have hc : Ch (Xf q) wr (wr.setCell ⟨q, k, none⟩ u) := Ch.set h.hq ⟨rfl, rfl⟩ u
  refine ⟨Bx.other h.hp hpq u, h.hq.set k u, h.hf.ch2 hc (fun a c hh => FldR.ch hc (fun g _ hx => by have := hx.2; revert this; decide) a c hh) (fun g hg hx => ?_), h.hr.set hbq k u, h.hc.new hwq u, h.far⟩
  have := h.far g hg
  have h2 : g = q := hx.1
  omega

theorem sct_ch {B : Nat} {X : Nat → TypeId → Prop} {w w' : World} (hc : Ch X w w') (h1 : ∀ g, ¬ X g 61) (h2 : ∀ g, ¬ X g 29) (a : List Nat × List Pl.Fld) (c : List Value) (h : SctR B a c w) : SctR B a c w' := by
  obtain ⟨s, ad, m, cp, e1, e2, e3⟩ := h
  exact ⟨s, ad, m, cp, e1, e2, e3.ch hc (fun a c h => FldR.ch hc (fun g _ => h2 g) a c h) (fun k _ => h1 k)⟩
/-- What a struct's reading turns: the reader, and the row of structs. -/
def Xrs (b B : Nat) (g : Nat) (T : TypeId) : Prop := Xr b g T ∨ (B ≤ g ∧ T = 59)
def Xst (_ : Nat) (T : TypeId) : Prop := T = 59

structure StI (b p n0 B : Nat) (tv : Value) (tl : List Z3) (s1 s2 s3 : Value) (nm : ByteArray) (fs : List Pl.Fld) (i0 : Nat) (w : World) (wr : World) : Prop where
  all : ∃ (k : Nat) (fv : Value), k ≤ fs.length ∧ Bx wr p [.string nm, fv] 59 ∧ Rows 61 5 (FldR B) n0 wr fv (fs.take k) ∧ Rd b tv tl (i0 + ((fs.take k).map Pl.fldK).flatten.length) s1 s2 s3 wr ∧ Ch (Xr b) w wr

theorem kt_at {tl : List Z3} {i : Nat} {ps : List (List Pl.Kt)} {r : List Pl.Kt} (h : KtAt tl i (ps.flatten ++ r)) {k : Nat} {p : List Pl.Kt} (hk : ps[k]? = some p) : KtAt tl (i + (ps.take k).flatten.length) p := by
  have e : ps = ps.take k ++ p :: ps.drop (k + 1) := by
    have h1 : k < ps.length := (List.getElem?_eq_some_iff.1 hk).1
    have h2 := (List.getElem?_eq_some_iff.1 hk).2
    rw [← h2, List.getElem_cons_drop, List.take_append_drop]
  rw [e] at h
  simp only [List.flatten_append, List.flatten_cons, List.append_assoc] at h
  exact h.part.2.part.1
theorem kt_end {tl : List Z3} {i : Nat} {ps : List (List Pl.Kt)} {r : List Pl.Kt} (h : KtAt tl i (ps.flatten ++ r)) : KtAt tl (i + ps.flatten.length) r := h.part.2

set_option maxHeartbeats 32000000 in
theorem rstructs_ok (b B : Nat) (tv : Value) (tl : List Z3) (hln : ∀ (j : Nat) (t : Z3), tl[j]? = some t → 1 ≤ t.2.2) (i : Nat) (s1 s2 s3 : Value) (xs : List (List Nat × List Pl.Fld)) (x : List Nat × List Pl.Fld) (hx : Pl.okDecl (Pl.mkSt x)) (w : World) (h : Rd b tv tl i s1 s2 s3 w) (hR : Rows 59 2 (SctR B) B w s1 xs) (hbB : b < B) (hB : B ≤ w.heap.size) (hxs : xs.length ≤ 64)
    (hK : KtAt tl i ((1, x.1) :: (3, [123]) :: ((x.2.map Pl.fldK).flatten ++ [(3, [125])]))) :
    Calls Tryz.prog 160 #[.pointer (some ⟨b, 0, none⟩)] w fun e w' => ∃ s1', e = .returned (.tuple #[]) ∧ Rows 59 2 (SctR B) B w' s1' (xs ++ [x]) ∧ Rd b tv tl (i + 3 + ((x.2.map Pl.fldK).flatten).length) s1' s2 s3 w' ∧ Ch (Xrs b B) w w' := by
  obtain ⟨hxn, hxl, hxf⟩ : Pl.okName x.1 ∧ x.2.length ≤ 32 ∧ ∀ f ∈ x.2, Pl.okFld f := hx
  have hK2 : KtAt tl i ([((1 : Nat), x.1)] ++ ([((3 : Nat), [123])] ++ ((x.2.map Pl.fldK).flatten ++ [(3, [125])]))) := hK
  obtain ⟨p1, p2⟩ := hK2.part
  obtain ⟨p3, p4⟩ := p2.part
  obtain ⟨nm, ln1, q1, hnm⟩ := p1.one
  obtain ⟨sg, ln2, q2, hsg⟩ := p3.one
  obtain rfl : sg = ⟨#[123]⟩ := bl_inj hsg
  have HNAME := hid (rrname_ok b tv tl i s1 s2 s3 w h _ q1 (by rw [hnm]; exact hxn))
  have HSIGN := hid (fun W (hW : Rd b tv tl (i + 1) s1 s2 s3 W) => rsign_ok b tv tl (i + 1) s1 s2 s3 W hW _ q2)
  have HK4 := hid p4
  have HNM := hid hnm
  have HXF := hid hxf
  have HR := hid hR
  have HLN := hid hln
  have hblt := h.box.lt
  clear hK hK2 p1 p2 p3 p4 q1 q2 hsg hnm hxf hR hln h hxn
  go_enter Tryz.func160, Tryz.ntmps160
  go_wp2_with fail
  refine HNAME.out.mono ?_
  rintro e w1 ⟨rfl, hr1, hc1⟩
  obtain ⟨w2, hw2⟩ : ∃ w2, w2 = w1.alloc (.cells #[.string nm, .slice none 0 0] 59) := ⟨_, rfl⟩
  have hb2 : Below w1.heap.size w1 w2 := by rw [hw2]; exact below_alloc w1 _
  have HP2 : Hid (Bx w2 w1.heap.size [.string nm, .slice none 0 0] 59) := by
    show Bx _ _ _ _
    rw [hw2]
    exact Bx.new w1 _ _
  have HS2 := hid (HSIGN.out w2 (hr1.below hb2))
  have HC2 := hid (hc1.trans (Ch.below hb2))
  have hpb : w1.heap.size ≠ b := by have := hr1.box.lt; omega
  have hwp : w.heap.size ≤ w1.heap.size := hc1.size
  have HW2 := hid hw2
  clear hr1 hc1 hb2 hw2 HNAME HSIGN
  go_wp2_with fail
  rw [← HW2.out]
  refine HS2.out.mono ?_
  rintro e w3 ⟨rfl, hr3, hc3⟩
  have HP3 := hid (HP2.out.ch hc3 (fun e => hpb e.1))
  have HR3 := hid hr3
  have HC3 := hid (HC2.out.trans hc3)
  obtain ⟨p, hp⟩ : ∃ p, p = w1.heap.size := ⟨_, rfl⟩
  rw [← hp] at HP3 hpb hwp ⊢
  clear hr3 hc3 HP2 HS2 HC2 HW2 hp
  go_wp2_with fail
  go_loopw [3] (fun _ wr => StI b p w.heap.size B tv tl s1 s2 s3 nm x.2 (i + 2) w wr) (fun _ wr => 70000 - rdAt b wr)
  case atStart => exact ⟨0, _, Nat.zero_le _, HP3.out, Rows.nil _ _ _ _ _, by simpa using HR3.out, HC3.out⟩
  case round =>
    obtain ⟨k, fv, hk, hP, hF, hr, hc⟩ := hrel.all
    clear hrel
    obtain ⟨adf, cpf, hfv⟩ := hF.shape
    rw [List.length_take, Nat.min_eq_left hk] at hfv
    subst hfv
    obtain ⟨I, hI⟩ : ∃ I, I = i + 2 + ((x.2.take k).map Pl.fldK).flatten.length := ⟨_, rfl⟩
    rw [← hI] at hr
    have hIr := hr.rdAt
    have y1 := hP.cell 1 rfl
    by_cases hkl : k < x.2.length
    · obtain ⟨f, hf⟩ : ∃ f, x.2[k]? = some f := ⟨x.2[k], by simp⟩
      have hA : KtAt tl I (Pl.fldK f) := by
        have := kt_at HK4.out (k := k) (p := Pl.fldK f) (by rw [List.getElem?_map, hf]; rfl)
        rw [← List.map_take] at this
        rw [hI]
        exact this
      obtain ⟨hf1, hf2, hf3, hf4⟩ : Pl.okFld f := HXF.out f (List.mem_of_getElem? hf)
      have hA2 : KtAt tl I ([((2 : Nat), Pl.dec f.num)] ++ ([((1 : Nat), f.name)] ++ ([((3 : Nat), [58])] ++ (Pl.tyK f.ty ++ [(3, [59])])))) := hA
      obtain ⟨p1, r1⟩ := hA2.part
      obtain ⟨p2, r2⟩ := r1.part
      obtain ⟨p3, r3⟩ := r2.part
      obtain ⟨p4, p5⟩ := r3.part
      obtain ⟨t1, l1, u1, v1⟩ := p1.one
      obtain ⟨t2, l2, u2, v2⟩ := p2.one
      obtain ⟨t3, l3, u3, v3⟩ := p3.one
      obtain ⟨t5, l5, u5, v5⟩ := p5.one
      obtain rfl : t3 = ⟨#[58]⟩ := bl_inj v3
      obtain rfl : t5 = ⟨#[59]⟩ := bl_inj v5
      obtain ⟨hdk, hdv⟩ := Pl.dec_ok f.num hf1
      have HMORE := hid (rmore_yes b tv tl I s1 s2 s3 k (by omega) wr hr _ u1 (fun e => Pl.dec_brace' f.num (by have e2 : t1 = ⟨#[125]⟩ := e; rw [← v1, e2]; rfl)))
      have HNUM := hid (fun W (hW : Rd b tv tl I s1 s2 s3 W) => rrnumber_ok b tv tl I s1 s2 s3 W hW t1 l1 u1 (by rw [v1]; exact hdk) (HLN.out _ _ u1))
      rw [v1, hdv] at HNUM
      have HNAM := hid (fun W (hW : Rd b tv tl (I + 1) s1 s2 s3 W) => rrname_ok b tv tl (I + 1) s1 s2 s3 W hW _ u2 (by rw [v2]; exact hf2))
      have HSG1 := hid (fun W (hW : Rd b tv tl (I + 1 + 1) s1 s2 s3 W) => rsign_ok b tv tl (I + 1 + 1) s1 s2 s3 W hW _ u3)
      have HKD := hid (fun W (hW : Rd b tv tl (I + 1 + 1 + 1) s1 s2 s3 W) => rkind_any b tv tl s1 s2 s3 f.ty (I + 1 + 1 + 1) 1 W hW p4 hf3 (by omega))
      have HSG2 := hid (fun W (hW : Rd b tv tl (I + 1 + 1 + 1 + (Pl.tyK f.ty).length) s1 s2 s3 W) => rsign_ok b tv tl (I + 1 + 1 + 1 + (Pl.tyK f.ty).length) s1 s2 s3 W hW _ u5)
      have HV2 := hid v2
      have hIlt : I < 70000 := by have h1 := (List.getElem?_eq_some_iff.1 u1).1; have h2 := hr.few; omega
      have HI := hid hI
      have HP := hid hP
      have HF := hid hF
      have HRD := hid hr
      have HC := hid hc
      have HFF := hid hf
      have HIR := hid hIr
      clear hA hA2 p1 p2 p3 p4 p5 r1 r2 r3 u1 u2 u3 u5 v1 v2 v3 v5 hf1 hf2 hf3 hf4 hdk hdv hP hF hr hc hf hI hIr
      go_wp2_with fail
      refine HMORE.out.mono ?_
      rintro e w4 ⟨rfl, hb4⟩
      have HNUM4 := hid (HNUM.out w4 (HRD.out.below hb4))
      have Hb4 := hid hb4
      clear hb4 y1 HMORE HNUM
      go_wp2_with fail
      refine HNUM4.out.mono ?_
      rintro e w5 ⟨rfl, hr5, hc5⟩
      obtain ⟨w6, hw6⟩ : ∃ w6, w6 = w5.alloc (.cells #[.string ⟨#[]⟩, .int .i64 (f.num : Int), .int .i64 0, .string ⟨#[]⟩, .slice none 0 0] 61) := ⟨_, rfl⟩
      have hb6 : Below w5.heap.size w5 w6 := by rw [hw6]; exact below_alloc w5 _
      have hcc := (Ch.below (X := Xr b) Hb4.out).trans (hc5.trans (Ch.below hb6))
      have hq6 : Bx w6 w5.heap.size [.string ⟨#[]⟩, .int .i64 (f.num : Int), .int .i64 0, .string ⟨#[]⟩, .slice none 0 0] 61 := by rw [hw6]; exact Bx.new w5 _ _
      have hsz5 : wr.heap.size ≤ w5.heap.size := Nat.le_trans Hb4.out.size hc5.size
      have HF6 : Hid (Fi b p w5.heap.size w.heap.size B tv tl s1 s2 s3 nm (.slice adf k cpf) (x.2.take k) [.string ⟨#[]⟩, .int .i64 (f.num : Int), .int .i64 0, .string ⟨#[]⟩, .slice none 0 0] (I + 1) w w6) :=
        ⟨HP.out.ch hcc (Xr.no (by decide)), hq6, HF.out.ch hcc (fun a c hh => FldR.ch hcc (fun _ _ => Xr.no (by decide)) a c hh) (fun _ _ => Xr.no (by decide)), hr5.below hb6, HC.out.trans hcc, fun g hg => by have := (HF.out.lt hg).2; omega⟩
      have hpq : p ≠ w5.heap.size := by have := HP.out.lt; omega
      have hbq : b < w5.heap.size := hr5.box.lt
      have hwq : w.heap.size ≤ w5.heap.size := Nat.le_trans HC.out.size hsz5
      have HW6 := hid hw6
      have HNAM6 := hid (HNAM.out w6 (hr5.below hb6))
      clear hr5 hc5 hw6 hb6 hcc hq6 hsz5 HP HF HRD HC Hb4 HNUM4 HNAM
      go_wp2_with fail
      rw [← HW6.out]
      refine HNAM6.out.mono ?_
      rintro e w7 ⟨rfl, hr7, hc7⟩
      have HF7 := hid (HF6.out.ch hc7 hr7)
      have HF8 := hid (HF7.out.set hpq hbq hwq 0 (.string t2))
      have HSG8 := hid (HSG1.out _ HF8.out.hr)
      have z0 := HF7.out.hq.cell 0 rfl
      have zf := HF7.out.hq.frozen
      clear hr7 hc7 HF6 HW6 HNAM6 HSG1
      go_wp2_with fail
      refine HSG8.out.mono ?_
      rintro e w9 ⟨rfl, hr9, hc9⟩
      have HF9 := hid (HF8.out.ch hc9 hr9)
      have HKD9 := hid (HKD.out w9 hr9)
      clear hr9 hc9 HF7 HF8 HSG8 HKD z0 zf
      go_wp2_with fail
      refine HKD9.out.mono ?_
      rintro e w10 ⟨kx, ky, kz, rfl, hty, hr10, hc10⟩
      obtain ⟨xk, xs', xa, xm, xc, rfl, rfl, rfl⟩ := TyC.shape f.ty hty
      have HF10 := hid (HF9.out.ch hc10 hr10)
      have hB9 : B ≤ w9.heap.size := Nat.le_trans hB HF9.out.hc.size
      have hq9 : w5.heap.size < w9.heap.size := HF9.out.hq.lt
      have HTY := hid hty
      have HF11 := hid (((HF10.out.set hpq hbq hwq 2 (.int .i64 xk)).set hpq hbq hwq 3 (.string xs')).set hpq hbq hwq 4 (.slice xa xm xc))
      have HSG11 := hid (HSG2.out _ HF11.out.hr)
      have HT11 := hid (TyC.mono hB9 _ _ _ _ (TyC.set (TyC.set (TyC.set (k := 2) hty hq9 (.int .i64 xk)) (k := 3) hq9 (.string xs')) (k := 4) hq9 (.slice xa xm xc)))
      have z2 := HF10.out.hq.cell 2 rfl
      have z3 := HF10.out.hq.cell 3 rfl
      have z4 := HF10.out.hq.cell 4 rfl
      have zf := HF10.out.hq.frozen
      clear hty hr10 hc10 HF9 HKD9 HSG2 HTY
      go_wp2_with fail
      refine HSG11.out.mono ?_
      rintro e w12 ⟨rfl, hr12, hc12⟩
      have hF12 := HF11.out.ch hc12 hr12
      have HT12 := hid (TyC.ch hc12 (fun g _ => Xr.no (by decide)) _ _ _ _ HT11.out)
      have z0 := hF12.hq.cell 0 rfl
      have z1 := hF12.hq.cell 1 rfl
      clear z2 z3 z4
      have z2 := hF12.hq.cell 2 rfl
      have z3 := hF12.hq.cell 3 rfl
      have z4 := hF12.hq.cell 4 rfl
      have y1 := hF12.hp.cell 1 rfl
      have yf := hF12.hp.frozen
      have HF12 := hid hF12
      clear hr12 hc12 hF12 HF10 HF11 HSG11 HT11 zf
      obtain ⟨i0, hi0, hz0, hz1, hz2⟩ := info_parts Tryz.info61
      obtain ⟨ps, hps, hRp, hown⟩ := HF12.out.hf
      have hpl : ps.length = k := by
        have := congrArg List.length hps
        rw [List.length_map, List.length_take, Nat.min_eq_left hk] at this
        exact this
      rw [hpl] at hown
      have hbp : b < p := by omega
      have hal := Ch.alloc (X := Xl) w12 (.cells #[.string t2, .int .i64 (f.num : Int), .int .i64 xk, .string xs', .slice xa xm xc] 61)
      have hownA : (w12.alloc (.cells #[.string t2, .int .i64 (f.num : Int), .int .i64 xk, .string xs', .slice xa xm xc] 61)).ownsRow w.heap.size 61 5 (.slice adf k cpf) k (ps.flatMap Prod.snd) := own_ch (X := fun _ _ => False) hown (Ch.alloc _ _) (fun _ _ hx => hx)
      have hw12 : w.heap.size ≤ w12.heap.size := HF12.out.hc.size
      have HPS := hid hps
      have HRP := hid hRp
      have HOA := hid hownA
      have HAL := hid hal
      have HPL := hid hpl
      clear hps hRp hown hal hpl
      go_wp2_with (at_builtin; refine wpList_append_lies _ rfl (.tmp 28) (.tmp 30) 57 rfl w.heap.size 61 i0 _ 5 72 Tryz.underlying57 hi0 hz0 hz1 hz2 rfl (by decide) (.slice adf k cpf) k (ps.flatMap Prod.snd) rfl hownA ⟨w12.heap.size, 0, none⟩ 1 1 [.string t2, .int .i64 (f.num : Int), .int .i64 xk, .string xs', .slice xa xm xc] rfl rfl (World.news_of_block (heap_alloc_new w12 _)) (fun u hu => by simp at hu; rcases hu with rfl | rfl | rfl | rfl | rfl <;> rfl) (by decide) (by unfold maxLen; omega) (by omega) (by simp; omega) _ rfl ?_; intro g cap w14 hown14 hgr14 hat14 hlt14; have hc14 : Ch Xl _ w14 := grown_ch HOA.out HAL.out hgr14 (fun _ _ => rfl); have hP14 := (HF12.out.hp).ch hc14 (show ¬ Xl p 59 from by unfold Xl; decide); have x1 := hP14.cell 1 rfl; have xf := hP14.frozen)
      have hbelA := below_alloc w12 (.cells #[.string t2, .int .i64 (f.num : Int), .int .i64 xk, .string xs', .slice xa xm xc] 61)
      have hrow : ∀ j, (Value.slice adf k cpf).ownBlock = some j → w.heap.size ≤ j := fun j hj => (own_block HOA.out hj).1
      have hr14 : Rd b tv tl _ s1 s2 s3 w14 := (HF12.out.hr.below hbelA).grown hgr14 (fun j hj => by have := hrow j hj; omega)
      have hcw : Ch (Xr b) w w14 := ch_grown_new (HF12.out.hc.trans (Ch.below hbelA)) hgr14 hrow
      have hty14 := TyC.ch hc14 (fun g _ hx => by unfold Xl at hx; revert hx; decide) _ _ _ _ HT12.out
      have hR14 : Rows 61 5 (FldR B) w.heap.size w14 (.slice (some ⟨g, 0, none⟩) (k + 1) cap) (ps.map Prod.fst ++ [f]) := Rows.more HRP.out (fun a c hh => FldR.ch hc14 (fun g _ hx => by unfold Xl at hx; revert hx; decide) a c hh) f _ ⟨t2, xk, xs', xa, xm, xc, rfl, HV2.out, hty14⟩ rfl (by rw [HPL.out]; exact hown14)
      rw [HPS.out] at hR14
      have htk : x.2.take (k + 1) = x.2.take k ++ [f] := by rw [List.take_add_one, HFF.out]; rfl
      rw [← htk] at hR14
      have hcp : Ch (fun g T => g = p ∧ T = 59) w14 (w14.setCell ⟨p, 1, none⟩ (.slice (some ⟨g, 0, none⟩) (k + 1) cap)) := Ch.set hP14 ⟨rfl, rfl⟩ _
      have hRE := hR14.ch hcp (fun a c hh => FldR.ch hcp (fun g _ hx => by have := hx.2; revert this; decide) a c hh) (fun g _ hx => by have := hx.2; revert this; decide)
      have hrE := hr14.set hbp 1 (.slice (some ⟨g, 0, none⟩) (k + 1) cap)
      have hlenK : I + 1 + 1 + 1 + (Pl.tyK f.ty).length + 1 = i + 2 + ((x.2.take (k + 1)).map Pl.fldK).flatten.length := by
        rw [HI.out, htk]
        simp [Pl.fldK]
        omega
      have hIE : rdAt b (w14.setCell ⟨p, 1, none⟩ (.slice (some ⟨g, 0, none⟩) (k + 1) cap)) = I + 1 + 1 + 1 + (Pl.tyK f.ty).length + 1 := hrE.rdAt
      have hIR := HIR.out
      refine ⟨⟨⟨k + 1, _, by omega, hP14.set 1 _, hRE, by rw [← hlenK]; exact hrE, hcw.new hwp _⟩⟩, ?_⟩
      rw [hIE, hIR]
      omega
    · have hke : k = x.2.length := by omega
      have htk : x.2.take k = x.2 := List.take_of_length_le (by omega)
      rw [htk] at hI hF
      obtain ⟨t1, l1, u1, v1⟩ := (kt_end HK4.out).one
      obtain rfl : t1 = ⟨#[125]⟩ := bl_inj v1
      have hIe : i + [((1 : Nat), x.1)].length + [((3 : Nat), ([123] : List Nat))].length + (x.2.map Pl.fldK).flatten.length = I := by rw [hI]; simp
      rw [hIe] at u1
      have HMORE := hid (rmore_no b tv tl I s1 s2 s3 (k : Int) wr hr _ u1 rfl)
      have HSG := hid (fun W (hW : Rd b tv tl I s1 s2 s3 W) => rsign_ok b tv tl I s1 s2 s3 W hW _ u1)
      have HI := hid hI
      have HP := hid hP
      have HF := hid hF
      have HRD := hid hr
      have HC := hid hc
      clear u1 v1 hI hIr hP hF hr hc hIe htk hke
      go_wp2_with fail
      refine HMORE.out.mono ?_
      rintro e w4 ⟨rfl, hb4⟩
      have HSG4 := hid (HSG.out w4 (HRD.out.below hb4))
      have Hb4 := hid hb4
      clear hb4 y1 HMORE HSG
      go_wp2_with fail
      refine HSG4.out.mono ?_
      rintro e w5 ⟨rfl, hr5, hc5⟩
      have hcc := (Ch.below (X := Xr b) Hb4.out).trans hc5
      have hP5 := HP.out.ch hcc (Xr.no (by decide))
      have hF5 := HF.out.ch hcc (fun a c hh => FldR.ch hcc (fun _ _ => Xr.no (by decide)) a c hh) (fun _ _ => Xr.no (by decide))
      have hcw := HC.out.trans hcc
      have hR5 := HR.out.ch hcw (fun a c hh => sct_ch hcw (fun _ => Xr.no (by decide)) (fun _ => Xr.no (by decide)) a c hh) (fun _ _ => Xr.no (by decide))
      obtain ⟨ad1, cp1, hs1⟩ := hR5.shape
      obtain ⟨ps, hps, hRp, hown⟩ := hR5
      have hpl : ps.length = xs.length := by rw [← hps, List.length_map]
      rw [hpl] at hown
      have hw5 : w.heap.size ≤ w5.heap.size := hcw.size
      have HCW := hid hcw
      subst hs1
      have c3 := hr5.box.cell 3 rfl
      have cf := hr5.box.frozen
      have d0 := hP5.cell 0 rfl
      have d1 := hP5.cell 1 rfl
      have hplt := hP5.lt
      have hblt5 := hr5.box.lt
      have HR5 := hid hr5
      have HPS := hid hps
      have HRP := hid hRp
      have HOWN := hid hown
      have HPL := hid hpl
      have HF5 := hid hF5
      obtain ⟨i0, hi0, hz0, hz1, hz2⟩ := info_parts Tryz.info59
      clear hr5 hc5 hcc hP5 hF5 hcw hps hRp hown hpl HP HF HRD HC Hb4 HSG4 HR
      obtain ⟨m, hm⟩ : ∃ m, m = xs.length := ⟨_, rfl⟩
      rw [← hm] at c3 hxs HOWN HPL HR5
      have HM := hid hm
      clear hm
      go_wp2_with fail
      go_region_law (first
        | (refine step_append_lies (o := { dst := some 43, op := .call { callee := .builtin .append, args := #[.tmp 40, .tmp 42], argTypes := #[22, 22] }, type := _, pos := _, after := _, guard := none }) _ rfl (.tmp 40) (.tmp 42) 22 rfl B 59 i0 _ 2 40 Tryz.underlying22 hi0 hz0 hz1 hz2 rfl (by decide) (.slice ad1 m cp1) m (ps.flatMap Prod.snd) rfl (own_ch (X := fun _ _ => False) HOWN.out (Ch.bel (Ch.alloc _ _) (Below.refl _ _).drew) (fun k _ hx => hx)) ⟨w5.heap.size, 0, none⟩ 1 1 [.string nm, .slice adf k cpf] rfl rfl (World.news_of_block (heap_alloc_new w5 _)) (fun u hu => by simp at hu; rcases hu with rfl | rfl <;> rfl) (by decide) (by unfold maxLen; omega) (by omega) (by simp; omega) _ rfl ?_; intro g cap w6 hown6 hgr6 hat6 hlt6; have hc6 : Ch Xst w5 w6 := grown_ch (own_ch (X := fun _ _ => False) HOWN.out (Ch.bel (Ch.alloc _ _) (Below.refl _ _).drew) (fun k _ hx => hx)) ((Ch.alloc _ _).bel (Below.refl _ _).drew) hgr6 (fun _ _ => rfl); have hB6 := HR5.out.box.ch hc6 (show ¬ Xst b 209 from by unfold Xst; decide); have x3 := hB6.cell 3 rfl; have xf := hB6.frozen))
      all_goals
        go_wp2_with fail
        go_end0
        have nF : ∀ g, ¬ Xst g 61 := fun g hx => by unfold Xst at hx; revert hx; decide
        have nT : ∀ g, ¬ Xst g 29 := fun g hx => by unfold Xst at hx; revert hx; decide
        have hrow : ∀ j, (Value.slice ad1 m cp1).ownBlock = some j → b < j := fun j hj => Nat.lt_of_lt_of_le hbB (own_block HOWN.out hj).1
        have hr6 := (HR5.out.below (below_alloc w5 (.cells #[.string nm, .slice adf k cpf] 59)).drew).grown hgr6 hrow
        have hF6 := (HF5.out.ch hc6 (fun a c hh => FldR.ch hc6 (fun g _ => nT g) a c hh) (fun g _ => nF g)).mono hB (fun _ _ hh => hh)
        have hRow : Rows 59 2 (SctR B) B w6 (.slice (some ⟨g, 0, none⟩) (m + 1) cap) (ps.map Prod.fst ++ [x]) := Rows.more HRP.out (fun a c hh => sct_ch hc6 nF nT a c hh) x _ ⟨nm, adf, k, cpf, rfl, HNM.out, hF6⟩ rfl (by rw [HPL.out]; exact hown6)
        rw [HPS.out] at hRow
        have hcq : Ch (Xrs b B) w5 w6 := grown_ch (own_ch (X := fun _ _ => False) HOWN.out (Ch.bel (Ch.alloc _ _) (Below.refl _ _).drew) (fun k _ hx => hx)) ((Ch.alloc w5 (.cells #[.string nm, .slice adf k cpf] 59)).bel (Below.refl _ _).drew) hgr6 (fun _ hk => .inr ⟨hk, rfl⟩)
        have hcs : Ch (Xr b) w6 (w6.setCell ⟨b, 3, none⟩ (.slice (some ⟨g, 0, none⟩) (m + 1) cap)) := Ch.set hr6.box ⟨rfl, rfl⟩ _
        refine ⟨_, rfl, hRow.ch hcs (fun a c hh => sct_ch hcs (fun _ => Xr.no (by decide)) (fun _ => Xr.no (by decide)) a c hh) (fun _ _ => Xr.no (by decide)), ?_, ((HCW.out.mono fun _ _ hx => .inl hx).trans hcq).trans (hcs.mono fun _ _ hx => .inl hx)⟩
        have hpos : i + 3 + (x.2.map Pl.fldK).flatten.length = I + 1 := by rw [HI.out]; omega
        rw [hpos]
        exact hr6.at hcs (hr6.box.set 3 _)
end Go.Proofs.YtmiohekmpjiloaaGreatDoor

namespace Go.Proofs.YtmiohekmpjiloaaGreatDoor
open Go.RowKit
set_option maxRecDepth 20000

theorem ret_rparse {W : World} {tmps : Array Value} {b : Nat} {x y z p q : Value} (ht : tmps.getD 2 undef = .pointer (some ⟨b, 0, none⟩)) (h3 : tmps.getD 3 undef = p) (h4 : tmps.getD 4 undef = q) (h0 : W.cell? ⟨b, 0, none⟩ = some x) (h1 : W.cell? ⟨b, 1, none⟩ = some y) (h2 : W.cell? ⟨b, 2, none⟩ = some z) :
    (results Tryz.f128 tmps).run Tryz.prog W = .ok (.tuple #[.agg #[x, y, z], p, q]) W := by
  have ht' : tmps[2]?.getD undef = .pointer (some ⟨b, 0, none⟩) := by rw [← Array.getD_eq_getD_getElem?]; exact ht
  have h3' : tmps[3]?.getD undef = p := by rw [← Array.getD_eq_getD_getElem?]; exact h3
  have h4' : tmps[4]?.getD undef = q := by rw [← Array.getD_eq_getD_getElem?]; exact h4
  simp [results, Tryz.results128]
  go_simp

theorem sct_mono {B B' : Nat} (h : B' ≤ B) {w : World} (a : List Nat × List Pl.Fld) (c : List Value) (hh : SctR B a c w) : SctR B' a c w := by
  obtain ⟨s, ad, m, cp, e1, e2, e3⟩ := hh
  exact ⟨s, ad, m, cp, e1, e2, e3.mono h (fun a c hf => FldR.mono h a c hf)⟩

theorem Xrs.bel {b B D : Nat} {w w' : World} (h : Ch (Xrs b B) w w') (h1 : D ≤ b) (h2 : D ≤ B) (hw : D ≤ w.heap.size) : Below D w w' :=
  ⟨h.os, h.tape, h.output, h.size, fun k hk => by
    have ho : w.heap[k]? = some (w.heap[k]'(by omega)) := by simp
    rw [ho]
    refine h.block k _ ho (fun cs T r _ hx => ?_)
    rcases hx with hx | hx
    · have : k = b := hx.1
      omega
    · have := hx.1
      omega⟩

structure PaI (b B : Nat) (tv : Value) (tl : List Z3) (xs : List (List Nat × List Pl.Fld)) (w : World) (n : Value) (wr : World) : Prop where
  all : ∃ (k : Nat) (s1 : Value), k ≤ xs.length ∧ n = .int .i64 k ∧ Rd b tv tl (((xs.take k).map fun x => Pl.declK (Pl.mkSt x)).flatten.length) s1 (.slice none 0 0) (.slice none 0 0) wr ∧ Rows 59 2 (SctR B) B wr s1 (xs.take k) ∧ Ch (Xrs b B) w wr

set_option maxHeartbeats 32000000 in
theorem rParse_structs (tv : Value) (tl : List Z3) (xs : List (List Nat × List Pl.Fld)) (hxs : xs.length ≤ 64) (hok : ∀ x ∈ xs, Pl.okDecl (Pl.mkSt x)) (hfew : tl.length ≤ 70000) (hln : ∀ (j : Nat) (t : Z3), tl[j]? = some t → 1 ≤ t.2.2) (hkt : ∀ (j : Nat) (t : Z3), tl[j]? = some t → ∃ k : Nat, t.1 = (k : Int) ∧ Pl.okKt (k, bl t.2.1))
    (hK : KtAt tl 0 (xs.map fun x => Pl.declK (Pl.mkSt x)).flatten) (hlen : tl.length = (xs.map fun x => Pl.declK (Pl.mkSt x)).flatten.length) (w : World) (hT : TSeg w tv tl) :
    Calls Tryz.prog 128 #[tv] w fun e w' => ∃ s1, e = .returned (.tuple #[.agg #[s1, .slice none 0 0, .slice none 0 0], .int .i64 0, .int .i64 0]) ∧ Rows 59 2 (SctR w.heap.size) w.heap.size w' s1 xs ∧ Below w.heap.size w w' := by
  obtain ⟨w1, hw1⟩ : ∃ w1, w1 = w.alloc (.cells #[.slice none 0 0, .slice none 0 0, .slice none 0 0] 26) := ⟨_, rfl⟩
  have hb1 : Below w.heap.size w w1 := by rw [hw1]; exact below_alloc w _
  have hB1 : Bx w1 w.heap.size [.slice none 0 0, .slice none 0 0, .slice none 0 0] 26 := by rw [hw1]; exact Bx.new w _ _
  have HT1 := hid (hT.below hb1)
  have HT := hid hT
  have HB1 := hid hB1
  have Hb1 := hid hb1
  have HW1 := hid hw1
  obtain ⟨a, cap, rfl, g1, g2, g3, g4⟩ := hT
  have HG4 := hid g4
  have HG3 := hid g3
  obtain ⟨M, hM⟩ : ∃ M, M = tl.length := ⟨_, rfl⟩
  have HOK := hid hok
  have HLN := hid hln
  have HKT := hid hkt
  have HK := hid hK
  have HLEN := hid hlen
  have HM := hid hM
  rw [← hM] at hfew HT1 HT ⊢
  clear hw1 hb1 hB1 hok hln hkt hK hlen g4 g3 g1 g2 hM
  go_enter Tryz.func128, Tryz.ntmps128
  go_wp2_with fail
  rw [← HW1.out]
  go_loopw [5] (fun i wr => ∃ k : Nat, k ≤ M ∧ i = .int .i64 k ∧ Below w1.heap.size w1 wr) (fun i _ => M - (intOf i).toNat)
  case atStart => exact ⟨0, Nat.zero_le _, rfl, Below.refl _ _⟩
  case round =>
    obtain ⟨k, hk, rfl, hbw⟩ := hrel
    by_cases hlt : k < M
    · obtain ⟨t, ht⟩ : ∃ t, tl[k]? = some t := ⟨tl[k]'(by rw [← HM.out]; exact hlt), by simp⟩
      obtain ⟨kk, e1, hkk⟩ := HKT.out k t ht
      have hl1 := HLN.out k t ht
      obtain ⟨t1, t2, t3⟩ := t
      simp only at e1 hkk hl1
      subst e1
      rcases a with _ | ⟨g, off, ar⟩
      · have := (HG3.out rfl).1
        rw [HM.out, this] at hlt
        simp at hlt
      obtain ⟨rfl, hg, hc⟩ := HG4.out g off ar rfl (by rw [← HM.out]; omega)
      obtain ⟨c0, c1, c2⟩ := hc k _ ht
      have hbn := below_next Hb1.out hbw
      have d0 := (hbn.cell hg).trans c0
      have d1 := (hbn.cell hg).trans c1
      have d2 := (hbn.cell hg).trans c2
      have hgr : g < wr.heap.size := Nat.lt_of_lt_of_le hg hbn.size
      have hkI : (k : Int) < (M : Int) := by omega
      have HCK := hid (rcheck_ok kk t2 t3 hkk hl1 wr)
      have HBW := hid hbw
      clear hc c0 c1 c2 hbn hbw ht hkk hl1
      go_wp2_with fail
      refine HCK.out.mono ?_
      rintro e w2 ⟨rfl, hb2⟩
      have HB2 := hid (below_next HBW.out hb2)
      clear hb2
      go_wp2
      exact ⟨⟨k + 1, by omega, by go_num, HB2.out⟩, by simp [intOf]; omega⟩
    · have hkI : ¬ (k : Int) < (M : Int) := by omega
      obtain ⟨w3, hw3⟩ : ∃ w3, w3 = wr.alloc (.cells #[.slice a M cap, .int .i64 0, .int .i64 0, .slice none 0 0, .slice none 0 0, .slice none 0 0] 209) := ⟨_, rfl⟩
      have hb3 : Below wr.heap.size wr w3 := by rw [hw3]; exact below_alloc wr _
      have hR3 : Bx w3 wr.heap.size [.slice a M cap, .int .i64 0, .int .i64 0, .slice none 0 0, .slice none 0 0, .slice none 0 0] 209 := by rw [hw3]; exact Bx.new wr _ _
      have hb13 := below_next hbw hb3
      have hsz3 : w3.heap.size = wr.heap.size + 1 := by rw [hw3]; simp
      have HRD : Hid (Rd wr.heap.size (.slice a M cap) tl 0 (.slice none 0 0) (.slice none 0 0) (.slice none 0 0) w3) :=
        ⟨hR3, HT1.out.below hb13, by rw [← HM.out]; exact hfew, fun g off n c hv h0 => by
          injection hv with e1 e2 e3
          subst e1
          obtain ⟨_, hg, _⟩ := HG4.out g off none rfl h0
          exact Nat.lt_of_lt_of_le hg (below_next Hb1.out hbw).size⟩
      have HB13 := hid hb13
      have HBWS := hid hbw.size
      have HW3 := hid hw3
      clear hw3 hb3 hR3 hb13 hbw
      go_wp2_with fail
      rw [← HW3.out]
      have HRW : Hid (Ch (Xrs wr.heap.size (wr.heap.size + 1)) w3 w3) := Ch.refl _ _
      have hbw3 : wr.heap.size < w3.heap.size := by omega
      have hBB : wr.heap.size + 1 ≤ w3.heap.size := by omega
      have hw1r : w.heap.size < wr.heap.size := by have h1 := HB1.out.lt; have h2 := HBWS.out; omega
      obtain ⟨b, hb⟩ : ∃ b, b = wr.heap.size := ⟨_, rfl⟩
      rw [← hb] at HRD HRW hbw3 hBB hw1r ⊢
      clear hb hsz3
      go_wp2_with fail
      go_loopw [8] (fun n wr => PaI b (b + 1) (.slice a M cap) tl xs w3 n wr) (fun n _ => xs.length - (intOf n).toNat)
      case atStart => exact ⟨⟨0, _, Nat.zero_le _, rfl, by simpa using HRD.out, Rows.nil _ _ _ _ _, Ch.refl _ _⟩⟩
      case round =>
        obtain ⟨n, s1, hn, rfl, hr, hR, hc⟩ := hrel.all
        clear hrel
        obtain ⟨P0, hP0⟩ : ∃ P0, P0 = ((xs.take n).map fun x => Pl.declK (Pl.mkSt x)).flatten.length := ⟨_, rfl⟩
        rw [← hP0] at hr
        have y1 := hr.box.cell 1 rfl
        have y2 := hr.box.cell 2 rfl
        by_cases hnl : n < xs.length
        · obtain ⟨x, hx⟩ : ∃ x, xs[n]? = some x := ⟨xs[n], by simp⟩
          have hA : KtAt tl P0 (Pl.declK (Pl.mkSt x)) := by
            have h1 : KtAt tl 0 ((xs.map fun x => Pl.declK (Pl.mkSt x)).flatten ++ []) := by rw [List.append_nil]; exact HK.out
            have := kt_at h1 (k := n) (p := Pl.declK (Pl.mkSt x)) (by rw [List.getElem?_map, hx]; rfl)
            rw [← List.map_take, Nat.zero_add, ← hP0] at this
            exact this
          have hA2 : KtAt tl P0 ([((1 : Nat), Pl.wStruct)] ++ ((1, x.1) :: (3, [123]) :: ((x.2.map Pl.fldK).flatten ++ [(3, [125])]))) := hA
          obtain ⟨p1, p2⟩ := hA2.part
          obtain ⟨t1, l1, u1, v1⟩ := p1.one
          obtain rfl : t1 = ⟨#[115, 116, 114, 117, 99, 116]⟩ := bl_inj v1
          have hPM : P0 < M := by rw [HM.out]; exact (List.getElem?_eq_some_iff.1 u1).1
          have hPI : (P0 : Int) < (M : Int) := by omega
          have hn64 : ((n : Int) == 64) = false := by simp; omega
          have HPK := hid (rpeek_any b (.slice a M cap) tl P0 s1 _ _ wr hr _ u1)
          have HTK := hid (fun W (hW : Below wr.heap.size wr W) => rtake_ok b (.slice a M cap) tl P0 s1 _ _ W (hr.below hW) _ u1)
          have hBr : b + 1 ≤ wr.heap.size := Nat.le_trans hBB hc.size
          have HST := hid (fun W (hW : Rd b (.slice a M cap) tl (P0 + 1) s1 (.slice none 0 0) (.slice none 0 0) W) (hRW : Rows 59 2 (SctR (b + 1)) (b + 1) W s1 (xs.take n)) (hsz : b + 1 ≤ W.heap.size) => rstructs_ok b (b + 1) (.slice a M cap) tl HLN.out (P0 + 1) s1 _ _ (xs.take n) x (HOK.out x (List.mem_of_getElem? hx)) W hW hRW (by omega) hsz (by rw [List.length_take]; omega) p2)
          have HC := hid hc
          have HR := hid hR
          have HX := hid hx
          have HP0 := hid hP0
          clear hA hA2 p1 p2 u1 v1 hr hR hc hx hP0
          have htf := tok_field
          go_wp2_with fail
          refine HPK.out.mono ?_
          rintro e w5 ⟨rfl, hb5⟩
          have HTK5 := hid (HTK.out w5 hb5)
          have Hb5 := hid hb5
          clear hb5 HTK HPK y1 y2
          go_wp2_with fail
          refine HTK5.out.mono ?_
          rintro e w6 ⟨rfl, hr6, hc6⟩
          have hcc := (Ch.below (X := Xr b) Hb5.out).trans hc6
          have HST6 := hid (HST.out w6 hr6 (HR.out.ch hcc (fun a c hh => sct_ch hcc (fun _ => Xr.no (by decide)) (fun _ => Xr.no (by decide)) a c hh) (fun _ _ => Xr.no (by decide))) (Nat.le_trans hBr hcc.size))
          have HCC := hid (HC.out.trans (hcc.mono fun _ _ hx => .inl hx))
          clear hr6 hc6 hcc HTK5 HST HR HC Hb5
          go_wp2_with fail
          refine HST6.out.mono ?_
          rintro e w7 ⟨s1', rfl, hR7, hr7, hc7⟩
          have htk : xs.take (n + 1) = xs.take n ++ [x] := by rw [List.take_add_one, HX.out]; rfl
          rw [← htk] at hR7
          have hpos : P0 + 1 + 3 + (x.2.map Pl.fldK).flatten.length = ((xs.take (n + 1)).map fun x => Pl.declK (Pl.mkSt x)).flatten.length := by
            rw [htk, HP0.out]
            simp [Pl.declK, Pl.mkSt, Pl.bodyK]
            omega
          rw [hpos] at hr7
          have HE := hid (show PaI b (b + 1) (.slice a M cap) tl xs w3 (.int .i64 ((n + 1 : Nat) : Int)) w7 from ⟨n + 1, s1', by omega, rfl, hr7, hR7, HCC.out.trans hc7⟩)
          clear htk hpos hR7 hr7 hc7 HST6
          go_wp2_with fail
          refine ⟨HE.out, by simp [intOf]; omega⟩
        · have hne : n = xs.length := by omega
          have htk : xs.take n = xs := List.take_of_length_le (by omega)
          rw [htk] at hP0 hR
          have hPM : P0 = M := by rw [hP0, HM.out, HLEN.out]
          subst hPM
          have hcB := Xrs.bel hc (D := w.heap.size) (by omega) (by omega) (by omega)
          have hBS := (HB1.out.below HB13.out).ch hc (fun hx => by
            rcases hx with hx | hx
            · have : w.heap.size = b := hx.1
              omega
            · have := hx.1
              omega)
          have x0 := hBS.cell 0 rfl
          have x1 := hBS.cell 1 rfl
          have x2 := hBS.cell 2 rfl
          have xf := hBS.frozen
          obtain ⟨as1, cs1, rfl⟩ := hR.shape
          have y3 := hr.box.cell 3 rfl
          have y4 := hr.box.cell 4 rfl
          have y5 := hr.box.cell 5 rfl
          obtain ⟨L, hL⟩ : ∃ L, L = xs.length := ⟨_, rfl⟩
          rw [← hL] at y3 hR
          have HS := hid (((hBS.set 0 (.slice as1 L cs1)).set 1 (.slice none 0 0)).set 2 (.slice none 0 0))
          have hcS : Ch (fun g T => g = w.heap.size ∧ T = 26) wr (((wr.setCell ⟨w.heap.size, 0, none⟩ (.slice as1 L cs1)).setCell ⟨w.heap.size, 1, none⟩ (.slice none 0 0)).setCell ⟨w.heap.size, 2, none⟩ (.slice none 0 0)) :=
            ((Ch.set hBS ⟨rfl, rfl⟩ _).trans (Ch.set (hBS.set 0 _) ⟨rfl, rfl⟩ _)).trans (Ch.set ((hBS.set 0 _).set 1 _) ⟨rfl, rfl⟩ _)
          have HRS := hid ((hR.ch hcS (fun a c hh => sct_ch hcS (fun g hx => by have := hx.2; revert this; decide) (fun g hx => by have := hx.2; revert this; decide) a c hh) (fun g _ hx => by have := hx.2; revert this; decide)).mono (show w.heap.size ≤ b + 1 by omega) (fun a c hh => sct_mono (show w.heap.size ≤ b + 1 by omega) a c hh))
          have HBF := hid ((((below_next Hb1.out HB13.out).trans hcB).setCell (p := ⟨w.heap.size, 0, none⟩) (Nat.le_refl _) (.slice as1 L cs1)).setCell (p := ⟨w.heap.size, 1, none⟩) (Nat.le_refl _) (.slice none 0 0) |>.setCell (p := ⟨w.heap.size, 2, none⟩) (Nat.le_refl _) (.slice none 0 0))
          clear hcB hBS hcS hR hr hc hL htk hP0
          go_wp2_with fail
          exact bodyPost_ret (ret_rparse rfl rfl rfl (HS.out.cell 0 rfl) (HS.out.cell 1 rfl) (HS.out.cell 2 rfl)) rfl ⟨_, rfl, HRS.out, HBF.out⟩
end Go.Proofs.YtmiohekmpjiloaaGreatDoor

namespace Go.Proofs.YtmiohekmpjiloaaGreatDoor
open Go.RowKit
set_option maxRecDepth 20000

theorem ret_rtext {W : World} {tmps : Array Value} {b : Nat} {x y z p q : Value} (ht : tmps.getD 2 undef = .pointer (some ⟨b, 0, none⟩)) (h3 : tmps.getD 3 undef = p) (h4 : tmps.getD 4 undef = q) (h0 : W.cell? ⟨b, 0, none⟩ = some x) (h1 : W.cell? ⟨b, 1, none⟩ = some y) (h2 : W.cell? ⟨b, 2, none⟩ = some z) :
    (results Tryz.f90 tmps).run Tryz.prog W = .ok (.tuple #[.agg #[x, y, z], p, q]) W := by
  have ht' : tmps[2]?.getD undef = .pointer (some ⟨b, 0, none⟩) := by rw [← Array.getD_eq_getD_getElem?]; exact ht
  have h3' : tmps[3]?.getD undef = p := by rw [← Array.getD_eq_getD_getElem?]; exact h3
  have h4' : tmps[4]?.getD undef = q := by rw [← Array.getD_eq_getD_getElem?]; exact h4
  simp [results, Tryz.results90]
  go_simp

set_option maxHeartbeats 8000000 in
theorem rText_structs (t : ByteArray) (xs : List (List Nat × List Pl.Fld)) (hxs : xs.length ≤ 64) (hok : ∀ x ∈ xs, Pl.okDecl (Pl.mkSt x)) (h0 : (tokA t).2.2 = 0) (h1 : (tokA t).1.map Pl.kt = (xs.map fun x => Pl.declK (Pl.mkSt x)).flatten) (h2 : (xs.map fun x => Pl.declK (Pl.mkSt x)).flatten.length ≤ 70000) (w : World) :
    Calls Tryz.prog 90 #[.string t] w fun e w' => ∃ s1, e = .returned (.tuple #[.agg #[s1, .slice none 0 0, .slice none 0 0], .int .i64 0, .int .i64 0]) ∧ Rows 59 2 (SctR w.heap.size) w.heap.size w' s1 xs ∧ Below w.heap.size w w' := by
  obtain ⟨w1, hw1⟩ : ∃ w1, w1 = w.alloc (.cells #[.slice none 0 0, .slice none 0 0, .slice none 0 0] 26) := ⟨_, rfl⟩
  have hb1 : Below w.heap.size w w1 := by rw [hw1]; exact below_alloc w _
  have hB1 : Bx w1 w.heap.size [.slice none 0 0, .slice none 0 0, .slice none 0 0] 26 := by rw [hw1]; exact Bx.new w _ _
  have ht := rtokens_any t w1
  rw [h0] at ht
  have HT := hid ht
  have HW1 := hid hw1
  have Hb1 := hid hb1
  have HB1 := hid hB1
  have HOK := hid hok
  have H1 := hid h1
  have H2 := hid h2
  clear ht hw1 hb1 hB1 hok h1 h2 h0
  generalize (tokA t).2.1 = LN at *
  go_enter Tryz.func90, Tryz.ntmps90
  go_wp2_with fail
  rw [← HW1.out]
  refine HT.out.mono ?_
  rintro e w2 ⟨v, tl, rfl, hT, hm, hb2⟩
  have hmap : tl.map (fun u => Pl.kt (asTok u)) = (xs.map fun x => Pl.declK (Pl.mkSt x)).flatten := by
    rw [← H1.out, ← hm, List.map_map]
    rfl
  have hget : ∀ (j : Nat) (u : Z3), (tl.map toZ)[j]? = some u → ∃ u', tl[j]? = some u' ∧ toZ u' = u := by
    intro j u hj
    rw [List.getElem?_map] at hj
    cases hq : tl[j]? with
    | none => rw [hq] at hj; simp at hj
    | some u' =>
      rw [hq] at hj
      simp at hj
      exact ⟨u', rfl, hj⟩
  have hin : ∀ (j : Nat) (u : T3), tl[j]? = some u → asTok u ∈ (tokA t).1 := fun j u hj => by
    rw [← hm]
    exact List.mem_map_of_mem (List.mem_of_getElem? hj)
  have hP := rParse_structs v (tl.map toZ) xs hxs HOK.out (by
      have := congrArg List.length hmap
      rw [List.length_map] at this
      rw [List.length_map, this]
      exact H2.out)
    (fun j u hj => by
      obtain ⟨u', q1, rfl⟩ := hget j u hj
      have hmem := hin j u' q1
      unfold tokA at hmem
      split at hmem
      · cases hmem
      · have h3 := ((Pl.tok_within _ _ _).1 _ hmem).1
        have h4 : (asTok u').line = u'.2.2 := rfl
        rw [h4] at h3
        show (1 : Int) ≤ ((u'.2.2 : Nat) : Int)
        omega)
    (fun j u hj => by
      obtain ⟨u', q1, rfl⟩ := hget j u hj
      have hmem := hin j u' q1
      exact ⟨u'.1, rfl, tok_okKt t _ (List.mem_map_of_mem (f := Pl.kt) hmem)⟩)
    (fun j k n hj => by
      rw [← hmap, List.getElem?_map] at hj
      rw [Nat.zero_add]
      cases hq : tl[j]? with
      | none => rw [hq] at hj; simp at hj
      | some u' =>
        rw [hq] at hj
        simp only [Option.map_some, Option.some.injEq] at hj
        have e1 : u'.1 = k := congrArg Prod.fst hj
        have e2 : bl u'.2.1 = n := congrArg Prod.snd hj
        exact ⟨u'.2.1, u'.2.2, by rw [List.getElem?_map, hq, ← e1]; rfl, e2⟩)
    (by rw [List.length_map, ← hmap, List.length_map]) w2 hT.seg
  obtain ⟨ad, cp, rfl⟩ := hT.shape
  have HP := hid hP
  have HB2 := hid (HB1.out.below hb2)
  have Hb2 := hid (below_next Hb1.out hb2)
  have hsz2 : w.heap.size ≤ w2.heap.size := Hb2.out.size
  clear hP hmap hget hin hT hm hb2 HT
  go_wp2_with fail
  refine HP.out.mono ?_
  rintro e w3 ⟨s1, rfl, hR3, hb3⟩
  obtain ⟨as1, cs1, rfl⟩ := hR3.shape
  have hBS := HB2.out.below hb3
  have x0 := hBS.cell 0 rfl
  have x1 := hBS.cell 1 rfl
  have x2 := hBS.cell 2 rfl
  have xf := hBS.frozen
  obtain ⟨L, hL⟩ : ∃ L, L = xs.length := ⟨_, rfl⟩
  rw [← hL] at hR3 ⊢
  have HS := hid (((hBS.set 0 (.slice as1 L cs1)).set 1 (.slice none 0 0)).set 2 (.slice none 0 0))
  have hcS : Ch (fun g T => g = w.heap.size ∧ T = 26) w3 (((w3.setCell ⟨w.heap.size, 0, none⟩ (.slice as1 L cs1)).setCell ⟨w.heap.size, 1, none⟩ (.slice none 0 0)).setCell ⟨w.heap.size, 2, none⟩ (.slice none 0 0)) :=
    ((Ch.set hBS ⟨rfl, rfl⟩ _).trans (Ch.set (hBS.set 0 _) ⟨rfl, rfl⟩ _)).trans (Ch.set ((hBS.set 0 _).set 1 _) ⟨rfl, rfl⟩ _)
  have HRS := hid ((hR3.ch hcS (fun a c hh => sct_ch hcS (fun g hx => by have := hx.2; revert this; decide) (fun g hx => by have := hx.2; revert this; decide) a c hh) (fun g _ hx => by have := hx.2; revert this; decide)).mono hsz2 (fun a c hh => sct_mono hsz2 a c hh))
  have HBF := hid (((below_next Hb2.out hb3).setCell (p := ⟨w.heap.size, 0, none⟩) (Nat.le_refl _) (.slice as1 L cs1)).setCell (p := ⟨w.heap.size, 1, none⟩) (Nat.le_refl _) (.slice none 0 0) |>.setCell (p := ⟨w.heap.size, 2, none⟩) (Nat.le_refl _) (.slice none 0 0))
  clear hBS hcS hR3 hb3 hL
  go_wp2_with fail
  exact bodyPost_ret (ret_rtext rfl rfl rfl (HS.out.cell 0 rfl) (HS.out.cell 1 rfl) (HS.out.cell 2 rfl)) rfl ⟨_, rfl, HRS.out, HBF.out⟩
end Go.Proofs.YtmiohekmpjiloaaGreatDoor

namespace Go.Proofs.YtmiohekmpjiloaaGreatDoor
open Go.RowKit
set_option maxRecDepth 20000

theorem idx_here {α : Type} (P : α → Bool) {l : List α} {k : Nat} {a : α} (h : l[k]? = some a) : idxF P (l.drop k) k = if P a then (k : Int) else idxF P (l.drop (k + 1)) (k + 1) := by
  have h1 : k < l.length := (List.getElem?_eq_some_iff.1 h).1
  have h2 := (List.getElem?_eq_some_iff.1 h).2
  rw [List.drop_eq_getElem_cons h1, h2]
  rfl

set_option maxHeartbeats 16000000 in
theorem rFind_any (st : List (List Nat × List Pl.Fld)) (en : List (List Nat × List Pl.Cas)) (sv : List (List Nat × List Pl.Mth)) (hl : st.length ≤ 1000 ∧ en.length ≤ 1000 ∧ sv.length ≤ 1000) (s1 s2 s3 : Value) (x : ByteArray) (w : World) (hS : SchG st en sv s1 s2 s3 w) :
    Calls Tryz.prog 25 #[.agg #[s1, s2, s3], .string x] w fun e w' => e = .returned (.tuple #[.int .i64 (fnd st en sv (bl x)).1, .int .i64 (fnd st en sv (bl x)).2]) ∧ Below w.heap.size w w' := by
  obtain ⟨F1, F2, hF⟩ : ∃ F1 F2, fnd st en sv (bl x) = (F1, F2) := ⟨_, _, rfl⟩
  rw [hF]
  obtain ⟨hl1, hl2, hl3⟩ := hl
  obtain ⟨a1, c1, a2, c2, a3, c3, rfl, rfl, rfl⟩ := hS.shape
  obtain ⟨M1, hM1⟩ : ∃ M, M = st.length := ⟨_, rfl⟩
  obtain ⟨M2, hM2⟩ : ∃ M, M = en.length := ⟨_, rfl⟩
  obtain ⟨M3, hM3⟩ : ∃ M, M = sv.length := ⟨_, rfl⟩
  rw [← hM1] at hl1
  rw [← hM2] at hl2
  rw [← hM3] at hl3
  rw [← hM1, ← hM2, ← hM3] at hS ⊢
  obtain ⟨w1, hw1⟩ : ∃ w1, w1 = w.alloc (.cells #[.slice a1 M1 c1, .slice a2 M2 c2, .slice a3 M3 c3] 26) := ⟨_, rfl⟩
  have hb1 : Below w.heap.size w w1 := by rw [hw1]; exact below_alloc w _
  have hB1 : Bx w1 w.heap.size [.slice a1 M1 c1, .slice a2 M2 c2, .slice a3 M3 c3] 26 := by rw [hw1]; exact Bx.new w _ _
  obtain ⟨I1, hI1⟩ : ∃ I, I = idxF (nmIs (bl x)) st 0 := ⟨_, rfl⟩
  obtain ⟨I2, hI2⟩ : ∃ I, I = idxF (nmIs (bl x)) en 0 := ⟨_, rfl⟩
  obtain ⟨I3, hI3⟩ : ∃ I, I = idxF (nmIs (bl x)) sv 0 := ⟨_, rfl⟩
  have HF : Hid ((if 0 ≤ I1 then ((1 : Int), I1) else if 0 ≤ I2 then (2, I2) else if 0 ≤ I3 then (3, I3) else (0, 0)) = (F1, F2)) := by
    show _ = _
    rw [hI1, hI2, hI3]
    exact hF
  have HS := hid (hS.below hb1)
  have HI1 := hid hI1
  have HI2 := hid hI2
  have HI3 := hid hI3
  have HM1 := hid hM1
  have HM2 := hid hM2
  have HM3 := hid hM3
  have HB1 := hid hB1
  have Hb1 := hid hb1
  have HW1 := hid hw1
  have y0 := hB1.cell 0 rfl
  have y1 := hB1.cell 1 rfl
  have y2 := hB1.cell 2 rfl
  have hlt1 := hB1.lt
  clear hF hI1 hI2 hI3 hM1 hM2 hM3 hS hw1 hb1 hB1
  go_enter Tryz.func25, Tryz.ntmps25
  go_wp2_with fail
  rw [← HW1.out]
  go_loopw [6] (fun i wr => ∃ k : Nat, k ≤ M1 ∧ i = .int .i64 k ∧ Hid (idxF (nmIs (bl x)) (st.drop k) k = I1) ∧ w1 = wr) (fun i _ => M1 - (intOf i).toNat)
  case atStart => exact ⟨0, Nat.zero_le _, rfl, HI1.out.symm, rfl⟩
  case round =>
    obtain ⟨k1, hk1, rfl, HJ1, rfl⟩ := hrel
    by_cases hlt : k1 < M1
    · obtain ⟨a, ha⟩ : ∃ a, st[k1]? = some a := ⟨st[k1]'(by rw [← HM1.out]; exact hlt), by simp⟩
      obtain ⟨g, off, cap, c, hv, hg, ⟨s, ad, m, cp, rfl, hs, hr⟩, hcell⟩ := Rw.at HS.out.1 ha
      injection hv with e1 e2 e3
      subst e1 e3
      clear e2
      have d0 := hcell 0 _ rfl
      simp only [Nat.add_zero] at d0
      have hj := HJ1.out
      rw [idx_here _ ha] at hj
      have hdec := str_dec s x
      rw [hs] at hdec
      have hkI : (k1 : Int) < (M1 : Int) := by omega
      clear hr hcell hs
      by_cases hq : a.1 = bl x
      · rw [decide_eq_true hq] at hdec
        rw [if_pos (show nmIs (bl x) a = true from decide_eq_true hq)] at hj
        have hf := HF.out
        rw [← hj, if_pos (by omega)] at hf
        have hf1 : F1 = 1 := (congrArg Prod.fst hf).symm
        have hf2 : F2 = (k1 : Int) := (congrArg Prod.snd hf).symm
        have HF1 := hid hf1
        have HF2 := hid hf2
        clear hf hf1 hf2 hj hq
        go_wp2
        go_returns
        rw [HF1.out, HF2.out]
        exact ⟨rfl, Hb1.out⟩
      · rw [decide_eq_false hq] at hdec
        rw [if_neg (show ¬ nmIs (bl x) a = true from by unfold nmIs; simp [hq])] at hj
        have HJ := hid hj
        clear hj hq
        go_wp2
        exact ⟨⟨k1 + 1, by omega, by go_num, HJ.out, trivial⟩, by simp [intOf]; omega⟩
    · have hkI : ¬ (k1 : Int) < (M1 : Int) := by omega
      have HN1 : Hid (I1 = -1) := by
        show _ = _
        rw [← HJ1.out, List.drop_of_length_le (by rw [← HM1.out]; omega)]
        rfl
      go_wp2_with fail
      go_loopw [7] (fun i wr => ∃ k : Nat, k ≤ M2 ∧ i = .int .i64 k ∧ Hid (idxF (nmIs (bl x)) (en.drop k) k = I2) ∧ w1 = wr) (fun i _ => M2 - (intOf i).toNat)
      case atStart => exact ⟨0, Nat.zero_le _, rfl, HI2.out.symm, rfl⟩
      case round =>
        obtain ⟨k2, hk2, rfl, HJ2, rfl⟩ := hrel
        by_cases hlt : k2 < M2
        · obtain ⟨a, ha⟩ : ∃ a, en[k2]? = some a := ⟨en[k2]'(by rw [← HM2.out]; exact hlt), by simp⟩
          obtain ⟨g, off, cap, c, hv, hg, ⟨s, ad, m, cp, rfl, hs, hr⟩, hcell⟩ := Rw.at HS.out.2.1 ha
          injection hv with e1 e2 e3
          subst e1 e3
          clear e2
          have d0 := hcell 0 _ rfl
          simp only [Nat.add_zero] at d0
          have hj := HJ2.out
          rw [idx_here _ ha] at hj
          have hdec := str_dec s x
          rw [hs] at hdec
          have hkI : (k2 : Int) < (M2 : Int) := by omega
          clear hr hcell hs
          by_cases hq : a.1 = bl x
          · rw [decide_eq_true hq] at hdec
            rw [if_pos (show nmIs (bl x) a = true from decide_eq_true hq)] at hj
            have hf := HF.out
            rw [← hj, if_neg (by have := HN1.out; omega), if_pos (by omega)] at hf
            have hf1 : F1 = 2 := (congrArg Prod.fst hf).symm
            have hf2 : F2 = (k2 : Int) := (congrArg Prod.snd hf).symm
            have HF1 := hid hf1
            have HF2 := hid hf2
            clear hf hf1 hf2 hj hq
            go_wp2
            go_returns
            rw [HF1.out, HF2.out]
            exact ⟨rfl, Hb1.out⟩
          · rw [decide_eq_false hq] at hdec
            rw [if_neg (show ¬ nmIs (bl x) a = true from by unfold nmIs; simp [hq])] at hj
            have HJ := hid hj
            clear hj hq
            go_wp2
            exact ⟨⟨k2 + 1, by omega, by go_num, HJ.out, trivial⟩, by simp [intOf]; omega⟩
        · have hkI : ¬ (k2 : Int) < (M2 : Int) := by omega
          have HN2 : Hid (I2 = -1) := by
            show _ = _
            rw [← HJ2.out, List.drop_of_length_le (by rw [← HM2.out]; omega)]
            rfl
          go_wp2_with fail
          go_loopw [8] (fun i wr => ∃ k : Nat, k ≤ M3 ∧ i = .int .i64 k ∧ Hid (idxF (nmIs (bl x)) (sv.drop k) k = I3) ∧ w1 = wr) (fun i _ => M3 - (intOf i).toNat)
          case atStart => exact ⟨0, Nat.zero_le _, rfl, HI3.out.symm, rfl⟩
          case round =>
            obtain ⟨k3, hk3, rfl, HJ3, rfl⟩ := hrel
            by_cases hlt : k3 < M3
            · obtain ⟨a, ha⟩ : ∃ a, sv[k3]? = some a := ⟨sv[k3]'(by rw [← HM3.out]; exact hlt), by simp⟩
              obtain ⟨g, off, cap, c, hv, hg, ⟨s, ad, m, cp, rfl, hs, hr⟩, hcell⟩ := Rw.at HS.out.2.2 ha
              injection hv with e1 e2 e3
              subst e1 e3
              clear e2
              have d0 := hcell 0 _ rfl
              simp only [Nat.add_zero] at d0
              have hj := HJ3.out
              rw [idx_here _ ha] at hj
              have hdec := str_dec s x
              rw [hs] at hdec
              have hkI : (k3 : Int) < (M3 : Int) := by omega
              clear hr hcell hs
              by_cases hq : a.1 = bl x
              · rw [decide_eq_true hq] at hdec
                rw [if_pos (show nmIs (bl x) a = true from decide_eq_true hq)] at hj
                have hf := HF.out
                rw [← hj, if_neg (by have := HN1.out; omega), if_neg (by have := HN2.out; omega), if_pos (by omega)] at hf
                have hf1 : F1 = 3 := (congrArg Prod.fst hf).symm
                have hf2 : F2 = (k3 : Int) := (congrArg Prod.snd hf).symm
                have HF1 := hid hf1
                have HF2 := hid hf2
                clear hf hf1 hf2 hj hq
                go_wp2
                go_returns
                rw [HF1.out, HF2.out]
                exact ⟨rfl, Hb1.out⟩
              · rw [decide_eq_false hq] at hdec
                rw [if_neg (show ¬ nmIs (bl x) a = true from by unfold nmIs; simp [hq])] at hj
                have HJ := hid hj
                clear hj hq
                go_wp2
                exact ⟨⟨k3 + 1, by omega, by go_num, HJ.out, trivial⟩, by simp [intOf]; omega⟩
            · have hkI : ¬ (k3 : Int) < (M3 : Int) := by omega
              have HN3 : Hid (I3 = -1) := by
                show _ = _
                rw [← HJ3.out, List.drop_of_length_le (by rw [← HM3.out]; omega)]
                rfl
              have hf := HF.out
              rw [if_neg (by have := HN1.out; omega), if_neg (by have := HN2.out; omega), if_neg (by have := HN3.out; omega)] at hf
              have hf1 : F1 = 0 := (congrArg Prod.fst hf).symm
              have hf2 : F2 = 0 := (congrArg Prod.snd hf).symm
              have HF1 := hid hf1
              have HF2 := hid hf2
              clear hf hf1 hf2
              go_wp2
              go_returns
              rw [HF1.out, HF2.out]
              exact ⟨rfl, Hb1.out⟩
end Go.Proofs.YtmiohekmpjiloaaGreatDoor

namespace Go.Proofs.YtmiohekmpjiloaaGreatDoor
open Go.RowKit
set_option maxRecDepth 20000

/-- Does a type name structs and enums alone? -/
def knP (f : List Nat → Int × Int) : Pl.Ty → Bool
  | .plain _ => true
  | .named x => (f x).1 == 1 || (f x).1 == 2
  | .list t => knP f t
  | .opt t => knP f t

set_option maxHeartbeats 4000000 in
theorem rknown_plain (k : Int) (hk : k ≠ 8) (s1 s2 s3 : Value) (h1 : ∃ a m c, s1 = .slice a m c) (h2 : ∃ a m c, s2 = .slice a m c) (h3 : ∃ a m c, s3 = .slice a m c) (s : ByteArray) (ad : Option Addr) (cp : Nat) (w : World) : Calls Tryz.prog 55 #[.agg #[s1, s2, s3], .agg #[.int .i64 k, .string s, .slice ad 0 cp]] w fun e w' => e = .returned (.bool true) ∧ Below w.heap.size w w' := by
  obtain ⟨b1, m1, d1, rfl⟩ := h1
  obtain ⟨b2, m2, d2, rfl⟩ := h2
  obtain ⟨b3, m3, d3, rfl⟩ := h3
  have hq : (k == 8) = false := by simp [hk]
  have HB := hid (below_next (below_alloc w (.cells #[.slice b1 m1 d1, .slice b2 m2 d2, .slice b3 m3 d3] 26)) (below_alloc _ (.cells #[.int .i64 k, .string s, .slice ad 0 cp] 29)))
  go_enter Tryz.func55, Tryz.ntmps55
  go_wp2_with fail
  go_quiet (fail)
  go_wp2
  go_ret
  exact ⟨rfl, below_drewN HB.out _⟩

set_option maxHeartbeats 8000000 in
theorem rknown_named (st : List (List Nat × List Pl.Fld)) (en : List (List Nat × List Pl.Cas)) (sv : List (List Nat × List Pl.Mth)) (hl : st.length ≤ 1000 ∧ en.length ≤ 1000 ∧ sv.length ≤ 1000) (s1 s2 s3 : Value) (x : ByteArray) (ad : Option Addr) (cp : Nat) (w : World) (hS : SchG st en sv s1 s2 s3 w) :
    Calls Tryz.prog 55 #[.agg #[s1, s2, s3], .agg #[.int .i64 8, .string x, .slice ad 0 cp]] w fun e w' => e = .returned (.bool ((fnd st en sv (bl x)).1 == 1 || (fnd st en sv (bl x)).1 == 2)) ∧ Below w.heap.size w w' := by
  have hb := below_next (below_alloc w (.cells #[s1, s2, s3] 26)) (below_alloc _ (.cells #[.int .i64 8, .string x, .slice ad 0 cp] 29))
  have HFD := hid (rFind_any st en sv hl s1 s2 s3 x _ (hS.below hb))
  have HB := hid hb
  obtain ⟨a1, c1, a2, c2, a3, c3, rfl, rfl, rfl⟩ := hS.shape
  clear hb hS
  generalize (fnd st en sv (bl x)).1 = F at *
  generalize (fnd st en sv (bl x)).2 = G at *
  by_cases h1 : F = 1
  · subst h1
    go_enter Tryz.func55, Tryz.ntmps55
    go_wp2_with fail
    refine HFD.out.mono ?_
    rintro e w2 ⟨rfl, hb2⟩
    have HB2 := hid (below_next HB.out hb2)
    clear hb2
    go_wp2
    go_ret
    exact ⟨rfl, HB2.out⟩
  · have hq : (F == 1) = false := by simp [h1]
    rw [hq, Bool.false_or]
    go_enter Tryz.func55, Tryz.ntmps55
    go_wp2_with fail
    refine HFD.out.mono ?_
    rintro e w2 ⟨rfl, hb2⟩
    have HB2 := hid (below_next HB.out hb2)
    clear hb2
    go_wp2
    go_ret
    exact ⟨rfl, HB2.out⟩

set_option maxHeartbeats 8000000 in
theorem rknown_one (k : Int) (hk : k = 6 ∨ k = 7) (s1 s2 s3 : Value) (h1 : ∃ a m c, s1 = .slice a m c) (h2 : ∃ a m c, s2 = .slice a m c) (h3 : ∃ a m c, s3 = .slice a m c) (s : ByteArray) (g off cp : Nat) (xk : Int) (xs : ByteArray) (xa : Option Addr) (xm xc : Nat) (w : World) (hg : g < w.heap.size) (c0 : w.cell? ⟨g, off, none⟩ = some (.int .i64 xk)) (c1 : w.cell? ⟨g, off + 1, none⟩ = some (.string xs)) (c2 : w.cell? ⟨g, off + 2, none⟩ = some (.slice xa xm xc)) (R : Bool)
    (hrec : ∀ W, Below w.heap.size w W → Calls Tryz.prog 55 #[.agg #[s1, s2, s3], .agg #[.int .i64 xk, .string xs, .slice xa xm xc]] W fun e w' => e = .returned (.bool R) ∧ Below W.heap.size W w') :
    Calls Tryz.prog 55 #[.agg #[s1, s2, s3], .agg #[.int .i64 k, .string s, .slice (some ⟨g, off, none⟩) 1 cp]] w fun e w' => e = .returned (.bool R) ∧ Below w.heap.size w w' := by
  obtain ⟨b1, m1, d1, rfl⟩ := h1
  obtain ⟨b2, m2, d2, rfl⟩ := h2
  obtain ⟨b3, m3, d3, rfl⟩ := h3
  have hq : (k == 8) = false := by rcases hk with rfl | rfl <;> rfl
  have hb := below_next (below_alloc w (.cells #[.slice b1 m1 d1, .slice b2 m2 d2, .slice b3 m3 d3] 26)) (below_alloc _ (.cells #[.int .i64 k, .string s, .slice (some ⟨g, off, none⟩) 1 cp] 29))
  have e0 := (hb.cell hg).trans c0
  have e1 := (hb.cell hg).trans c1
  have e2 := (hb.cell hg).trans c2
  have hgr := Nat.lt_of_lt_of_le hg hb.size
  have HB := hid hb
  have HREC := hid hrec
  clear hb c0 c1 c2 hrec hk
  go_enter Tryz.func55, Tryz.ntmps55
  go_wp2_with fail
  go_region_with (go_at_call 55; refine (HREC.out _ HB.out.drew).mono ?_; rintro e w2 ⟨rfl, hb2⟩; have HB2 := hid (below_next HB.out.drew hb2); clear hb2)
  all_goals
    go_wp2
    go_ret
    exact ⟨rfl, HB2.out⟩

theorem rKnown_any (st : List (List Nat × List Pl.Fld)) (en : List (List Nat × List Pl.Cas)) (sv : List (List Nat × List Pl.Mth)) (hl : st.length ≤ 1000 ∧ en.length ≤ 1000 ∧ sv.length ≤ 1000) (s1 s2 s3 : Value) (t : Pl.Ty) : ∀ (w : World) (a b c : Value), SchG st en sv s1 s2 s3 w → TyG w t a b c → Pl.okTy t →
    Calls Tryz.prog 55 #[.agg #[s1, s2, s3], .agg #[a, b, c]] w fun e w' => e = .returned (.bool (knP (fnd st en sv) t)) ∧ Below w.heap.size w w' := by
  induction t with
  | plain k =>
    rintro w a b c hS ⟨rfl, ⟨s, rfl, _⟩, ad, cp, rfl⟩ hok
    obtain ⟨a1, c1, a2, c2, a3, c3, rfl, rfl, rfl⟩ := hS.shape
    exact rknown_plain _ (by have := hok.2; omega) _ _ _ ⟨_, _, _, rfl⟩ ⟨_, _, _, rfl⟩ ⟨_, _, _, rfl⟩ s ad cp w
  | named x =>
    rintro w a b c hS ⟨rfl, ⟨s, rfl, hs⟩, ad, cp, rfl⟩ _
    have := rknown_named st en sv hl s1 s2 s3 s ad cp w hS
    rw [hs] at this
    exact this
  | list t ih =>
    rintro w a b c hS ⟨rfl, ⟨s, rfl, _⟩, g, off, cp, x, y, z, rfl, h4, h5, h6, h7, h8⟩ hok
    obtain ⟨xk, xs, xa, xm, xc, rfl, rfl, rfl⟩ := h8.shape
    obtain ⟨a1, c1, a2, c2, a3, c3, rfl, rfl, rfl⟩ := hS.shape
    exact rknown_one 6 (.inl rfl) _ _ _ ⟨_, _, _, rfl⟩ ⟨_, _, _, rfl⟩ ⟨_, _, _, rfl⟩ s g off cp xk xs xa xm xc w h4 h5 h6 h7 _ fun W hW => ih W _ _ _ (hS.below hW) (TyG.below hW _ _ _ _ h8) hok
  | opt t ih =>
    rintro w a b c hS ⟨rfl, ⟨s, rfl, _⟩, g, off, cp, x, y, z, rfl, h4, h5, h6, h7, h8⟩ hok
    obtain ⟨xk, xs, xa, xm, xc, rfl, rfl, rfl⟩ := h8.shape
    obtain ⟨a1, c1, a2, c2, a3, c3, rfl, rfl, rfl⟩ := hS.shape
    exact rknown_one 7 (.inr rfl) _ _ _ ⟨_, _, _, rfl⟩ ⟨_, _, _, rfl⟩ ⟨_, _, _, rfl⟩ s g off cp xk xs xa xm xc w h4 h5 h6 h7 _ fun W hW => ih W _ _ _ (hS.below hW) (TyG.below hW _ _ _ _ h8) hok
end Go.Proofs.YtmiohekmpjiloaaGreatDoor

namespace Go.Proofs.YtmiohekmpjiloaaGreatDoor
open Go.RowKit
set_option maxRecDepth 20000

def FNum (a : Pl.Fld) : Prop := 1 ≤ a.num ∧ a.num ≤ 65536
def FPair (a b : Pl.Fld) : Prop := b.num < a.num ∧ a.name ≠ b.name
/-- Which fields a struct may have. -/
structure FGood (kn : Pl.Ty → Bool) (fs : List Pl.Fld) : Prop where
  num : ∀ a ∈ fs, FNum a
  pair : ∀ (i k : Nat) (a b : Pl.Fld), k < i → fs[i]? = some a → fs[k]? = some b → FPair a b
  ty : ∀ a ∈ fs, kn a.ty = true

theorem mem_take {α : Type} {Q : α → Prop} {l : List α} {k : Nat} {a : α} (h : ∀ b ∈ l.take k, Q b) (ha : l[k]? = some a) (hq : Q a) : ∀ b ∈ l.take (k + 1), Q b := by
  intro b hb
  rw [List.take_add_one, ha] at hb
  rcases List.mem_append.1 hb with hb | hb
  · exact h b hb
  · simp at hb
    subst hb
    exact hq

set_option maxHeartbeats 32000000 in
theorem rfields_any (st : List (List Nat × List Pl.Fld)) (en : List (List Nat × List Pl.Cas)) (sv : List (List Nat × List Pl.Mth)) (hl : st.length ≤ 1000 ∧ en.length ≤ 1000 ∧ sv.length ≤ 1000) (s1 s2 s3 : Value) (nm : ByteArray) (af : Option Addr) (mf cf : Nat) (fs : List Pl.Fld) (hfs : ∀ f ∈ fs, Pl.okFld f) (hm : fs.length ≤ 32) (w : World) (hS : SchG st en sv s1 s2 s3 w) (hF : Rw 5 FldG w (.slice af mf cf) fs) :
    Calls Tryz.prog 45 #[.agg #[s1, s2, s3], .agg #[.string nm, .slice af mf cf]] w fun e w' => (∃ E : Int, e = .returned (.int .i64 E) ∧ (E = 0 ↔ FGood (knP (fnd st en sv)) fs)) ∧ Below w.heap.size w w' := by
  have hmf : mf = fs.length := by obtain ⟨_, _, hsh⟩ := hF.shape; injection hsh
  obtain ⟨w1, hw1⟩ : ∃ w1, w1 = w.alloc (.cells #[s1, s2, s3] 26) := ⟨_, rfl⟩
  obtain ⟨w2, hw2⟩ : ∃ w2, w2 = w1.alloc (.cells #[.string nm, .slice af mf cf] 59) := ⟨_, rfl⟩
  have hz1 : w1.heap.size = w.heap.size + 1 := by rw [hw1]; simp
  have hb1 : Below w.heap.size w w1 := by rw [hw1]; exact below_alloc w _
  have hb12 : Below w1.heap.size w1 w2 := by rw [hw2]; exact below_alloc w1 _
  have hb2 := below_next hb1 hb12
  have hB1 : Bx w2 w.heap.size [s1, s2, s3] 26 := Bx.below (by rw [hw1]; exact Bx.new w _ _) hb12
  have hB2 : Bx w2 (w.heap.size + 1) [.string nm, .slice af mf cf] 59 := by rw [hw2]; exact Bx.newAt hz1.symm _ _
  have HS := hid (hS.below hb2)
  have HF := hid hF
  obtain ⟨a1, c1, a2, c2, a3, c3, rfl, rfl, rfl⟩ := hS.shape
  have HFS := hid hfs
  have HM := hid hmf
  have HB1 := hid hB1
  have HB2 := hid hB2
  have Hb2 := hid hb2
  have HW1 := hid hw1
  have HW2 := hid hw2
  have hm32 : mf ≤ 32 := by omega
  have y1 := hB2.cell 1 rfl
  have HL := hid hl
  clear hw1 hw2 hz1 hb1 hb12 hb2 hB1 hB2 hfs hmf hm hS hF hl
  obtain ⟨l1, hl1⟩ : ∃ l, l = st.length := ⟨_, rfl⟩
  obtain ⟨l2, hl2⟩ : ∃ l, l = en.length := ⟨_, rfl⟩
  obtain ⟨l3, hl3⟩ : ∃ l, l = sv.length := ⟨_, rfl⟩
  rw [← hl1, ← hl2, ← hl3] at HS HB1 HW1 ⊢
  clear hl1 hl2 hl3
  go_enter Tryz.func45, Tryz.ntmps45
  go_wp2_with fail
  rw [← HW1.out, ← HW2.out]
  go_loopw [5] (fun i wr => ∃ k : Nat, k ≤ mf ∧ i = .int .i64 k ∧ Hid (∀ a ∈ fs.take k, FNum a) ∧ w2 = wr) (fun i _ => mf - (intOf i).toNat)
  case atStart => exact ⟨0, Nat.zero_le _, rfl, (fun a ha => by simp at ha), rfl⟩
  case round =>
    obtain ⟨k, hk, rfl, HA, rfl⟩ := hrel
    by_cases hlt : k < mf
    · obtain ⟨f, hf⟩ : ∃ f, fs[k]? = some f := ⟨fs[k]'(by rw [← HM.out]; exact hlt), by simp⟩
      obtain ⟨g, off, cap, c, hv, hg, ⟨fn, fk, fs', fa, fm, fc, rfl, hfn, hty⟩, hcell⟩ := Rw.at HF.out hf
      injection hv with e1 e2 e3
      subst e1 e3
      clear e2
      have d1 := (Hb2.out.cell hg).trans (hcell 1 _ rfl)
      have hkI : (k : Int) < (mf : Int) := by omega
      have HFK := hid hf
      clear hcell hty hfn hf
      by_cases h1 : 1 ≤ f.num
      · have h1I : ¬ ((f.num : Int) < 1) := by omega
        by_cases h2 : f.num ≤ 65536
        · have h2I : ¬ ((65536 : Int) < (f.num : Int)) := by omega
          have HA2 := hid (mem_take HA.out HFK.out ⟨h1, h2⟩)
          go_wp2
          exact ⟨⟨k + 1, by omega, by go_num, HA2.out, trivial⟩, by simp [intOf]; omega⟩
        · have h2I : (65536 : Int) < (f.num : Int) := by omega
          have HNO : Hid (¬ FGood (knP (fnd st en sv)) fs) := fun h => h2 (h.num f (List.mem_of_getElem? HFK.out)).2
          go_wp2
          go_ret
          exact ⟨⟨4, rfl, by simpa using HNO.out⟩, Hb2.out⟩
      · have h1I : (f.num : Int) < 1 := by omega
        have HNO : Hid (¬ FGood (knP (fnd st en sv)) fs) := fun h => h1 (h.num f (List.mem_of_getElem? HFK.out)).1
        go_wp2
        go_ret
        exact ⟨⟨4, rfl, by simpa using HNO.out⟩, Hb2.out⟩
    · have hkI : ¬ (k : Int) < (mf : Int) := by omega
      have HALL : Hid (∀ a ∈ fs, FNum a) := fun a ha => HA.out a (by rw [List.take_of_length_le (by rw [← HM.out]; omega)]; exact ha)
      go_wp2_with fail
      clear y1
      go_loopw [6] (fun i wr => ∃ n : Nat, n ≤ mf ∧ i = .int .i64 n ∧ Hid (∀ (i' k' : Nat) (a b : Pl.Fld), i' < n → k' < i' → fs[i']? = some a → fs[k']? = some b → FPair a b) ∧ Below w2.heap.size w2 wr) (fun i _ => mf - (intOf i).toNat)
      case atStart => exact ⟨0, Nat.zero_le _, rfl, (fun i' _ _ _ h => absurd h (by omega)), Below.refl _ _⟩
      case round =>
        obtain ⟨n, hn, rfl, HP, hbw⟩ := hrel
        have y1 := (HB2.out.below hbw).cell 1 rfl
        by_cases hnl : n < mf
        · obtain ⟨f, hf⟩ : ∃ f, fs[n]? = some f := ⟨fs[n]'(by rw [← HM.out]; exact hnl), by simp⟩
          obtain ⟨g, off, cap, c, hv, hg, ⟨fn, fk, fs', fa, fm, fc, rfl, hfn, hty⟩, hcell⟩ := Rw.at HF.out hf
          injection hv with e1 e2 e3
          subst e1 e3
          clear e2
          have hc0 := hcell 0 _ rfl
          simp only [Nat.add_zero] at hc0
          have HC0 := hid hc0
          have HC1 := hid (hcell 1 _ rfl)
          have hnI : (n : Int) < (mf : Int) := by omega
          have HFK := hid hf
          have HFN := hid hfn
          have HBW := hid hbw
          clear hcell hty hfn hf hc0 hbw
          go_wp2_with fail
          clear y1
          go_loopw [7] (fun i wr => ∃ k : Nat, k ≤ n ∧ i = .int .i64 k ∧ Hid (∀ (k' : Nat) (b : Pl.Fld), k' < k → fs[k']? = some b → FPair f b) ∧ Below w2.heap.size w2 wr) (fun i _ => n - (intOf i).toNat)
          case atStart => exact ⟨0, Nat.zero_le _, rfl, (fun k' _ h => absurd h (by omega)), HBW.out⟩
          case round =>
            clear HBW
            obtain ⟨k, hk, rfl, HQ, hbw⟩ := hrel
            have y1 := (HB2.out.below hbw).cell 1 rfl
            have hbn := below_next Hb2.out hbw
            by_cases hkl : k < n
            · obtain ⟨f2, hf2⟩ : ∃ f, fs[k]? = some f := ⟨fs[k]'(by rw [← HM.out]; omega), by simp⟩
              obtain ⟨g', off', cap', c', hv, hg', ⟨fn2, fk2, fs2, fa2, fm2, fc2, rfl, hfn2, hty2⟩, hcell2⟩ := Rw.at HF.out hf2
              injection hv with e1 e2 e3
              injection e1 with e1
              injection e1 with e4 e5 e6
              subst e4 e5
              clear e2 e3
              have r0 := hcell2 0 _ rfl
              simp only [Nat.add_zero] at r0
              have d0 := (hbn.cell hg).trans HC0.out
              have d1 := (hbn.cell hg).trans HC1.out
              have d2 := (hbn.cell hg).trans r0
              have d3 := (hbn.cell hg).trans (hcell2 1 _ rfl)
              have hkI : (k : Int) < (n : Int) := by omega
              have hkM : (k : Int) < (mf : Int) := by omega
              have hdec := str_dec fn fn2
              have HFK2 := hid hf2
              have HBN := hid hbn
              have HBW := hid hbw
              have hnm1 := HFN.out
              rw [hnm1, hfn2] at hdec
              clear hcell2 hty2 hf2 r0 hbn hbw hnm1 hfn2
              by_cases h1 : f.num ≤ f2.num
              · have h1I : (f.num : Int) ≤ (f2.num : Int) := by omega
                have HNO : Hid (¬ FGood (knP (fnd st en sv)) fs) := fun h => by have := (h.pair n k f f2 hkl HFK.out HFK2.out).1; omega
                clear hdec
                go_wp2_with fail
                go_quiet (fail)
                go_wp2
                go_ret
                exact ⟨⟨43, rfl, by simpa using HNO.out⟩, below_drewN HBN.out _⟩
              · have h1I : ¬ (f.num : Int) ≤ (f2.num : Int) := by omega
                by_cases h2 : f.name = f2.name
                · rw [decide_eq_true h2] at hdec
                  have HNO : Hid (¬ FGood (knP (fnd st en sv)) fs) := fun h => (h.pair n k f f2 hkl HFK.out HFK2.out).2 h2
                  clear h2
                  go_wp2_with fail
                  go_quiet (fail)
                  go_wp2
                  go_ret
                  exact ⟨⟨43, rfl, by simpa using HNO.out⟩, below_drewN HBN.out _⟩
                · rw [decide_eq_false h2] at hdec
                  have HQ2 : Hid (∀ (k' : Nat) (b : Pl.Fld), k' < k + 1 → fs[k']? = some b → FPair f b) := by
                    intro k' b hk' hb
                    rcases Nat.lt_or_ge k' k with h3 | h3
                    · exact HQ.out k' b h3 hb
                    · obtain rfl : k' = k := by omega
                      rw [HFK2.out] at hb
                      cases hb
                      exact ⟨by omega, h2⟩
                  clear h2
                  go_wp2_with fail
                  go_quiet (fail)
                  go_wp2
                  exact ⟨⟨k + 1, by omega, by go_num, HQ2.out, below_drewN HBW.out _⟩, by simp [intOf]; omega⟩
            · have hkI : ¬ (k : Int) < (n : Int) := by omega
              have HP2 : Hid (∀ (i' k' : Nat) (a b : Pl.Fld), i' < n + 1 → k' < i' → fs[i']? = some a → fs[k']? = some b → FPair a b) := by
                intro i' k' a b hi hk' ha hb
                rcases Nat.lt_or_ge i' n with h3 | h3
                · exact HP.out i' k' a b h3 hk' ha hb
                · obtain rfl : i' = n := by omega
                  rw [HFK.out] at ha
                  cases ha
                  exact HQ.out k' b (by omega) hb
              have HBW := hid hbw
              clear hbn hbw y1
              go_wp2
              exact ⟨⟨n + 1, by omega, by go_num, HP2.out, HBW.out⟩, by simp [intOf]; omega⟩
        · have hnI : ¬ (n : Int) < (mf : Int) := by omega
          have HPAIR : Hid (∀ (i k : Nat) (a b : Pl.Fld), k < i → fs[i]? = some a → fs[k]? = some b → FPair a b) := fun i' k' a b hk' ha hb => HP.out i' k' a b (by have := (List.getElem?_eq_some_iff.1 ha).1; rw [← HM.out] at this; omega) hk' ha hb
          have HBW := hid hbw
          clear hbw
          go_wp2_with fail
          clear y1
          go_loopw [8] (fun i wr => ∃ q : Nat, q ≤ mf ∧ i = .int .i64 q ∧ Hid (∀ a ∈ fs.take q, knP (fnd st en sv) a.ty = true) ∧ Below w2.heap.size w2 wr) (fun i _ => mf - (intOf i).toNat)
          case atStart => exact ⟨0, Nat.zero_le _, rfl, (fun a ha => by simp at ha), HBW.out⟩
          case round =>
            clear HBW
            obtain ⟨q, hq, rfl, HT, hbw⟩ := hrel
            have y1 := (HB2.out.below hbw).cell 1 rfl
            have z0 := (HB1.out.below hbw).cell 0 rfl
            have z1 := (HB1.out.below hbw).cell 1 rfl
            have z2 := (HB1.out.below hbw).cell 2 rfl
            have hbn := below_next Hb2.out hbw
            by_cases hql : q < mf
            · obtain ⟨f, hf⟩ : ∃ f, fs[q]? = some f := ⟨fs[q]'(by rw [← HM.out]; exact hql), by simp⟩
              obtain ⟨g, off, cap, c, hv, hg, ⟨fn, fk, fs', fa, fm, fc, rfl, hfn, hty⟩, hcell⟩ := Rw.at HF.out hf
              injection hv with e1 e2 e3
              subst e1 e3
              clear e2
              have d2 := (hbn.cell hg).trans (hcell 2 _ rfl)
              have d3 := (hbn.cell hg).trans (hcell 3 _ rfl)
              have d4 := (hbn.cell hg).trans (hcell 4 _ rfl)
              have hqI : (q : Int) < (mf : Int) := by omega
              have hokf := HFS.out f (List.mem_of_getElem? hf)
              have HKN := hid (fun W (hW : Below w2.heap.size w2 W) => rKnown_any st en sv HL.out _ _ _ f.ty W _ _ _ (HS.out.below hW) (TyG.below (below_next Hb2.out hW) _ _ _ _ hty) hokf.2.2.1)
              have HFK := hid hf
              have HBW := hid hbw
              clear hcell hty hfn hf hbn hbw hokf
              obtain ⟨K, hK⟩ : ∃ K, K = knP (fnd st en sv) f.ty := ⟨_, rfl⟩
              rw [← hK] at HKN
              have HK := hid hK
              clear hK
              cases K with
              | true =>
                have HT2 := hid (mem_take HT.out HFK.out HK.out.symm)
                go_wp2_with fail
                go_region_with (go_at_call 55; refine (HKN.out _ HBW.out.drew).mono ?_; rintro e w5 ⟨rfl, hb5⟩; have HB5 := hid (below_next HBW.out.drew hb5); clear hb5)
                all_goals
                  go_wp2
                  exact ⟨⟨q + 1, by omega, by go_num, HT2.out, HB5.out⟩, by simp [intOf]; omega⟩
              | false =>
                have HNO : Hid (¬ FGood (knP (fnd st en sv)) fs) := fun h => by
                  have h1 := h.ty f (List.mem_of_getElem? HFK.out)
                  rw [← HK.out] at h1
                  cases h1
                go_wp2_with fail
                go_region_with (go_at_call 55; refine (HKN.out _ HBW.out.drew).mono ?_; rintro e w5 ⟨rfl, hb5⟩; have HB5 := hid (below_next Hb2.out (below_next HBW.out.drew hb5)); clear hb5)
                all_goals
                  go_wp2
                  go_ret
                  exact ⟨⟨41, rfl, by simpa using HNO.out⟩, HB5.out⟩
            · have hqI : ¬ (q : Int) < (mf : Int) := by omega
              have HG : Hid (FGood (knP (fnd st en sv)) fs) := ⟨HALL.out, HPAIR.out, fun a ha => HT.out a (by rw [List.take_of_length_le (by rw [← HM.out]; omega)]; exact ha)⟩
              have HBN := hid hbn
              clear hbn hbw z0 z1 z2
              go_wp2
              go_ret
              exact ⟨⟨0, rfl, by simpa using HG.out⟩, HBN.out⟩
end Go.Proofs.YtmiohekmpjiloaaGreatDoor

namespace Go.Proofs.YtmiohekmpjiloaaGreatDoor
open Go.RowKit
set_option maxRecDepth 20000

/-- A type that names nothing at its head. -/
def flatT : Pl.Ty → Prop
  | .named _ => False
  | _ => True

set_option maxHeartbeats 16000000 in
theorem rdepth_flat (st : List (List Nat × List Pl.Fld)) (en : List (List Nat × List Pl.Cas)) (sv : List (List Nat × List Pl.Mth)) (hl : st.length ≤ 1000 ∧ en.length ≤ 1000 ∧ sv.length ≤ 1000) (s1 s2 s3 : Value) (at' : Nat) (nm : List Nat) (fs : List Pl.Fld) (hat : st[at']? = some (nm, fs)) (hfs : ∀ f ∈ fs, Pl.okFld f ∧ flatT f.ty) (hm : fs.length ≤ 32) (left : Int) (hle : left ≠ 0) (w : World) (hS : SchG st en sv s1 s2 s3 w) :
    Calls Tryz.prog 48 #[.agg #[s1, s2, s3], .int .i64 at', .int .i64 left] w fun e w' => e = .returned (.tuple #[.int .i64 1, .int .i64 (1 + fs.length : Int)]) ∧ Below w.heap.size w w' := by
  obtain ⟨mf, hmf⟩ : ∃ m, m = fs.length := ⟨_, rfl⟩
  rw [← hmf] at hm
  rw [show ((1 : Int) + fs.length) = 1 + (mf : Int) by rw [hmf]]
  have hl1 := hl.1
  have hatl : at' < st.length := (List.getElem?_eq_some_iff.1 hat).1
  obtain ⟨g0, off0, cap0, c0, hv0, hg0, ⟨sn, ad, m, cp, rfl, hs, hr⟩, hcell0⟩ := Rw.at hS.1 hat
  have hmm : m = mf := by obtain ⟨_, _, hsh⟩ := hr.shape; injection hsh with _ e2 _; rw [e2, hmf]
  subst hmm
  obtain ⟨w1, hw1⟩ : ∃ w1, w1 = w.alloc (.cells #[s1, s2, s3] 26) := ⟨_, rfl⟩
  have hb1 : Below w.heap.size w w1 := by rw [hw1]; exact below_alloc w _
  have hB1 : Bx w1 w.heap.size [s1, s2, s3] 26 := by rw [hw1]; exact Bx.new w _ _
  have HS := hid (hS.below hb1)
  have hc1 := hcell0 1 _ rfl
  obtain ⟨a1, k1, a2, k2, a3, k3, rfl, rfl, rfl⟩ := hS.shape
  injection hv0 with e1 e2 e3
  subst e1
  clear e2 e3
  have HC1 := hid hc1
  have HR := hid hr
  have HFS := hid hfs
  have HM := hid hmf
  have HB1 := hid hB1
  have Hb1 := hid hb1
  have HW1 := hid hw1
  have HL := hid hl
  have hatI : (at' : Int) < (st.length : Int) := by omega
  have hq0 : (left == 0) = false := by simp [hle]
  clear hw1 hb1 hB1 hfs hmf hS hr hl hcell0 hc1 hs hat hle
  obtain ⟨l1, hl1'⟩ : ∃ l, l = st.length := ⟨_, rfl⟩
  obtain ⟨l2, hl2'⟩ : ∃ l, l = en.length := ⟨_, rfl⟩
  obtain ⟨l3, hl3'⟩ : ∃ l, l = sv.length := ⟨_, rfl⟩
  rw [← hl1'] at hl1 hatl hatI
  rw [← hl1', ← hl2', ← hl3'] at HS HB1 HW1 ⊢
  clear hl1' hl2' hl3'
  go_enter Tryz.func48, Tryz.ntmps48
  go_wp2_with fail
  rw [← HW1.out]
  go_loopw [8, 9, 10] (fun mo we i wr => ∃ k : Nat, k ≤ m ∧ i = .int .i64 k ∧ mo = .int .i64 0 ∧ we = .int .i64 (1 + k : Int) ∧ Below w1.heap.size w1 wr) (fun _ _ i _ => m - (intOf i).toNat)
  case atStart => exact ⟨0, Nat.zero_le _, rfl, rfl, rfl, Below.refl _ _⟩
  case round =>
    obtain ⟨k, hk, rfl, rfl, rfl, hbw⟩ := hrel
    have z0 := (HB1.out.below hbw).cell 0 rfl
    have z1 := (HB1.out.below hbw).cell 1 rfl
    have z2 := (HB1.out.below hbw).cell 2 rfl
    have hbn := below_next Hb1.out hbw
    have d0 := (hbn.cell hg0).trans HC1.out
    have hwe : (1 + (k : Int)) < 1000 := by omega
    by_cases hlt : k < m
    · obtain ⟨f, hf⟩ : ∃ f, fs[k]? = some f := ⟨fs[k]'(by rw [← HM.out]; exact hlt), by simp⟩
      obtain ⟨g, off, cap, c, hv, hg, ⟨fn, fk, fs', fa, fm, fc, rfl, hfn, hty⟩, hcell⟩ := Rw.at HR.out hf
      injection hv with e1 e2 e3
      subst e1 e3
      clear e2
      have d2 := (hbn.cell hg).trans (hcell 2 _ rfl)
      have d3 := (hbn.cell hg).trans (hcell 3 _ rfl)
      have d4 := (hbn.cell hg).trans (hcell 4 _ rfl)
      have hkI : (k : Int) < (m : Int) := by omega
      obtain ⟨hokf, hfl⟩ := HFS.out f (List.mem_of_getElem? hf)
      have hk8 : (fk == 8) = false := by
        have hokt := hokf.2.2.1
        have h1 := (TyG.parts hty).1
        injection h1 with _ h1
        subst h1
        revert hfl hokt
        cases f.ty with
        | plain q => intro _ hokt; have := hokt.2; simp only [kindOf]; simp; omega
        | named x => intro hfl _; exact hfl.elim
        | list t => intro _ _; rfl
        | opt t => intro _ _; rfl
      have hba := below_alloc wr (.cells #[.int .i64 fk, .string fs', .slice fa fm fc] 29)
      have hbw2 := below_next hbw hba
      have v0 := (HB1.out.below hbw2).cell 0 rfl
      have v1 := (HB1.out.below hbw2).cell 1 rfl
      have v2 := (HB1.out.below hbw2).cell 2 rfl
      have hfd := rFind_any st en sv HL.out _ _ _ fs' _ (HS.out.below hbw2)
      obtain ⟨F1, F2, hF⟩ : ∃ F1 F2, fnd st en sv (bl fs') = (F1, F2) := ⟨_, _, rfl⟩
      rw [hF] at hfd
      have HFD := hid hfd
      have HBX := hid (Bx.new wr [.int .i64 fk, .string fs', .slice fa fm fc] 29)
      have HBW2 := hid hbw2
      clear hcell hty hfn hf hbn hbw hbw2 hba hokf hfl hF hfd
      go_wp2_with fail
      refine HFD.out.mono ?_
      rintro e w5 ⟨rfl, hb5⟩
      have HB5 := hid (below_next HBW2.out hb5)
      have x0 := (HBX.out.below hb5).cell 0 rfl
      clear hb5 z0 z1 z2 v0 v1 v2 d0 d2 d3 d4
      go_wp2
      exact ⟨⟨k + 1, by omega, by go_num, rfl, by go_num, HB5.out⟩, by simp [intOf]; omega⟩
    · obtain rfl : k = m := by omega
      have hkI : ¬ (k : Int) < (k : Int) := by omega
      have HBN := hid hbn
      have hmin : min (1 + (k : Int)) 1000 = 1 + (k : Int) := by omega
      clear hbn hbw
      go_wp2
      go_returns
      exact ⟨by simp, HBN.out⟩
end Go.Proofs.YtmiohekmpjiloaaGreatDoor

namespace Go.Proofs.YtmiohekmpjiloaaGreatDoor
open Go.RowKit
set_option maxRecDepth 20000

set_option maxHeartbeats 16000000 in
theorem rnames_one (x : List Nat × List Pl.Fld) (s1 s2 s3 : Value) (w : World) (hS : SchG [x] [] [] s1 s2 s3 w) :
    Calls Tryz.prog 44 #[.agg #[s1, s2, s3]] w fun e w' => e = .returned (.bool true) ∧ Below w.heap.size w w' := by
  obtain ⟨g0, off0, cap0, c0, hv0, hg0, ⟨sn, ad, m, cp, rfl, hs, hr⟩, hcell0⟩ := Rw.at hS.1 (i := 0) (a := x) rfl
  have hc0 := hcell0 0 _ rfl
  simp only [Nat.zero_mul, Nat.add_zero] at hc0
  obtain ⟨a1, k1, a2, k2, a3, k3, rfl, rfl, rfl⟩ := hS.shape
  injection hv0 with e1 e2 e3
  subst e1
  clear e2 e3
  simp only [List.length_cons, List.length_nil, Nat.zero_add] at *
  obtain ⟨w1, hw1⟩ : ∃ w1, w1 = w.alloc (.cells #[.slice (some ⟨g0, off0, none⟩) 1 k1, .slice a2 0 k2, .slice a3 0 k3] 26) := ⟨_, rfl⟩
  have hb1 : Below w.heap.size w w1 := by rw [hw1]; exact below_alloc w _
  have hB1 : Bx w1 w.heap.size [.slice (some ⟨g0, off0, none⟩) 1 k1, .slice a2 0 k2, .slice a3 0 k3] 26 := by rw [hw1]; exact Bx.new w _ _
  have y0 := hB1.cell 0 rfl
  have d0 := (hb1.cell hg0).trans hc0
  have HB1 := hid hB1
  have Hb1 := hid hb1
  have HW1 := hid hw1
  clear hw1 hb1 hB1 hr hs hcell0 hc0 hS
  go_enter Tryz.func44, Tryz.ntmps44
  go_wp2_with fail
  rw [← HW1.out]
  go_loopw [3, 4] (fun al i wr => (al = .slice none 0 0 ∧ i = .int .i64 0 ∧ w1 = wr) ∨ ((∃ g cap, al = .slice (some ⟨g, 0, none⟩) 1 cap) ∧ i = .int .i64 1 ∧ Below w1.heap.size w1 wr)) (fun _ i _ => 1 - (intOf i).toNat)
  case atStart => exact .inl ⟨rfl, rfl, rfl⟩
  case round =>
    rcases hrel with ⟨rfl, rfl, rfl⟩ | ⟨⟨g, cap, rfl⟩, rfl, hbw⟩
    · go_wp2
      exact ⟨.inr ⟨⟨_, _, rfl⟩, rfl, (below_next (below_alloc w1 _) (below_alloc _ _)).drew⟩, by simp [intOf]⟩
    · have y0 := (HB1.out.below hbw).cell 0 rfl
      have y1 := (HB1.out.below hbw).cell 1 rfl
      have y2 := (HB1.out.below hbw).cell 2 rfl
      have HBN := hid (below_next Hb1.out hbw)
      clear hbw d0
      go_wp2_with fail
      go_rounds 1
      go_wp2_with fail
      go_rounds 1
      go_wp2_with fail
      go_loopw [7] (fun i W => (i = .int .i64 0 ∨ i = .int .i64 1) ∧ wr = W) (fun i _ => 1 - (intOf i).toNat)
      case atStart => exact ⟨.inl rfl, rfl⟩
      case round =>
        obtain ⟨hi, rfl⟩ := hrel
        rcases hi with rfl | rfl
        · go_wp2_with fail
          go_rounds 1
          go_wp2
          exact ⟨⟨.inr rfl, trivial⟩, by simp [intOf]⟩
        · go_wp2
          go_ret
          exact ⟨rfl, HBN.out⟩
end Go.Proofs.YtmiohekmpjiloaaGreatDoor

namespace Go.Proofs.YtmiohekmpjiloaaGreatDoor
open Go.RowKit
set_option maxRecDepth 20000

theorem flat_step (ps : List (List Nat)) (k : Nat) (p : List Nat) (h : ps[k]? = some p) : (ps.take (k + 1)).flatten = (ps.take k).flatten ++ p := by
  rw [List.take_add_one, h]
  simp
theorem flat_all (K : Nat) : ∀ (l : List (List Nat)), (∀ p ∈ l, p.length ≤ K) → l.flatten.length ≤ K * l.length := by
  intro l
  induction l with
  | nil => intro _; simp
  | cons a l ih =>
    intro h
    have h1 := ih (fun p hp => h p (by simp [hp]))
    have h2 := h a (by simp)
    rw [List.flatten_cons, List.length_append, List.length_cons, Nat.mul_add]
    omega
theorem flat_len (K : Nat) (ps : List (List Nat)) (h : ∀ p ∈ ps, p.length ≤ K) (k : Nat) : (ps.take k).flatten.length ≤ K * ps.length := by
  have h1 := flat_all K (ps.take k) (fun p hp => h p (List.mem_of_mem_take hp))
  have h2 : (ps.take k).length ≤ ps.length := by rw [List.length_take]; omega
  exact Nat.le_trans h1 (Nat.mul_le_mul_left _ h2)

theorem fld_len (f : Pl.Fld) (h : Pl.okFld f) : (Pl.fldX f).length ≤ 153 := Pl.Small.part ((Pl.Small.gf (Pl.embF f)).mono (by decide)) _ (Pl.partW_fld f h)
theorem cas_len (f : Pl.Cas) (h : Pl.okCas f) : (Pl.casX f).length ≤ 153 := Pl.Small.part ((Pl.Small.gc (Pl.embC f)).mono (by decide)) _ (Pl.partW_cas f h)
theorem mth_len (f : Pl.Mth) (h : Pl.okMth f) : (Pl.mthX f).length ≤ 153 := Pl.Small.part (Pl.Small.gm (Pl.embM f)) _ (Pl.partW_mth f h)
theorem part_lens {α : Type} (X : α → List Nat) (Q : α → Prop) (hX : ∀ f, Q f → (X f).length ≤ 153) (l : List α) (h : ∀ f ∈ l, Q f) : ∀ p ∈ l.map X, p.length ≤ 153 := by
  intro p hp
  obtain ⟨f, hf, rfl⟩ := List.mem_map.1 hp
  exact hX f (h f hf)
theorem body_len (kw n : List Nat) (hk : kw.length ≤ 10) (hn : n.length ≤ 32) (ps : List (List Nat)) (hl : ps.length ≤ 32) (h : ∀ p ∈ ps, p.length ≤ 153) : (Pl.bodyX kw n ps).length ≤ 5000 := by
  have := flat_all 153 ps h
  simp only [Pl.bodyX, List.length_append, List.length_cons, List.length_nil]
  omega
theorem decl_len (d : Pl.Decl) (h : Pl.okDecl d) : (Pl.declX d).length ≤ 5000 := by
  cases d with
  | st n l => exact body_len _ _ (by decide) (Pl.name_len h.1) _ (by rw [List.length_map]; exact h.2.1) (part_lens _ _ fld_len l h.2.2)
  | en n l => exact body_len _ _ (by decide) (Pl.name_len h.1) _ (by rw [List.length_map]; exact h.2.1) (part_lens _ _ cas_len l h.2.2)
  | sv n l => exact body_len _ _ (by decide) (Pl.name_len h.1) _ (by rw [List.length_map]; exact h.2.1) (part_lens _ _ mth_len l h.2.2)

/-- So many pieces are told. -/
structure PrI (b : Nat) (acc : List Nat) (ps : List (List Nat)) (M : Nat) (w : World) (i : Value) (wr : World) : Prop where
  all : ∃ k : Nat, k ≤ M ∧ i = .int .i64 k ∧ WSt b (acc ++ (ps.take k).flatten) wr ∧ Ch (Xo b) w wr
theorem WSt.putL {b : Nat} {acc : List Nat} {w : World} {s : ByteArray} (hB : Bx w b [.string s, .int .i64 0] 117) (hs : bl s = acc) (L : List Nat) : ∀ t : ByteArray, bl t = L → Bx (w.setCell ⟨b, 0, none⟩ (.string (s ++ t))) b [.string (s ++ t), .int .i64 0] 117 ∧ bl (s ++ t) = acc ++ L :=
  fun t ht => ⟨WSt.set hB, by rw [bl_append, hs, ht]⟩
end Go.Proofs.YtmiohekmpjiloaaGreatDoor

namespace Go.Proofs.YtmiohekmpjiloaaGreatDoor
open Go.RowKit
set_option maxRecDepth 20000

set_option maxHeartbeats 64000000 in
theorem rPrint_ok (st : List (List Nat × List Pl.Fld)) (en : List (List Nat × List Pl.Cas)) (sv : List (List Nat × List Pl.Mth)) (hok : ∀ d ∈ Pl.inOrder st en sv, Pl.okDecl d) (hl : st.length + en.length + sv.length ≤ 64) (s1 s2 s3 : Value) (w : World) (hS : SchG st en sv s1 s2 s3 w) :
    Calls Tryz.prog 43 #[.agg #[s1, s2, s3]] w fun e w' => ∃ t, e = .returned (.tuple #[.string t, .int .i64 0]) ∧ bl t = ((Pl.inOrder st en sv).map Pl.declX).flatten ∧ Below w.heap.size w w' := by
  obtain ⟨a1, c1, a2, c2, a3, c3, rfl, rfl, rfl⟩ := hS.shape
  obtain ⟨M1, hM1⟩ : ∃ M, M = st.length := ⟨_, rfl⟩
  obtain ⟨M2, hM2⟩ : ∃ M, M = en.length := ⟨_, rfl⟩
  obtain ⟨M3, hM3⟩ : ∃ M, M = sv.length := ⟨_, rfl⟩
  rw [← hM1, ← hM2, ← hM3] at hl hS ⊢
  obtain ⟨w1, hw1⟩ : ∃ w1, w1 = w.alloc (.cells #[.slice a1 M1 c1, .slice a2 M2 c2, .slice a3 M3 c3] 26) := ⟨_, rfl⟩
  obtain ⟨w2, hw2⟩ : ∃ w2, w2 = w1.alloc (.cells #[.string ⟨#[]⟩, .int .i64 0] 117) := ⟨_, rfl⟩
  have hz1 : w1.heap.size = w.heap.size + 1 := by rw [hw1]; simp
  have hb1 : Below w.heap.size w w1 := by rw [hw1]; exact below_alloc w _
  have hb12 : Below w1.heap.size w1 w2 := by rw [hw2]; exact below_alloc w1 _
  have hb2 := below_next hb1 hb12
  have hBs : Bx w2 w.heap.size [.slice a1 M1 c1, .slice a2 M2 c2, .slice a3 M3 c3] 26 := Bx.below (by rw [hw1]; exact Bx.new w _ _) hb12
  have hBw : Bx w2 (w.heap.size + 1) [.string ⟨#[]⟩, .int .i64 0] 117 := by rw [hw2]; exact Bx.newAt hz1.symm _ _
  have hbel : ∀ W, Ch (Xo (w.heap.size + 1)) w2 W → Below w.heap.size w W := fun W hW => hb2.trans (Xo.bel hW (by omega) hb2.size)
  have hbox : ∀ W, Ch (Xo (w.heap.size + 1)) w2 W → Bx W w.heap.size [.slice a1 M1 c1, .slice a2 M2 c2, .slice a3 M3 c3] 26 := fun W hW => hBs.ch hW (fun e => by have : w.heap.size = w.heap.size + 1 := e; omega)
  obtain ⟨ps1, hps1⟩ : ∃ ps, ps = st.map fun x => Pl.declX (Pl.mkSt x) := ⟨_, rfl⟩
  obtain ⟨ps2, hps2⟩ : ∃ ps, ps = en.map fun x => Pl.declX (Pl.mkEn x) := ⟨_, rfl⟩
  obtain ⟨ps3, hps3⟩ : ∃ ps, ps = sv.map fun x => Pl.declX (Pl.mkSv x) := ⟨_, rfl⟩
  have hD1 : ∀ x ∈ st, Pl.okDecl (Pl.mkSt x) := fun x hx => hok _ (List.mem_append_left _ (List.mem_append_left _ (List.mem_map_of_mem hx)))
  have hD2 : ∀ x ∈ en, Pl.okDecl (Pl.mkEn x) := fun x hx => hok _ (List.mem_append_left _ (List.mem_append_right _ (List.mem_map_of_mem hx)))
  have hD3 : ∀ x ∈ sv, Pl.okDecl (Pl.mkSv x) := fun x hx => hok _ (List.mem_append_right _ (List.mem_map_of_mem hx))
  have hL1 : ∀ k, (ps1.take k).flatten.length ≤ 320000 := fun k => by
    have := flat_len 5000 ps1 (by rw [hps1]; intro p hp; obtain ⟨x, hx, rfl⟩ := List.mem_map.1 hp; exact decl_len _ (hD1 x hx)) k
    have h2 : ps1.length = M1 := by rw [hps1, List.length_map, hM1]
    rw [h2] at this
    omega
  have hL2 : ∀ k, (ps2.take k).flatten.length ≤ 320000 := fun k => by
    have := flat_len 5000 ps2 (by rw [hps2]; intro p hp; obtain ⟨x, hx, rfl⟩ := List.mem_map.1 hp; exact decl_len _ (hD2 x hx)) k
    have h2 : ps2.length = M2 := by rw [hps2, List.length_map, hM2]
    rw [h2] at this
    omega
  have hL3 : ∀ k, (ps3.take k).flatten.length ≤ 320000 := fun k => by
    have := flat_len 5000 ps3 (by rw [hps3]; intro p hp; obtain ⟨x, hx, rfl⟩ := List.mem_map.1 hp; exact decl_len _ (hD3 x hx)) k
    have h2 : ps3.length = M3 := by rw [hps3, List.length_map, hM3]
    rw [h2] at this
    omega
  have hfin : ((Pl.inOrder st en sv).map Pl.declX).flatten = ps1.flatten ++ ps2.flatten ++ ps3.flatten := by
    rw [hps1, hps2, hps3]
    simp [Pl.inOrder, Function.comp_def]
  rw [hfin]
  have hall1 : ∀ k, ¬ k < M1 → k ≤ M1 → ps1.take k = ps1 := fun k h1 h2 => List.take_of_length_le (by rw [hps1, List.length_map, ← hM1]; omega)
  have hall2 : ∀ k, ¬ k < M2 → k ≤ M2 → ps2.take k = ps2 := fun k h1 h2 => List.take_of_length_le (by rw [hps2, List.length_map, ← hM2]; omega)
  have hall3 : ∀ k, ¬ k < M3 → k ≤ M3 → ps3.take k = ps3 := fun k h1 h2 => List.take_of_length_le (by rw [hps3, List.length_map, ← hM3]; omega)
  have HBEL := hid hbel
  have HBOX := hid hbox
  have HPS1 := hid hps1
  have HPS2 := hid hps2
  have HPS3 := hid hps3
  have HD1 := hid hD1
  have HD2 := hid hD2
  have HD3 := hid hD3
  have HL1 := hid hL1
  have HL2 := hid hL2
  have HL3 := hid hL3
  have HALL1 := hid hall1
  have HALL2 := hid hall2
  have HALL3 := hid hall3
  have HM1 := hid hM1
  have HM2 := hid hM2
  have HM3 := hid hM3
  have HS := hid hS
  have HW1 := hid hw1
  have HW2 := hid hw2
  have HBW := hid hBw
  have q1 : (M1 : Int) ≤ 64 := by omega
  have q2 : (M2 : Int) ≤ 64 := by omega
  have q3 : (M3 : Int) ≤ 64 := by omega
  have q4 : (M1 : Int) + (M2 : Int) + (M3 : Int) ≤ 64 := by omega
  clear hbel hbox hps1 hps2 hps3 hD1 hD2 hD3 hL1 hL2 hL3 hall1 hall2 hall3 hM1 hM2 hM3 hS hw1 hw2 hBw hBs hb1 hb12 hb2 hz1 hfin hok hl
  go_enter Tryz.func43, Tryz.ntmps43
  go_wp2_with fail
  rw [← HW1.out, ← HW2.out]
  refine (rneed_true (w.heap.size + 1) 3 w2).mono ?_
  rintro e w3 ⟨rfl, hw3⟩
  subst w3
  go_wp2_with fail
  go_loopw [5] (fun i wr => PrI (w.heap.size + 1) [] ps1 M1 w2 i wr) (fun i _ => M1 - (intOf i).toNat)
  case atStart => exact ⟨0, Nat.zero_le _, rfl, ⟨_, HBW.out, by simp [bl]⟩, Ch.refl _ _⟩
  case round =>
   obtain ⟨k, hk, rfl, ⟨s, hB, hs⟩, hc⟩ := hrel.all
   clear hrel
   have HB := hid hB
   have HS0 := hid hs
   have HC := hid hc
   have hlen0 : ([] ++ (ps1.take k).flatten).length ≤ 990000 := by
     have h1 := HL1.out k
     simp only [List.length_append, List.length_nil]
     omega
   have hsz : s.size ≤ 990000 := by rw [← bl_length, hs]; exact hlen0
   clear hB hs hc
   have x0 := HB.out.cell 0 rfl
   have x1 := HB.out.cell 1 rfl
   have xf := HB.out.frozen
   by_cases hlt : k < M1
   · as_aux_lemma =>
      obtain ⟨x, hx⟩ : ∃ x, st[k]? = some x := ⟨st[k]'(by rw [← HM1.out]; exact hlt), by simp⟩
      obtain ⟨g1, o1, cap1, c, hv, hg, ⟨nm, af, mf, cf, rfl, hnm, hrw⟩, hcell⟩ := Rw.at HS.out.1 hx
      injection hv with e1 e2 e3
      subst e1 e3
      clear e2
      have hn0 := hcell 0 _ rfl
      have hn1 := hcell 1 _ rfl
      simp only [Nat.add_zero] at hn0
      have HN0 := hid hn0
      have HN1 := hid hn1
      obtain ⟨hxn, hxl, hxf⟩ : Pl.okName x.1 ∧ x.2.length ≤ 32 ∧ ∀ f ∈ x.2, Pl.okFld f := HD1.out x (List.mem_of_getElem? hx)
      have hmf : mf = x.2.length := by obtain ⟨_, _, hsh⟩ := hrw.shape; injection hsh
      have hm32 : mf ≤ 32 := by omega
      have HMF := hid hmf
      have HRW := hid hrw
      have HXF := hid hxf
      have HXN := hid hxn
      have HNM := hid hnm
      have HX := hid hx
      have hnl := Pl.name_len hxn
      rw [← hnm, bl_length] at hnl
      clear hcell hn0 hn1 hrw hxf hxn hnm hmf hxl hx
      have hltI : (k : Int) < (M1 : Int) := by omega
      have hmI : (mf : Int) ≤ 32 := by omega
      have zw := HBEL.out _ HC.out
      have za0 := (HBOX.out _ HC.out).cell 0 rfl
      have zal := (HBOX.out _ HC.out).lt
      have zan := (zw.cell hg).trans HN0.out
      have zap := (zw.cell hg).trans HN1.out
      have zag := Nat.lt_of_lt_of_le hg zw.size
      clear zw
      have zb0 := fun v => (HBOX.out _ (HC.out.trans (WSt.ch HB.out v))).cell 0 rfl
      have zbl := fun v => (HBOX.out _ (HC.out.trans (WSt.ch HB.out v))).lt
      have zbn := fun v => ((HBEL.out _ (HC.out.trans (WSt.ch HB.out v))).cell hg).trans HN0.out
      have zbp := fun v => ((HBEL.out _ (HC.out.trans (WSt.ch HB.out v))).cell hg).trans HN1.out
      have zbg := fun v => Nat.lt_of_lt_of_le hg (HBEL.out _ (HC.out.trans (WSt.ch HB.out v))).size
      have hlen1 : ([] ++ (ps1.take k).flatten ++ [115, 116, 114, 117, 99, 116, 32]).length ≤ 1000000 := by
        have h4 : ([115, 116, 114, 117, 99, 116, 32] : List Nat).length = 7 := rfl
        rw [List.length_append, h4]
        omega
      have hput := WSt.putL HB.out HS0.out [115, 116, 114, 117, 99, 116, 32]
      have hcall := fun (t : ByteArray) (ht : bl t = [115, 116, 114, 117, 99, 116, 32]) => rwname_ok (w.heap.size + 1) _ nm (by rw [HNM.out]; exact HXN.out) (wr.setCell ⟨w.heap.size + 1, 0, none⟩ (.string (s ++ t))) ⟨_, (hput t ht).1, (hput t ht).2⟩ (by omega)
      have HCALL := hid hcall
      have HC1 := hid (fun v => HC.out.trans (WSt.ch HB.out v))
      have HLEN1 := hid hlen1
      clear hcall hput HC HS0 HB hlen1 hlen0
      go_wp2_with fail
      refine (rneed_true (w.heap.size + 1) 3 wr).mono ?_
      rintro e w3 ⟨rfl, hw3⟩
      subst w3
      go_wp2_with fail
      refine Calls.mono (HCALL.out _ ?_) ?_
      · rfl
      rintro e wb ⟨rfl, ⟨sb, hBb, hsb⟩, hcb⟩
      clear x0 x1 xf za0 zal zan zap zag zb0 zbl zbn zbp zbg
      have hcB := (HC1.out _).trans hcb
      have hszb : sb.size ≤ 1000100 := by
        have h1 := HLEN1.out
        rw [← bl_length, hsb, List.length_append, bl_length nm]
        omega
      have HPUT2 := hid (WSt.putL hBb hsb [32, 123, 10])
      have HBb := hid hBb
      have HC2 := hid (fun v => hcB.trans (WSt.ch HBb.out v))
      clear HCALL HC1 hcb hcB hBb hsb hsz
      have z0 := HBb.out.cell 0 rfl
      have z1 := HBb.out.cell 1 rfl
      have zf := HBb.out.frozen
      obtain ⟨AC, hAC⟩ : ∃ A, A = [] ++ (ps1.take k).flatten ++ [115, 116, 114, 117, 99, 116, 32] ++ bl nm ++ [32, 123, 10] := ⟨_, rfl⟩
      have hACl : AC.length ≤ 1000103 := by
        have h1 := HLEN1.out
        rw [hAC]
        have h5 : ([32, 123, 10] : List Nat).length = 3 := rfl
        rw [List.length_append, List.length_append, bl_length nm, h5]
        omega
      rw [← hAC] at HPUT2
      have HAC := hid hAC
      have HACL := hid hACl
      clear hAC HLEN1 hACl
      obtain ⟨qs, hqs⟩ : ∃ q, q = x.2.map Pl.fldX := ⟨_, rfl⟩
      have hQL : ∀ j, (qs.take j).flatten.length ≤ 5000 := fun j => by
        have h1 := flat_len 153 qs (by rw [hqs]; exact part_lens _ _ fld_len x.2 HXF.out) j
        have h2 : qs.length = mf := by rw [hqs, List.length_map, ← HMF.out]
        rw [h2] at h1
        omega
      have HQS := hid hqs
      have HQL := hid hQL
      clear hqs hQL
      go_wp2_with fail
      go_loopw [6] (fun i wr => PrI (w.heap.size + 1) AC qs mf w2 i wr) (fun i _ => mf - (intOf i).toNat)
      case atStart =>
        refine ⟨0, Nat.zero_le _, rfl, ⟨_, (HPUT2.out _ ?_).1, ?_⟩, HC2.out _⟩
        · rfl
        · rw [(HPUT2.out _ rfl).2]; simp
      case round =>
       clear z0 z1 zf
       clear HPUT2 HC2 HBb hszb
       obtain ⟨j, hj, rfl, ⟨s2, hB, hs⟩, hc⟩ := hrel.all
       clear hrel
       have HB := hid hB
       have HS1 := hid hs
       have HC := hid hc
       have hblt := hB.lt
       have hlenA : (AC ++ (qs.take j).flatten).length ≤ 1010000 := by
         have h1 := HQL.out j
         have h2 := HACL.out
         rw [List.length_append]
         omega
       have hsz2 : s2.size ≤ 1010000 := by rw [← bl_length, hs]; exact hlenA
       have HLENA := hid hlenA
       clear hB hs hc hlenA
       have x0 := HB.out.cell 0 rfl
       have x1 := HB.out.cell 1 rfl
       have xf := HB.out.frozen
       have zw := HBEL.out _ HC.out
       have za0 := (HBOX.out _ HC.out).cell 0 rfl
       have zal := (HBOX.out _ HC.out).lt
       have zan := (zw.cell hg).trans HN0.out
       have zap := (zw.cell hg).trans HN1.out
       have zag := Nat.lt_of_lt_of_le hg zw.size
       clear zw
       by_cases hjl : j < mf
       · as_aux_lemma =>
          obtain ⟨f, hf⟩ : ∃ f, x.2[j]? = some f := ⟨x.2[j]'(by rw [← HMF.out]; exact hjl), by simp⟩
          obtain ⟨g2, o2, cap2, c, hv, hg2, ⟨fn, fk, fs, fa, fm, fc, rfl, hfn, hty⟩, hcell⟩ := Rw.at HRW.out hf
          injection hv with e1 e2 e3
          subst e1 e3
          clear e2
          have HC0 := hid (hcell 0 _ rfl)
          have HC1 := hid (hcell 1 _ rfl)
          have HC2 := hid (hcell 2 _ rfl)
          have HC3 := hid (hcell 3 _ rfl)
          have HC4 := hid (hcell 4 _ rfl)
          simp only [Nat.add_zero] at HC0
          obtain ⟨hf1, hf2, hf3, hf4⟩ : Pl.okFld f := HXF.out f (List.mem_of_getElem? hf)
          have hqj : qs[j]? = some (Pl.fldX f) := by rw [HQS.out, List.getElem?_map, hf]; rfl
          have HQJ := hid hqj
          have HFN := hid hfn
          have hfl := Pl.name_len hf2
          rw [← hfn, bl_length] at hfl
          have hjI : (j : Int) < (mf : Int) := by omega
          have HF1 := hid hf1
          have HF2 := hid hf2
          have HF3 := hid hf3
          have HF4 := hid hf4
          have HTY := hid hty
          clear hcell hqj hfn hf hf1 hf2 hf3 hf4 hty
          have zw := HBEL.out _ HC.out
          have zbc0 := (zw.cell hg2).trans HC0.out
          have zbc1 := (zw.cell hg2).trans HC1.out
          have zbc2 := (zw.cell hg2).trans HC2.out
          have zbc3 := (zw.cell hg2).trans HC3.out
          have zbc4 := (zw.cell hg2).trans HC4.out
          have zbh := Nat.lt_of_lt_of_le hg2 zw.size
          clear zw
          have hne : wr.heap.size ≠ w.heap.size + 1 := by omega
          have hput1 := WSt.putL HB.out HS1.out [9]
          have hFS1 : ∀ v, Bx ((wr.setCell ⟨w.heap.size + 1, 0, none⟩ v).alloc (.cells #[.string fn, .int .i64 (f.num : Int), .int .i64 fk, .string fs, .slice fa fm fc] 61)) wr.heap.size [.string fn, .int .i64 (f.num : Int), .int .i64 fk, .string fs, .slice fa fm fc] 61 := fun v => Bx.newAt (by simp) _ _
          have hcS1 : ∀ v, Ch (Xo (w.heap.size + 1)) w2 ((wr.setCell ⟨w.heap.size + 1, 0, none⟩ v).alloc (.cells #[.string fn, .int .i64 (f.num : Int), .int .i64 fk, .string fs, .slice fa fm fc] 61)) := fun v => (HC.out.trans (WSt.ch HB.out v)).trans (Ch.alloc _ _)
          have zpf1 := fun v => (hFS1 v).cell 1 rfl
          have HCALL1 := hid fun (t : ByteArray) (ht : bl t = [9]) => rwnumber_ok (w.heap.size + 1) _ f.num HF1.out ((wr.setCell ⟨w.heap.size + 1, 0, none⟩ (.string (s2 ++ t))).alloc (.cells #[.string fn, .int .i64 (f.num : Int), .int .i64 fk, .string fs, .slice fa fm fc] 61)) ⟨_, ((hput1 t ht).1.alloc _), (hput1 t ht).2⟩ (by have h1 := HLENA.out; have h6 : ([9] : List Nat).length = 1 := rfl; rw [List.length_append, h6]; omega)
          have HCS1 := hid hcS1
          have HFS1 := hid hFS1
          clear hcS1 hput1 hFS1
          go_wp2_with fail
          refine Calls.mono (HCALL1.out _ ?_) ?_
          · rfl
          rintro e u1 ⟨rfl, ⟨t1, hBU1, hsU1⟩, hcU⟩
          clear x0 x1 xf za0 zal zan zap zag zbc0 zbc1 zbc2 zbc3 zbc4 zbh zpf1
          have hcU1 := (HCS1.out _).trans hcU
          have HFU1 := hid ((HFS1.out _).ch hcU fun e => hne e)
          have hlen1 : (bl t1).length ≤ 1010010 := by
            have h7 := HLENA.out
            have h6 : ([9] : List Nat).length = 1 := rfl
            have h8 := (show (Pl.dec f.num).length ≤ 9 from Pl.decS_len 20 f.num 9 (by have := HF1.out; omega) (by omega))
            rw [hsU1, List.length_append, List.length_append, h6]
            omega
          have hszt1 : t1.size ≤ 1010010 := by rw [← bl_length]; exact hlen1
          have HSU1 := hid hsU1
          have HBU1 := hid hBU1
          have HCU1 := hid hcU1
          rw [hsU1] at hlen1
          have HLEN1 := hid hlen1
          clear HCALL1 HCS1 hcU hcU1 hBU1 hsU1 hlen1 HFS1 hsz2
          have v10 := HBU1.out.cell 0 rfl
          have v11 := HBU1.out.cell 1 rfl
          have v1f := HBU1.out.frozen
          have hput2 := WSt.putL HBU1.out HSU1.out [32]
          have hcS2 := fun v => HCU1.out.trans (WSt.ch HBU1.out v)
          have hFS2 := fun v => Bx.other (k := 0) HFU1.out hne v
          have zqf0 := fun v => (hFS2 v).cell 0 rfl
          have HCALL2 := hid fun (t : ByteArray) (ht : bl t = [32]) => rwname_ok (w.heap.size + 1) _ fn (by rw [HFN.out]; exact HF2.out) (u1.setCell ⟨w.heap.size + 1, 0, none⟩ (.string (t1 ++ t))) ⟨_, (hput2 t ht).1, (hput2 t ht).2⟩ (by have h1 := HLEN1.out; have h6 : ([32] : List Nat).length = 1 := rfl; rw [List.length_append, h6]; omega)
          have HCS2 := hid hcS2
          have HFS2 := hid hFS2
          clear hcS2 hput2 hFS2
          clear HBU1 HCU1 HFU1
          go_wp2_with fail
          refine Calls.mono (HCALL2.out _ ?_) ?_
          · rfl
          rintro e u2 ⟨rfl, ⟨t2, hBU2, hsU2⟩, hcU⟩
          clear v10 v11 v1f zqf0
          have hcU2 := (HCS2.out _).trans hcU
          have HFU2 := hid ((HFS2.out _).ch hcU fun e => hne e)
          have hlen2 : (bl t2).length ≤ 1010043 := by
            have h7 := HLEN1.out
            have h6 : ([32] : List Nat).length = 1 := rfl
            have h8 := (show (bl fn).length ≤ 32 by rw [bl_length]; exact hfl)
            rw [hsU2, List.length_append, List.length_append, h6]
            omega
          have hszt2 : t2.size ≤ 1010043 := by rw [← bl_length]; exact hlen2
          have HSU2 := hid hsU2
          have HBU2 := hid hBU2
          have HCU2 := hid hcU2
          rw [hsU2] at hlen2
          have HLEN2 := hid hlen2
          clear HCALL2 HCS2 hcU hcU2 hBU2 hsU2 hlen2 HFS2 hszt1
          have v20 := HBU2.out.cell 0 rfl
          have v21 := HBU2.out.cell 1 rfl
          have v2f := HBU2.out.frozen
          have hput3 := WSt.putL HBU2.out HSU2.out [58, 32]
          have hcS3 := fun v => HCU2.out.trans (WSt.ch HBU2.out v)
          have hFS3 := fun v => Bx.other (k := 0) HFU2.out hne v
          have zrf2 := fun v => (hFS3 v).cell 2 rfl
          have zrf3 := fun v => (hFS3 v).cell 3 rfl
          have zrf4 := fun v => (hFS3 v).cell 4 rfl
          have HCALL3 := hid fun (t : ByteArray) (ht : bl t = [58, 32]) => rwkind_ok (w.heap.size + 1) _ f.ty HF4.out HF3.out _ _ _ (u2.setCell ⟨w.heap.size + 1, 0, none⟩ (.string (t2 ++ t))) (TyG.below (HBEL.out _ (hcS3 _)) _ _ _ _ HTY.out) ⟨_, (hput3 t ht).1, (hput3 t ht).2⟩ (by have h1 := HLEN2.out; have h6 : ([58, 32] : List Nat).length = 2 := rfl; rw [List.length_append, h6]; omega)
          have HCS3 := hid hcS3
          have HFS3 := hid hFS3
          clear hcS3 hput3 hFS3
          clear HBU2 HCU2 HFU2
          go_wp2_with fail
          refine Calls.mono (HCALL3.out _ ?_) ?_
          · rfl
          rintro e u3 ⟨rfl, ⟨t3, hBU3, hsU3⟩, hcU⟩
          clear v20 v21 v2f zrf2 zrf3 zrf4
          have hcU3 := (HCS3.out _).trans hcU
          have HFU3 := hid ((HFS3.out _).ch hcU fun e => hne e)
          have hlen3 : (bl t3).length ≤ 1010093 := by
            have h7 := HLEN2.out
            have h6 : ([58, 32] : List Nat).length = 2 := rfl
            have h8 : (Pl.tyX f.ty).length ≤ 48 := by have h1 := Pl.ty_len f.ty HF3.out; have h2 := HF4.out; omega
            rw [hsU3, List.length_append, List.length_append, h6]
            omega
          have hszt3 : t3.size ≤ 1010093 := by rw [← bl_length]; exact hlen3
          have HSU3 := hid hsU3
          have HBU3 := hid hBU3
          have HCU3 := hid hcU3
          rw [hsU3] at hlen3
          have HLEN3 := hid hlen3
          clear HCALL3 HCS3 hcU hcU3 hBU3 hsU3 hlen3 HFS3 hszt2
          have v30 := HBU3.out.cell 0 rfl
          have v31 := HBU3.out.cell 1 rfl
          have v3f := HBU3.out.frozen
          have HPE := hid (WSt.putL HBU3.out HSU3.out [59, 10])
          have HCE := hid (fun v => HCU3.out.trans (WSt.ch HBU3.out v))
          clear HBU3 HCU3
          go_wp2_with fail
          refine ⟨⟨j + 1, by omega, by go_num, ⟨_, (HPE.out _ ?_).1, ?_⟩, HCE.out _⟩, by simp [intOf]; omega⟩
          · rfl
          rw [(HPE.out _ rfl).2, flat_step qs j _ HQJ.out, HFN.out]
          simp [Pl.fldX]
       · have hjI : ¬ (j : Int) < (mf : Int) := by omega
         have hje : qs.take j = qs := List.take_of_length_le (by rw [HQS.out, List.length_map, ← HMF.out]; omega)
         have hsE := HS1.out
         rw [hje] at hsE
         have HPE := hid (WSt.putL HB.out hsE [125, 10])
         have HCE := hid (fun v => HC.out.trans (WSt.ch HB.out v))
         clear hsE hje
         go_wp2_with fail
         refine ⟨⟨k + 1, by omega, by go_num, ⟨_, (HPE.out _ ?_).1, ?_⟩, HCE.out _⟩, by simp [intOf]; omega⟩
         · rfl
         rw [(HPE.out _ rfl).2, flat_step ps1 k (Pl.declX (Pl.mkSt x)) (by rw [HPS1.out, List.getElem?_map, HX.out]; rfl), HAC.out, HNM.out, HQS.out]
         simp [Pl.declX, Pl.mkSt, Pl.bodyX, Pl.wStruct]
   · as_aux_lemma =>
      have hltI : ¬ (k : Int) < (M1 : Int) := by omega
      have ye := HALL1.out k (by omega) hk
      rw [ye] at HS0
      clear ye
      have y0 := (HBOX.out _ HC.out).cell 0 rfl
      clear hlen0
      go_wp2_with fail
      clear y0 x0 x1 xf
      go_loopw [8] (fun i wr => PrI (w.heap.size + 1) ps1.flatten ps2 M2 w2 i wr) (fun i _ => M2 - (intOf i).toNat)
      case atStart => exact ⟨0, Nat.zero_le _, rfl, ⟨_, HB.out, by rw [HS0.out]; simp⟩, HC.out⟩
      case round =>
       clear HB HS0 HC
       obtain ⟨k, hk, rfl, ⟨s, hB, hs⟩, hc⟩ := hrel.all
       clear hrel
       have HB := hid hB
       have HS0 := hid hs
       have HC := hid hc
       have hlen0 : (ps1.flatten ++ (ps2.take k).flatten).length ≤ 990000 := by
         have h1 := HL2.out k
         have h2 := HL1.out M1
         rw [HALL1.out M1 (by omega) (Nat.le_refl _)] at h2
         simp only [List.length_append]
         omega
       have hsz : s.size ≤ 990000 := by rw [← bl_length, hs]; exact hlen0
       clear hB hs hc
       have x0 := HB.out.cell 0 rfl
       have x1 := HB.out.cell 1 rfl
       have xf := HB.out.frozen
       by_cases hlt : k < M2
       · as_aux_lemma =>
          obtain ⟨x, hx⟩ : ∃ x, en[k]? = some x := ⟨en[k]'(by rw [← HM2.out]; exact hlt), by simp⟩
          obtain ⟨g1, o1, cap1, c, hv, hg, ⟨nm, af, mf, cf, rfl, hnm, hrw⟩, hcell⟩ := Rw.at HS.out.2.1 hx
          injection hv with e1 e2 e3
          subst e1 e3
          clear e2
          have hn0 := hcell 0 _ rfl
          have hn1 := hcell 1 _ rfl
          simp only [Nat.add_zero] at hn0
          have HN0 := hid hn0
          have HN1 := hid hn1
          obtain ⟨hxn, hxl, hxf⟩ : Pl.okName x.1 ∧ x.2.length ≤ 32 ∧ ∀ f ∈ x.2, Pl.okCas f := HD2.out x (List.mem_of_getElem? hx)
          have hmf : mf = x.2.length := by obtain ⟨_, _, hsh⟩ := hrw.shape; injection hsh
          have hm32 : mf ≤ 32 := by omega
          have HMF := hid hmf
          have HRW := hid hrw
          have HXF := hid hxf
          have HXN := hid hxn
          have HNM := hid hnm
          have HX := hid hx
          have hnl := Pl.name_len hxn
          rw [← hnm, bl_length] at hnl
          clear hcell hn0 hn1 hrw hxf hxn hnm hmf hxl hx
          have hltI : (k : Int) < (M2 : Int) := by omega
          have hmI : (mf : Int) ≤ 32 := by omega
          have zw := HBEL.out _ HC.out
          have za0 := (HBOX.out _ HC.out).cell 1 rfl
          have zal := (HBOX.out _ HC.out).lt
          have zan := (zw.cell hg).trans HN0.out
          have zap := (zw.cell hg).trans HN1.out
          have zag := Nat.lt_of_lt_of_le hg zw.size
          clear zw
          have zb0 := fun v => (HBOX.out _ (HC.out.trans (WSt.ch HB.out v))).cell 1 rfl
          have zbl := fun v => (HBOX.out _ (HC.out.trans (WSt.ch HB.out v))).lt
          have zbn := fun v => ((HBEL.out _ (HC.out.trans (WSt.ch HB.out v))).cell hg).trans HN0.out
          have zbp := fun v => ((HBEL.out _ (HC.out.trans (WSt.ch HB.out v))).cell hg).trans HN1.out
          have zbg := fun v => Nat.lt_of_lt_of_le hg (HBEL.out _ (HC.out.trans (WSt.ch HB.out v))).size
          have hlen1 : (ps1.flatten ++ (ps2.take k).flatten ++ [101, 110, 117, 109, 32]).length ≤ 1000000 := by
            have h4 : ([101, 110, 117, 109, 32] : List Nat).length = 5 := rfl
            rw [List.length_append, h4]
            omega
          have hput := WSt.putL HB.out HS0.out [101, 110, 117, 109, 32]
          have hcall := fun (t : ByteArray) (ht : bl t = [101, 110, 117, 109, 32]) => rwname_ok (w.heap.size + 1) _ nm (by rw [HNM.out]; exact HXN.out) (wr.setCell ⟨w.heap.size + 1, 0, none⟩ (.string (s ++ t))) ⟨_, (hput t ht).1, (hput t ht).2⟩ (by omega)
          have HCALL := hid hcall
          have HC1 := hid (fun v => HC.out.trans (WSt.ch HB.out v))
          have HLEN1 := hid hlen1
          clear hcall hput HC HS0 HB hlen1 hlen0
          go_wp2_with fail
          refine (rneed_true (w.heap.size + 1) 3 wr).mono ?_
          rintro e w3 ⟨rfl, hw3⟩
          subst w3
          go_wp2_with fail
          refine Calls.mono (HCALL.out _ ?_) ?_
          · rfl
          rintro e wb ⟨rfl, ⟨sb, hBb, hsb⟩, hcb⟩
          clear x0 x1 xf za0 zal zan zap zag zb0 zbl zbn zbp zbg
          have hcB := (HC1.out _).trans hcb
          have hszb : sb.size ≤ 1000100 := by
            have h1 := HLEN1.out
            rw [← bl_length, hsb, List.length_append, bl_length nm]
            omega
          have HPUT2 := hid (WSt.putL hBb hsb [32, 123, 10])
          have HBb := hid hBb
          have HC2 := hid (fun v => hcB.trans (WSt.ch HBb.out v))
          clear HCALL HC1 hcb hcB hBb hsb hsz
          have z0 := HBb.out.cell 0 rfl
          have z1 := HBb.out.cell 1 rfl
          have zf := HBb.out.frozen
          obtain ⟨AC, hAC⟩ : ∃ A, A = ps1.flatten ++ (ps2.take k).flatten ++ [101, 110, 117, 109, 32] ++ bl nm ++ [32, 123, 10] := ⟨_, rfl⟩
          have hACl : AC.length ≤ 1000103 := by
            have h1 := HLEN1.out
            rw [hAC]
            have h5 : ([32, 123, 10] : List Nat).length = 3 := rfl
            rw [List.length_append, List.length_append, bl_length nm, h5]
            omega
          rw [← hAC] at HPUT2
          have HAC := hid hAC
          have HACL := hid hACl
          clear hAC HLEN1 hACl
          obtain ⟨qs, hqs⟩ : ∃ q, q = x.2.map Pl.casX := ⟨_, rfl⟩
          have hQL : ∀ j, (qs.take j).flatten.length ≤ 5000 := fun j => by
            have h1 := flat_len 153 qs (by rw [hqs]; exact part_lens _ _ cas_len x.2 HXF.out) j
            have h2 : qs.length = mf := by rw [hqs, List.length_map, ← HMF.out]
            rw [h2] at h1
            omega
          have HQS := hid hqs
          have HQL := hid hQL
          clear hqs hQL
          go_wp2_with fail
          go_loopw [9] (fun i wr => PrI (w.heap.size + 1) AC qs mf w2 i wr) (fun i _ => mf - (intOf i).toNat)
          case atStart =>
            refine ⟨0, Nat.zero_le _, rfl, ⟨_, (HPUT2.out _ ?_).1, ?_⟩, HC2.out _⟩
            · rfl
            · rw [(HPUT2.out _ rfl).2]; simp
          case round =>
           clear z0 z1 zf
           clear HPUT2 HC2 HBb hszb
           obtain ⟨j, hj, rfl, ⟨s2, hB, hs⟩, hc⟩ := hrel.all
           clear hrel
           have HB := hid hB
           have HS1 := hid hs
           have HC := hid hc
           have hblt := hB.lt
           have hlenA : (AC ++ (qs.take j).flatten).length ≤ 1010000 := by
             have h1 := HQL.out j
             have h2 := HACL.out
             rw [List.length_append]
             omega
           have hsz2 : s2.size ≤ 1010000 := by rw [← bl_length, hs]; exact hlenA
           have HLENA := hid hlenA
           clear hB hs hc hlenA
           have x0 := HB.out.cell 0 rfl
           have x1 := HB.out.cell 1 rfl
           have xf := HB.out.frozen
           have zw := HBEL.out _ HC.out
           have za0 := (HBOX.out _ HC.out).cell 1 rfl
           have zal := (HBOX.out _ HC.out).lt
           have zan := (zw.cell hg).trans HN0.out
           have zap := (zw.cell hg).trans HN1.out
           have zag := Nat.lt_of_lt_of_le hg zw.size
           clear zw
           by_cases hjl : j < mf
           · as_aux_lemma =>
              obtain ⟨f, hf⟩ : ∃ f, x.2[j]? = some f := ⟨x.2[j]'(by rw [← HMF.out]; exact hjl), by simp⟩
              obtain ⟨g2, o2, cap2, c, hv, hg2, ⟨fn, rfl, hfn⟩, hcell⟩ := Rw.at HRW.out hf
              injection hv with e1 e2 e3
              subst e1 e3
              clear e2
              have HC0 := hid (hcell 0 _ rfl)
              have HC1 := hid (hcell 1 _ rfl)
              simp only [Nat.add_zero] at HC0
              obtain ⟨hf1, hf2⟩ : Pl.okCas f := HXF.out f (List.mem_of_getElem? hf)
              have hqj : qs[j]? = some (Pl.casX f) := by rw [HQS.out, List.getElem?_map, hf]; rfl
              have HQJ := hid hqj
              have HFN := hid hfn
              have hfl := Pl.name_len hf2
              rw [← hfn, bl_length] at hfl
              have hjI : (j : Int) < (mf : Int) := by omega
              have HF1 := hid hf1
              have HF2 := hid hf2
              clear hcell hqj hfn hf hf1 hf2
              have zw := HBEL.out _ HC.out
              have zbc0 := (zw.cell hg2).trans HC0.out
              have zbc1 := (zw.cell hg2).trans HC1.out
              have zbh := Nat.lt_of_lt_of_le hg2 zw.size
              clear zw
              have hput1 := WSt.putL HB.out HS1.out [9]
              have hcS1 := fun v => HC.out.trans (WSt.ch HB.out v)
              have zp0 := fun v => (HBOX.out _ (HC.out.trans (WSt.ch HB.out v))).cell 1 rfl
              have zpl := fun v => (HBOX.out _ (HC.out.trans (WSt.ch HB.out v))).lt
              have zpn := fun v => ((HBEL.out _ (HC.out.trans (WSt.ch HB.out v))).cell hg).trans HN0.out
              have zpp := fun v => ((HBEL.out _ (HC.out.trans (WSt.ch HB.out v))).cell hg).trans HN1.out
              have zpg := fun v => Nat.lt_of_lt_of_le hg (HBEL.out _ (HC.out.trans (WSt.ch HB.out v))).size
              have zpc0 := fun v => ((HBEL.out _ (HC.out.trans (WSt.ch HB.out v))).cell hg2).trans HC0.out
              have zpc1 := fun v => ((HBEL.out _ (HC.out.trans (WSt.ch HB.out v))).cell hg2).trans HC1.out
              have zph := fun v => Nat.lt_of_lt_of_le hg2 (HBEL.out _ (HC.out.trans (WSt.ch HB.out v))).size
              have HCALL1 := hid fun (t : ByteArray) (ht : bl t = [9]) => rwnumber_ok (w.heap.size + 1) _ f.num HF1.out (wr.setCell ⟨w.heap.size + 1, 0, none⟩ (.string (s2 ++ t))) ⟨_, (hput1 t ht).1, (hput1 t ht).2⟩ (by have h1 := HLENA.out; have h6 : ([9] : List Nat).length = 1 := rfl; rw [List.length_append, h6]; omega)
              have HCS1 := hid hcS1
              clear hcS1 hput1
              go_wp2_with fail
              refine Calls.mono (HCALL1.out _ ?_) ?_
              · rfl
              rintro e u1 ⟨rfl, ⟨t1, hBU1, hsU1⟩, hcU⟩
              clear x0 x1 xf za0 zal zan zap zag zbc0 zbc1 zbh zp0 zpl zpn zpp zpg zpc0 zpc1 zph
              have hcU1 := (HCS1.out _).trans hcU
              have hlen1 : (bl t1).length ≤ 1010010 := by
                have h7 := HLENA.out
                have h6 : ([9] : List Nat).length = 1 := rfl
                have h8 := (show (Pl.dec f.num).length ≤ 9 from Pl.decS_len 20 f.num 9 (by have := HF1.out; omega) (by omega))
                rw [hsU1, List.length_append, List.length_append, h6]
                omega
              have hszt1 : t1.size ≤ 1010010 := by rw [← bl_length]; exact hlen1
              have HSU1 := hid hsU1
              have HBU1 := hid hBU1
              have HCU1 := hid hcU1
              rw [hsU1] at hlen1
              have HLEN1 := hid hlen1
              clear HCALL1 HCS1 hcU hcU1 hBU1 hsU1 hlen1 hsz2
              have v10 := HBU1.out.cell 0 rfl
              have v11 := HBU1.out.cell 1 rfl
              have v1f := HBU1.out.frozen
              have hput2 := WSt.putL HBU1.out HSU1.out [32]
              have hcS2 := fun v => HCU1.out.trans (WSt.ch HBU1.out v)
              have zq0 := fun v => (HBOX.out _ (HCU1.out.trans (WSt.ch HBU1.out v))).cell 1 rfl
              have zql := fun v => (HBOX.out _ (HCU1.out.trans (WSt.ch HBU1.out v))).lt
              have zqn := fun v => ((HBEL.out _ (HCU1.out.trans (WSt.ch HBU1.out v))).cell hg).trans HN0.out
              have zqp := fun v => ((HBEL.out _ (HCU1.out.trans (WSt.ch HBU1.out v))).cell hg).trans HN1.out
              have zqg := fun v => Nat.lt_of_lt_of_le hg (HBEL.out _ (HCU1.out.trans (WSt.ch HBU1.out v))).size
              have zqc0 := fun v => ((HBEL.out _ (HCU1.out.trans (WSt.ch HBU1.out v))).cell hg2).trans HC0.out
              have zqc1 := fun v => ((HBEL.out _ (HCU1.out.trans (WSt.ch HBU1.out v))).cell hg2).trans HC1.out
              have zqh := fun v => Nat.lt_of_lt_of_le hg2 (HBEL.out _ (HCU1.out.trans (WSt.ch HBU1.out v))).size
              have HCALL2 := hid fun (t : ByteArray) (ht : bl t = [32]) => rwname_ok (w.heap.size + 1) _ fn (by rw [HFN.out]; exact HF2.out) (u1.setCell ⟨w.heap.size + 1, 0, none⟩ (.string (t1 ++ t))) ⟨_, (hput2 t ht).1, (hput2 t ht).2⟩ (by have h1 := HLEN1.out; have h6 : ([32] : List Nat).length = 1 := rfl; rw [List.length_append, h6]; omega)
              have HCS2 := hid hcS2
              clear hcS2 hput2
              clear HBU1 HCU1
              go_wp2_with fail
              refine Calls.mono (HCALL2.out _ ?_) ?_
              · rfl
              rintro e u2 ⟨rfl, ⟨t2, hBU2, hsU2⟩, hcU⟩
              clear v10 v11 v1f zq0 zql zqn zqp zqg zqc0 zqc1 zqh
              have hcU2 := (HCS2.out _).trans hcU
              have hlen2 : (bl t2).length ≤ 1010043 := by
                have h7 := HLEN1.out
                have h6 : ([32] : List Nat).length = 1 := rfl
                have h8 := (show (bl fn).length ≤ 32 by rw [bl_length]; exact hfl)
                rw [hsU2, List.length_append, List.length_append, h6]
                omega
              have hszt2 : t2.size ≤ 1010043 := by rw [← bl_length]; exact hlen2
              have HSU2 := hid hsU2
              have HBU2 := hid hBU2
              have HCU2 := hid hcU2
              rw [hsU2] at hlen2
              have HLEN2 := hid hlen2
              clear HCALL2 HCS2 hcU hcU2 hBU2 hsU2 hlen2 hszt1
              have v20 := HBU2.out.cell 0 rfl
              have v21 := HBU2.out.cell 1 rfl
              have v2f := HBU2.out.frozen
              have HPE := hid (WSt.putL HBU2.out HSU2.out [59, 10])
              have HCE := hid (fun v => HCU2.out.trans (WSt.ch HBU2.out v))
              clear HBU2 HCU2
              go_wp2_with fail
              refine ⟨⟨j + 1, by omega, by go_num, ⟨_, (HPE.out _ ?_).1, ?_⟩, HCE.out _⟩, by simp [intOf]; omega⟩
              · rfl
              rw [(HPE.out _ rfl).2, flat_step qs j _ HQJ.out, HFN.out]
              simp [Pl.casX]
           · have hjI : ¬ (j : Int) < (mf : Int) := by omega
             have hje : qs.take j = qs := List.take_of_length_le (by rw [HQS.out, List.length_map, ← HMF.out]; omega)
             have hsE := HS1.out
             rw [hje] at hsE
             have HPE := hid (WSt.putL HB.out hsE [125, 10])
             have HCE := hid (fun v => HC.out.trans (WSt.ch HB.out v))
             clear hsE hje
             go_wp2_with fail
             refine ⟨⟨k + 1, by omega, by go_num, ⟨_, (HPE.out _ ?_).1, ?_⟩, HCE.out _⟩, by simp [intOf]; omega⟩
             · rfl
             rw [(HPE.out _ rfl).2, flat_step ps2 k (Pl.declX (Pl.mkEn x)) (by rw [HPS2.out, List.getElem?_map, HX.out]; rfl), HAC.out, HNM.out, HQS.out]
             simp [Pl.declX, Pl.mkEn, Pl.bodyX, Pl.wEnum]
       · as_aux_lemma =>
          have hltI : ¬ (k : Int) < (M2 : Int) := by omega
          have ye := HALL2.out k (by omega) hk
          rw [ye] at HS0
          clear ye
          have y0 := (HBOX.out _ HC.out).cell 1 rfl
          clear hlen0
          go_wp2_with fail
          clear y0 x0 x1 xf
          go_loopw [10] (fun i wr => PrI (w.heap.size + 1) (ps1.flatten ++ ps2.flatten) ps3 M3 w2 i wr) (fun i _ => M3 - (intOf i).toNat)
          case atStart => exact ⟨0, Nat.zero_le _, rfl, ⟨_, HB.out, by rw [HS0.out]; simp⟩, HC.out⟩
          case round =>
           clear HB HS0 HC
           obtain ⟨k, hk, rfl, ⟨s, hB, hs⟩, hc⟩ := hrel.all
           clear hrel
           have HB := hid hB
           have HS0 := hid hs
           have HC := hid hc
           have hlen0 : ((ps1.flatten ++ ps2.flatten) ++ (ps3.take k).flatten).length ≤ 990000 := by
             have h1 := HL3.out k
             have h2 := HL1.out M1
             rw [HALL1.out M1 (by omega) (Nat.le_refl _)] at h2
             have h3 := HL2.out M2
             rw [HALL2.out M2 (by omega) (Nat.le_refl _)] at h3
             simp only [List.length_append]
             omega
           have hsz : s.size ≤ 990000 := by rw [← bl_length, hs]; exact hlen0
           clear hB hs hc
           have x0 := HB.out.cell 0 rfl
           have x1 := HB.out.cell 1 rfl
           have xf := HB.out.frozen
           by_cases hlt : k < M3
           · as_aux_lemma =>
              obtain ⟨x, hx⟩ : ∃ x, sv[k]? = some x := ⟨sv[k]'(by rw [← HM3.out]; exact hlt), by simp⟩
              obtain ⟨g1, o1, cap1, c, hv, hg, ⟨nm, af, mf, cf, rfl, hnm, hrw⟩, hcell⟩ := Rw.at HS.out.2.2 hx
              injection hv with e1 e2 e3
              subst e1 e3
              clear e2
              have hn0 := hcell 0 _ rfl
              have hn1 := hcell 1 _ rfl
              simp only [Nat.add_zero] at hn0
              have HN0 := hid hn0
              have HN1 := hid hn1
              obtain ⟨hxn, hxl, hxf⟩ : Pl.okName x.1 ∧ x.2.length ≤ 32 ∧ ∀ f ∈ x.2, Pl.okMth f := HD3.out x (List.mem_of_getElem? hx)
              have hmf : mf = x.2.length := by obtain ⟨_, _, hsh⟩ := hrw.shape; injection hsh
              have hm32 : mf ≤ 32 := by omega
              have HMF := hid hmf
              have HRW := hid hrw
              have HXF := hid hxf
              have HXN := hid hxn
              have HNM := hid hnm
              have HX := hid hx
              have hnl := Pl.name_len hxn
              rw [← hnm, bl_length] at hnl
              clear hcell hn0 hn1 hrw hxf hxn hnm hmf hxl hx
              have hltI : (k : Int) < (M3 : Int) := by omega
              have hmI : (mf : Int) ≤ 32 := by omega
              have zw := HBEL.out _ HC.out
              have za0 := (HBOX.out _ HC.out).cell 2 rfl
              have zal := (HBOX.out _ HC.out).lt
              have zan := (zw.cell hg).trans HN0.out
              have zap := (zw.cell hg).trans HN1.out
              have zag := Nat.lt_of_lt_of_le hg zw.size
              clear zw
              have zb0 := fun v => (HBOX.out _ (HC.out.trans (WSt.ch HB.out v))).cell 2 rfl
              have zbl := fun v => (HBOX.out _ (HC.out.trans (WSt.ch HB.out v))).lt
              have zbn := fun v => ((HBEL.out _ (HC.out.trans (WSt.ch HB.out v))).cell hg).trans HN0.out
              have zbp := fun v => ((HBEL.out _ (HC.out.trans (WSt.ch HB.out v))).cell hg).trans HN1.out
              have zbg := fun v => Nat.lt_of_lt_of_le hg (HBEL.out _ (HC.out.trans (WSt.ch HB.out v))).size
              have hlen1 : ((ps1.flatten ++ ps2.flatten) ++ (ps3.take k).flatten ++ [115, 101, 114, 118, 105, 99, 101, 32]).length ≤ 1000000 := by
                have h4 : ([115, 101, 114, 118, 105, 99, 101, 32] : List Nat).length = 8 := rfl
                rw [List.length_append, h4]
                omega
              have hput := WSt.putL HB.out HS0.out [115, 101, 114, 118, 105, 99, 101, 32]
              have hcall := fun (t : ByteArray) (ht : bl t = [115, 101, 114, 118, 105, 99, 101, 32]) => rwname_ok (w.heap.size + 1) _ nm (by rw [HNM.out]; exact HXN.out) (wr.setCell ⟨w.heap.size + 1, 0, none⟩ (.string (s ++ t))) ⟨_, (hput t ht).1, (hput t ht).2⟩ (by omega)
              have HCALL := hid hcall
              have HC1 := hid (fun v => HC.out.trans (WSt.ch HB.out v))
              have HLEN1 := hid hlen1
              clear hcall hput HC HS0 HB hlen1 hlen0
              go_wp2_with fail
              refine (rneed_true (w.heap.size + 1) 3 wr).mono ?_
              rintro e w3 ⟨rfl, hw3⟩
              subst w3
              go_wp2_with fail
              refine Calls.mono (HCALL.out _ ?_) ?_
              · rfl
              rintro e wb ⟨rfl, ⟨sb, hBb, hsb⟩, hcb⟩
              clear x0 x1 xf za0 zal zan zap zag zb0 zbl zbn zbp zbg
              have hcB := (HC1.out _).trans hcb
              have hszb : sb.size ≤ 1000100 := by
                have h1 := HLEN1.out
                rw [← bl_length, hsb, List.length_append, bl_length nm]
                omega
              have HPUT2 := hid (WSt.putL hBb hsb [32, 123, 10])
              have HBb := hid hBb
              have HC2 := hid (fun v => hcB.trans (WSt.ch HBb.out v))
              clear HCALL HC1 hcb hcB hBb hsb hsz
              have z0 := HBb.out.cell 0 rfl
              have z1 := HBb.out.cell 1 rfl
              have zf := HBb.out.frozen
              obtain ⟨AC, hAC⟩ : ∃ A, A = (ps1.flatten ++ ps2.flatten) ++ (ps3.take k).flatten ++ [115, 101, 114, 118, 105, 99, 101, 32] ++ bl nm ++ [32, 123, 10] := ⟨_, rfl⟩
              have hACl : AC.length ≤ 1000103 := by
                have h1 := HLEN1.out
                rw [hAC]
                have h5 : ([32, 123, 10] : List Nat).length = 3 := rfl
                rw [List.length_append, List.length_append, bl_length nm, h5]
                omega
              rw [← hAC] at HPUT2
              have HAC := hid hAC
              have HACL := hid hACl
              clear hAC HLEN1 hACl
              obtain ⟨qs, hqs⟩ : ∃ q, q = x.2.map Pl.mthX := ⟨_, rfl⟩
              have hQL : ∀ j, (qs.take j).flatten.length ≤ 5000 := fun j => by
                have h1 := flat_len 153 qs (by rw [hqs]; exact part_lens _ _ mth_len x.2 HXF.out) j
                have h2 : qs.length = mf := by rw [hqs, List.length_map, ← HMF.out]
                rw [h2] at h1
                omega
              have HQS := hid hqs
              have HQL := hid hQL
              clear hqs hQL
              go_wp2_with fail
              go_loopw [11] (fun i wr => PrI (w.heap.size + 1) AC qs mf w2 i wr) (fun i _ => mf - (intOf i).toNat)
              case atStart =>
                refine ⟨0, Nat.zero_le _, rfl, ⟨_, (HPUT2.out _ ?_).1, ?_⟩, HC2.out _⟩
                · rfl
                · rw [(HPUT2.out _ rfl).2]; simp
              case round =>
               clear z0 z1 zf
               clear HPUT2 HC2 HBb hszb
               obtain ⟨j, hj, rfl, ⟨s2, hB, hs⟩, hc⟩ := hrel.all
               clear hrel
               have HB := hid hB
               have HS1 := hid hs
               have HC := hid hc
               have hblt := hB.lt
               have hlenA : (AC ++ (qs.take j).flatten).length ≤ 1010000 := by
                 have h1 := HQL.out j
                 have h2 := HACL.out
                 rw [List.length_append]
                 omega
               have hsz2 : s2.size ≤ 1010000 := by rw [← bl_length, hs]; exact hlenA
               have HLENA := hid hlenA
               clear hB hs hc hlenA
               have x0 := HB.out.cell 0 rfl
               have x1 := HB.out.cell 1 rfl
               have xf := HB.out.frozen
               have zw := HBEL.out _ HC.out
               have za0 := (HBOX.out _ HC.out).cell 2 rfl
               have zal := (HBOX.out _ HC.out).lt
               have zan := (zw.cell hg).trans HN0.out
               have zap := (zw.cell hg).trans HN1.out
               have zag := Nat.lt_of_lt_of_le hg zw.size
               clear zw
               by_cases hjl : j < mf
               · as_aux_lemma =>
                  obtain ⟨f, hf⟩ : ∃ f, x.2[j]? = some f := ⟨x.2[j]'(by rw [← HMF.out]; exact hjl), by simp⟩
                  obtain ⟨g2, o2, cap2, c, hv, hg2, ⟨fn, fk, fs, fa, fm, fc, gk, gs, ga, gm, gc, rfl, hfn, hty, hty2⟩, hcell⟩ := Rw.at HRW.out hf
                  injection hv with e1 e2 e3
                  subst e1 e3
                  clear e2
                  obtain ⟨on, hon⟩ : ∃ b, b = f.once := ⟨_, rfl⟩
                  have HON := hid hon
                  rw [← hon] at hcell
                  clear hon
                  have HC0 := hid (hcell 0 _ rfl)
                  have HC1 := hid (hcell 1 _ rfl)
                  have HC2 := hid (hcell 2 _ rfl)
                  have HC3 := hid (hcell 3 _ rfl)
                  have HC4 := hid (hcell 4 _ rfl)
                  have HC5 := hid (hcell 5 _ rfl)
                  have HC6 := hid (hcell 6 _ rfl)
                  have HC7 := hid (hcell 7 _ rfl)
                  simp only [Nat.add_zero] at HC0
                  obtain ⟨hf2, hf3, hf4, hf5, hf6⟩ : Pl.okMth f := HXF.out f (List.mem_of_getElem? hf)
                  have hqj : qs[j]? = some (Pl.mthX f) := by rw [HQS.out, List.getElem?_map, hf]; rfl
                  have HQJ := hid hqj
                  have HFN := hid hfn
                  have hfl := Pl.name_len hf2
                  rw [← hfn, bl_length] at hfl
                  have hjI : (j : Int) < (mf : Int) := by omega
                  have HF2 := hid hf2
                  have HF3 := hid hf3
                  have HF4 := hid hf4
                  have HF5 := hid hf5
                  have HF6 := hid hf6
                  have HTY := hid hty
                  have HTY2 := hid hty2
                  clear hcell hqj hfn hf hf2 hf3 hf4 hf5 hf6 hty hty2
                  have zw := HBEL.out _ HC.out
                  have zbc0 := (zw.cell hg2).trans HC0.out
                  have zbc1 := (zw.cell hg2).trans HC1.out
                  have zbc2 := (zw.cell hg2).trans HC2.out
                  have zbc3 := (zw.cell hg2).trans HC3.out
                  have zbc4 := (zw.cell hg2).trans HC4.out
                  have zbc5 := (zw.cell hg2).trans HC5.out
                  have zbc6 := (zw.cell hg2).trans HC6.out
                  have zbc7 := (zw.cell hg2).trans HC7.out
                  have zbh := Nat.lt_of_lt_of_le hg2 zw.size
                  clear zw
                  have hne : wr.heap.size ≠ w.heap.size + 1 := by omega
                  cases on
                  all_goals
                   have hput1 := WSt.putL HB.out HS1.out ([9] ++ ((if f.once then Pl.wOnce else Pl.wRead) ++ [32]))
                   have hFS1 : ∀ q v, Bx ((wr.setCell ⟨w.heap.size + 1, 0, none⟩ v).alloc (.cells #[.string fn, .bool q, .int .i64 fk, .string fs, .slice fa fm fc, .int .i64 gk, .string gs, .slice ga gm gc] 122)) wr.heap.size [.string fn, .bool q, .int .i64 fk, .string fs, .slice fa fm fc, .int .i64 gk, .string gs, .slice ga gm gc] 122 := fun q v => Bx.newAt (by simp) _ _
                   have hcS1 : ∀ q v, Ch (Xo (w.heap.size + 1)) w2 ((wr.setCell ⟨w.heap.size + 1, 0, none⟩ v).alloc (.cells #[.string fn, .bool q, .int .i64 fk, .string fs, .slice fa fm fc, .int .i64 gk, .string gs, .slice ga gm gc] 122)) := fun q v => (HC.out.trans (WSt.ch HB.out v)).trans (Ch.alloc _ _)
                   have zpf0 := fun q v => (hFS1 q v).cell 0 rfl
                   have zpf1 := fun q v => (hFS1 q v).cell 1 rfl
                   have hF0 : ∀ q, Bx (wr.alloc (.cells #[.string fn, .bool q, .int .i64 fk, .string fs, .slice fa fm fc, .int .i64 gk, .string gs, .slice ga gm gc] 122)) wr.heap.size [.string fn, .bool q, .int .i64 fk, .string fs, .slice fa fm fc, .int .i64 gk, .string gs, .slice ga gm gc] 122 := fun q => Bx.new wr _ _
                   have zo1 := fun q => (hF0 q).cell 1 rfl
                   have HCALL1 := hid fun (q : Bool) (t : ByteArray) (ht : bl t = ([9] ++ ((if f.once then Pl.wOnce else Pl.wRead) ++ [32]))) => rwname_ok (w.heap.size + 1) _ fn (by rw [HFN.out]; exact HF2.out) ((wr.setCell ⟨w.heap.size + 1, 0, none⟩ (.string (s2 ++ t))).alloc (.cells #[.string fn, .bool q, .int .i64 fk, .string fs, .slice fa fm fc, .int .i64 gk, .string gs, .slice ga gm gc] 122)) ⟨_, ((hput1 t ht).1.alloc _), (hput1 t ht).2⟩ (by have h1 := HLENA.out; have h6 : (([9] ++ ((if f.once then Pl.wOnce else Pl.wRead) ++ [32])) : List Nat).length = 6 := (by cases f.once <;> rfl); rw [List.length_append, h6]; omega)
                   have HCS1 := hid hcS1
                   have HFS1 := hid hFS1
                   clear hcS1 hput1 hFS1 hF0
                   go_wp2_with fail
                   refine Calls.mono (HCALL1.out _ _ ?_) ?_
                   · first | rfl | (rw [← HON.out]; rfl)
                   rintro e u1 ⟨rfl, ⟨t1, hBU1, hsU1⟩, hcU⟩
                   clear x0 x1 xf za0 zal zan zap zag zbc0 zbc1 zbc2 zbc3 zbc4 zbc5 zbc6 zbc7 zbh zpf0 zpf1 zo1
                   have hcU1 := (HCS1.out _ _).trans hcU
                   have HFU1 := hid ((HFS1.out _ _).ch hcU fun e => hne e)
                   have hlen1 : (bl t1).length ≤ 1010038 := by
                     have h7 := HLENA.out
                     have h6 : (([9] ++ ((if f.once then Pl.wOnce else Pl.wRead) ++ [32])) : List Nat).length = 6 := (by cases f.once <;> rfl)
                     have h8 := (show (bl fn).length ≤ 32 by rw [bl_length]; exact hfl)
                     rw [hsU1, List.length_append, List.length_append, h6]
                     omega
                   have hszt1 : t1.size ≤ 1010038 := by rw [← bl_length]; exact hlen1
                   have HSU1 := hid hsU1
                   have HBU1 := hid hBU1
                   have HCU1 := hid hcU1
                   rw [hsU1] at hlen1
                   have HLEN1 := hid hlen1
                   clear HCALL1 HCS1 hcU hcU1 hBU1 hsU1 hlen1 HFS1 hsz2
                   have v10 := HBU1.out.cell 0 rfl
                   have v11 := HBU1.out.cell 1 rfl
                   have v1f := HBU1.out.frozen
                   have hput2 := WSt.putL HBU1.out HSU1.out [40]
                   have hcS2 := fun v => HCU1.out.trans (WSt.ch HBU1.out v)
                   have hFS2 := fun v => Bx.other (k := 0) HFU1.out hne v
                   have zqf2 := fun v => (hFS2 v).cell 2 rfl
                   have zqf3 := fun v => (hFS2 v).cell 3 rfl
                   have zqf4 := fun v => (hFS2 v).cell 4 rfl
                   have HCALL2 := hid fun (t : ByteArray) (ht : bl t = [40]) => rwkind_ok (w.heap.size + 1) _ f.arg HF4.out HF3.out _ _ _ (u1.setCell ⟨w.heap.size + 1, 0, none⟩ (.string (t1 ++ t))) (TyG.below (HBEL.out _ (hcS2 _)) _ _ _ _ HTY.out) ⟨_, (hput2 t ht).1, (hput2 t ht).2⟩ (by have h1 := HLEN1.out; have h6 : ([40] : List Nat).length = 1 := rfl; rw [List.length_append, h6]; omega)
                   have HCS2 := hid hcS2
                   have HFS2 := hid hFS2
                   clear hcS2 hput2 hFS2
                   clear HBU1 HCU1 HFU1
                   go_wp2_with fail
                   refine Calls.mono (HCALL2.out _ ?_) ?_
                   · first | rfl | (rw [← HON.out]; rfl)
                   rintro e u2 ⟨rfl, ⟨t2, hBU2, hsU2⟩, hcU⟩
                   clear v10 v11 v1f zqf2 zqf3 zqf4
                   have hcU2 := (HCS2.out _).trans hcU
                   have HFU2 := hid ((HFS2.out _).ch hcU fun e => hne e)
                   have hlen2 : (bl t2).length ≤ 1010087 := by
                     have h7 := HLEN1.out
                     have h6 : ([40] : List Nat).length = 1 := rfl
                     have h8 : (Pl.tyX f.arg).length ≤ 48 := by have h1 := Pl.ty_len f.arg HF3.out; have h2 := HF4.out; omega
                     rw [hsU2, List.length_append, List.length_append, h6]
                     omega
                   have hszt2 : t2.size ≤ 1010087 := by rw [← bl_length]; exact hlen2
                   have HSU2 := hid hsU2
                   have HBU2 := hid hBU2
                   have HCU2 := hid hcU2
                   rw [hsU2] at hlen2
                   have HLEN2 := hid hlen2
                   clear HCALL2 HCS2 hcU hcU2 hBU2 hsU2 hlen2 HFS2 hszt1
                   have v20 := HBU2.out.cell 0 rfl
                   have v21 := HBU2.out.cell 1 rfl
                   have v2f := HBU2.out.frozen
                   have hput3 := WSt.putL HBU2.out HSU2.out [41, 32]
                   have hcS3 := fun v => HCU2.out.trans (WSt.ch HBU2.out v)
                   have hFS3 := fun v => Bx.other (k := 0) HFU2.out hne v
                   have zrf5 := fun v => (hFS3 v).cell 5 rfl
                   have zrf6 := fun v => (hFS3 v).cell 6 rfl
                   have zrf7 := fun v => (hFS3 v).cell 7 rfl
                   have HCALL3 := hid fun (t : ByteArray) (ht : bl t = [41, 32]) => rwkind_ok (w.heap.size + 1) _ f.res HF6.out HF5.out _ _ _ (u2.setCell ⟨w.heap.size + 1, 0, none⟩ (.string (t2 ++ t))) (TyG.below (HBEL.out _ (hcS3 _)) _ _ _ _ HTY2.out) ⟨_, (hput3 t ht).1, (hput3 t ht).2⟩ (by have h1 := HLEN2.out; have h6 : ([41, 32] : List Nat).length = 2 := rfl; rw [List.length_append, h6]; omega)
                   have HCS3 := hid hcS3
                   have HFS3 := hid hFS3
                   clear hcS3 hput3 hFS3
                   clear HBU2 HCU2 HFU2
                   go_wp2_with fail
                   refine Calls.mono (HCALL3.out _ ?_) ?_
                   · first | rfl | (rw [← HON.out]; rfl)
                   rintro e u3 ⟨rfl, ⟨t3, hBU3, hsU3⟩, hcU⟩
                   clear v20 v21 v2f zrf5 zrf6 zrf7
                   have hcU3 := (HCS3.out _).trans hcU
                   have HFU3 := hid ((HFS3.out _).ch hcU fun e => hne e)
                   have hlen3 : (bl t3).length ≤ 1010137 := by
                     have h7 := HLEN2.out
                     have h6 : ([41, 32] : List Nat).length = 2 := rfl
                     have h8 : (Pl.tyX f.res).length ≤ 48 := by have h1 := Pl.ty_len f.res HF5.out; have h2 := HF6.out; omega
                     rw [hsU3, List.length_append, List.length_append, h6]
                     omega
                   have hszt3 : t3.size ≤ 1010137 := by rw [← bl_length]; exact hlen3
                   have HSU3 := hid hsU3
                   have HBU3 := hid hBU3
                   have HCU3 := hid hcU3
                   rw [hsU3] at hlen3
                   have HLEN3 := hid hlen3
                   clear HCALL3 HCS3 hcU hcU3 hBU3 hsU3 hlen3 HFS3 hszt2
                   have v30 := HBU3.out.cell 0 rfl
                   have v31 := HBU3.out.cell 1 rfl
                   have v3f := HBU3.out.frozen
                   have HPE := hid (WSt.putL HBU3.out HSU3.out [59, 10])
                   have HCE := hid (fun v => HCU3.out.trans (WSt.ch HBU3.out v))
                   clear HBU3 HCU3
                   go_wp2_with fail
                   refine ⟨⟨j + 1, by omega, by go_num, ⟨_, (HPE.out _ ?_).1, ?_⟩, HCE.out _⟩, by simp [intOf]; omega⟩
                   · rfl
                   rw [(HPE.out _ rfl).2, flat_step qs j _ HQJ.out, HFN.out]
                   simp [Pl.mthX]
               · have hjI : ¬ (j : Int) < (mf : Int) := by omega
                 have hje : qs.take j = qs := List.take_of_length_le (by rw [HQS.out, List.length_map, ← HMF.out]; omega)
                 have hsE := HS1.out
                 rw [hje] at hsE
                 have HPE := hid (WSt.putL HB.out hsE [125, 10])
                 have HCE := hid (fun v => HC.out.trans (WSt.ch HB.out v))
                 clear hsE hje
                 go_wp2_with fail
                 refine ⟨⟨k + 1, by omega, by go_num, ⟨_, (HPE.out _ ?_).1, ?_⟩, HCE.out _⟩, by simp [intOf]; omega⟩
                 · rfl
                 rw [(HPE.out _ rfl).2, flat_step ps3 k (Pl.declX (Pl.mkSv x)) (by rw [HPS3.out, List.getElem?_map, HX.out]; rfl), HAC.out, HNM.out, HQS.out]
                 simp [Pl.declX, Pl.mkSv, Pl.bodyX, Pl.wService]
           · as_aux_lemma =>
              have hltI : ¬ (k : Int) < (M3 : Int) := by omega
              have ye := HALL3.out k (by omega) hk
              rw [ye] at HS0
              clear ye
              have y0 := (HBOX.out _ HC.out).cell 2 rfl
              clear hlen0
              go_wp2_with fail
              go_returns
              exact ⟨s, rfl, by rw [HS0.out]; simp, HBEL.out _ HC.out⟩
end Go.Proofs.YtmiohekmpjiloaaGreatDoor

namespace Go.Proofs.YtmiohekmpjiloaaGreatDoor
open Go.RowKit
set_option maxRecDepth 20000

set_option maxHeartbeats 32000000 in
theorem rCheck_one (x : List Nat × List Pl.Fld) (hok : Pl.okDecl (Pl.mkSt x)) (hG : FGood (knP (fnd [x] [] [])) x.2) (hfl : ∀ f ∈ x.2, Pl.okFld f ∧ flatT f.ty) (hm : x.2.length ≤ 32) (s1 s2 s3 : Value) (w : World) (hS : SchG [x] [] [] s1 s2 s3 w) :
    Calls Tryz.prog 26 #[.agg #[s1, s2, s3]] w fun e w' => e = .returned (.int .i64 0) ∧ Below w.heap.size w w' := by
  have HP0 := hid (fun W (hW : SchG [x] [] [] s1 s2 s3 W) => rPrint_ok [x] [] [] (fun d hd => by simp [Pl.inOrder] at hd; rw [hd]; exact hok) (by simp) s1 s2 s3 W hW)
  have HN0 := hid (fun W (hW : SchG [x] [] [] s1 s2 s3 W) => rnames_one x s1 s2 s3 W hW)
  have HD0 := hid (fun W (hW : SchG [x] [] [] s1 s2 s3 W) => rdepth_flat [x] [] [] (by simp) s1 s2 s3 0 x.1 x.2 rfl hfl hm 9 (by omega) W hW)
  obtain ⟨g0, off0, cap0, c0, hv0, hg0, ⟨sn, ad, m, cp, rfl, hs, hr⟩, hcell0⟩ := Rw.at hS.1 (i := 0) (a := x) rfl
  have hc0 := hcell0 0 _ rfl
  have hc1 := hcell0 1 _ rfl
  simp only [Nat.zero_mul, Nat.add_zero] at hc0 hc1
  have HF0 := hid (fun W (hW : Below w.heap.size w W) => rfields_any [x] [] [] (by simp) s1 s2 s3 sn ad m cp x.2 (fun f hf => (hfl f hf).1) hm W (hS.below hW) (hr.below hW (fun _ _ h => FldG.below hW _ _ h)))
  obtain ⟨a1, k1, a2, k2, a3, k3, rfl, rfl, rfl⟩ := hS.shape
  injection hv0 with e1 e2 e3
  subst e1
  clear e2 e3
  simp only [List.length_cons, List.length_nil, Nat.zero_add] at *
  obtain ⟨w1, hw1⟩ : ∃ w1, w1 = w.alloc (.cells #[.slice (some ⟨g0, off0, none⟩) 1 k1, .slice a2 0 k2, .slice a3 0 k3] 26) := ⟨_, rfl⟩
  have hb1 : Below w.heap.size w w1 := by rw [hw1]; exact below_alloc w _
  have hB1 : Bx w1 w.heap.size [.slice (some ⟨g0, off0, none⟩) 1 k1, .slice a2 0 k2, .slice a3 0 k3] 26 := by rw [hw1]; exact Bx.new w _ _
  have y0 := hB1.cell 0 rfl
  have y1 := hB1.cell 1 rfl
  have y2 := hB1.cell 2 rfl
  have HC0 := hid hc0
  have HC1 := hid hc1
  have HB1 := hid hB1
  have Hb1 := hid hb1
  have HW1 := hid hw1
  have HS := hid hS
  have HG := hid hG
  have HM := hid hm
  have HP1 := hid (HP0.out w1 (hS.below hb1))
  clear hw1 hb1 hB1 hr hs hcell0 hc0 hc1 hS hok hG hfl hm HP0
  go_enter Tryz.func26, Tryz.ntmps26
  go_wp2_with fail
  rw [← HW1.out]
  go_wp2_with fail
  refine HP1.out.mono ?_
  rintro e w2 ⟨t, rfl, _, hb2⟩
  have HB2 := hid hb2
  have HBW2 := hid (below_next Hb1.out hb2)
  have HN2 := hid (HN0.out w2 (HS.out.below HBW2.out))
  clear y0 y1 y2 HP1
  have y0 := (HB1.out.below hb2).cell 0 rfl
  have y1 := (HB1.out.below hb2).cell 1 rfl
  have y2 := (HB1.out.below hb2).cell 2 rfl
  clear hb2
  go_wp2_with fail
  refine HN2.out.mono ?_
  rintro e w3 ⟨rfl, hb3⟩
  have HB3 := hid (below_next HB2.out hb3)
  clear y0 y1 y2 HN2 hb3 HB2 HBW2
  go_wp2_with fail
  go_loopw [4, 5] (fun e i wr => e = .int .i64 0 ∧ (i = .int .i64 0 ∨ i = .int .i64 1) ∧ Below w1.heap.size w1 wr) (fun _ i _ => 1 - (intOf i).toNat)
  case atStart => exact ⟨rfl, .inl rfl, HB3.out⟩
  case round =>
    obtain ⟨rfl, hi, hbw⟩ := hrel
    have y0 := (HB1.out.below hbw).cell 0 rfl
    have y1 := (HB1.out.below hbw).cell 1 rfl
    have y2 := (HB1.out.below hbw).cell 2 rfl
    have hbn := below_next Hb1.out hbw
    rcases hi with rfl | rfl
    · have d0 := (hbn.cell hg0).trans HC0.out
      have d1 := (hbn.cell hg0).trans HC1.out
      have HBW := hid hbw
      have HBN := hid hbn
      have HF1 := hid (HF0.out _ hbn.drew)
      clear hbw hbn
      go_wp2_with fail
      go_region_with (go_at_call 45; refine HF1.out.mono ?_; rintro e w5 ⟨⟨E, rfl, hE⟩, hb5⟩; obtain rfl : E = 0 := hE.2 HG.out; have HB5 := hid (below_next HBW.out.drew hb5); clear hb5 hE)
      all_goals
        go_wp2
        exact ⟨⟨rfl, .inr rfl, HB5.out⟩, by simp [intOf]⟩
    · have HD1 := hid (HD0.out wr (HS.out.below hbn))
      have HBW := hid hbw
      clear hbw hbn
      go_wp2_with fail
      go_rounds 1
      go_wp2_with fail
      go_rounds 1
      go_wp2_with fail
      clear y0 y1 y2
      go_loopw [8] (fun i W => (i = .int .i64 0 ∨ i = .int .i64 1) ∧ Below w1.heap.size w1 W) (fun i _ => 1 - (intOf i).toNat)
      case atStart => exact ⟨.inl rfl, HBW.out⟩
      case round =>
        clear HBW
        obtain ⟨hi, hbw⟩ := hrel
        have y0 := (HB1.out.below hbw).cell 0 rfl
        have y1 := (HB1.out.below hbw).cell 1 rfl
        have y2 := (HB1.out.below hbw).cell 2 rfl
        have hbn := below_next Hb1.out hbw
        rcases hi with rfl | rfl
        · have HD2 := hid (HD0.out _ (HS.out.below hbn))
          have HBW := hid hbw
          clear hbw hbn
          go_wp2_with fail
          refine HD2.out.mono ?_
          rintro e w5 ⟨rfl, hb5⟩
          have HB5 := hid (below_next HBW.out hb5)
          clear hb5
          go_wp2
          exact ⟨⟨.inr rfl, HB5.out⟩, by simp [intOf]⟩
        · have HBW := hid hbw
          clear hbw hbn
          go_wp2_with fail
          clear y0 y1 y2
          go_loopw [11] (fun i W => (i = .int .i64 0 ∨ i = .int .i64 1) ∧ Below w1.heap.size w1 W) (fun i _ => 1 - (intOf i).toNat)
          case atStart => exact ⟨.inl rfl, HBW.out⟩
          case round =>
            clear HBW
            obtain ⟨hi, hbw⟩ := hrel
            have y0 := (HB1.out.below hbw).cell 0 rfl
            have y1 := (HB1.out.below hbw).cell 1 rfl
            have y2 := (HB1.out.below hbw).cell 2 rfl
            have hbn := below_next Hb1.out hbw
            rcases hi with rfl | rfl
            · have HD2 := hid (HD0.out _ (HS.out.below hbn))
              have HBW := hid hbw
              have h64 : ¬ ((64 : Int) < 1 + (x.2.length : Int)) := by have := HM.out; omega
              clear hbw hbn
              generalize x.2.length = ml at *
              go_wp2_with fail
              refine HD2.out.mono ?_
              rintro e w5 ⟨rfl, hb5⟩
              have HB5 := hid (below_next HBW.out hb5)
              clear hb5
              go_wp2
              exact ⟨⟨.inr rfl, HB5.out⟩, by simp [intOf]⟩
            · have HBN := hid hbn
              clear hbw hbn
              go_wp2
              go_ret
              exact ⟨rfl, HBN.out⟩
end Go.Proofs.YtmiohekmpjiloaaGreatDoor

