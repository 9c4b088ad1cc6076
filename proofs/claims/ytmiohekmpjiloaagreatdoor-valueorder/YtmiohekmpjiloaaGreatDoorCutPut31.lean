/- A schema that is handed in. A value that is handed in. The law's alive: the page's example. values compare as an order: the walk. -/
import Derived.Test.YtmiohekmpjiloaaGreatDoorCutPut30
import Derived.Test.YtmiohekmpjiloaaGreatDoorCutPut18
import Derived.Deep.SlicePairs
import Derived.ChangeArms
import Derived.SizedLaws
import Derived.Test.YtmiohekmpjiloaaGreatDoorCutPut25
import Derived.Test.YtmiohekmpjiloaaGreatDoorCutPut29
namespace Go.Proofs.YtmiohekmpjiloaaGreatDoor
open Go.ChangeShapes Go.WideShapes Go.ChangeAt Go.RowKit Go.Deep
set_option maxRecDepth 20000

/-- Rows of a slice that is handed in, each by what its cells are. -/
theorem open_rows {H : Type} {enc : TypeId × Value → H} {W : World} {α : Type} [Inhabited α] (ST E : TypeId) (m : Nat) (hu : Tryz.prog.underlying ST = some (.slice E)) (ce : Tryz.prog.cellsOf E = m) (hm0 : 0 < m) (Q : α → List Value → World → Prop)
    (hE : ∀ (fuel : Nat) (cs : List Value) (x : DataW H × List MemPlace), DataW.trod enc Tryz.prog W 0 (fun _ => true) true fuel E cs = some x → ∃ a : α, Q a cs W)
    {fuel : Nat} {cs : List Value} {x : DataW H × List MemPlace} (hf : DataW.trod enc Tryz.prog W 0 (fun _ => true) true fuel ST cs = some x) : ∃ v, cs = [v] ∧ ∃ xs : List α, SlR m Q W.heap.size W v xs := by
  rcases open_slice hu hf with ⟨hcs, _⟩ | ⟨a, len, cap, mm, n, D, Pl, hcs, _, hl, hm, hmm, _, hr⟩
  · exact ⟨_, hcs, [], none, 0, rfl, by simp, fun i x h => by simp at h⟩
  · refine ⟨_, hcs, ?_⟩
    simp only [if_true] at hmm
    rw [ce] at hr
    have each : ∀ i, i < len → ∃ p : α × List Value, (∀ (j : Nat) (u : Value), p.2[j]? = some u → W.cell? (a.add (i * m + j)) = some u) ∧ p.2.length = m ∧ Q p.1 p.2 W := by
      intro i hi
      obtain ⟨cs', h1, h2⟩ := hr i (by omega)
      obtain ⟨_, hlen, hcell⟩ := World.cells?_some h1
      obtain ⟨y, hy⟩ := hE _ _ _ h2
      refine ⟨(y, cs'), fun j u hj => ?_, hlen, hy⟩
      have hjl : j < m := by
        have := (List.getElem?_eq_some_iff.1 hj).1
        simp only at this
        omega
      have := hcell j hjl
      rw [add_add] at this
      rw [this]
      exact hj
    obtain ⟨q, hq⟩ := choose_lt each
    have hget : ∀ (i : Nat) (t : α), ((List.range len).map fun i => (q i).1)[i]? = some t → i < len ∧ t = (q i).1 := by
      intro i t ht
      rw [List.getElem?_map] at ht
      by_cases hi : i < len
      · rw [List.getElem?_range hi] at ht
        simp at ht
        exact ⟨hi, ht.symm⟩
      · rw [List.getElem?_eq_none (by simp; omega)] at ht
        simp at ht
    refine ⟨(List.range len).map fun i => (q i).1, some a, cap, by simp, by simp; unfold maxLen at hm; omega, fun i t hi => ?_⟩
    obtain ⟨hil, rfl⟩ := hget i t hi
    obtain ⟨k1, k2, k3⟩ := hq i hil
    obtain ⟨l1, l2, l3⟩ := hq 0 (by omega)
    obtain ⟨u, hu0⟩ : ∃ u, (q 0).2[0]? = some u := ⟨(q 0).2[0]'(by omega), by simp⟩
    have hc0 := l1 0 u hu0
    obtain ⟨blk, off, ar⟩ := a
    have har : ar = none := by simpa [Addr.add] using World.cell?_spot hc0
    subst har
    refine ⟨blk, off, (q i).2, rfl, by simpa [Addr.add] using World.block_lt_of_cell? W _ hc0, fun j v hj => ?_, k3⟩
    have := k1 j v hj
    rw [add_plain] at this
    rw [Nat.add_assoc]
    exact this

instance : Inhabited Pl.GT := ⟨.node 0 [] []⟩
instance : Inhabited Pl.GF := ⟨⟨[], 0, .node 0 [] []⟩⟩
instance : Inhabited Pl.GC := ⟨⟨[], 0⟩⟩
instance : Inhabited Pl.GM := ⟨⟨[], false, .node 0 [] [], .node 0 [] []⟩⟩

end Go.Proofs.YtmiohekmpjiloaaGreatDoor

namespace Go.Proofs.YtmiohekmpjiloaaGreatDoor
open Go.ChangeShapes Go.WideShapes Go.ChangeAt Go.RowKit Go.Deep
set_option maxRecDepth 20000

theorem SlR.vys {B n : Nat} {w : World} {v : Value} {xs : List Pl.GV} (h : SlR 4 (fun g c w => ∃ o, c = [.int .i64 g.i, .int .u64 g.u, .string g.t, o] ∧ VyS B n g.l w o) B w v xs) : VyS B (n + 1) xs w v := by
  obtain ⟨ad, cp, h1, h2, h3⟩ := h
  refine ⟨ad, cp, h1, h2, fun i g hg => ?_⟩
  obtain ⟨blk, off, c, q1, q2, q3, o, rfl, hos⟩ := h3 i g hg
  refine ⟨blk, off, o, q1, q2, ?_, q3 1 _ rfl, q3 2 _ rfl, q3 3 _ rfl, hos⟩
  have := q3 0 _ rfl
  rwa [Nat.add_zero] at this

theorem open_val {H : Type} {enc : TypeId × Value → H} {W : World} (n : Nat) : ∀ (fuel : Nat) (cs : List Value) (x : DataW H × List MemPlace), DataW.trod enc Tryz.prog W 0 (fun _ => true) true fuel 33 cs = some x → ∃ g : Pl.GV, ∃ o, cs = [.int .i64 g.i, .int .u64 g.u, .string g.t, o] ∧ VyS W.heap.size n g.l W o := by
  obtain ⟨f0, f1, f2, f3, he, o0, o1, o2, o3, y0, y1, y2, y3⟩ : ∃ f0 f1 f2 f3 : Field, Tryz.prog.underlying 33 = some (.struct #[f0, f1, f2, f3]) ∧ f0.offset = 0 ∧ f1.offset = 1 ∧ f2.offset = 2 ∧ f3.offset = 3 ∧ f0.type = 3 ∧ f1.type = 30 ∧ f2.type = 9 ∧ f3.type = 31 := ⟨_, _, _, _, Tryz.underlying33, rfl, rfl, rfl, rfl, rfl, rfl, rfl, rfl⟩
  have ce : Tryz.prog.cellsOf 33 = 4 := by kernel_rfl
  have c3 : Tryz.prog.cellsOf 3 = 1 := by kernel_rfl
  have c6 : Tryz.prog.cellsOf 30 = 1 := by kernel_rfl
  have c9 : Tryz.prog.cellsOf 9 = 1 := by kernel_rfl
  have cs1 : Tryz.prog.cellsOf 31 = 1 := by kernel_rfl
  induction n with
  | zero =>
    intro fuel cs x h
    obtain ⟨xs, k, hk, hxy, hlen, hxl, hf⟩ := DataW.trod_struct he h
    rw [ce] at hlen
    match xs, hxl, cs, hlen with
    | [z0, z1, z2, z3], _, [v0, v1, v2, v3], _ =>
      have g0 := hf 0 f0 rfl
      have g1 := hf 1 f1 rfl
      have g2 := hf 2 f2 rfl
      have g3 := hf 3 f3 rfl
      simp [o0, o1, o2, o3, y0, y1, y2, y3, c3, c6, c9, cs1] at g0 g1 g2 g3
      obtain ⟨n0, hn0, _, _⟩ := DataW.trod_int Tryz.underlying3 g0
      obtain ⟨n1, hn1, _, _⟩ := DataW.trod_int Tryz.underlying30 g1
      obtain ⟨s2, hn2, _, hs2⟩ := DataW.trod_string Tryz.underlying9 g2
      simp only [List.cons.injEq, and_true] at hn0 hn1 hn2
      subst hn0 hn1 hn2
      refine ⟨.node n0 n1 s2 [], _, rfl, ?_⟩
      rcases open_slice Tryz.underlying31 g3 with ⟨hcs, _⟩ | ⟨a, len, cap, mm, n, D, Pl, hcs, _⟩
      · simp only [List.cons.injEq, and_true] at hcs
        exact ⟨_, _, _, hcs⟩
      · simp only [List.cons.injEq, and_true] at hcs
        exact ⟨_, _, _, hcs⟩
  | succ n ih =>
    intro fuel cs x h
    obtain ⟨xs, k, hk, hxy, hlen, hxl, hf⟩ := DataW.trod_struct he h
    rw [ce] at hlen
    match xs, hxl, cs, hlen with
    | [z0, z1, z2, z3], _, [v0, v1, v2, v3], _ =>
      have g0 := hf 0 f0 rfl
      have g1 := hf 1 f1 rfl
      have g2 := hf 2 f2 rfl
      have g3 := hf 3 f3 rfl
      simp [o0, o1, o2, o3, y0, y1, y2, y3, c3, c6, c9, cs1] at g0 g1 g2 g3
      obtain ⟨n0, hn0, _, _⟩ := DataW.trod_int Tryz.underlying3 g0
      obtain ⟨n1, hn1, _, _⟩ := DataW.trod_int Tryz.underlying30 g1
      obtain ⟨s2, hn2, _, hs2⟩ := DataW.trod_string Tryz.underlying9 g2
      simp only [List.cons.injEq, and_true] at hn0 hn1 hn2
      subst hn0 hn1 hn2
      obtain ⟨v, hv, os, hos⟩ := open_rows 31 33 4 Tryz.underlying31 ce (by omega) (fun (g : Pl.GV) c w => ∃ o, c = [.int .i64 g.i, .int .u64 g.u, .string g.t, o] ∧ VyS W.heap.size n g.l w o) (fun fuel cs x h => ih fuel cs x h) g3
      simp only [List.cons.injEq, and_true] at hv
      subst hv
      exact ⟨.node n0 n1 s2 os, _, rfl, hos.vys⟩

/-- A value that is handed in. -/
theorem open_value {H : Type} {enc : TypeId × Value → H} {W : World} {base : Nat} {v : Value} {d : DataW H} {p : List MemPlace} (n : Nat) (hval : Value.okWide Tryz.prog W .any base 33 v)
    (h : DataW.Trod enc Tryz.prog W 0 (fun _ => true) true 33 v d p) :
    ∃ g : Pl.GV, ∃ o, v = gvA g o ∧ VyS W.heap.size n g.l W o := by
  have ce : Tryz.prog.cellsOf 33 = 4 := by kernel_rfl
  unfold Value.okWide at hval
  rw [Tryz.underlying33] at hval
  obtain ⟨cs, rfl, hsz, _⟩ := hval
  obtain ⟨fuel, hf0⟩ := h
  obtain ⟨g, o, h1, h2⟩ := open_val n fuel _ _ hf0
  obtain ⟨l⟩ := cs
  refine ⟨g, o, ?_, h2⟩
  have h3 : l = [.int .i64 g.i, .int .u64 g.u, .string g.t, o] := h1
  rw [h3]
  rfl
end Go.Proofs.YtmiohekmpjiloaaGreatDoor

namespace Go.Proofs.YtmiohekmpjiloaaGreatDoor
open Go.RowKit
set_option maxRecDepth 20000

set_option maxHeartbeats 1000000 in
theorem num7_any (e : Int) (w : World) : Calls Tryz.prog 14 #[.int .i64 e] w fun r w' => r = .returned (.int .i64 e) ∧ w' = w := by
  go_enter Tryz.func14, Tryz.ntmps14
  go_wp2
  go_ret
  exact ⟨rfl, rfl⟩

/-- The text of alive, and what it declares. -/
def sP : ByteArray := { data := #[115, 116, 114, 117, 99, 116, 32, 80, 32, 123, 32, 49, 32, 120, 32, 58, 32, 105, 110, 116, 59, 32, 50, 32, 108, 32, 58, 32, 91, 117, 105, 110, 116, 93, 59, 32, 125] }
def xP : List Nat × List Pl.Fld := ([80], [⟨1, [120], .plain 2⟩, ⟨2, [108], .list (.plain 3)⟩])
theorem tok_P : (tokA sP).2.2 = 0 ∧ (tokA sP).1.map Pl.kt = [(1, Pl.wStruct), (1, [80]), (3, [123]), (2, [49]), (1, [120]), (3, [58]), (1, [105, 110, 116]), (3, [59]), (2, [50]), (1, [108]), (3, [58]), (3, [91]), (1, [117, 105, 110, 116]), (3, [93]), (3, [59]), (3, [125])] := by decide
theorem ok_P : TOk sP [Pl.mkSt xP] := ⟨tok_P.1, by rw [tok_P.2]; rfl⟩
theorem okd_P : Pl.okDecl (Pl.mkSt xP) := ok_P.good.1 _ (List.mem_singleton.2 rfl)
theorem okn_P : Pl.okName (bl ⟨#[80]⟩) := by
  rw [show bl ⟨#[80]⟩ = [80] by decide]
  exact okd_P.1
theorem all_P : allE [xP] [] [] = 0 := by decide
theorem flat_P : ∀ f ∈ xP.2, Pl.okFld f ∧ flatT f.ty := by
  intro f hf
  refine ⟨okd_P.2.2 f hf, ?_⟩
  simp [xP] at hf
  rcases hf with rfl | rfl <;> trivial
theorem good_P : FGood (knP (fnd [xP] [] [])) xP.2 := by
  refine ⟨?_, ?_, ?_⟩
  · intro a ha
    simp [xP] at ha
    rcases ha with rfl | rfl <;> exact ⟨by decide, by decide⟩
  · intro i k a b hk ha hb
    match i, k, hk with
    | 0, k, hk => omega
    | 1, 0, _ =>
      simp [xP] at ha hb
      subst ha hb
      exact ⟨by decide, by decide⟩
    | i + 2, k, _ => simp [xP] at ha
  · intro a ha
    simp [xP] at ha
    rcases ha with rfl | rfl <;> rfl
theorem one_P : OneT sP xP := ⟨okd_P, tok_P.1, tok_P.2.trans (by decide), by decide, good_P, flat_P, by decide⟩
theorem rows_vys {B k : Nat} (hk : k ≤ 1000) {w : World} {o : Value} (h : Rows 33 4 ZR B w o (List.replicate k ())) : ∀ n, VyS w.heap.size n (List.replicate k zeroV) w o := by
  intro n
  obtain ⟨ad, cp, hsh⟩ := h.shape
  cases n with
  | zero => exact ⟨_, _, _, hsh⟩
  | succ n =>
    have h1 := h.sl (R' := fun (g : Pl.GV) c w' => ∃ o, c = [.int .i64 g.i, .int .u64 g.u, .string g.t, o] ∧ VyS w.heap.size n g.l w' o) (fun _ => zeroV) (by simpa using hk) (fun _ _ c hc => ⟨.slice none 0 0, hc, VyS.nil _ _ _⟩)
    rw [List.map_replicate] at h1
    exact h1.vys
theorem sc_P {B : Nat} {w : World} {s1 : Value} (h : Rows 59 2 (SctR B) B w s1 [xP]) : ScOk w s1 (.slice none 0 0) (.slice none 0 0) 0 (some ([xP], [], [])) := by
  exact ⟨one_sch okd_P h, ⟨_, Pl.schW_ok _ _ _ (one_in okd_P) (by decide)⟩, one_in okd_P, by decide, all_P.symm⟩

def gP : Pl.GV := .node 0 0 ⟨#[]⟩ [zeroV, zeroV]
theorem deep_P : deepV 100 [gP] = 2 := by decide

set_option maxHeartbeats 8000000 in
theorem alive7_any (w : World) (ht : Tab w.heap.size w) : Calls Tryz.prog 24 #[] w fun e w' => e = .returned (.bool true) ∧ Below w.heap.size w w' := by
  have H1 := hid (rOf_one sP xP one_P w)
  have HT := hid ht
  unfold sP at H1
  clear ht
  go_enter Tryz.func24, Tryz.ntmps24
  go_wp2_with fail
  refine H1.out.mono ?_
  rintro e w1 ⟨s1, rfl, hR, hb1⟩
  obtain ⟨as1, cs1, rfl⟩ := hR.shape
  simp only [List.length_cons, List.length_nil, Nat.zero_add] at *
  have hba := below_alloc w1 (.cells #[.slice as1 1 cs1, .slice none 0 0, .slice none 0 0] 26)
  have hb2 := below_next hb1 hba
  have h2 := Default_struct [xP] [] [] _ _ _ ⟨#[80]⟩ 0 xP rfl (by decide) okn_P flat_P (by decide) none 0 (w1.alloc (.cells #[.slice as1 1 cs1, .slice none 0 0, .slice none 0 0] 26)) ((sc_P hR).below hba) ((HT.out.below hb2).up2 hb2.size)
  have H2 := hid h2
  have HB2 := hid hb2
  clear hR hb1 hba hb2 h2 H1
  go_wp2_with fail
  refine H2.out.mono ?_
  rintro e w3 ⟨o, rfl, hR3, hb3⟩
  have hR3' : Rows 33 4 ZR (w1.alloc (.cells #[.slice as1 1 cs1, .slice none 0 0, .slice none 0 0] 26)).heap.size w3 o (List.replicate 2 ()) := hR3
  obtain ⟨ao, co, rfl⟩ := hR3'.shape
  simp only [List.length_replicate] at *
  have hV3 := rows_vys (by omega) hR3'
  have hb3' := below_next HB2.out hb3
  have hba := below_alloc w3 (.cells #[.int .i64 0, .int .u64 0, .string ⟨#[]⟩, .slice ao 2 co] 33)
  have hb4 := below_next hb3' hba
  have hV4 := fun n => VyS.bel hba n _ _ (hV3 n)
  have hB4 : Bx (w3.alloc (.cells #[.int .i64 0, .int .u64 0, .string ⟨#[]⟩, .slice ao 2 co] 33)) w3.heap.size [.int .i64 0, .int .u64 0, .string ⟨#[]⟩, .slice ao 2 co] 33 := Bx.new w3 _ _
  obtain ⟨w4, hw4⟩ : ∃ w4, w4 = w3.alloc (.cells #[.int .i64 0, .int .u64 0, .string ⟨#[]⟩, .slice ao 2 co] 33) := ⟨_, rfl⟩
  rw [← hw4] at hb4 hV4 hB4
  have hz34 : w3.heap.size ≤ w4.heap.size := Nat.le_of_lt hB4.lt
  have HDEEP : Hid (Calls Tryz.prog 16 #[.agg #[.int .i64 0, .int .u64 0, .string ⟨#[]⟩, .slice ao 2 co]] w4 fun e w' => e = .returned (.int .i64 2) ∧ Below w4.heap.size w4 w') := by
    have h := DeepV_any w3.heap.size gP (.slice ao 2 co) w4 (hV4 99) hz34
    rw [deep_P] at h
    exact h
  have HNUM := hid (fun W => num7_any 0 W)
  have HV4 := hid hV4
  have HB4 := hid hB4
  have Hb4 := hid hb4
  have HW4 := hid hw4
  have x0 := hB4.cell 0 rfl
  have x1 := hB4.cell 1 rfl
  have x2 := hB4.cell 2 rfl
  have x3 := hB4.cell 3 rfl
  clear hR3 hR3' hV3 hb3 hb3' hba hV4 hB4 hb4 hw4 H2
  go_wp2_with fail
  rw [← HW4.out]
  refine (HNUM.out _).mono ?_
  rintro e w5 ⟨rfl, rfl⟩
  go_wp2_with fail
  refine HDEEP.out.mono ?_
  rintro e w6 ⟨rfl, hb6⟩
  have hB6 := HB4.out.below hb6
  have hba := below_alloc w6 (.cells #[.int .i64 0, .int .u64 0, .string ⟨#[]⟩, .slice ao 2 co] 33)
  have hb67 := below_next hb6 hba
  have HSZ : Hid (Calls Tryz.prog 18 #[.slice (some ⟨w6.heap.size, 0, none⟩) 1 1] (w6.alloc (.cells #[.int .i64 0, .int .u64 0, .string ⟨#[]⟩, .slice ao 2 co] 33)) fun e w' => e = .returned (.int .i64 3) ∧ Below (w6.alloc (.cells #[.int .i64 0, .int .u64 0, .string ⟨#[]⟩, .slice ao 2 co] 33)).heap.size (w6.alloc (.cells #[.int .i64 0, .int .u64 0, .string ⟨#[]⟩, .slice ao 2 co] 33)) w') :=
    Size_one w3.heap.size 0 gP (fun x hx => by simp [gP, Pl.GV.l] at hx; rw [hx]; rfl) w6.heap.size 2 ⟨by omega, by omega⟩ ao co _ (Bx.new w6 _ _) (VyS.bel (hb67.mono hz34) _ _ _ (HV4.out 2)) (Nat.le_trans hz34 hb67.size)
  have HB7 := hid (below_next Hb4.out hb67)
  have y0 := hB6.cell 0 rfl
  have y1 := hB6.cell 1 rfl
  have y2 := hB6.cell 2 rfl
  have y3 := hB6.cell 3 rfl
  clear hb6 hB6 hba hb67 x0 x1 x2 x3 HDEEP
  go_wp2_with fail
  refine HSZ.out.mono ?_
  rintro e w8 ⟨rfl, hb8⟩
  have HL := hid (below_next HB7.out hb8)
  clear hb8
  go_wp2
  go_ret
  exact ⟨rfl, HL.out⟩
end Go.Proofs.YtmiohekmpjiloaaGreatDoor

namespace Go.Proofs.YtmiohekmpjiloaaGreatDoor
open Go.RowKit
set_option maxRecDepth 20000

set_option maxHeartbeats 16000000 in
theorem order_walk (B : Nat) (a b c : Pl.GV) (oa ob oc : Value) (w : World) (ha : VyS B 65536 a.l w oa) (hb : VyS B 65536 b.l w ob) (hc : VyS B 65536 c.l w oc) (hB : B ≤ w.heap.size) (ht : Tab w.heap.size w) :
    Calls Tryz.prog 5 #[gvA a oa, gvA b ob, gvA c oc] w fun e w' => e = .returned (.bool true) ∧ Below w.heap.size w w' := by
  obtain ⟨a1, m1, c1, rfl⟩ := ha.shape
  obtain ⟨a2, m2, c2, rfl⟩ := hb.shape
  obtain ⟨a3, m3, c3, rfl⟩ := hc.shape
  obtain ⟨w3, hw3⟩ : ∃ w3, w3 = ((w.alloc (.cells #[.int .i64 a.i, .int .u64 a.u, .string a.t, .slice a1 m1 c1] 33)).alloc (.cells #[.int .i64 b.i, .int .u64 b.u, .string b.t, .slice a2 m2 c2] 33)).alloc (.cells #[.int .i64 c.i, .int .u64 c.u, .string c.t, .slice a3 m3 c3] 33) := ⟨_, rfl⟩
  have hb3 : Below w.heap.size w w3 := by rw [hw3]; exact below_next (below_next (below_alloc w _) (below_alloc _ _)) (below_alloc _ _)
  have hBa : Bx w3 w.heap.size [.int .i64 a.i, .int .u64 a.u, .string a.t, .slice a1 m1 c1] 33 := by rw [hw3]; exact ((Bx.new w _ _).below (below_alloc _ _)).below (below_alloc _ _)
  have hBb : Bx w3 (w.heap.size + 1) [.int .i64 b.i, .int .u64 b.u, .string b.t, .slice a2 m2 c2] 33 := by rw [hw3]; exact (Bx.newAt (by simp) _ _).below (below_alloc _ _)
  have hBc : Bx w3 (w.heap.size + 1 + 1) [.int .i64 c.i, .int .u64 c.u, .string c.t, .slice a3 m3 c3] 33 := by rw [hw3]; exact Bx.newAt (by simp) _ _
  have va : ∀ W, Below w3.heap.size w3 W → VyS B 65536 a.l W (.slice a1 m1 c1) := fun W hW => VyS.bel ((below_next hb3 hW).mono hB) _ _ _ ha
  have vb : ∀ W, Below w3.heap.size w3 W → VyS B 65536 b.l W (.slice a2 m2 c2) := fun W hW => VyS.bel ((below_next hb3 hW).mono hB) _ _ _ hb
  have vc : ∀ W, Below w3.heap.size w3 W → VyS B 65536 c.l W (.slice a3 m3 c3) := fun W hW => VyS.bel ((below_next hb3 hW).mono hB) _ _ _ hc
  have hBW : ∀ W, Below w3.heap.size w3 W → B ≤ W.heap.size := fun W hW => Nat.le_trans hB (below_next hb3 hW).size
  have HX := hid (fun W (hW : Below w3.heap.size w3 W) => Compare_any B a b _ _ W (va W hW) (vb W hW) (hBW W hW))
  have HY := hid (fun W (hW : Below w3.heap.size w3 W) => Compare_any B b c _ _ W (vb W hW) (vc W hW) (hBW W hW))
  have HZ := hid (fun W (hW : Below w3.heap.size w3 W) => Compare_any B a c _ _ W (va W hW) (vc W hW) (hBW W hW))
  have HXI := hid (fun W (hW : Below w3.heap.size w3 W) => Compare_any B b a _ _ W (vb W hW) (va W hW) (hBW W hW))
  have HS := hid (fun W (hW : Below w3.heap.size w3 W) => Same_any B a b _ _ W (va W hW) (vb W hW) (hBW W hW))
  have HAA := hid (fun W (hW : Below w3.heap.size w3 W) => Compare_any B a a _ _ W (va W hW) (va W hW) (hBW W hW))
  have HAL := hid (alive7_any w3 ((ht.below hb3).up2 hb3.size))
  rw [(ord_val 65536).neg a b] at HXI
  rw [(ord_val 65536).self a] at HAA
  have ORD : Hid ((cmpV 65536 a b ≤ 0 → cmpV 65536 b c ≤ 0 → cmpV 65536 a c ≤ 0) ∧ (cmpV 65536 a b ≤ 0 → cmpV 65536 b c ≤ 0 → cmpV 65536 a c = 0 → cmpV 65536 a b = 0 ∧ cmpV 65536 b c = 0)) := ⟨(ord_val 65536).tr a b c, fun h1 h2 h3 => (ord_val 65536).eqs h1 h2 h3⟩
  have RX := hid (rng_val 65536 a b)
  have RY := hid (rng_val 65536 b c)
  have RZ := hid (rng_val 65536 a c)
  unfold gvA at *
  generalize cmpV 65536 a b = x at *
  generalize cmpV 65536 b c = y at *
  generalize cmpV 65536 a c = z at *
  have HW3 := hid hw3
  have HB3 := hid hb3
  have HBA := hid hBa
  have HBB := hid hBb
  have HBC := hid hBc
  have p0 := hBa.cell 0 rfl
  have p1 := hBa.cell 1 rfl
  have p2 := hBa.cell 2 rfl
  have p3 := hBa.cell 3 rfl
  have q0 := hBb.cell 0 rfl
  have q1 := hBb.cell 1 rfl
  have q2 := hBb.cell 2 rfl
  have q3 := hBb.cell 3 rfl
  have r0 := hBc.cell 0 rfl
  have r1 := hBc.cell 1 rfl
  have r2 := hBc.cell 2 rfl
  have r3 := hBc.cell 3 rfl
  have lta := hBa.lt
  have ltb := hBb.lt
  have ltc := hBc.lt
  clear hw3 hb3 hBa hBb hBc va vb vc hBW ha hb hc ht
  go_enter Tryz.func5, Tryz.ntmps5
  go_wp2_with fail
  rw [← HW3.out]
  refine HAL.out.mono ?_
  rintro e w4 ⟨rfl, hb4⟩
  have HB4 := hid hb4
  clear hb4 HAL
  go_wp2_with fail
  obtain ⟨val, hval⟩ : ∃ val : Nat → Value, val = fun jx => match jx with | 0 => .agg #[.int .i64 a.i, .int .u64 a.u, .string a.t, .slice a1 m1 c1] | 1 => .agg #[.int .i64 b.i, .int .u64 b.u, .string b.t, .slice a2 m2 c2] | 2 => .int .i64 x | 3 => .agg #[.int .i64 b.i, .int .u64 b.u, .string b.t, .slice a2 m2 c2] | 4 => .agg #[.int .i64 c.i, .int .u64 c.u, .string c.t, .slice a3 m3 c3] | 5 => .int .i64 y | 6 => .agg #[.int .i64 a.i, .int .u64 a.u, .string a.t, .slice a1 m1 c1] | 7 => .agg #[.int .i64 c.i, .int .u64 c.u, .string c.t, .slice a3 m3 c3] | 8 => .int .i64 z | 9 => .int .i64 x | 10 => .int .i64 y | 11 => .int .i64 z | _ => undef := ⟨_, rfl⟩
  refine wp_region_fixed (R := fun W => Below w3.heap.size w3 W) val (by kernel_rfl) (by kernel_rfl) (by kernel_rfl) HB4.out.drew ?step ?done
  case step =>
    subst hval
    intro ix o ho A W hsz hdf hfr hdep hR
    rcases ix with _ | _ | _ | _ | _ | _ | _ | _ | _ | _ | _ | _ | ix
    · injection ho with ho
      subst ho
      have e3 : A.eval (.tmp 3) = .pointer (some ⟨w.heap.size, 0, none⟩) := (hfr 3 (noDst_spec (by kernel_rfl))).trans rfl
      have x0 := (hR.cell lta).trans p0
      have x1 := (hR.cell lta).trans p1
      have x2 := (hR.cell lta).trans p2
      have x3 := (hR.cell lta).trans p3
      exact gOp_ld (v := .agg #[.int .i64 a.i, .int .u64 a.u, .string a.t, .slice a1 m1 c1]) rfl (wanted_plain rfl) rfl e3 (by go_simp) ⟨_, rfl, rfl, Below.refl _ _, hR⟩
    · injection ho with ho
      subst ho
      have e4 : A.eval (.tmp 4) = .pointer (some ⟨w.heap.size + 1, 0, none⟩) := (hfr 4 (noDst_spec (by kernel_rfl))).trans rfl
      have x0 := (hR.cell ltb).trans q0
      have x1 := (hR.cell ltb).trans q1
      have x2 := (hR.cell ltb).trans q2
      have x3 := (hR.cell ltb).trans q3
      exact gOp_ld (v := .agg #[.int .i64 b.i, .int .u64 b.u, .string b.t, .slice a2 m2 c2]) rfl (wanted_plain rfl) rfl e4 (by go_simp) ⟨_, rfl, rfl, Below.refl _ _, hR⟩
    · injection ho with ho
      subst ho
      have e12 : A.eval (.tmp 12) = .agg #[.int .i64 a.i, .int .u64 a.u, .string a.t, .slice a1 m1 c1] := hdep ⟨0, .data⟩ (by simp) rfl _ _ rfl rfl
      have e13 : A.eval (.tmp 13) = .agg #[.int .i64 b.i, .int .u64 b.u, .string b.t, .slice a2 m2 c2] := hdep ⟨1, .data⟩ (by simp) rfl _ _ rfl rfl
      refine gOp_enter rfl (wanted_plain rfl) 22 #[.agg #[.int .i64 a.i, .int .u64 a.u, .string a.t, .slice a1 m1 c1], .agg #[.int .i64 b.i, .int .u64 b.u, .string b.t, .slice a2 m2 c2]] (run_call _ (fun _ _ => rfl) _ _ rfl _ (by simp [e12, e13])) ?_
      refine (HX.out W hR).mono ?_
      rintro e w' ⟨rfl, hb'⟩
      exact ⟨_, rfl, _, rfl, rfl, hb', below_next hR hb'⟩
    · injection ho with ho
      subst ho
      have e4 : A.eval (.tmp 4) = .pointer (some ⟨w.heap.size + 1, 0, none⟩) := (hfr 4 (noDst_spec (by kernel_rfl))).trans rfl
      have x0 := (hR.cell ltb).trans q0
      have x1 := (hR.cell ltb).trans q1
      have x2 := (hR.cell ltb).trans q2
      have x3 := (hR.cell ltb).trans q3
      exact gOp_ld (v := .agg #[.int .i64 b.i, .int .u64 b.u, .string b.t, .slice a2 m2 c2]) rfl (wanted_plain rfl) rfl e4 (by go_simp) ⟨_, rfl, rfl, Below.refl _ _, hR⟩
    · injection ho with ho
      subst ho
      have e5 : A.eval (.tmp 5) = .pointer (some ⟨w.heap.size + 1 + 1, 0, none⟩) := (hfr 5 (noDst_spec (by kernel_rfl))).trans rfl
      have x0 := (hR.cell ltc).trans r0
      have x1 := (hR.cell ltc).trans r1
      have x2 := (hR.cell ltc).trans r2
      have x3 := (hR.cell ltc).trans r3
      exact gOp_ld (v := .agg #[.int .i64 c.i, .int .u64 c.u, .string c.t, .slice a3 m3 c3]) rfl (wanted_plain rfl) rfl e5 (by go_simp) ⟨_, rfl, rfl, Below.refl _ _, hR⟩
    · injection ho with ho
      subst ho
      have e15 : A.eval (.tmp 15) = .agg #[.int .i64 b.i, .int .u64 b.u, .string b.t, .slice a2 m2 c2] := hdep ⟨3, .data⟩ (by simp) rfl _ _ rfl rfl
      have e16 : A.eval (.tmp 16) = .agg #[.int .i64 c.i, .int .u64 c.u, .string c.t, .slice a3 m3 c3] := hdep ⟨4, .data⟩ (by simp) rfl _ _ rfl rfl
      refine gOp_enter rfl (wanted_plain rfl) 22 #[.agg #[.int .i64 b.i, .int .u64 b.u, .string b.t, .slice a2 m2 c2], .agg #[.int .i64 c.i, .int .u64 c.u, .string c.t, .slice a3 m3 c3]] (run_call _ (fun _ _ => rfl) _ _ rfl _ (by simp [e15, e16])) ?_
      refine (HY.out W hR).mono ?_
      rintro e w' ⟨rfl, hb'⟩
      exact ⟨_, rfl, _, rfl, rfl, hb', below_next hR hb'⟩
    · injection ho with ho
      subst ho
      have e3 : A.eval (.tmp 3) = .pointer (some ⟨w.heap.size, 0, none⟩) := (hfr 3 (noDst_spec (by kernel_rfl))).trans rfl
      have x0 := (hR.cell lta).trans p0
      have x1 := (hR.cell lta).trans p1
      have x2 := (hR.cell lta).trans p2
      have x3 := (hR.cell lta).trans p3
      exact gOp_ld (v := .agg #[.int .i64 a.i, .int .u64 a.u, .string a.t, .slice a1 m1 c1]) rfl (wanted_plain rfl) rfl e3 (by go_simp) ⟨_, rfl, rfl, Below.refl _ _, hR⟩
    · injection ho with ho
      subst ho
      have e5 : A.eval (.tmp 5) = .pointer (some ⟨w.heap.size + 1 + 1, 0, none⟩) := (hfr 5 (noDst_spec (by kernel_rfl))).trans rfl
      have x0 := (hR.cell ltc).trans r0
      have x1 := (hR.cell ltc).trans r1
      have x2 := (hR.cell ltc).trans r2
      have x3 := (hR.cell ltc).trans r3
      exact gOp_ld (v := .agg #[.int .i64 c.i, .int .u64 c.u, .string c.t, .slice a3 m3 c3]) rfl (wanted_plain rfl) rfl e5 (by go_simp) ⟨_, rfl, rfl, Below.refl _ _, hR⟩
    · injection ho with ho
      subst ho
      have e18 : A.eval (.tmp 18) = .agg #[.int .i64 a.i, .int .u64 a.u, .string a.t, .slice a1 m1 c1] := hdep ⟨6, .data⟩ (by simp) rfl _ _ rfl rfl
      have e19 : A.eval (.tmp 19) = .agg #[.int .i64 c.i, .int .u64 c.u, .string c.t, .slice a3 m3 c3] := hdep ⟨7, .data⟩ (by simp) rfl _ _ rfl rfl
      refine gOp_enter rfl (wanted_plain rfl) 22 #[.agg #[.int .i64 a.i, .int .u64 a.u, .string a.t, .slice a1 m1 c1], .agg #[.int .i64 c.i, .int .u64 c.u, .string c.t, .slice a3 m3 c3]] (run_call _ (fun _ _ => rfl) _ _ rfl _ (by simp [e18, e19])) ?_
      refine (HZ.out W hR).mono ?_
      rintro e w' ⟨rfl, hb'⟩
      exact ⟨_, rfl, _, rfl, rfl, hb', below_next hR hb'⟩
    · injection ho with ho
      subst ho
      have e14 : A.eval (.tmp 14) = .int .i64 x := hdep ⟨2, .data⟩ (by simp) rfl _ _ rfl rfl
      exact gOp_mv rfl (wanted_plain rfl) (.inr rfl) e14 ⟨_, rfl, rfl, Below.refl _ _, hR⟩
    · injection ho with ho
      subst ho
      have e17 : A.eval (.tmp 17) = .int .i64 y := hdep ⟨5, .data⟩ (by simp) rfl _ _ rfl rfl
      exact gOp_mv rfl (wanted_plain rfl) (.inr rfl) e17 ⟨_, rfl, rfl, Below.refl _ _, hR⟩
    · injection ho with ho
      subst ho
      have e20 : A.eval (.tmp 20) = .int .i64 z := hdep ⟨8, .data⟩ (by simp) rfl _ _ rfl rfl
      exact gOp_mv rfl (wanted_plain rfl) (.inr rfl) e20 ⟨_, rfl, rfl, Below.refl _ _, hR⟩
    · simp at ho
  case done =>
    intro W hR
    subst hval
    simp only [putL, Act.put, List.setIfInBounds_toArray, List.set_cons_zero, List.set_cons_succ]
    clear p0 p1 p2 p3 q0 q1 q2 q3 r0 r1 r2 r3
    have hA := HBA.out.below hR
    have hBb := HBB.out.below hR
    have p0 := hA.cell 0 rfl
    have p1 := hA.cell 1 rfl
    have p2 := hA.cell 2 rfl
    have p3 := hA.cell 3 rfl
    have q0 := hBb.cell 0 rfl
    have q1 := hBb.cell 1 rfl
    have q2 := hBb.cell 2 rfl
    have q3 := hBb.cell 3 rfl
    have HR := hid hR
    clear hA hBb hR HX HY HZ
    rcases RX.out with hx | hx | hx
    · subst hx
      simp only [Int.neg_neg] at HXI
      go_wp2_with fail
      refine (HXI.out _ HR.out).mono ?_
      rintro e w5 ⟨rfl, hb5⟩
      have HR5 := hid (below_next HR.out hb5)
      clear hb5 p0 p1 p2 p3 q0 q1 q2 q3
      have p0 := (HBA.out.below HR5.out).cell 0 rfl
      have p1 := (HBA.out.below HR5.out).cell 1 rfl
      have p2 := (HBA.out.below HR5.out).cell 2 rfl
      have p3 := (HBA.out.below HR5.out).cell 3 rfl
      have q0 := (HBB.out.below HR5.out).cell 0 rfl
      have q1 := (HBB.out.below HR5.out).cell 1 rfl
      have q2 := (HBB.out.below HR5.out).cell 2 rfl
      have q3 := (HBB.out.below HR5.out).cell 3 rfl
      go_wp2_with fail
      refine (HS.out _ HR5.out).mono ?_
      rintro e w6 ⟨rfl, hb6⟩
      have HR6 := hid (below_next HR5.out hb6)
      clear hb6 p0 p1 p2 p3 q0 q1 q2 q3
      have p0 := (HBA.out.below HR6.out).cell 0 rfl
      have p1 := (HBA.out.below HR6.out).cell 1 rfl
      have p2 := (HBA.out.below HR6.out).cell 2 rfl
      have p3 := (HBA.out.below HR6.out).cell 3 rfl
      go_wp2_with fail
      refine (HAA.out _ HR6.out).mono ?_
      rintro e w7 ⟨rfl, hb7⟩
      have HL := hid (below_next HB3.out (below_next HR6.out hb7))
      clear hb7 p0 p1 p2 p3
      rcases RY.out with hy | hy | hy
      · have hz0 := ORD.out.1 (by omega) (by omega)
        rcases RZ.out with hz | hz | hz
        · subst hy hz
          go_wp2
          go_ret
          exact ⟨rfl, HL.out⟩
        · have := ORD.out.2 (by omega) (by omega) hz
          omega
        · omega
      · have hz0 := ORD.out.1 (by omega) (by omega)
        rcases RZ.out with hz | hz | hz
        · subst hy hz
          go_wp2
          go_ret
          exact ⟨rfl, HL.out⟩
        · have := ORD.out.2 (by omega) (by omega) hz
          omega
        · omega
      · subst hy
        go_wp2
        go_ret
        exact ⟨rfl, HL.out⟩
    · subst hx
      simp only [Int.neg_zero] at HXI
      go_wp2_with fail
      refine (HXI.out _ HR.out).mono ?_
      rintro e w5 ⟨rfl, hb5⟩
      have HR5 := hid (below_next HR.out hb5)
      clear hb5 p0 p1 p2 p3 q0 q1 q2 q3
      have p0 := (HBA.out.below HR5.out).cell 0 rfl
      have p1 := (HBA.out.below HR5.out).cell 1 rfl
      have p2 := (HBA.out.below HR5.out).cell 2 rfl
      have p3 := (HBA.out.below HR5.out).cell 3 rfl
      have q0 := (HBB.out.below HR5.out).cell 0 rfl
      have q1 := (HBB.out.below HR5.out).cell 1 rfl
      have q2 := (HBB.out.below HR5.out).cell 2 rfl
      have q3 := (HBB.out.below HR5.out).cell 3 rfl
      go_wp2_with fail
      refine (HS.out _ HR5.out).mono ?_
      rintro e w6 ⟨rfl, hb6⟩
      have HR6 := hid (below_next HR5.out hb6)
      clear hb6 p0 p1 p2 p3 q0 q1 q2 q3
      have p0 := (HBA.out.below HR6.out).cell 0 rfl
      have p1 := (HBA.out.below HR6.out).cell 1 rfl
      have p2 := (HBA.out.below HR6.out).cell 2 rfl
      have p3 := (HBA.out.below HR6.out).cell 3 rfl
      go_wp2_with fail
      refine (HAA.out _ HR6.out).mono ?_
      rintro e w7 ⟨rfl, hb7⟩
      have HL := hid (below_next HB3.out (below_next HR6.out hb7))
      clear hb7 p0 p1 p2 p3
      rcases RY.out with hy | hy | hy
      · have hz0 := ORD.out.1 (by omega) (by omega)
        rcases RZ.out with hz | hz | hz
        · subst hy hz
          go_wp2
          go_ret
          exact ⟨rfl, HL.out⟩
        · have := ORD.out.2 (by omega) (by omega) hz
          omega
        · omega
      · have hz0 := ORD.out.1 (by omega) (by omega)
        rcases RZ.out with hz | hz | hz
        · subst hy hz
          go_wp2
          go_ret
          exact ⟨rfl, HL.out⟩
        · subst hy hz
          go_wp2
          go_ret
          exact ⟨rfl, HL.out⟩
        · omega
      · subst hy
        go_wp2
        go_ret
        exact ⟨rfl, HL.out⟩
    · subst hx
      go_wp2_with fail
      refine (HXI.out _ HR.out).mono ?_
      rintro e w5 ⟨rfl, hb5⟩
      have HR5 := hid (below_next HR.out hb5)
      clear hb5 p0 p1 p2 p3 q0 q1 q2 q3
      have p0 := (HBA.out.below HR5.out).cell 0 rfl
      have p1 := (HBA.out.below HR5.out).cell 1 rfl
      have p2 := (HBA.out.below HR5.out).cell 2 rfl
      have p3 := (HBA.out.below HR5.out).cell 3 rfl
      have q0 := (HBB.out.below HR5.out).cell 0 rfl
      have q1 := (HBB.out.below HR5.out).cell 1 rfl
      have q2 := (HBB.out.below HR5.out).cell 2 rfl
      have q3 := (HBB.out.below HR5.out).cell 3 rfl
      go_wp2_with fail
      refine (HS.out _ HR5.out).mono ?_
      rintro e w6 ⟨rfl, hb6⟩
      have HR6 := hid (below_next HR5.out hb6)
      clear hb6 p0 p1 p2 p3 q0 q1 q2 q3
      have p0 := (HBA.out.below HR6.out).cell 0 rfl
      have p1 := (HBA.out.below HR6.out).cell 1 rfl
      have p2 := (HBA.out.below HR6.out).cell 2 rfl
      have p3 := (HBA.out.below HR6.out).cell 3 rfl
      go_wp2_with fail
      refine (HAA.out _ HR6.out).mono ?_
      rintro e w7 ⟨rfl, hb7⟩
      have HL := hid (below_next HB3.out (below_next HR6.out hb7))
      clear hb7 p0 p1 p2 p3
      go_wp2
      go_ret
      exact ⟨rfl, HL.out⟩
end Go.Proofs.YtmiohekmpjiloaaGreatDoor

