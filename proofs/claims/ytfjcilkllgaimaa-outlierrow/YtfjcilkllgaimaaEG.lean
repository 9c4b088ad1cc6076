/- outlier: slices of bools, handed in; Record. -/
import Derived.Test.YtfjcilkllgaimaaEF
import Derived.Test.YtfjcilkllgaimaaOpen
import Derived.Deep.Slices
namespace Go.Proofs.Ytfjcilkllgaimaa
open Go.ChangeShapes Go.WideShapes Go.ChangeAt Go.RowKit Go.Deep
set_option linter.unusedVariables false
set_option maxRecDepth 20000

/-- A slice that reads as a list of bools. -/
def GSeg (w : World) (v : Value) (l : List Bool) : Prop :=
  ∃ (a : Option Addr) (cap : Nat), v = .slice a l.length cap ∧ l.length ≤ cap ∧ cap ≤ maxLen ∧ (a = none → l = [] ∧ cap = 0) ∧
    ∀ g off ar, a = some ⟨g, off, ar⟩ → 0 < l.length → ar = none ∧ g < w.heap.size ∧ ∀ i, i < l.length → w.cell? ⟨g, off + i, none⟩ = some (.bool (l.getD i false))
theorem GSeg.below {w w' : World} {v : Value} {l : List Bool} (h : GSeg w v l) (hb : Below w.heap.size w w') : GSeg w' v l := by
  obtain ⟨a, cap, h1, h2, h3, h4, h5⟩ := h
  refine ⟨a, cap, h1, h2, h3, h4, fun g off ar ha h0 => ?_⟩
  obtain ⟨k1, k2, k3⟩ := h5 g off ar ha h0
  exact ⟨k1, Nat.lt_of_lt_of_le k2 hb.size, fun i hi => (hb.cell k2).trans (k3 i hi)⟩
theorem GSeg.nil (w : World) : GSeg w (.slice none 0 0) [] := ⟨none, 0, rfl, Nat.le_refl _, Nat.zero_le _, fun _ => ⟨rfl, rfl⟩, fun g off ar ha => by cases ha⟩
/-- Where there is one, where they lie. -/
theorem gseg_at {w : World} {v : Value} {l : List Bool} (h0 : 0 < l.length) (h : GSeg w v l) :
    ∃ g off cap, v = .slice (some ⟨g, off, none⟩) l.length cap ∧ g < w.heap.size ∧ ∀ i, i < l.length → w.cell? ⟨g, off + i, none⟩ = some (.bool (l.getD i false)) := by
  obtain ⟨a, cap, rfl, _, _, h3, h4⟩ := h
  rcases a with _ | ⟨g, off, ar⟩
  · have := (h3 rfl).1; subst this; simp at h0
  · obtain ⟨rfl, q2, q3⟩ := h4 g off ar rfl h0
    exact ⟨g, off, cap, rfl, q2, q3⟩
set_option maxHeartbeats 1000000 in
theorem open_bools {H : Type} {enc : TypeId × Value → H} {W : World} {base : Nat} {v : Value} {d : DataW H} {p : List MemPlace} (hval : Value.okWide Try.prog W .any base 26 v)
    (h : DataW.Trod enc Try.prog W 0 (fun _ => true) true 26 v d p) :
    ∃ l : List Bool, GSeg W v l ∧ (d = .nil ∧ l = [] ∨ ∃ elems spare, d = .slice elems spare ∧ l.length = elems.length) := by
  obtain ⟨a, len, cap, rfl⟩ := okWide_slice Try.underlying26 hval
  obtain ⟨fuel, hf⟩ := h
  have c4 : Try.prog.cellsOf 4 = 1 := by kernel_rfl
  rcases open_slice Try.underlying26 hf with ⟨hcs, hx⟩ | ⟨x, l, c, m, n, D, Pl, hcs, hb, hl, hm, hmm, hx, hr⟩
  · simp [Value.cells] at hcs
    obtain ⟨rfl, rfl, rfl⟩ := hcs
    simp only [Prod.mk.injEq] at hx
    exact ⟨[], GSeg.nil _, .inl ⟨hx.1, rfl⟩⟩
  · simp [Value.cells] at hcs
    obtain ⟨rfl, rfl, rfl⟩ := hcs
    simp only [if_true] at hmm
    have each : ∀ i, i < len → ∃ t : Bool, W.cell? (x.add i) = some (.bool t) := by
      intro i hi
      obtain ⟨cs', h1, h2⟩ := hr i (by omega)
      rw [c4] at h1
      obtain ⟨_, hlen, hcell⟩ := World.cells?_some h1
      match cs', hlen with
      | [v0], _ =>
        have e0 := hcell 0 (by omega)
        obtain ⟨n0, hn0, _⟩ := DataW.trod_bool Try.underlying4 h2
        simp only [List.cons.injEq, and_true] at hn0
        subst hn0
        rw [add_add] at e0
        exact ⟨n0, by simpa using e0⟩
    obtain ⟨q, hq⟩ := choose_lt each
    have hlen : ((List.range len).map q).length = len := by simp
    refine ⟨(List.range len).map q, ⟨some x, cap, by rw [hlen], by rw [hlen]; exact hl, hm, (fun h => by cases h), fun g off ar ha h00 => ?_⟩, ?_⟩
    · cases ha
      have h0 : 0 < len := by rw [hlen] at h00; exact h00
      have hc0 := hq 0 h0
      have har : ar = none := by simpa [Addr.add] using World.cell?_spot hc0
      subst har
      refine ⟨rfl, by simpa [Addr.add] using World.block_lt_of_cell? W _ hc0, fun i hi => ?_⟩
      rw [hlen] at hi
      have a1 := hq i hi
      rw [add_plain] at a1
      have e : ((List.range len).map q).getD i false = q i := by simp [List.getD, hi]
      rw [e]
      exact a1
    · simp only [Prod.mk.injEq] at hx
      exact .inr ⟨_, _, hx.1, by simp⟩

theorem Ou.recs_take (o : Ou.St) (l : List Bool) (k : Nat) (h : k < l.length) : Ou.recs o (l.take (k + 1)) = Ou.rec1 (Ou.recs o (l.take k)) (l.getD k false) := by
  unfold Ou.recs
  rw [List.take_add_one, List.foldl_append]
  simp [List.getD, h]
theorem Ou.rec1_may {o : Ou.St} {g : Bool} (h : Ou.may o = true) : Ou.may (Ou.rec1 o g) = true := by
  obtain ⟨⟨a1, a2, a3, a4, a5, a6⟩, a7, a8, a9, a10, a11, a12⟩ := Ou.may_iff.1 h
  obtain ⟨r0, r1⟩ := Ou.up_range (n := o.r) (c := 1048576) a1 (by omega)
  obtain ⟨g0, g1⟩ := Ou.up_range (n := o.g) (c := 1048576) a3 (by omega)
  obtain ⟨b0, b1⟩ := Ou.up_range (n := o.b) (c := 1048576) a5 (by omega)
  rw [Ou.may_iff]
  unfold Ou.rec1
  cases g
  · exact ⟨⟨r0, r1, a3, a4, b0, b1⟩, a7, a8, a9, a10, a11, a12⟩
  · exact ⟨⟨Int.le_refl 0, by show (0 : Int) ≤ 1048576; omega, g0, g1, a5, a6⟩, a7, a8, a9, a10, a11, a12⟩
theorem Ou.recs_may {o : Ou.St} (l : List Bool) (h : Ou.may o = true) : Ou.may (Ou.recs o l) = true := by
  unfold Ou.recs
  induction l generalizing o with
  | nil => exact h
  | cons g l ih => exact ih (Ou.rec1_may h)
theorem Ou.may_wraps {o : Ou.St} (h : Ou.may o = true) : IntKind.i64.wrap (o.r + 1) = o.r + 1 ∧ IntKind.i64.wrap (o.g + 1) = o.g + 1 ∧ IntKind.i64.wrap (o.b + 1) = o.b + 1 := by
  obtain ⟨⟨_, _, _, _, _, _⟩, _, _, _, _, _, _⟩ := Ou.may_iff.1 h
  refine ⟨wrap_ok ?_ ?_, wrap_ok ?_ ?_, wrap_ok ?_ ?_⟩ <;> omega

set_option maxHeartbeats 1600000 in
theorem orecord_any (o : Ou.St) (s : Ou.Se) (t : Int) (v : Value) (l : List Bool) (w : World) (hv : GSeg w v l) : Calls Try.prog 9 #[vO o, vS s, .int .i64 t, v] w fun e w' => e = .returned (.tuple #[vO (Ou.recR o s t l), .int .i64 (Ou.chk o s t)]) ∧ Below w.heap.size w w' := by
  have c1 := fun W => ocheck_any o s t W
  have c2 := hidD (fun (x : Ou.St) (hx : Ou.may x = true) g B W (h : Bo W B (pL x s) 54) => record_any B x s _ g W h (Ou.may_wraps hx).1 (Ou.may_wraps hx).2.1 (Ou.may_wraps hx).2.2)
  obtain ⟨W0, hW0, B0, B1, B2, HB, HS⟩ := three_boxes w (oL o) (sL s) (oL Ou.zero) 23 25 23
  have HC0 : Hid (Ou.chk o s t = 0 → Ou.recR o s t l = Ou.recs o l) := hidD (fun h => if_pos h)
  have HC1 : Hid (¬ Ou.chk o s t = 0 → Ou.recR o s t l = Ou.zero) := hidD (fun h => if_neg h)
  have HM : Hid (Ou.chk o s t = 0 → Ou.may o = true) := hidD (fun h => (Ou.chk_zero h).2.2.2)
  generalize Ou.recR o s t l = z at *
  generalize Ou.chk o s t = k at *
  simp only [oL, sL, Ou.zero] at hW0
  have HV := hidD hv
  obtain ⟨a, cap, hva, g1, g2, g3, g4⟩ := hv
  obtain ⟨n, hn⟩ : ∃ n, n = l.length := ⟨_, rfl⟩
  rw [← hn] at hva g1
  unfold maxLen at g2
  have HL := hidD hn
  clear hn g3 g4
  have HV2 := hidD hva
  subst hva
  obtain ⟨N, hN⟩ : ∃ N, N = w.heap.size := ⟨_, rfl⟩
  rw [← hN] at B0 B1 B2 HB HS ⊢
  have HN := hidD hN
  go_enter Try.func9, Try.ntmps9
  go_wp2_with fail
  rw [← hN, ← hW0]
  clear hN hW0
  with_reducible refine (c1 _).mono ?_
  rintro e w1 ⟨rfl, h1⟩
  have X0 := B0.below h1
  have X1 := B1.below h1
  have hb1 : Below N w w1 := below_on HB (by omega) h1
  have X2 := B2.below h1
  have p0 := X0.cell 0 rfl
  have p1 := X0.cell 1 rfl
  have p2 := X0.cell 2 rfl
  have p3 := X0.cell 3 rfl
  have p4 := X0.cell 4 rfl
  have p5 := X0.cell 5 rfl
  have p6 := X0.cell 6 rfl
  have q0 := X1.cell 0 rfl
  have q1 := X1.cell 1 rfl
  have q2 := X1.cell 2 rfl
  have q3 := X1.cell 3 rfl
  have q4 := X1.cell 4 rfl
  have q5 := X1.cell 5 rfl
  have q6 := X1.cell 6 rfl
  have r0 := X2.cell 0 rfl
  have r1 := X2.cell 1 rfl
  have r2 := X2.cell 2 rfl
  have r3 := X2.cell 3 rfl
  have r4 := X2.cell 4 rfl
  have r5 := X2.cell 5 rfl
  have r6 := X2.cell 6 rfl
  have f0 := X2.frozen 0
  have f1 := X2.frozen 1
  have f2 := X2.frozen 2
  have f3 := X2.frozen 3
  have f4 := X2.frozen 4
  have f5 := X2.frozen 5
  have f6 := X2.frozen 6
  have hz := h1.size
  by_cases hk : k = 0
  · subst hk
    have hZ := HC0.out rfl
    have hm := HM.out rfl
    have X3 := hidD (X2.alloc (.cells #[.int .i64 o.r, .int .i64 o.g, .int .i64 o.b, .int .i64 o.n, .int .i64 o.s, .int .i64 o.u, .bool o.o, .int .i64 s.w, .int .i64 s.m, .int .i64 s.l, .int .i64 s.b, .int .i64 s.x, .int .i64 s.p, .int .i64 s.c] 54))
    have Y3 := hidD (Bo.new w1 [.int .i64 o.r, .int .i64 o.g, .int .i64 o.b, .int .i64 o.n, .int .i64 o.s, .int .i64 o.u, .bool o.o, .int .i64 s.w, .int .i64 s.m, .int .i64 s.l, .int .i64 s.b, .int .i64 s.x, .int .i64 s.p, .int .i64 s.c] 54)
    have hb2 := hidD (hb1.alloc (by omega) (.cells #[.int .i64 o.r, .int .i64 o.g, .int .i64 o.b, .int .i64 o.n, .int .i64 o.s, .int .i64 o.u, .bool o.o, .int .i64 s.w, .int .i64 s.m, .int .i64 s.l, .int .i64 s.b, .int .i64 s.x, .int .i64 s.p, .int .i64 s.c] 54))
    have hs2 : Hid (N + 3 ≤ (w1.alloc (.cells #[.int .i64 o.r, .int .i64 o.g, .int .i64 o.b, .int .i64 o.n, .int .i64 o.s, .int .i64 o.u, .bool o.o, .int .i64 s.w, .int .i64 s.m, .int .i64 s.l, .int .i64 s.b, .int .i64 s.x, .int .i64 s.p, .int .i64 s.c] 54)).heap.size) := hidD (by rw [World.size_alloc]; omega)
    have hne : Hid (N + 1 + 1 < w1.heap.size) := hidD (by omega)
    have hm' := hidD hm
    have hZ' := hidD hZ
    clear X0 X1 X2 B0 B1 B2 HB HC0 HC1 HM h1 c1 hb1 hz HS r0 r1 r2 r3 r4 r5 r6 f0 f1 f2 f3 f4 f5 f6 hm hZ
    go_upto_region 5 with fail
    generalize w1.heap.size = A at *
    generalize (w1.alloc (.cells #[.int .i64 o.r, .int .i64 o.g, .int .i64 o.b, .int .i64 o.n, .int .i64 o.s, .int .i64 o.u, .bool o.o, .int .i64 s.w, .int .i64 s.m, .int .i64 s.l, .int .i64 s.b, .int .i64 s.x, .int .i64 s.p, .int .i64 s.c] 54)) = W3 at *
    clear p0 p1 p2 p3 p4 p5 p6 q0 q1 q2 q3 q4 q5 q6 HV2
    go_wp2_with fail
    go_loopw [27] (fun i wr => ∃ k : Nat, k ≤ n ∧ i = .int .i64 k ∧ Hid (Bo wr A (pL (Ou.recs o (l.take k)) s) 54) ∧ Hid (Bo wr (N + 1 + 1) (oL Ou.zero) 23) ∧ Hid (Below N w wr)) (fun i _ => n - (intOf i).toNat)
    case atStart => exact ⟨0, Nat.zero_le _, rfl, hidD (by rw [List.take_zero]; exact Y3.out), X3, hb2⟩
    case round =>
      clear X3 hb2 hs2
      obtain ⟨k, hk, rfl, hb, hx, hc⟩ := hrel
      by_cases hlt : k < n
      · obtain ⟨g, off, cap', e1, hg, hcell⟩ := gseg_at (by have := HL.out; omega) (HV.out.below (HN.out ▸ hc.out))
        rw [← HL.out] at e1
        cases e1
        have hq2 := hcell k (by have := HL.out; omega)
        have hmk := Ou.recs_may (l.take k) hm'.out
        have c := c2.out _ hmk (l.getD k false) _ _ hb.out
        rw [← Ou.recs_take o l k (by have := HL.out; omega)] at c
        have c' := hidD c
        clear hcell c hmk
        generalize l.getD k false = gd at *
        go_wp2_with fail
        with_reducible refine c'.out.mono ?_
        rintro e w5 ⟨rfl, b5, c5⟩
        have hb5 := hidD b5
        have hx5 := hidD (c5.bo (by have := hne.out; omega) hx.out)
        have hc5 := hidD (c5.below (B := N) (by have := hne.out; omega) (by have := hc.out.size; have := HN.out; omega) hc.out)
        clear b5 c5 c'
        clear hb hx hc
        go_wp2_with fail
        exact ⟨⟨k + 1, by omega, by go_num, hb5, hx5, hc5⟩, by simp [intOf]; omega⟩
      · have hkn : k = n := by omega
        subst hkn
        have hbk := hb.out
        rw [HL.out, List.take_length, ← hZ'.out] at hbk
        have X4 := hx.out
        have hb3 := hc.out
        have S := hidD (put7_bo z X4)
        have SB := hidD ((put7_cg wr (N + 1 + 1) z).below (B := N) (by omega) (by have := hb3.size; have := HN.out; omega) hb3)
        have t0 := hbk.cell 0 rfl
        have t1 := hbk.cell 1 rfl
        have t2 := hbk.cell 2 rfl
        have t3 := hbk.cell 3 rfl
        have t4 := hbk.cell 4 rfl
        have t5 := hbk.cell 5 rfl
        have t6 := hbk.cell 6 rfl
        have r0 := X4.cell 0 rfl
        have r1 := X4.cell 1 rfl
        have r2 := X4.cell 2 rfl
        have r3 := X4.cell 3 rfl
        have r4 := X4.cell 4 rfl
        have r5 := X4.cell 5 rfl
        have r6 := X4.cell 6 rfl
        have f0 := X4.frozen 0
        have f1 := X4.frozen 1
        have f2 := X4.frozen 2
        have f3 := X4.frozen 3
        have f4 := X4.frozen 4
        have f5 := X4.frozen 5
        have f6 := X4.frozen 6
        clear X4 hb3 hbk hb hx hc
        go_wp2_with fail
        refine bodyPost_ret (ret_cell1 rfl rfl S.out) rfl ?_
        exact ⟨rfl, SB.out⟩
  · have hZ := HC1.out hk
    subst hZ
    have hk1 : (k != 0) = true := by simp [hk]
    have S := hidD (put7_bo Ou.zero X2)
    have SB := hidD ((put7_cg w1 (N + 1 + 1) Ou.zero).below (B := N) (by omega) (by omega) hb1)
    clear X0 X1 X2 hb1 B0 B1 B2 HB HC0 HC1 hk h1 hz HS c1 c2
    go_wp2_with fail
    refine bodyPost_ret (ret_cell1 rfl rfl S.out) rfl ?_
    exact ⟨rfl, SB.out⟩
end Go.Proofs.Ytfjcilkllgaimaa
