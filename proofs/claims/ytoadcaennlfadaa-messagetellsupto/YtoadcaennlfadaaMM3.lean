/- message: needMayBe. -/
import Derived.Test.YtoadcaennlfadaaMM2
namespace Go.Proofs.Ytoadcaennlfadaa
open Go.RowKit
set_option maxRecDepth 20000

def okF (x : Mg) (k : Int) : Bool := (x.nums.getD k.toNat 0 == 0) || (usedP x.k).any (k == ·)
/-- What Check tells. -/
def ckM (x : Mg) (d : List Int) : Int :=
  if usedP x.k = [] then 23 else if x.nums.any badN = true then 4 else if 1024 < d.length then 5 else
  if okF x 0 && okF x 1 && okF x 2 && okF x 3 && okF x 4 && okF x 5 && okF x 6 && okF x 7 && okF x 8 && okF x 9 && (d.isEmpty || (usedP x.k).any (10 == ·)) then 0 else 9
def okTo (x : Mg) (k : Nat) : Prop := ∀ j : Nat, j < k → okF x j = true
theorem okTo_succ {x : Mg} {k : Nat} (h : okTo x k) (h2 : okF x k = true) : okTo x (k + 1) := fun j hj => by
  rcases Nat.lt_or_ge j k with h3 | h3
  · exact h j h3
  · rw [show j = k by omega]; exact h2
def endM (E : Int) : Ending := if E = 0 then .returned (.tuple #[]) else .panicked (errp E)

theorem ck_23 {x : Mg} {d : List Int} (h : usedP x.k = []) : ckM x d = 23 := by simp [ckM, h]
theorem ck_4 {x : Mg} {d : List Int} (h : usedP x.k ≠ []) (h2 : x.nums.any badN = true) : ckM x d = 4 := by unfold ckM; rw [if_neg h, if_pos h2]
theorem ck_5 {x : Mg} {d : List Int} (h : usedP x.k ≠ []) (h2 : x.nums.any badN = false) (h3 : 1024 < d.length) : ckM x d = 5 := by unfold ckM; rw [if_neg h, if_neg (by rw [h2]; simp), if_pos h3]
theorem ck_9 {x : Mg} {d : List Int} (h : usedP x.k ≠ []) (h2 : x.nums.any badN = false) (h3 : ¬ 1024 < d.length) (k : Nat) (hk : k < 10) (h4 : okF x k = false) : ckM x d = 9 := by
  unfold ckM
  rw [if_neg h, if_neg (by rw [h2]; simp), if_neg h3, if_neg]
  intro hh
  simp only [Bool.and_eq_true] at hh
  obtain ⟨⟨⟨⟨⟨⟨⟨⟨⟨⟨g0, g1⟩, g2⟩, g3⟩, g4⟩, g5⟩, g6⟩, g7⟩, g8⟩, g9⟩, _⟩ := hh
  have : k = 0 ∨ k = 1 ∨ k = 2 ∨ k = 3 ∨ k = 4 ∨ k = 5 ∨ k = 6 ∨ k = 7 ∨ k = 8 ∨ k = 9 := by omega
  rcases this with rfl | rfl | rfl | rfl | rfl | rfl | rfl | rfl | rfl | rfl <;> simp_all
theorem ck_9d {x : Mg} {d : List Int} (h : usedP x.k ≠ []) (h2 : x.nums.any badN = false) (h3 : ¬ 1024 < d.length) (h4 : d ≠ []) (h5 : (usedP x.k).any (10 == ·) = false) : ckM x d = 9 := by
  unfold ckM
  rw [if_neg h, if_neg (by rw [h2]; simp), if_neg h3, if_neg]
  rw [h5]
  simp [h4]
theorem ck_0 {x : Mg} {d : List Int} (h : usedP x.k ≠ []) (h2 : x.nums.any badN = false) (h3 : ¬ 1024 < d.length) (h4 : okTo x 10) (h5 : d = [] ∨ (usedP x.k).any (10 == ·) = true) : ckM x d = 0 := by
  unfold ckM
  rw [if_neg h, if_neg (by rw [h2]; simp), if_neg h3, if_pos]
  simp only [Bool.and_eq_true]
  refine ⟨⟨⟨⟨⟨⟨⟨⟨⟨⟨h4 0 (by omega), h4 1 (by omega)⟩, h4 2 (by omega)⟩, h4 3 (by omega)⟩, h4 4 (by omega)⟩, h4 5 (by omega)⟩, h4 6 (by omega)⟩, h4 7 (by omega)⟩, h4 8 (by omega)⟩, h4 9 (by omega)⟩, ?_⟩
  rcases h5 with rfl | h5
  · rfl
  · rw [h5]; simp

def Mg.cells (x : Mg) (v : Value) : List Value := [.int .i64 x.k, .int .i64 x.c, .int .i64 x.b, .int .i64 x.i, .int .i64 x.s, .int .i64 x.q, .int .i64 x.m, .int .i64 x.n, .int .i64 x.l, .int .i64 x.o, .int .i64 x.p, v]
/-- A box that holds a message. -/
def MBx (w : World) (b : Nat) (x : Mg) (v : Value) : Prop := Bx w b (x.cells v) 24
theorem MBx.facts {w : World} {b : Nat} {x : Mg} {v : Value} (h : MBx w b x v) : w.cell? ⟨b, 0, none⟩ = some (.int .i64 x.k) ∧ w.cell? ⟨b, 1, none⟩ = some (.int .i64 x.c) ∧ w.cell? ⟨b, 2, none⟩ = some (.int .i64 x.b) ∧ w.cell? ⟨b, 3, none⟩ = some (.int .i64 x.i) ∧ w.cell? ⟨b, 4, none⟩ = some (.int .i64 x.s) ∧ w.cell? ⟨b, 5, none⟩ = some (.int .i64 x.q) ∧ w.cell? ⟨b, 6, none⟩ = some (.int .i64 x.m) ∧ w.cell? ⟨b, 7, none⟩ = some (.int .i64 x.n) ∧ w.cell? ⟨b, 8, none⟩ = some (.int .i64 x.l) ∧ w.cell? ⟨b, 9, none⟩ = some (.int .i64 x.o) ∧ w.cell? ⟨b, 10, none⟩ = some (.int .i64 x.p) ∧ w.cell? ⟨b, 11, none⟩ = some v :=
  ⟨h.cell 0 rfl, h.cell 1 rfl, h.cell 2 rfl, h.cell 3 rfl, h.cell 4 rfl, h.cell 5 rfl, h.cell 6 rfl, h.cell 7 rfl, h.cell 8 rfl, h.cell 9 rfl, h.cell 10 rfl, h.cell 11 rfl⟩
theorem MBx.below {w w' : World} {b : Nat} {x : Mg} {v : Value} (h : MBx w b x v) (hb : Below w.heap.size w w') : MBx w' b x v := Bx.below h hb

/-- An array of ten numbers in a block of one's own, as a slice. -/
theorem seg_of_box {w : World} {b : Nat} {l : List Int} {T : TypeId} (h : Bx w b (l.map (Value.int .i64)) T) (hl : l.length ≤ 100) : Seg .i64 w (.slice (some ⟨b, 0, none⟩) l.length l.length) l := by
  refine ⟨some ⟨b, 0, none⟩, l.length, rfl, Nat.le_refl _, by unfold maxLen; omega, (fun h => by cases h), ?_⟩
  intro y hy i hi
  cases hy
  have := h.cell i (u := .int .i64 (l.getD i 0)) (by simp [List.getD, hi])
  rw [add_plain]
  simpa using this

theorem rix0 (x0 x1 x2 x3 x4 x5 x6 x7 x8 x9 : Value) (w : World) : (Instr.index 83 (.agg #[x0, x1, x2, x3, x4, x5, x6, x7, x8, x9]) (.int .i64 0)).run Try.prog w = .ok x0 w := by kernel_rfl
theorem rix1 (x0 x1 x2 x3 x4 x5 x6 x7 x8 x9 : Value) (w : World) : (Instr.index 83 (.agg #[x0, x1, x2, x3, x4, x5, x6, x7, x8, x9]) (.int .i64 1)).run Try.prog w = .ok x1 w := by kernel_rfl
theorem rix2 (x0 x1 x2 x3 x4 x5 x6 x7 x8 x9 : Value) (w : World) : (Instr.index 83 (.agg #[x0, x1, x2, x3, x4, x5, x6, x7, x8, x9]) (.int .i64 2)).run Try.prog w = .ok x2 w := by kernel_rfl
theorem rix3 (x0 x1 x2 x3 x4 x5 x6 x7 x8 x9 : Value) (w : World) : (Instr.index 83 (.agg #[x0, x1, x2, x3, x4, x5, x6, x7, x8, x9]) (.int .i64 3)).run Try.prog w = .ok x3 w := by kernel_rfl
theorem rix4 (x0 x1 x2 x3 x4 x5 x6 x7 x8 x9 : Value) (w : World) : (Instr.index 83 (.agg #[x0, x1, x2, x3, x4, x5, x6, x7, x8, x9]) (.int .i64 4)).run Try.prog w = .ok x4 w := by kernel_rfl
theorem rix5 (x0 x1 x2 x3 x4 x5 x6 x7 x8 x9 : Value) (w : World) : (Instr.index 83 (.agg #[x0, x1, x2, x3, x4, x5, x6, x7, x8, x9]) (.int .i64 5)).run Try.prog w = .ok x5 w := by kernel_rfl
theorem rix6 (x0 x1 x2 x3 x4 x5 x6 x7 x8 x9 : Value) (w : World) : (Instr.index 83 (.agg #[x0, x1, x2, x3, x4, x5, x6, x7, x8, x9]) (.int .i64 6)).run Try.prog w = .ok x6 w := by kernel_rfl
theorem rix7 (x0 x1 x2 x3 x4 x5 x6 x7 x8 x9 : Value) (w : World) : (Instr.index 83 (.agg #[x0, x1, x2, x3, x4, x5, x6, x7, x8, x9]) (.int .i64 7)).run Try.prog w = .ok x7 w := by kernel_rfl
theorem rix8 (x0 x1 x2 x3 x4 x5 x6 x7 x8 x9 : Value) (w : World) : (Instr.index 83 (.agg #[x0, x1, x2, x3, x4, x5, x6, x7, x8, x9]) (.int .i64 8)).run Try.prog w = .ok x8 w := by kernel_rfl
theorem rix9 (x0 x1 x2 x3 x4 x5 x6 x7 x8 x9 : Value) (w : World) : (Instr.index 83 (.agg #[x0, x1, x2, x3, x4, x5, x6, x7, x8, x9]) (.int .i64 9)).run Try.prog w = .ok x9 w := by kernel_rfl

set_option maxHeartbeats 8000000 in
theorem needMayBe_any (x : Mg) (v : Value) (d : List Int) (w : World) (hs : Seg .u8 w v d) : Calls Try.prog 44 #[x.val v] w fun e w' => e = endM (ckM x d) ∧ Below w.heap.size w w' := by
  have hu := usedBy_any x.k
  have hn := fun w => numbersOf_any x v w
  obtain ⟨a, cap, rfl, h1, h2, h3, h4⟩ := id hs
  unfold maxLen at h2
  have hnv : numV x.nums = .agg #[.int .i64 x.c, .int .i64 x.b, .int .i64 x.i, .int .i64 x.s, .int .i64 x.q, .int .i64 x.m, .int .i64 x.n, .int .i64 x.l, .int .i64 x.o, .int .i64 x.p] := rfl
  rw [hnv] at hn
  clear hnv h3 h4
  unfold Mg.val at hn ⊢
  have HD := hid (Eq.refl d.length)
  go_enter Try.func44, Try.ntmps44
  go_wp2_with fail
  refine (hu _).mono ?_
  rintro e w1 ⟨u, rfl, su, bu⟩
  have B1 : MBx w1 w.heap.size x (.slice a d.length cap) := Bx.below (Bx.new w (x.cells (.slice a d.length cap)) 24) bu
  have hb1 : Below w.heap.size w w1 := ((Below.refl _ w).alloc (Nat.le_refl _) _).trans (bu.mono (by simp))
  have hlt1 : w.heap.size < w1.heap.size := by have := bu.size; simp at this; omega
  obtain ⟨ua, ucap, rfl, u1, u2, u3, u4⟩ := id su
  unfold maxLen at u2
  clear u3 u4 bu hu
  by_cases hE : usedP x.k = []
  · have HCK := hid (ck_23 (d := d) hE)
    have hl0 : (usedP x.k).length = 0 := by rw [hE]; rfl
    rw [hl0]
    have hne := mneed_false 23
    go_wp2_with fail
    refine (hne _).mono ?_
    rintro e w2 ⟨rfl, rfl⟩
    exact ⟨rfl, by rw [HCK.out]; rfl, hb1⟩
  have HE := hid hE
  have hlp : 0 < (usedP x.k).length := List.length_pos_iff.2 hE
  have SU := hid su
  clear su hE
  generalize hUL : (usedP x.k).length = UL at *
  have hn1 := mneed_true 23
  go_wp2_with fail
  refine (hn1 _).mono ?_
  rintro e w2 ⟨rfl, rfl⟩
  obtain ⟨c0, c1, c2, c3, c4, c5, c6, c7, c8, c9, c10, c11⟩ := B1.facts
  go_wp2_with fail
  refine (hn _).mono ?_
  rintro e w3 ⟨rfl, b3⟩
  clear c0 c1 c2 c3 c4 c5 c6 c7 c8 c9 c10 c11 hn
  have B3 : MBx w3 w.heap.size x (.slice a d.length cap) := B1.below b3
  have hb3 : Below w.heap.size w w3 := hb1.trans (b3.mono hb1.size)
  have SU3 := hid (SU.out.below b3)
  have hlt3 : w.heap.size < w3.heap.size := by have := b3.size; omega
  clear SU B1 b3 hb1 hlt1
  have L4 := Bx.new w3 (x.nums.map (Value.int .i64)) 83
  have hcf := mcontainsFunc_any _ x.nums _ (seg_of_box L4 (by simp [Mg.nums]))
  have hal : Below w3.heap.size w3 (w3.alloc (.cells ⟨x.nums.map (Value.int .i64)⟩ 83)) := (Below.refl _ w3).alloc (Nat.le_refl _) _
  go_wp2_with fail
  refine hcf.mono ?_
  rintro e w4 ⟨rfl, hW⟩
  have LB : Bx w4 w3.heap.size (x.nums.map (Value.int .i64)) 83 := by rw [hW]; exact L4
  have B4 : MBx w4 w.heap.size x (.slice a d.length cap) := by rw [hW]; exact B3.below hal
  have hb4 : Below w.heap.size w w4 := by rw [hW]; exact hb3.trans (hal.mono hb3.size)
  have SU4 : Hid (Seg IntKind.i64 w4 (Value.slice ua UL ucap) (usedP x.k)) := by rw [hW]; exact SU3.out.below hal
  clear hW hcf L4 hal SU3 B3 hb3
  generalize w3.heap.size = b3 at *
  by_cases hR : x.nums.any badN = true
  · have HCK := hid (ck_4 (d := d) HE.out hR)
    rw [hR]
    have hne := mneed_false 4
    go_wp2_with fail
    refine (hne _).mono ?_
    rintro e w5 ⟨rfl, rfl⟩
    exact ⟨rfl, by rw [HCK.out]; rfl, hb4⟩
  rw [Bool.not_eq_true] at hR
  have HR := hid hR
  rw [hR]
  clear hR
  have hn4 := mneed_true 4
  go_wp2_with fail
  refine (hn4 _).mono ?_
  rintro e w5 ⟨rfl, rfl⟩
  have c11 := B4.facts.2.2.2.2.2.2.2.2.2.2.2
  by_cases hL : 1024 < d.length
  · have HCK := hid (ck_5 HE.out HR.out hL)
    have hne := mneed_false 5
    have hde : decide ((d.length : Int) ≤ 1024) = false := by simp; omega
    go_wp2_with fail
    refine (hne _).mono ?_
    rintro e w6 ⟨rfl, rfl⟩
    exact ⟨rfl, by rw [HCK.out]; rfl, hb4⟩
  have hn5 := mneed_true 5
  have hde : decide ((d.length : Int) ≤ 1024) = true := by simp; omega
  go_wp2_with fail
  refine (hn5 _).mono ?_
  rintro e w6 ⟨rfl, rfl⟩
  have HL := hid hL
  have l0 : w6.cell? ⟨b3, 0, none⟩ = some (.int .i64 x.c) := LB.cell 0 rfl
  have l1 : w6.cell? ⟨b3, 1, none⟩ = some (.int .i64 x.b) := LB.cell 1 rfl
  have l2 : w6.cell? ⟨b3, 2, none⟩ = some (.int .i64 x.i) := LB.cell 2 rfl
  have l3 : w6.cell? ⟨b3, 3, none⟩ = some (.int .i64 x.s) := LB.cell 3 rfl
  have l4 : w6.cell? ⟨b3, 4, none⟩ = some (.int .i64 x.q) := LB.cell 4 rfl
  have l5 : w6.cell? ⟨b3, 5, none⟩ = some (.int .i64 x.m) := LB.cell 5 rfl
  have l6 : w6.cell? ⟨b3, 6, none⟩ = some (.int .i64 x.n) := LB.cell 6 rfl
  have l7 : w6.cell? ⟨b3, 7, none⟩ = some (.int .i64 x.l) := LB.cell 7 rfl
  have l8 : w6.cell? ⟨b3, 8, none⟩ = some (.int .i64 x.o) := LB.cell 8 rfl
  have l9 : w6.cell? ⟨b3, 9, none⟩ = some (.int .i64 x.p) := LB.cell 9 rfl
  go_wp2_with fail
  go_loopw [25] (fun i wr => ∃ k : Nat, k ≤ 10 ∧ i = .int .i64 k ∧ Hid (okTo x k) ∧ w6 = wr) (fun i _ => 10 - (intOf i).toNat)
  case atStart => exact ⟨0, Nat.zero_le _, rfl, (fun j hj => by omega), rfl⟩
  case round =>
    obtain ⟨k, hk, rfl, hc, rfl⟩ := hrel
    clear l0 l1 l2 l3 l4 l5 l6 l7 l8 l9
    by_cases hlt : k < 10
    · have hco := fun y => mcontains_any _ y _ _ SU4.out
      have hk9 : k = 0 ∨ k = 1 ∨ k = 2 ∨ k = 3 ∨ k = 4 ∨ k = 5 ∨ k = 6 ∨ k = 7 ∨ k = 8 ∨ k = 9 := by omega
      have hn9 := mneed_true 9
      have hf9 := mneed_false 9
      clear hk
      rcases hk9 with rfl | rfl | rfl | rfl | rfl | rfl | rfl | rfl | rfl | rfl
      · have hix := rix0
        have HO := hid (show okF x ((0 : Nat) : Int) = ((x.c == 0) || (usedP x.k).any (0 == ·)) from rfl)
        have HS := hid (okTo_succ (x := x) (k := 0))
        have hcj := hco 0
        by_cases hz : x.c = 0
        · have hzb : (x.c == 0) = true := by simp [hz]
          clear hz
          go_wp2_with fail
          refine (hn9 _).mono ?_
          rintro e w7 ⟨rfl, rfl⟩
          have hc2 : Hid (okTo x (0 + 1)) := HS.out hc.out (by rw [HO.out, hzb]; rfl)
          clear hc
          go_wp2
          go_roundw
          case rel => exact ⟨0 + 1, by omega, by go_num, hc2, (by first | rfl | trivial)⟩
          case measure => simp [intOf]
        · have hzb : (x.c == 0) = false := by simp [hz]
          clear hz
          cases hb : (usedP x.k).any (0 == ·) with
          | false =>
            rw [hb] at hcj
            have HCK := hid (ck_9 (d := d) HE.out HR.out HL.out 0 (by omega) (by rw [HO.out, hzb, hb]; rfl))
            clear hc
            go_wp2_with fail
            refine hcj.mono ?_
            rintro e w7 ⟨rfl, rfl⟩
            go_wp2_with fail
            refine (hf9 _).mono ?_
            rintro e w8 ⟨rfl, rfl⟩
            exact ⟨rfl, by rw [HCK.out]; rfl, hb4⟩
          | true =>
            rw [hb] at hcj
            have hc2 : Hid (okTo x (0 + 1)) := HS.out hc.out (by rw [HO.out, hb]; simp)
            clear hc
            go_wp2_with fail
            refine hcj.mono ?_
            rintro e w7 ⟨rfl, rfl⟩
            go_wp2_with fail
            refine (hn9 _).mono ?_
            rintro e w8 ⟨rfl, rfl⟩
            go_wp2
            go_roundw
            case rel => exact ⟨0 + 1, by omega, by go_num, hc2, (by first | rfl | trivial)⟩
            case measure => simp [intOf]
      · have hix := rix1
        have HO := hid (show okF x ((1 : Nat) : Int) = ((x.b == 0) || (usedP x.k).any (1 == ·)) from rfl)
        have HS := hid (okTo_succ (x := x) (k := 1))
        have hcj := hco 1
        by_cases hz : x.b = 0
        · have hzb : (x.b == 0) = true := by simp [hz]
          clear hz
          go_wp2_with fail
          refine (hn9 _).mono ?_
          rintro e w7 ⟨rfl, rfl⟩
          have hc2 : Hid (okTo x (1 + 1)) := HS.out hc.out (by rw [HO.out, hzb]; rfl)
          clear hc
          go_wp2
          go_roundw
          case rel => exact ⟨1 + 1, by omega, by go_num, hc2, (by first | rfl | trivial)⟩
          case measure => simp [intOf]
        · have hzb : (x.b == 0) = false := by simp [hz]
          clear hz
          cases hb : (usedP x.k).any (1 == ·) with
          | false =>
            rw [hb] at hcj
            have HCK := hid (ck_9 (d := d) HE.out HR.out HL.out 1 (by omega) (by rw [HO.out, hzb, hb]; rfl))
            clear hc
            go_wp2_with fail
            refine hcj.mono ?_
            rintro e w7 ⟨rfl, rfl⟩
            go_wp2_with fail
            refine (hf9 _).mono ?_
            rintro e w8 ⟨rfl, rfl⟩
            exact ⟨rfl, by rw [HCK.out]; rfl, hb4⟩
          | true =>
            rw [hb] at hcj
            have hc2 : Hid (okTo x (1 + 1)) := HS.out hc.out (by rw [HO.out, hb]; simp)
            clear hc
            go_wp2_with fail
            refine hcj.mono ?_
            rintro e w7 ⟨rfl, rfl⟩
            go_wp2_with fail
            refine (hn9 _).mono ?_
            rintro e w8 ⟨rfl, rfl⟩
            go_wp2
            go_roundw
            case rel => exact ⟨1 + 1, by omega, by go_num, hc2, (by first | rfl | trivial)⟩
            case measure => simp [intOf]
      · have hix := rix2
        have HO := hid (show okF x ((2 : Nat) : Int) = ((x.i == 0) || (usedP x.k).any (2 == ·)) from rfl)
        have HS := hid (okTo_succ (x := x) (k := 2))
        have hcj := hco 2
        by_cases hz : x.i = 0
        · have hzb : (x.i == 0) = true := by simp [hz]
          clear hz
          go_wp2_with fail
          refine (hn9 _).mono ?_
          rintro e w7 ⟨rfl, rfl⟩
          have hc2 : Hid (okTo x (2 + 1)) := HS.out hc.out (by rw [HO.out, hzb]; rfl)
          clear hc
          go_wp2
          go_roundw
          case rel => exact ⟨2 + 1, by omega, by go_num, hc2, (by first | rfl | trivial)⟩
          case measure => simp [intOf]
        · have hzb : (x.i == 0) = false := by simp [hz]
          clear hz
          cases hb : (usedP x.k).any (2 == ·) with
          | false =>
            rw [hb] at hcj
            have HCK := hid (ck_9 (d := d) HE.out HR.out HL.out 2 (by omega) (by rw [HO.out, hzb, hb]; rfl))
            clear hc
            go_wp2_with fail
            refine hcj.mono ?_
            rintro e w7 ⟨rfl, rfl⟩
            go_wp2_with fail
            refine (hf9 _).mono ?_
            rintro e w8 ⟨rfl, rfl⟩
            exact ⟨rfl, by rw [HCK.out]; rfl, hb4⟩
          | true =>
            rw [hb] at hcj
            have hc2 : Hid (okTo x (2 + 1)) := HS.out hc.out (by rw [HO.out, hb]; simp)
            clear hc
            go_wp2_with fail
            refine hcj.mono ?_
            rintro e w7 ⟨rfl, rfl⟩
            go_wp2_with fail
            refine (hn9 _).mono ?_
            rintro e w8 ⟨rfl, rfl⟩
            go_wp2
            go_roundw
            case rel => exact ⟨2 + 1, by omega, by go_num, hc2, (by first | rfl | trivial)⟩
            case measure => simp [intOf]
      · have hix := rix3
        have HO := hid (show okF x ((3 : Nat) : Int) = ((x.s == 0) || (usedP x.k).any (3 == ·)) from rfl)
        have HS := hid (okTo_succ (x := x) (k := 3))
        have hcj := hco 3
        by_cases hz : x.s = 0
        · have hzb : (x.s == 0) = true := by simp [hz]
          clear hz
          go_wp2_with fail
          refine (hn9 _).mono ?_
          rintro e w7 ⟨rfl, rfl⟩
          have hc2 : Hid (okTo x (3 + 1)) := HS.out hc.out (by rw [HO.out, hzb]; rfl)
          clear hc
          go_wp2
          go_roundw
          case rel => exact ⟨3 + 1, by omega, by go_num, hc2, (by first | rfl | trivial)⟩
          case measure => simp [intOf]
        · have hzb : (x.s == 0) = false := by simp [hz]
          clear hz
          cases hb : (usedP x.k).any (3 == ·) with
          | false =>
            rw [hb] at hcj
            have HCK := hid (ck_9 (d := d) HE.out HR.out HL.out 3 (by omega) (by rw [HO.out, hzb, hb]; rfl))
            clear hc
            go_wp2_with fail
            refine hcj.mono ?_
            rintro e w7 ⟨rfl, rfl⟩
            go_wp2_with fail
            refine (hf9 _).mono ?_
            rintro e w8 ⟨rfl, rfl⟩
            exact ⟨rfl, by rw [HCK.out]; rfl, hb4⟩
          | true =>
            rw [hb] at hcj
            have hc2 : Hid (okTo x (3 + 1)) := HS.out hc.out (by rw [HO.out, hb]; simp)
            clear hc
            go_wp2_with fail
            refine hcj.mono ?_
            rintro e w7 ⟨rfl, rfl⟩
            go_wp2_with fail
            refine (hn9 _).mono ?_
            rintro e w8 ⟨rfl, rfl⟩
            go_wp2
            go_roundw
            case rel => exact ⟨3 + 1, by omega, by go_num, hc2, (by first | rfl | trivial)⟩
            case measure => simp [intOf]
      · have hix := rix4
        have HO := hid (show okF x ((4 : Nat) : Int) = ((x.q == 0) || (usedP x.k).any (4 == ·)) from rfl)
        have HS := hid (okTo_succ (x := x) (k := 4))
        have hcj := hco 4
        by_cases hz : x.q = 0
        · have hzb : (x.q == 0) = true := by simp [hz]
          clear hz
          go_wp2_with fail
          refine (hn9 _).mono ?_
          rintro e w7 ⟨rfl, rfl⟩
          have hc2 : Hid (okTo x (4 + 1)) := HS.out hc.out (by rw [HO.out, hzb]; rfl)
          clear hc
          go_wp2
          go_roundw
          case rel => exact ⟨4 + 1, by omega, by go_num, hc2, (by first | rfl | trivial)⟩
          case measure => simp [intOf]
        · have hzb : (x.q == 0) = false := by simp [hz]
          clear hz
          cases hb : (usedP x.k).any (4 == ·) with
          | false =>
            rw [hb] at hcj
            have HCK := hid (ck_9 (d := d) HE.out HR.out HL.out 4 (by omega) (by rw [HO.out, hzb, hb]; rfl))
            clear hc
            go_wp2_with fail
            refine hcj.mono ?_
            rintro e w7 ⟨rfl, rfl⟩
            go_wp2_with fail
            refine (hf9 _).mono ?_
            rintro e w8 ⟨rfl, rfl⟩
            exact ⟨rfl, by rw [HCK.out]; rfl, hb4⟩
          | true =>
            rw [hb] at hcj
            have hc2 : Hid (okTo x (4 + 1)) := HS.out hc.out (by rw [HO.out, hb]; simp)
            clear hc
            go_wp2_with fail
            refine hcj.mono ?_
            rintro e w7 ⟨rfl, rfl⟩
            go_wp2_with fail
            refine (hn9 _).mono ?_
            rintro e w8 ⟨rfl, rfl⟩
            go_wp2
            go_roundw
            case rel => exact ⟨4 + 1, by omega, by go_num, hc2, (by first | rfl | trivial)⟩
            case measure => simp [intOf]
      · have hix := rix5
        have HO := hid (show okF x ((5 : Nat) : Int) = ((x.m == 0) || (usedP x.k).any (5 == ·)) from rfl)
        have HS := hid (okTo_succ (x := x) (k := 5))
        have hcj := hco 5
        by_cases hz : x.m = 0
        · have hzb : (x.m == 0) = true := by simp [hz]
          clear hz
          go_wp2_with fail
          refine (hn9 _).mono ?_
          rintro e w7 ⟨rfl, rfl⟩
          have hc2 : Hid (okTo x (5 + 1)) := HS.out hc.out (by rw [HO.out, hzb]; rfl)
          clear hc
          go_wp2
          go_roundw
          case rel => exact ⟨5 + 1, by omega, by go_num, hc2, (by first | rfl | trivial)⟩
          case measure => simp [intOf]
        · have hzb : (x.m == 0) = false := by simp [hz]
          clear hz
          cases hb : (usedP x.k).any (5 == ·) with
          | false =>
            rw [hb] at hcj
            have HCK := hid (ck_9 (d := d) HE.out HR.out HL.out 5 (by omega) (by rw [HO.out, hzb, hb]; rfl))
            clear hc
            go_wp2_with fail
            refine hcj.mono ?_
            rintro e w7 ⟨rfl, rfl⟩
            go_wp2_with fail
            refine (hf9 _).mono ?_
            rintro e w8 ⟨rfl, rfl⟩
            exact ⟨rfl, by rw [HCK.out]; rfl, hb4⟩
          | true =>
            rw [hb] at hcj
            have hc2 : Hid (okTo x (5 + 1)) := HS.out hc.out (by rw [HO.out, hb]; simp)
            clear hc
            go_wp2_with fail
            refine hcj.mono ?_
            rintro e w7 ⟨rfl, rfl⟩
            go_wp2_with fail
            refine (hn9 _).mono ?_
            rintro e w8 ⟨rfl, rfl⟩
            go_wp2
            go_roundw
            case rel => exact ⟨5 + 1, by omega, by go_num, hc2, (by first | rfl | trivial)⟩
            case measure => simp [intOf]
      · have hix := rix6
        have HO := hid (show okF x ((6 : Nat) : Int) = ((x.n == 0) || (usedP x.k).any (6 == ·)) from rfl)
        have HS := hid (okTo_succ (x := x) (k := 6))
        have hcj := hco 6
        by_cases hz : x.n = 0
        · have hzb : (x.n == 0) = true := by simp [hz]
          clear hz
          go_wp2_with fail
          refine (hn9 _).mono ?_
          rintro e w7 ⟨rfl, rfl⟩
          have hc2 : Hid (okTo x (6 + 1)) := HS.out hc.out (by rw [HO.out, hzb]; rfl)
          clear hc
          go_wp2
          go_roundw
          case rel => exact ⟨6 + 1, by omega, by go_num, hc2, (by first | rfl | trivial)⟩
          case measure => simp [intOf]
        · have hzb : (x.n == 0) = false := by simp [hz]
          clear hz
          cases hb : (usedP x.k).any (6 == ·) with
          | false =>
            rw [hb] at hcj
            have HCK := hid (ck_9 (d := d) HE.out HR.out HL.out 6 (by omega) (by rw [HO.out, hzb, hb]; rfl))
            clear hc
            go_wp2_with fail
            refine hcj.mono ?_
            rintro e w7 ⟨rfl, rfl⟩
            go_wp2_with fail
            refine (hf9 _).mono ?_
            rintro e w8 ⟨rfl, rfl⟩
            exact ⟨rfl, by rw [HCK.out]; rfl, hb4⟩
          | true =>
            rw [hb] at hcj
            have hc2 : Hid (okTo x (6 + 1)) := HS.out hc.out (by rw [HO.out, hb]; simp)
            clear hc
            go_wp2_with fail
            refine hcj.mono ?_
            rintro e w7 ⟨rfl, rfl⟩
            go_wp2_with fail
            refine (hn9 _).mono ?_
            rintro e w8 ⟨rfl, rfl⟩
            go_wp2
            go_roundw
            case rel => exact ⟨6 + 1, by omega, by go_num, hc2, (by first | rfl | trivial)⟩
            case measure => simp [intOf]
      · have hix := rix7
        have HO := hid (show okF x ((7 : Nat) : Int) = ((x.l == 0) || (usedP x.k).any (7 == ·)) from rfl)
        have HS := hid (okTo_succ (x := x) (k := 7))
        have hcj := hco 7
        by_cases hz : x.l = 0
        · have hzb : (x.l == 0) = true := by simp [hz]
          clear hz
          go_wp2_with fail
          refine (hn9 _).mono ?_
          rintro e w7 ⟨rfl, rfl⟩
          have hc2 : Hid (okTo x (7 + 1)) := HS.out hc.out (by rw [HO.out, hzb]; rfl)
          clear hc
          go_wp2
          go_roundw
          case rel => exact ⟨7 + 1, by omega, by go_num, hc2, (by first | rfl | trivial)⟩
          case measure => simp [intOf]
        · have hzb : (x.l == 0) = false := by simp [hz]
          clear hz
          cases hb : (usedP x.k).any (7 == ·) with
          | false =>
            rw [hb] at hcj
            have HCK := hid (ck_9 (d := d) HE.out HR.out HL.out 7 (by omega) (by rw [HO.out, hzb, hb]; rfl))
            clear hc
            go_wp2_with fail
            refine hcj.mono ?_
            rintro e w7 ⟨rfl, rfl⟩
            go_wp2_with fail
            refine (hf9 _).mono ?_
            rintro e w8 ⟨rfl, rfl⟩
            exact ⟨rfl, by rw [HCK.out]; rfl, hb4⟩
          | true =>
            rw [hb] at hcj
            have hc2 : Hid (okTo x (7 + 1)) := HS.out hc.out (by rw [HO.out, hb]; simp)
            clear hc
            go_wp2_with fail
            refine hcj.mono ?_
            rintro e w7 ⟨rfl, rfl⟩
            go_wp2_with fail
            refine (hn9 _).mono ?_
            rintro e w8 ⟨rfl, rfl⟩
            go_wp2
            go_roundw
            case rel => exact ⟨7 + 1, by omega, by go_num, hc2, (by first | rfl | trivial)⟩
            case measure => simp [intOf]
      · have hix := rix8
        have HO := hid (show okF x ((8 : Nat) : Int) = ((x.o == 0) || (usedP x.k).any (8 == ·)) from rfl)
        have HS := hid (okTo_succ (x := x) (k := 8))
        have hcj := hco 8
        by_cases hz : x.o = 0
        · have hzb : (x.o == 0) = true := by simp [hz]
          clear hz
          go_wp2_with fail
          refine (hn9 _).mono ?_
          rintro e w7 ⟨rfl, rfl⟩
          have hc2 : Hid (okTo x (8 + 1)) := HS.out hc.out (by rw [HO.out, hzb]; rfl)
          clear hc
          go_wp2
          go_roundw
          case rel => exact ⟨8 + 1, by omega, by go_num, hc2, (by first | rfl | trivial)⟩
          case measure => simp [intOf]
        · have hzb : (x.o == 0) = false := by simp [hz]
          clear hz
          cases hb : (usedP x.k).any (8 == ·) with
          | false =>
            rw [hb] at hcj
            have HCK := hid (ck_9 (d := d) HE.out HR.out HL.out 8 (by omega) (by rw [HO.out, hzb, hb]; rfl))
            clear hc
            go_wp2_with fail
            refine hcj.mono ?_
            rintro e w7 ⟨rfl, rfl⟩
            go_wp2_with fail
            refine (hf9 _).mono ?_
            rintro e w8 ⟨rfl, rfl⟩
            exact ⟨rfl, by rw [HCK.out]; rfl, hb4⟩
          | true =>
            rw [hb] at hcj
            have hc2 : Hid (okTo x (8 + 1)) := HS.out hc.out (by rw [HO.out, hb]; simp)
            clear hc
            go_wp2_with fail
            refine hcj.mono ?_
            rintro e w7 ⟨rfl, rfl⟩
            go_wp2_with fail
            refine (hn9 _).mono ?_
            rintro e w8 ⟨rfl, rfl⟩
            go_wp2
            go_roundw
            case rel => exact ⟨8 + 1, by omega, by go_num, hc2, (by first | rfl | trivial)⟩
            case measure => simp [intOf]
      · have hix := rix9
        have HO := hid (show okF x ((9 : Nat) : Int) = ((x.p == 0) || (usedP x.k).any (9 == ·)) from rfl)
        have HS := hid (okTo_succ (x := x) (k := 9))
        have hcj := hco 9
        by_cases hz : x.p = 0
        · have hzb : (x.p == 0) = true := by simp [hz]
          clear hz
          go_wp2_with fail
          refine (hn9 _).mono ?_
          rintro e w7 ⟨rfl, rfl⟩
          have hc2 : Hid (okTo x (9 + 1)) := HS.out hc.out (by rw [HO.out, hzb]; rfl)
          clear hc
          go_wp2
          go_roundw
          case rel => exact ⟨9 + 1, by omega, by go_num, hc2, (by first | rfl | trivial)⟩
          case measure => simp [intOf]
        · have hzb : (x.p == 0) = false := by simp [hz]
          clear hz
          cases hb : (usedP x.k).any (9 == ·) with
          | false =>
            rw [hb] at hcj
            have HCK := hid (ck_9 (d := d) HE.out HR.out HL.out 9 (by omega) (by rw [HO.out, hzb, hb]; rfl))
            clear hc
            go_wp2_with fail
            refine hcj.mono ?_
            rintro e w7 ⟨rfl, rfl⟩
            go_wp2_with fail
            refine (hf9 _).mono ?_
            rintro e w8 ⟨rfl, rfl⟩
            exact ⟨rfl, by rw [HCK.out]; rfl, hb4⟩
          | true =>
            rw [hb] at hcj
            have hc2 : Hid (okTo x (9 + 1)) := HS.out hc.out (by rw [HO.out, hb]; simp)
            clear hc
            go_wp2_with fail
            refine hcj.mono ?_
            rintro e w7 ⟨rfl, rfl⟩
            go_wp2_with fail
            refine (hn9 _).mono ?_
            rintro e w8 ⟨rfl, rfl⟩
            go_wp2
            go_roundw
            case rel => exact ⟨9 + 1, by omega, by go_num, hc2, (by first | rfl | trivial)⟩
            case measure => simp [intOf]
    · have hke : k = 10 := by omega
      subst hke
      have c11' := B4.facts.2.2.2.2.2.2.2.2.2.2.2
      have hcj := mcontains_any _ 10 _ _ SU4.out
      have hn9 := mneed_true 9
      have hf9 := mneed_false 9
      by_cases hd : d = []
      · have HCK := hid (ck_0 HE.out HR.out HL.out hc.out (.inl hd))
        have hdl : d.length = 0 := by rw [hd]; rfl
        clear hc
        go_wp2_with fail
        refine (hn9 _).mono ?_
        rintro e w7 ⟨rfl, rfl⟩
        go_wp2
        go_end0
        exact ⟨by rw [HCK.out]; rfl, hb4⟩
      · have hdl : ((d.length : Int) == 0) = false := by simp [hd]
        cases hb : (usedP x.k).any (10 == ·) with
        | false =>
          have HCK := hid (ck_9d HE.out HR.out HL.out hd hb)
          rw [hb] at hcj
          clear hc
          go_wp2_with fail
          refine hcj.mono ?_
          rintro e w7 ⟨rfl, rfl⟩
          go_wp2_with fail
          refine (hf9 _).mono ?_
          rintro e w8 ⟨rfl, rfl⟩
          exact ⟨rfl, by rw [HCK.out]; rfl, hb4⟩
        | true =>
          have HCK := hid (ck_0 HE.out HR.out HL.out hc.out (.inr hb))
          rw [hb] at hcj
          clear hc
          go_wp2_with fail
          refine hcj.mono ?_
          rintro e w7 ⟨rfl, rfl⟩
          go_wp2_with fail
          refine (hn9 _).mono ?_
          rintro e w8 ⟨rfl, rfl⟩
          go_wp2
          go_end0
          exact ⟨by rw [HCK.out]; rfl, hb4⟩
end Go.Proofs.Ytoadcaennlfadaa
