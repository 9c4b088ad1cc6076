/- waybillref09: used. -/
import Derived.Test.YtoadcaennlfadaaRF2
namespace Go.Proofs.Ytoadcaennlfadaa
open Go.RowKit
set_option maxRecDepth 20000

def usN (ns : List Int) : List Nat → List Int → List Int
  | [], acc => acc
  | c :: r, acc => usN ns r (if c = 100 then acc else acc.set (plc c).toNat (ns.getD (plc c).toNat 0))
def usT (d : List Int) : List Nat → List Int → List Int
  | [], t => t
  | c :: r, t => usT d r (if c = 100 then d else t)
def acc0 (x : Mg) : List Int := [0, x.b, 0, 0, 0, 0, 0, 0, 0, 0]

theorem form_len {k : Int} (h : 1 ≤ k ∧ k ≤ 8) : (formL k).length ≤ 7 := by
  rcases kinds8 h with rfl | rfl | rfl | rfl | rfl | rfl | rfl | rfl <;> decide
theorem form_let {k : Int} (h : 1 ≤ k ∧ k ≤ 8) (i : Nat) (hi : i < (formL k).length) : (formL k).getD i 0 = 100 ∨ ((formL k).getD i 0 = 99 ∨ (formL k).getD i 0 = 98 ∨ (formL k).getD i 0 = 105 ∨ (formL k).getD i 0 = 115 ∨ (formL k).getD i 0 = 113 ∨ (formL k).getD i 0 = 109 ∨ (formL k).getD i 0 = 110 ∨ (formL k).getD i 0 = 108 ∨ (formL k).getD i 0 = 111 ∨ (formL k).getD i 0 = 112) := by
  have hl := form_len h
  have h8 : i = 0 ∨ i = 1 ∨ i = 2 ∨ i = 3 ∨ i = 4 ∨ i = 5 ∨ i = 6 := by omega
  rcases kinds8 h with rfl | rfl | rfl | rfl | rfl | rfl | rfl | rfl <;> rcases h8 with rfl | rfl | rfl | rfl | rfl | rfl | rfl <;> first | decide | (exfalso; revert hi; decide)
theorem ix_form {k : Int} (h : 1 ≤ k ∧ k ≤ 8) (i : Nat) (hi : i < (formL k).length) (w : World) : (Instr.index 9 (.string (strL (formL k))) (.int .i64 i)).run Try.prog w = .ok (.int .u8 ((formL k).getD i 0 : Nat)) w := by
  have hl := form_len h
  have h8 : i = 0 ∨ i = 1 ∨ i = 2 ∨ i = 3 ∨ i = 4 ∨ i = 5 ∨ i = 6 := by omega
  rcases kinds8 h with rfl | rfl | rfl | rfl | rfl | rfl | rfl | rfl <;> rcases h8 with rfl | rfl | rfl | rfl | rfl | rfl | rfl <;> first | (exfalso; revert hi; decide) | (clear hi hl h; kernel_rfl) | (clear hi hl h; rfl)
theorem form_size {k : Int} (h : 1 ≤ k ∧ k ≤ 8) : (strL (formL k)).size = (formL k).length := by
  rcases kinds8 h with rfl | rfl | rfl | rfl | rfl | rfl | rfl | rfl <;> kernel_rfl
theorem drop_consN {l : List Nat} {k : Nat} (h : k < l.length) : l.drop k = l.getD k 0 :: l.drop (k + 1) := by
  rw [List.drop_eq_getElem_cons h]
  simp [List.getD, h]

structure UTk (w1 wr : World) (ob : Nat) (kd : Int) (acc t : List Int) (tv : Value) : Prop where
  ch : Ch (Xn ob) w1 wr
  box : MBn wr ob kd acc tv
  len : acc.length = 10
  own : wr.ownsRow w1.heap.size 5 1 tv t.length (u8s t)

theorem UTk.drew {w1 wr : World} {ob : Nat} {kd : Int} {acc t : List Int} {tv : Value} (h : UTk w1 wr ob kd acc t tv) (n : Nat) : UTk w1 (wr.drewN n) ob kd acc t tv :=
  ⟨h.ch.trans (Ch.drewN _ _), Bx.below h.box (below_drewN (Below.refl _ _) n), h.len, ownsRow_below h.own (below_drewN (Below.refl _ _) n)⟩
theorem UTk.num {w1 wr : World} {ob : Nat} {kd : Int} {acc t : List Int} {tv : Value} (h : UTk w1 wr ob kd acc t tv) (ho : ob < w1.heap.size) (j : Nat) (hj : j < 10) (m : Int) : UTk w1 (wr.setCell ⟨ob, j + 1, none⟩ (.int .i64 m)) ob kd (acc.set j m) t tv :=
  ⟨h.ch.trans (Ch.set h.box rfl _), MBn.set h.box j (by rw [h.len]; exact hj) m, by rw [List.length_set]; exact h.len, ownsRow_setCell_other h.own (fun he => by have := (h.own.lt _ he).1; simp at this; omega) _⟩

theorem ret_used {W : World} {tmps : Array Value} {b : Nat} {x : Mg} {v : Value} (ht : tmps.getD 2 undef = .pointer (some ⟨b, 0, none⟩)) (hB : MBx W b x v) :
    (results Try.f46 tmps).run Try.prog W = .ok (x.val v) W := by
  rw [Array.getD_eq_getD_getElem?] at ht
  obtain ⟨c0, c1, c2, c3, c4, c5, c6, c7, c8, c9, c10, c11⟩ := hB.facts
  simp [results, Try.results46, Mg.val]
  go_simp

theorem mb_num {w : World} {b : Nat} {x : Mg} {v : Value} (h : MBx w b x v) (j : Nat) (hj : j < 10) : w.cell? ⟨b, j + 1, none⟩ = some (.int .i64 (x.nums.getD j 0)) := by
  have : j = 0 ∨ j = 1 ∨ j = 2 ∨ j = 3 ∨ j = 4 ∨ j = 5 ∨ j = 6 ∨ j = 7 ∨ j = 8 ∨ j = 9 := by omega
  obtain ⟨c0, c1, c2, c3, c4, c5, c6, c7, c8, c9, c10, c11⟩ := h.facts
  rcases this with rfl | rfl | rfl | rfl | rfl | rfl | rfl | rfl | rfl | rfl <;> assumption

set_option maxHeartbeats 8000000 in
theorem used_any (x : Mg) (v : Value) (d : List Int) (w : World) (hs : Seg .u8 w v d) (hd : d.length ≤ 1024) (hk : 1 ≤ x.k ∧ x.k ≤ 8) :
    Calls Try.prog 46 #[x.val v] w fun e w' => ∃ uv, e = .returned ((mgOf x.k (usN x.nums (formL x.k) (acc0 x))).val uv) ∧ w'.ownsRow w.heap.size 5 1 uv (usT d (formL x.k) []).length (u8s (usT d (formL x.k) [])) ∧ Below w.heap.size w w' := by
  have hfm := form_any x.k
  have HX := hid (fun i hi w => ix_form hk i hi w)
  have HLT := hid (fun i hi => form_let hk i hi)
  have hF7 := form_len hk
  have hfs := form_size hk
  obtain ⟨va, vcap, rfl, _⟩ := id hs
  have HS := hid hs
  have hbv : Hid (0 < d.length → ∀ b, (Value.slice va d.length vcap).ownBlock = some b → b < w.heap.size) := fun h => hs.lt h
  obtain ⟨UN, hUN⟩ : ∃ UN, UN = usN x.nums (formL x.k) (acc0 x) := ⟨_, rfl⟩
  obtain ⟨UT, hUT⟩ : ∃ UT, UT = usT d (formL x.k) [] := ⟨_, rfl⟩
  rw [← hUN, ← hUT]
  obtain ⟨z, hz⟩ : ∃ z, z = mgOf x.k UN := ⟨_, rfl⟩
  rw [← hz]
  have HZ := hid hz
  clear hz
  have HUN := hid hUN
  have HUT := hid hUT
  obtain ⟨FL, hFL⟩ : ∃ FL, FL = (formL x.k).length := ⟨_, rfl⟩
  have HFL := hid hFL
  rw [← hFL] at hF7 hfs
  clear hUN hUT hFL hs hk
  unfold Mg.val
  go_enter Try.func46, Try.ntmps46
  go_wp2_with (go_at_call 30; refine (hfm _).mono ?_; rintro e w2 ⟨rfl, hw2⟩; subst hw2)
  obtain ⟨w1, hw1⟩ : ∃ w1, w1 = ((w.alloc (.cells #[.int .i64 x.k, .int .i64 x.c, .int .i64 x.b, .int .i64 x.i, .int .i64 x.s, .int .i64 x.q, .int .i64 x.m, .int .i64 x.n, .int .i64 x.l, .int .i64 x.o, .int .i64 x.p, .slice va d.length vcap] 24)).alloc (.cells #[.int .i64 0, .int .i64 0, .int .i64 0, .int .i64 0, .int .i64 0, .int .i64 0, .int .i64 0, .int .i64 0, .int .i64 0, .int .i64 0, .int .i64 0, .slice none 0 0] 24)).alloc (.cells #[.int .i64 x.k, .int .i64 0, .int .i64 x.b, .int .i64 0, .int .i64 0, .int .i64 0, .int .i64 0, .int .i64 0, .int .i64 0, .int .i64 0, .int .i64 0, .slice none 0 0] 24) := ⟨_, rfl⟩
  rw [← hw1]
  have hsz1 : w1.heap.size = w.heap.size + 3 := by rw [hw1]; simp
  have hal1 : Below w.heap.size w w1 := by rw [hw1]; exact (((Below.refl _ w).alloc (Nat.le_refl _) _).alloc (by simp) _).alloc (by simp; omega) _
  have MB1 : MBx w1 w.heap.size x (.slice va d.length vcap) := by rw [hw1]; exact ((Bx.new w (x.cells (.slice va d.length vcap)) 24).alloc _).alloc _
  have RB1 : MBx w1 (w.heap.size + 1) zmg (.slice none 0 0) := by
    rw [hw1]
    have := (Bx.new (w.alloc (.cells ⟨x.cells (.slice va d.length vcap)⟩ 24)) (zmg.cells (.slice none 0 0)) 24).alloc (.cells #[.int .i64 x.k, .int .i64 0, .int .i64 x.b, .int .i64 0, .int .i64 0, .int .i64 0, .int .i64 0, .int .i64 0, .int .i64 0, .int .i64 0, .int .i64 0, .slice none 0 0] 24)
    rw [show (w.alloc (.cells ⟨x.cells (.slice va d.length vcap)⟩ 24)).heap.size = w.heap.size + 1 by simp] at this
    exact this
  have OB1 : MBn w1 (w.heap.size + 1 + 1) x.k (acc0 x) (.slice none 0 0) := by
    rw [hw1]
    have := Bx.new ((w.alloc (.cells ⟨x.cells (.slice va d.length vcap)⟩ 24)).alloc (.cells ⟨zmg.cells (.slice none 0 0)⟩ 24)) (.int .i64 x.k :: ((acc0 x).map (Value.int .i64) ++ [.slice none 0 0])) 24
    rw [show ((w.alloc (.cells ⟨x.cells (.slice va d.length vcap)⟩ 24)).alloc (.cells ⟨zmg.cells (.slice none 0 0)⟩ 24)).heap.size = w.heap.size + 1 + 1 by simp] at this
    exact this
  have UT0 : Hid (UTk w1 w1 (w.heap.size + 1 + 1) x.k (acc0 x) [] (.slice none 0 0)) := ⟨Ch.refl _ _, OB1, rfl, World.ownsRow_nil _ _ _ _⟩
  have HB1 := hid hal1
  have HM1 := hid MB1
  have HR1 := hid RB1
  have HS1 := hid (HS.out.below hal1)
  clear hw1 hal1 MB1 RB1 OB1 HS hfm
  go_loopw [5] (fun i wr => ∃ (k : Nat) (acc t : List Int) (tv : Value), k ≤ FL ∧ i = .int .i64 k ∧ Hid (UTk w1 wr (w.heap.size + 1 + 1) x.k acc t tv) ∧ Hid (usN x.nums ((formL x.k).drop k) acc = UN) ∧ Hid (usT d ((formL x.k).drop k) t = UT)) (fun i _ => FL - (intOf i).toNat)
  case atStart => exact ⟨0, acc0 x, [], _, Nat.zero_le _, rfl, UT0, HUN.out.symm, HUT.out.symm⟩
  case round =>
    obtain ⟨k, acc, t, tv, hk, rfl, hTK, hNN, hTT⟩ := hrel
    clear UT0
    have MBr : MBx wr w.heap.size x (.slice va d.length vcap) := Bx.ch HM1.out hTK.out.ch (fun e => by simp [Xn] at e; omega)
    have RBr : MBx wr (w.heap.size + 1) zmg (.slice none 0 0) := Bx.ch HR1.out hTK.out.ch (fun e => by simp [Xn] at e)
    have OBr := hTK.out.box
    have fz := Bx.frozen OBr
    have lo := Bx.lt OBr
    have lm := MBr.lt
    by_cases hlt : k < FL
    · have hix := fun w => HX.out k (by have := HFL.out; omega) w
      have hlet := HLT.out k (by have := HFL.out; omega)
      have HDC2 := hid (drop_consN (l := formL x.k) (k := k) (by have := HFL.out; omega))
      generalize (formL x.k).getD k 0 = c at *
      by_cases h100 : c = 100
      · subst h100
        have HN2 : Hid (usN x.nums ((formL x.k).drop (k + 1)) acc = UN) := by show _ = _; rw [← hNN.out, HDC2.out, usN, if_pos rfl]
        have HT2 : Hid (usT d ((formL x.k).drop (k + 1)) d = UT) := by show _ = _; rw [← hTT.out, HDC2.out, usT, if_pos rfl]
        have hsr : Seg .u8 wr (.slice va d.length vcap) d := HS1.out.other hTK.out.ch (fun hl hb => by have := hbv.out hl _ hb; omega)
        have hcp := copied_any (.slice va d.length vcap) d wr hsr (by omega)
        have c11 := MBr.facts.2.2.2.2.2.2.2.2.2.2.2
        clear hNN hTT HDC2 hlet hsr RBr
        go_wp2_with fail
        refine hcp.mono ?_
        rintro e w5 ⟨tv2, rfl, o5, b5⟩
        have B5 := Bx.below OBr b5
        have hT5 : Hid (UTk w1 (w5.setCell ⟨w.heap.size + 1 + 1, 11, none⟩ tv2) (w.heap.size + 1 + 1) x.k acc d tv2) :=
          ⟨(hTK.out.ch.trans (Ch.below b5)).trans (Ch.set B5 rfl _), MBn.text B5 hTK.out.len tv2, hTK.out.len, ownsRow_setCell_other (ownsRow_lower o5 hTK.out.ch.size) (fun he => by have := ((ownsRow_lower o5 hTK.out.ch.size).lt _ he).1; simp at this; omega) _⟩
        have C5 := (MBn.mbx B5 hTK.out.len).facts.2.2.2.2.2.2.2.2.2.2.2
        have fz5 := Bx.frozen B5
        have lo5 := Bx.lt B5
        obtain ⟨a5, c5, rfl⟩ := own_shape8 o5
        clear hcp o5 b5 hTK B5 OBr MBr fz lo lm
        go_wp2
        go_roundw
        case rel => exact ⟨k + 1, acc, d, _, by omega, by go_num, hT5, HN2, HT2⟩
        case measure => simp [intOf]; omega
      · have hlet2 := hlet.resolve_left h100
        have hcb : ((c : Int) == 100) = false := by simp; omega
        obtain ⟨hc0, hc10⟩ := plc_lt hlet2
        have hfd := fun b W => field_any b c W hlet2
        have HN2 : Hid (usN x.nums ((formL x.k).drop (k + 1)) (acc.set (plc c).toNat (x.nums.getD (plc c).toNat 0)) = UN) := by show _ = _; rw [← hNN.out, HDC2.out, usN, if_neg h100]
        have HT2 : Hid (usT d ((formL x.k).drop (k + 1)) t = UT) := by show _ = _; rw [← hTT.out, HDC2.out, usT, if_neg h100]
        obtain ⟨j, hj⟩ : ∃ j : Nat, (plc c).toNat = j := ⟨_, rfl⟩
        have hj10 : j < 10 := by omega
        rw [hj] at hfd HN2
        have cm := mb_num MBr j hj10
        have co : wr.cell? ⟨w.heap.size + 1 + 1, j + 1, none⟩ = some (.int .i64 (acc.getD j 0)) := Bx.cell OBr (j + 1) (by have hl := hTK.out.len; rw [List.getElem?_cons_succ, List.getElem?_append_left (by rw [List.length_map]; omega), List.getElem?_map, List.getElem?_eq_getElem (by omega)]; simp [List.getD, hl, hj10])
        have hT5 : ∀ n m, Hid (UTk w1 ((wr.drewN n).setCell ⟨w.heap.size + 1 + 1, j + 1, none⟩ (.int .i64 m)) (w.heap.size + 1 + 1) x.k (acc.set j m) t tv) := fun n m => (hTK.out.drew n).num (by omega) j hj10 m
        generalize x.nums.getD j 0 = y at *
        clear hNN hTT HDC2 hlet hlet2 RBr hTK OBr MBr hj hc0 hc10
        go_wp2_with fail
        go_region_with (go_at_call 32; refine (hfd _ _).mono ?_; rintro e w6 ⟨rfl, hw6⟩; subst hw6)
        all_goals
          go_wp2
          go_roundw
          case rel => exact ⟨k + 1, acc.set j y, t, tv, by omega, by go_num, hT5 _ _, HN2, HT2⟩
          case measure => simp [intOf]; omega
    · have hke : (formL x.k).drop k = [] := List.drop_eq_nil_of_le (by have := HFL.out; omega)
      have HN3 : Hid (acc = UN) := by show _ = _; rw [← hNN.out, hke]; rfl
      have HT3 : UT = t := by rw [← hTT.out, hke]; rfl
      subst HT3
      have OX : MBx wr (w.heap.size + 1 + 1) z tv := by
        have := MBn.mbx OBr hTK.out.len
        rw [HN3.out, ← HZ.out] at this
        exact this
      obtain ⟨a5, c5, rfl⟩ := own_shape8 hTK.out.own
      have hown := hTK.out.own
      have hb6 : Below w.heap.size w wr := hTK.out.ch.toBelow HB1.out (Nat.le_refl _) (fun g T e => by simp [Xn] at e; omega)
      obtain ⟨M0, M1, M2, M3, M4, M5, M6, M7, M8, M9, M10, M11⟩ := OX.facts
      obtain ⟨R0, R1, R2, R3, R4, R5, R6, R7, R8, R9, R10, R11⟩ := RBr.facts
      have Rf := Bx.frozen RBr
      have Rl := RBr.lt
      clear hke hNN hTT OX hTK OBr MBr HN3
      go_wp2_with fail
      have hpc := putMsg_ch (x := z) (v := .slice a5 UT.length c5) RBr
      have hbx := putMsg_box (x := z) (v := .slice a5 UT.length c5) RBr
      have hfin := hpc.toBelow hb6 (Nat.le_refl _) (fun g T e => by simp [Xn] at e; omega)
      have O4 := hown.kept hpc.grownBy (.inr fun he => by have := (hown.lt _ he).1; omega)
      have O5 := ownsRow_lower (C := w.heap.size) O4 (by omega)
      clear hpc O4 hown
      generalize hW : putMsg wr (w.heap.size + 1) z (.slice a5 UT.length c5) = V at *
      simp only [putMsg] at hW
      rw [hW]
      refine bodyPost_ret (ret_used (b := w.heap.size + 1) (x := z) (v := .slice a5 UT.length c5) rfl hbx) rfl ?_
      exact ⟨_, rfl, O5, hfin⟩
end Go.Proofs.Ytoadcaennlfadaa
