/- message: Decode. -/
import Derived.Test.YtoadcaennlfadaaMN1
namespace Go.Proofs.Ytoadcaennlfadaa
open Go.RowKit
set_option maxRecDepth 20000

/-- What Decode tells: the numbers, the text, the error. -/
def dcm (l : List Int) : Mg × List Int × Int :=
  if (tkm l).2 = 0 then (if (tkm l).1.2.2.2 = l.length then (mgOf (tkm l).1.1 (tkm l).1.2.1, (tkm l).1.2.2.1, 0) else (zmg, [], 22)) else (zmg, [], (tkm l).2)

theorem Ch.toBelow {X : Nat → TypeId → Prop} {B : Nat} {w w1 w2 : World} (h : Ch X w1 w2) (hb : Below B w w1) (hB : B ≤ w.heap.size) (hX : ∀ g T, X g T → B ≤ g) : Below B w w2 :=
  ⟨h.os.trans hb.os, h.tape.trans hb.tape, h.output.trans hb.output, Nat.le_trans hb.size h.size, fun k hk => by
    have h1 := hb.block k hk
    obtain ⟨o, ho⟩ : ∃ o, w.heap[k]? = some o := ⟨w.heap[k]'(by omega), by simp⟩
    rw [ho] at h1 ⊢
    exact h.block k o h1 (fun _ T _ _ hx => by have := hX k T hx; omega)⟩

set_option maxHeartbeats 8000000 in
theorem decode1_any (bo bm : Nat) (bv : Value) (l : List Int) (w : World) (hO : Bx w bo [bv] 22) (hM : MBx w bm zmg (.slice none 0 0)) (hs : Seg .u8 w bv l) (ho : ∀ z ∈ l, 0 ≤ z ∧ z ≤ 255) (hlen : l.length ≤ 140737488355328) :
    Calls Try.prog 34 #[.pointer (some ⟨bo, 0, none⟩), .pointer (some ⟨bm, 0, none⟩)] w fun e w' => Ch (Xn bm) w w' ∧ ((dcm l).2.2 ≠ 0 ∧ e = .panicked (errp (dcm l).2.2) ∧ MBx w' bm zmg (.slice none 0 0) ∨ (dcm l).2.2 = 0 ∧ e = .returned (.tuple #[]) ∧ ∃ tv, MBx w' bm (dcm l).1 tv ∧ w'.ownsRow w.heap.size 5 1 tv (dcm l).2.1.length (u8s (dcm l).2.1)) := by
  have c0 := hO.cell 0 rfl
  have hbl := hO.lt
  obtain ⟨a, cap, rfl, h1, h2, h3, h4⟩ := id hs
  unfold maxLen at h2
  obtain ⟨N, hN⟩ : ∃ N, N = l.length := ⟨_, rfl⟩
  have HN := hid hN
  have hal : Below w.heap.size w (w.alloc (.cells #[.slice a l.length cap, .int .i64 0] 66)) := (Below.refl _ w).alloc (Nat.le_refl _) _
  have hRd : Rdg (w.alloc (.cells #[.slice a l.length cap, .int .i64 0] 66)) w.heap.size (.slice a l.length cap) l 0 := ⟨Bx.new _ _ _, hs.below hal, fun hl hb => by have := hs.lt hl _ hb; omega⟩
  have htm := takeMessage_any w.heap.size _ l _ hRd ho hlen
  obtain ⟨kd, ns, t, p, er, htk⟩ : ∃ kd ns t p er, tkm l = ((kd, ns, t, p), er) := ⟨_, _, _, _, _, rfl⟩
  rw [htk] at htm
  have HD : Hid (dcm l = if er = 0 then (if p = (N : Int) then (mgOf kd ns, t, 0) else (zmg, [], 22)) else (zmg, [], er)) := by
    show dcm l = _
    unfold dcm
    rw [htk, hN]
  generalize dcm l = DC at *
  rw [← hN] at htm h1 hRd hal c0 hO hs
  clear htk hN h3 h4 hRd
  have hsz : (w.alloc (.cells #[.slice a N cap, .int .i64 0] 66)).heap.size = w.heap.size + 1 := by simp
  have hO1 := hO.below hal
  have hM1 := hM.below hal
  by_cases h0 : er = 0
  · subst h0
    simp only at htm
    generalize mgOf kd ns = x at *
    have hnt := mneed_true 22
    have hnf := mneed_false 22
    have hset : ∀ (W : World), MBx W bm zmg (.slice none 0 0) → ∀ k, W.frozen? ⟨bm, k, none⟩ = false := fun W h => Bx.frozen h
    go_enter Try.func34, Try.ntmps34
    go_wp2_with fail
    refine htm.mono ?_
    rintro e w2 ⟨hc2, ⟨hx, _⟩ | ⟨_, tv, rfl, R2, O2⟩⟩
    · exact absurd rfl hx
    clear htm
    have hb2 := hc2.toBelow hal (Nat.le_refl _) (fun g T e => by simp [Xn] at e; omega)
    obtain ⟨a5, c5, rfl⟩ := own_shape8 O2
    have d1 := R2.box.cell 1 rfl
    have dl := R2.box.lt
    have e0 := (hO.below hb2).cell 0 rfl
    have el := (hO.below hb2).lt
    have hM2 := hM.below hb2
    have TB := Bx.new w2 (x.cells (.slice a5 t.length c5)) 24
    have hal2 : Below w2.heap.size w2 (w2.alloc (.cells ⟨x.cells (.slice a5 t.length c5)⟩ 24)) := (Below.refl _ w2).alloc (Nat.le_refl _) _
    have hM3 := hM2.below hal2
    have HB3 := hid (hb2.trans (hal2.mono hb2.size))
    have HO3 := hid (ownsRow_below O2 hal2)
    have htl : (w2.alloc (.cells ⟨x.cells (.slice a5 t.length c5)⟩ 24)).heap.size = w2.heap.size + 1 := by simp
    simp only [Mg.cells] at TB hM3 HB3 HO3 htl
    unfold Mg.val
    clear hO1 hM1 hsz hc2 R2 O2 hal2
    by_cases hp : p = (N : Int)
    · have HDC : Hid (DC = (x, t, 0)) := by
        show DC = _
        rw [HD.out, if_pos trivial, if_pos hp]
      have hpe : (p == (N : Int)) = true := by simp [hp]
      clear hp HD
      go_wp2_with fail
      refine (hnt _).mono ?_
      rintro e w4 ⟨rfl, h44⟩
      rw [← h44] at TB hM3 HB3 HO3 htl
      clear h44
      have hMB : MBx w4 w2.heap.size x (.slice a5 t.length c5) := TB
      obtain ⟨r0, r1, r2, r3, r4, r5, r6, r7, r8, r9, r10, r11⟩ := hMB.facts
      obtain ⟨s0, s1, s2, s3, s4, s5, s6, s7, s8, s9, s10, s11⟩ := (show MBx w4 bm zmg (.slice none 0 0) from hM3).facts
      have sf := hset w4 hM3
      have sl := MBx.lt hM3
      clear hset
      go_wp2_with fail
      have hpc := putMsg_ch (x := x) (v := .slice a5 t.length c5) hM3
      have hbx := putMsg_box (x := x) (v := .slice a5 t.length c5) hM3
      have hfin : Ch (Xn bm) w (putMsg w4 bm x (.slice a5 t.length c5)) := (Ch.below HB3.out).trans hpc
      have hbm := hM.lt
      have O4 := HO3.out.kept hpc.grownBy (.inr fun he => by have := (HO3.out.lt _ he).1; simp at this; omega)
      have O5 := ownsRow_lower (C := w.heap.size) O4 (by simp)
      clear hpc O4 hMB hM3 TB
      generalize hW : putMsg w4 bm x (.slice a5 t.length c5) = W at *
      simp only [putMsg] at hW
      rw [hW]
      go_end0
      rw [HDC.out]
      exact ⟨hfin, .inr ⟨rfl, rfl, _, hbx, O5⟩⟩
    · have HE : Hid (DC.2.2 = 22) := by
        show DC.2.2 = 22
        rw [HD.out, if_pos trivial, if_neg hp]
      have hpe : (p == (N : Int)) = false := by simp [hp]
      clear HD
      go_wp2_with fail
      refine (hnf _).mono ?_
      rintro e w4 ⟨rfl, h44⟩
      rw [← h44] at hM3 HB3
      exact ⟨rfl, Ch.below HB3.out, .inl (by rw [HE.out]; exact ⟨by decide, rfl, hM3⟩)⟩
  · have HE : Hid (DC.2.2 = er) := by
      show DC.2.2 = er
      rw [HD.out, if_neg h0]
    go_enter Try.func34, Try.ntmps34
    go_wp2_with fail
    refine htm.mono ?_
    rintro e w2 ⟨hc2, ⟨_, rfl⟩ | ⟨hx, _⟩⟩
    · have hb2 := hc2.toBelow hal (Nat.le_refl _) (fun g T e => by simp [Xn] at e; omega)
      exact ⟨rfl, Ch.below hb2, .inl (by rw [HE.out]; exact ⟨h0, rfl, hM.below hb2⟩)⟩
    · exact absurd hx h0

theorem ret_dec {W : World} {tmps : Array Value} {b : Nat} {x : Mg} {v q : Value} (ht : tmps.getD 2 undef = .pointer (some ⟨b, 0, none⟩)) (hq : tmps.getD 3 undef = q) (hB : MBx W b x v) :
    (results Try.f12 tmps).run Try.prog W = .ok (.tuple #[x.val v, q]) W := by
  rw [Array.getD_eq_getD_getElem?] at ht hq
  obtain ⟨c0, c1, c2, c3, c4, c5, c6, c7, c8, c9, c10, c11⟩ := hB.facts
  simp [results, Try.results12, Mg.val]
  go_simp

theorem dcm_bad {l : List Int} (h : (dcm l).2.2 ≠ 0) : dcm l = (zmg, [], (dcm l).2.2) := by
  unfold dcm at h ⊢
  split
  · rename_i h1
    rw [if_pos h1] at h
    split
    · rename_i h2
      rw [if_pos h2] at h
      exact absurd rfl h
    · rfl
  · rfl

theorem caught_leaf {W V : World} {bm : Nat} {mg : Mg} {tv : Value} {xs : List Value} {n : Nat} (u : Value) (hlt : bm < W.heap.size) (hc : Ch (Xn bm) (W.alloc (.cells #[.int .i64 0] 26)) V) (hB : Bx V W.heap.size [.int .i64 0] 26) (hM : MBx V bm mg tv) (hO : V.ownsRow (W.alloc (.cells #[.int .i64 0] 26)).heap.size 5 1 tv n xs) :
    Ch (Xn bm) W (V.setCell ⟨W.heap.size, 0, none⟩ u) ∧ MBx (V.setCell ⟨W.heap.size, 0, none⟩ u) bm mg tv ∧ (V.setCell ⟨W.heap.size, 0, none⟩ u).ownsRow W.heap.size 5 1 tv n xs := by
  have hal : Below W.heap.size W (W.alloc (.cells #[.int .i64 0] 26)) := (Below.refl _ W).alloc (Nat.le_refl _) _
  refine ⟨(((Ch.below hal).trans (hc.mono Xw.n)).trans (Ch.set hB (.inr (Nat.le_refl _)) _)).shrink, Bx.other hM (by omega) _, ownsRow_lower (ownsRow_setCell_other hO (fun he => by have := (hO.lt _ he).1; simp at this; omega) _) (by simp)⟩

theorem mcaught_dec (bo bm : Nat) (bv : Value) (l : List Int) (W : World) (hO : Bx W bo [bv] 22) (hM : MBx W bm zmg (.slice none 0 0)) (hs : Seg .u8 W bv l) (ho : ∀ z ∈ l, 0 ≤ z ∧ z ≤ 255) (hlen : l.length ≤ 140737488355328) :
    Calls Try.prog 33 #[.func (.func 34) #[] #[.pointer (some ⟨bo, 0, none⟩), .pointer (some ⟨bm, 0, none⟩)]] W fun e w' => e = .returned (.int .i64 (dcm l).2.2) ∧ Ch (Xn bm) W w' ∧ ∃ tv, MBx w' bm (dcm l).1 tv ∧ w'.ownsRow W.heap.size 5 1 tv (dcm l).2.1.length (u8s (dcm l).2.1) := by
  have hal : Below W.heap.size W (W.alloc (.cells #[.int .i64 0] 26)) := (Below.refl _ W).alloc (Nat.le_refl _) _
  have hEB := Bx.new W [.int .i64 0] 26
  have hlt := hM.lt
  have hd := decode1_any bo bm bv l _ (hO.below hal) (hM.below hal) (hs.below hal) ho hlen
  by_cases h0 : (dcm l).2.2 = 0
  · rw [h0]
    refine (mcaught_ok 34 _ (fun _ _ => rfl) W (fun V => Ch (Xn bm) (W.alloc (.cells #[.int .i64 0] 26)) V ∧ ∃ tv, MBx V bm (dcm l).1 tv ∧ V.ownsRow (W.alloc (.cells #[.int .i64 0] 26)).heap.size 5 1 tv (dcm l).2.1.length (u8s (dcm l).2.1)) (fun V hV => hEB.ch hV.1 (fun e => by simp [Xn] at e; omega)) (hd.mono ?_)).mono ?_
    · rintro e w' ⟨hc, ⟨hx, _⟩ | ⟨_, rfl, tv, h1, h2⟩⟩
      · exact absurd h0 hx
      · exact ⟨rfl, hc, tv, h1, h2⟩
    · rintro e w' ⟨rfl, V, ⟨hc, tv, h1, h2⟩, rfl⟩
      obtain ⟨k1, k2, k3⟩ := caught_leaf (.int .i64 0) hlt hc (hEB.ch hc (fun e => by simp [Xn] at e; omega)) h1 h2
      exact ⟨rfl, k1, tv, k2, k3⟩
  · have hbad := dcm_bad h0
    have e1 : (dcm l).1 = zmg := by rw [hbad]
    have e2 : (dcm l).2.1 = [] := by rw [hbad]
    rw [e1, e2]
    refine (mcaught_bad 34 _ (fun _ _ => rfl) W (fun er => er = (dcm l).2.2) (fun V => Ch (Xn bm) (W.alloc (.cells #[.int .i64 0] 26)) V ∧ MBx V bm zmg (.slice none 0 0)) (fun V hV => hEB.ch hV.1 (fun e => by simp [Xn] at e; omega)) (hd.mono ?_)).mono ?_
    · rintro e w' ⟨hc, ⟨_, rfl, h1⟩ | ⟨hx, _⟩⟩
      · exact ⟨_, rfl, rfl, hc, h1⟩
      · exact absurd hx h0
    · rintro e w' ⟨er, rfl, rfl, V, ⟨hc, h1⟩, rfl⟩
      obtain ⟨k1, k2, k3⟩ := caught_leaf (.int .i64 (dcm l).2.2) hlt hc (hEB.ch hc (fun e => by simp [Xn] at e; omega)) h1 (World.ownsRow_nil _ _ _ _)
      exact ⟨rfl, k1, _, k2, k3⟩

theorem ch_world (w : World) (bv : Value) : ∃ W, W = ((w.alloc (.cells #[bv] 22)).alloc (.cells ⟨zmg.cells (.slice none 0 0)⟩ 24)).alloc (.cells ⟨zmg.cells (.slice none 0 0)⟩ 24) ∧ Bx W w.heap.size [bv] 22 ∧ MBx W (w.heap.size + 1) zmg (.slice none 0 0) ∧ MBx W (w.heap.size + 1 + 1) zmg (.slice none 0 0) ∧ Below w.heap.size w W ∧ W.heap.size = w.heap.size + 3 := by
  refine ⟨_, rfl, ?_, ?_, ?_, ?_, by simp⟩
  · exact ((Bx.new w [bv] 22).alloc _).alloc _
  · have := (Bx.new (w.alloc (.cells #[bv] 22)) (zmg.cells (.slice none 0 0)) 24).alloc (.cells ⟨zmg.cells (.slice none 0 0)⟩ 24)
    simpa [MBx] using this
  · have := Bx.new ((w.alloc (.cells #[bv] 22)).alloc (.cells ⟨zmg.cells (.slice none 0 0)⟩ 24)) (zmg.cells (.slice none 0 0)) 24
    simpa [MBx] using this
  · exact (((Below.refl _ w).alloc (Nat.le_refl _) _).alloc (by simp) _).alloc (by simp; omega) _

set_option maxHeartbeats 8000000 in
theorem mDecode_any (bv : Value) (l : List Int) (w : World) (hs : Seg .u8 w bv l) (ho : ∀ z ∈ l, 0 ≤ z ∧ z ≤ 255) (hlen : l.length ≤ 140737488355328) :
    Calls Try.prog 12 #[bv] w fun e w' => ∃ tv, e = .returned (.tuple #[(dcm l).1.val tv, .int .i64 (dcm l).2.2]) ∧ w'.ownsRow w.heap.size 5 1 tv (dcm l).2.1.length (u8s (dcm l).2.1) ∧ Below w.heap.size w w' := by
  obtain ⟨a, cap, rfl, _⟩ := id hs
  have hmf : ∀ (fn : Fn) (first cap : Array Value) (w : World), (Instr.makeFunc fn first cap).run Try.prog w = .ok (.func fn first cap) w := fun _ _ _ _ => rfl
  obtain ⟨W, hW, k0, k1, k2, k3, k4⟩ := ch_world w (.slice a l.length cap)
  have hca := mcaught_dec _ _ _ l W k0 k2 (hs.below (k3.mono (Nat.le_refl _))) ho hlen
  generalize dcm l = DC at *
  clear hs ho hlen
  simp only [Mg.cells, zmg] at hW
  go_enter Try.func12, Try.ntmps12
  go_wp2_with fail
  rw [← hW]
  clear hW
  refine hca.mono ?_
  rintro e w2 ⟨rfl, hc, tv, hM, hO⟩
  have RB : MBx w2 (w.heap.size + 1) zmg (.slice none 0 0) := Bx.ch k1 hc (fun e => by simp [Xn] at e)
  have hbb := hc.toBelow k3 (Nat.le_refl _) (fun g T e => by simp [Xn] at e; omega)
  obtain ⟨x, t, er⟩ := DC
  obtain ⟨a5, c5, rfl⟩ := own_shape8 hO
  simp only at hM hO ⊢
  obtain ⟨r0, r1, r2, r3, r4, r5, r6, r7, r8, r9, r10, r11⟩ := RB.facts
  have rf := Bx.frozen RB
  have rl := RB.lt
  obtain ⟨s0, s1, s2, s3, s4, s5, s6, s7, s8, s9, s10, s11⟩ := hM.facts
  clear hca k0 k1 k2 k3
  go_wp2_with fail
  have hpc := putMsg_ch (x := x) (v := .slice a5 t.length c5) RB
  have hbx := putMsg_box (x := x) (v := .slice a5 t.length c5) RB
  have hfin := hpc.toBelow hbb (Nat.le_refl _) (fun g T e => by simp [Xn] at e; omega)
  have O4 := hO.kept hpc.grownBy (.inr fun he => by have := (hO.lt _ he).1; omega)
  have O5 := ownsRow_lower (C := w.heap.size) O4 (by omega)
  clear hpc O4 RB hM hO
  generalize hW : putMsg w2 (w.heap.size + 1) x (.slice a5 t.length c5) = V at *
  simp only [putMsg] at hW
  rw [hW]
  refine bodyPost_ret (ret_dec (b := w.heap.size + 1) (x := x) (v := .slice a5 t.length c5) (q := .int .i64 er) rfl rfl hbx) rfl ?_
  exact ⟨_, rfl, O5, hfin⟩
end Go.Proofs.Ytoadcaennlfadaa
