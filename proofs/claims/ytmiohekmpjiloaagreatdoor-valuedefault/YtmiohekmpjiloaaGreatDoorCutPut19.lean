/- parse: Print. -/
import Derived.Test.YtmiohekmpjiloaaGreatDoorCutPut18
import Derived.Test.YtmiohekmpjiloaaGreatDoorCutPut17
namespace Go.Proofs.YtmiohekmpjiloaaGreatDoor
open Go.RowKit
set_option maxRecDepth 20000

/-- An error that ends a text is one. -/
def NzW (r : Pl.Wr) : Prop := ∀ e, r = .bad e → e ≠ 0
theorem NzW.ok (x : List Nat) : NzW (.ok x) := fun e h => by cases h
theorem NzW.bad (e : Nat) (h : e ≠ 0) : NzW (.bad e) := fun e' h' => by cases h'; exact h
theorem NzW.app {a b : Pl.Wr} (h : NzW a) (k : NzW b) : NzW (a.app b) := by
  intro e he
  cases a with
  | bad x => exact h e (by simpa [Pl.Wr.app] using he)
  | ok x =>
    cases b with
    | bad y => exact k e (by simpa [Pl.Wr.app] using he)
    | ok y => cases he
theorem NzW.all (l : List Pl.Wr) (h : ∀ r ∈ l, NzW r) : NzW (Pl.Wr.all l) := by
  induction l with
  | nil => exact NzW.ok _
  | cons r l ih => exact (h r (by simp)).app (ih fun s hs => h s (by simp [hs]))
theorem NzW.name (n : List Nat) : NzW (Pl.nameW n) := by
  unfold Pl.nameW
  split
  · exact NzW.ok _
  · exact NzW.bad _ (by decide)
theorem NzW.num (n : Int) : NzW (Pl.numW n) := by
  unfold Pl.numW
  split
  · exact NzW.ok _
  · exact NzW.bad _ (by decide)
theorem NzW.ty (g : Pl.GT) : NzW (Pl.tyW g) := by
  unfold Pl.tyW
  split
  · exact NzW.ok _
  · rename_i h
    exact NzW.bad _ h
theorem NzW.body (kw n : List Nat) (l : List Pl.Wr) (h : ∀ r ∈ l, NzW r) : NzW (Pl.bodyW kw n l) := by
  unfold Pl.bodyW
  split
  · exact NzW.bad _ (by decide)
  · refine ((((NzW.ok _).app (NzW.name n)).app (NzW.ok _)).app (NzW.all _ fun r hr => ?_)).app (NzW.ok _)
    obtain ⟨s, hs, rfl⟩ := List.mem_map.1 hr
    exact ((NzW.ok _).app (h s hs)).app (NzW.ok _)
theorem NzW.bodies {α : Type} (kw : List Nat) (W : α → Pl.Wr) (hW : ∀ f, NzW (W f)) (l : List (List Nat × List α)) : NzW (Pl.Wr.all (l.map fun x => Pl.bodyW kw x.1 (x.2.map W))) :=
  NzW.all _ fun r hr => by
    obtain ⟨x, _, rfl⟩ := List.mem_map.1 hr
    exact NzW.body _ _ _ fun r hr => by
      obtain ⟨f, _, rfl⟩ := List.mem_map.1 hr
      exact hW f
theorem NzW.sch (a : List (List Nat × List Pl.GF)) (b : List (List Nat × List Pl.GC)) (c : List (List Nat × List Pl.GM)) : NzW (Pl.schW a b c) := by
  unfold Pl.schW
  split
  · exact NzW.bad _ (by decide)
  · exact ((NzW.bodies _ _ (fun f => ((((NzW.num _).app (NzW.ok _)).app (NzW.name _)).app (NzW.ok _)).app (NzW.ty _)) a).app (NzW.bodies _ _ (fun f => ((NzW.num _).app (NzW.ok _)).app (NzW.name _)) b)).app (NzW.bodies _ _ (fun f => (((((NzW.ok _).app (NzW.name _)).app (NzW.ok _)).app (NzW.ty _)).app (NzW.ok _)).app (NzW.ty _)) c)

theorem caughtC_ok (fr : Nat) (cap : Array Value) (hen : ∀ (args : Array Value) (w' : World), (callFunc fr args).run Tryz.prog w' = .ok (.enter fr args) w') (w : World) (P : World → Prop) (hP : ∀ W, P W → Bx W w.heap.size [.int .i64 0, .int .i64 0] 150)
    (hw : Calls Tryz.prog fr cap (w.alloc (.cells #[.int .i64 0, .int .i64 0] 150)) fun e w' => e = .returned (.tuple #[]) ∧ P w') :
    Calls Tryz.prog 94 #[.func (.func fr) #[] cap] w fun e w' => e = .returned (.agg #[.int .i64 0, .int .i64 0]) ∧ ∃ W, P W ∧ w' = (W.setCell ⟨w.heap.size, 0, none⟩ (.int .i64 0)).setCell ⟨w.heap.size, 1, none⟩ (.int .i64 0) := by
  have hmf : ∀ (fn : Fn) (first cap : Array Value) (w : World), (Instr.makeFunc fn first cap).run Tryz.prog w = .ok (.func fn first cap) w := fun _ _ _ _ => rfl
  go_enter_defers Tryz.func94, Tryz.ntmps94
  go_wp2_with fail
  refine hw.mono ?_
  rintro e W ⟨rfl, hPW⟩
  have hB := hP W hPW
  have HP := hid hPW
  have h0 := hB.cell 0 rfl
  have h1 := hB.cell 1 rfl
  have hf := hB.frozen
  have hB2 := (hB.set 0 (.int .i64 0)).set 1 (.int .i64 0)
  have g0 := hB2.cell 0 rfl
  have g1 := hB2.cell 1 rfl
  clear hP hPW hw
  go_wp2
  refine leaves_cons (f := 130) (args := #[.pointer (some ⟨w.heap.size, 0, none⟩)]) (by simp) (by simp [go_sem]) ?_
  refine (catch_idle w.heap.size _).mono ?_
  rintro e u' w'' ⟨rfl, rfl, rfl⟩
  exact ⟨_, ret_fault17 rfl g0 g1, rfl, W, HP.out, rfl⟩

theorem caughtC_bad (fr : Nat) (cap : Array Value) (hen : ∀ (args : Array Value) (w' : World), (callFunc fr args).run Tryz.prog w' = .ok (.enter fr args) w') (w : World) (ln er : Int) (P : World → Prop) (hP : ∀ W, P W → Bx W w.heap.size [.int .i64 0, .int .i64 0] 150)
    (hw : Calls Tryz.prog fr cap (w.alloc (.cells #[.int .i64 0, .int .i64 0] 150)) fun e w' => e = .panicked (fault ln er) ∧ P w') :
    Calls Tryz.prog 94 #[.func (.func fr) #[] cap] w fun e w' => e = .returned (.agg #[.int .i64 ln, .int .i64 er]) ∧ ∃ W, P W ∧ w' = (W.setCell ⟨w.heap.size, 0, none⟩ (.int .i64 ln)).setCell ⟨w.heap.size, 1, none⟩ (.int .i64 er) := by
  have hmf : ∀ (fn : Fn) (first cap : Array Value) (w : World), (Instr.makeFunc fn first cap).run Tryz.prog w = .ok (.func fn first cap) w := fun _ _ _ _ => rfl
  go_enter_defers Tryz.func94, Tryz.ntmps94
  go_wp2_with fail
  refine hw.mono ?_
  rintro e W ⟨rfl, hPW⟩
  have hB := hP W hPW
  have HP := hid hPW
  have hB2 := (hB.set 0 (.int .i64 ln)).set 1 (.int .i64 er)
  have g0 := hB2.cell 0 rfl
  have g1 := hB2.cell 1 rfl
  clear hP hPW hw
  refine leaves_cons (f := 130) (args := #[.pointer (some ⟨w.heap.size, 0, none⟩)]) (by simp) (by simp [go_sem]) ?_
  refine (catch_panicking w.heap.size ln er [] _ hB).mono ?_
  rintro e u' w'' ⟨rfl, rfl, rfl⟩
  exact ⟨_, ret_fault17 rfl g0 g1, rfl, W, HP.out, rfl⟩

set_option maxHeartbeats 4000000 in
theorem print1_any (b B n p : Nat) (hn : 99 ≤ n) (a : List (List Nat × List Pl.GF)) (bb : List (List Nat × List Pl.GC)) (cc : List (List Nat × List Pl.GM)) (s1 s2 s3 : Value) (w : World) (hS : SchL B n a bb cc s1 s2 s3 w) (h : Bld b B [] w) (ht : Tab B w) (h47 : a.length ≤ 140737488355328 ∧ bb.length ≤ 140737488355328 ∧ cc.length ≤ 140737488355328) (hp : Bx w p [s1, s2, s3] 26) :
    Calls Tryz.prog 95 #[.pointer (some ⟨b, 0, none⟩), .pointer (some ⟨p, 0, none⟩)] w (WrR b B [] w (Pl.schW a bb cc)) := by
  have hw := wall_any b B n hn [] a bb cc s1 s2 s3 w hS h ht h47 (by simp)
  have c0 := hp.cell 0 rfl
  have c1 := hp.cell 1 rfl
  have c2 := hp.cell 2 rfl
  have hlt := hp.lt
  obtain ⟨ad1, cp1, rfl⟩ := hS.1.shape
  obtain ⟨ad2, cp2, rfl⟩ := hS.2.1.shape
  obtain ⟨ad3, cp3, rfl⟩ := hS.2.2.shape
  clear hS h ht hp
  generalize Pl.schW a bb cc = R at *
  generalize a.length = M1 at *
  generalize bb.length = M2 at *
  generalize cc.length = M3 at *
  go_enter Tryz.func95, Tryz.ntmps95
  go_wp2_with fail
  refine hw.mono ?_
  cases R with
  | bad er =>
    rintro e w1 ⟨rfl, hc1⟩
    exact ⟨rfl, rfl, hc1⟩
  | ok x =>
    rintro e w1 ⟨rfl, h1, hc1⟩
    have HB := hid h1
    have HC := hid hc1
    clear h1 hc1 hw
    go_wp2
    go_end0
    exact ⟨rfl, HB.out, HC.out⟩

/-- What Print answers. -/
def PrintR (w : World) (r : Pl.Wr) (e : Ending) (w' : World) : Prop :=
  match r with
  | .ok x => ∃ s, e = .returned (.tuple #[.string s, .int .i64 0]) ∧ bl s = x ∧ Below w.heap.size w w'
  | .bad er => e = .returned (.tuple #[.string ⟨#[]⟩, .int .i64 (er : Int)]) ∧ Below w.heap.size w w'

set_option maxHeartbeats 8000000 in
theorem print_any (n : Nat) (hn : 99 ≤ n) (a : List (List Nat × List Pl.GF)) (bb : List (List Nat × List Pl.GC)) (cc : List (List Nat × List Pl.GM)) (s1 s2 s3 : Value) (w : World) (hS : SchL w.heap.size n a bb cc s1 s2 s3 w) (ht : Tab w.heap.size w) (h47 : a.length ≤ 140737488355328 ∧ bb.length ≤ 140737488355328 ∧ cc.length ≤ 140737488355328) :
    Calls Tryz.prog 73 #[.agg #[s1, s2, s3]] w (PrintR w (Pl.schW a bb cc)) := by
  obtain ⟨B, hBe⟩ : ∃ B, B = w.heap.size := ⟨_, rfl⟩
  have HE := hid hBe
  -- the three boxes
  have hA1 := below_alloc w (.cells #[s1, s2, s3] 26)
  obtain ⟨w1, hw1⟩ : ∃ w1, w1 = w.alloc (.cells #[s1, s2, s3] 26) := ⟨_, rfl⟩
  have hP1 : Bx w1 B [s1, s2, s3] 26 := by rw [hw1, hBe]; exact Bx.new w _ _
  have hz1 : w1.heap.size = B + 1 := by rw [hw1, hBe]; simp
  rw [← hw1] at hA1
  have hA2 := below_alloc w1 (.cells #[.pointer none, .slice none 0 0] 148)
  obtain ⟨w2, hw2⟩ : ∃ w2, w2 = w1.alloc (.cells #[.pointer none, .slice none 0 0] 148) := ⟨_, rfl⟩
  have hP2 : Bx w2 (B + 1) [.pointer none, .slice none 0 0] 148 := by rw [hw2]; exact Bx.newAt hz1.symm _ _
  have hz2 : w2.heap.size = B + 2 := by rw [hw2]; simp [hz1]
  rw [← hw2] at hA2
  have hA3 := below_alloc w2 (.cells #[.int .i64 0, .int .i64 0] 150)
  obtain ⟨w3, hw3⟩ : ∃ w3, w3 = w2.alloc (.cells #[.int .i64 0, .int .i64 0] 150) := ⟨_, rfl⟩
  have hP3 : Bx w3 (B + 2) [.int .i64 0, .int .i64 0] 150 := by rw [hw3]; exact Bx.newAt hz2.symm _ _
  rw [← hw3] at hA3
  have hA := below_next (below_next hA1 hA2) hA3
  have hbld : Bld (B + 1) B [] w3 := by
    refine ⟨.inl ⟨by omega, .slice none 0 0, ?_, World.ownsRow_nil _ _ _ _, by simp [Value.ownBlock]⟩, fun c hc => by cases hc⟩
    exact hP2.below hA3
  rw [← hBe] at hS ht hA
  have hS3 : SchL B n a bb cc s1 s2 s3 w3 := ⟨hS.1.bel hA (GDR.bel hA (GFR.bel hA)), hS.2.1.bel hA (GDR.bel hA (fun _ _ h => h)), hS.2.2.bel hA (GDR.bel hA (GMR.bel hA))⟩
  have ht3 : Tab B w3 := ht.ch (X := fun _ _ => False) (Ch.below (hBe ▸ hA)) (fun _ _ _ h => h)
  have hpr := print1_any (B + 1) B n B hn a bb cc s1 s2 s3 w3 hS3 hbld ht3 h47 ((hP1.below hA2).below hA3)
  have hnz := NzW.sch a bb cc
  obtain ⟨ad1, cp1, rfl⟩ := hS.1.shape
  obtain ⟨ad2, cp2, rfl⟩ := hS.2.1.shape
  obtain ⟨ad3, cp3, rfl⟩ := hS.2.2.shape
  clear hS hS3 ht3 hbld ht
  generalize Pl.schW a bb cc = R at *
  generalize a.length = M1 at *
  generalize bb.length = M2 at *
  generalize cc.length = M3 at *
  have hmf : ∀ (fn : Fn) (first cap : Array Value) (w : World), (Instr.makeFunc fn first cap).run Tryz.prog w = .ok (.func fn first cap) w := fun _ _ _ _ => rfl
  cases R with
  | bad er =>
    have hne := hnz er rfl
    have hq : ((er : Int) == 0) = false := by simp; omega
    have hca := caughtC_bad 95 #[.pointer (some ⟨B + 1, 0, none⟩), .pointer (some ⟨B, 0, none⟩)] (fun _ _ => rfl) w2 0 (er : Int) (fun W => Ch (Xw (B + 1) B) w3 W) (fun W hW => by
      rw [hz2]
      exact hP3.ch hW (Xw.no (by decide) (by decide))) (by
      rw [← hw3]
      exact hpr)
    rw [hz2] at hca
    go_enter Tryz.func73, Tryz.ntmps73
    go_wp2_with fail
    simp only [← hw1, ← hBe, ← hw2]
    clear hBe hw1 hw2 hw3
    refine hca.mono ?_
    rintro e wc ⟨rfl, W, hW, rfl⟩
    have hbW := Xw.bel hW (by omega) (Nat.le_trans (Nat.le_of_eq HE.out) hA.size)
    have HB := hid (((hA.trans hbW).setCell (p := ⟨B + 2, 0, none⟩) (by simp) (.int .i64 0)).setCell (p := ⟨B + 2, 1, none⟩) (by simp) (.int .i64 (er : Int)))
    have hsz := HB.out.size
    clear hca hpr hbW hW hA hA1 hA2 hA3 hP1 hP2 hP3 hnz
    generalize (W.setCell ⟨B + 2, 0, none⟩ (.int .i64 0)).setCell ⟨B + 2, 1, none⟩ (.int .i64 (er : Int)) = wd at *
    have hBf := Bx.new wd [.int .i64 0, .int .i64 (er : Int)] 150
    have HB2 := hid (HB.out.alloc (by rw [HE.out]; exact hsz) (.cells #[.int .i64 0, .int .i64 (er : Int)] 150))
    change Bx (wd.alloc (.cells #[.int .i64 0, .int .i64 (er : Int)] 150)) _ _ _ at hBf
    have f1 := hBf.cell 1 rfl
    have hfl := hBf.lt
    clear HB hBf
    go_wp2_with fail
    generalize wd.alloc (.cells #[.int .i64 0, .int .i64 (er : Int)] 150) = wf at *
    generalize wd.heap.size = bf at *
    go_region
    all_goals (
      go_wp2
      go_ret2
      refine ⟨rfl, ?_⟩
      rw [← HE.out]
      exact HB2.out.drew)
  | ok x =>
    have hca := caughtC_ok 95 #[.pointer (some ⟨B + 1, 0, none⟩), .pointer (some ⟨B, 0, none⟩)] (fun _ _ => rfl) w2 (fun W => Bld (B + 1) B x W ∧ Ch (Xw (B + 1) B) w3 W) (fun W hW => by
      rw [hz2]
      exact hP3.ch hW.2 (Xw.no (by decide) (by decide))) (by
      rw [← hw3]
      exact hpr)
    rw [hz2] at hca
    go_enter Tryz.func73, Tryz.ntmps73
    go_wp2_with fail
    simp only [← hw1, ← hBe, ← hw2]
    clear hBe hw1 hw2 hw3
    refine hca.mono ?_
    rintro e wc ⟨rfl, W, ⟨hBl, hW⟩, rfl⟩
    have hbW := Xw.bel hW (by omega) (Nat.le_trans (Nat.le_of_eq HE.out) hA.size)
    have HB := hid (((hA.trans hbW).setCell (p := ⟨B + 2, 0, none⟩) (by simp) (.int .i64 0)).setCell (p := ⟨B + 2, 1, none⟩) (by simp) (.int .i64 0))
    have hsz := HB.out.size
    have hPW := hP3.ch hW (Xw.no (by decide) (by decide))
    have hcs : Ch (fun g T => g = B + 2 ∧ T = 150) W ((W.setCell ⟨B + 2, 0, none⟩ (.int .i64 0)).setCell ⟨B + 2, 1, none⟩ (.int .i64 0)) := (Ch.set hPW ⟨rfl, rfl⟩ _).trans (Ch.set (hPW.set 0 (.int .i64 0)) ⟨rfl, rfl⟩ _)
    have hBd := hBl.ch hcs (fun h => by have := h.2; revert this; decide) (fun g _ h => by have := h.2; revert this; decide)
    clear hca hpr hbW hW hA hA1 hA2 hA3 hP1 hP2 hP3 hnz hcs hPW hBl
    generalize (W.setCell ⟨B + 2, 0, none⟩ (.int .i64 0)).setCell ⟨B + 2, 1, none⟩ (.int .i64 0) = wd at *
    have hal := below_alloc wd (.cells #[.int .i64 0, .int .i64 0] 150)
    have hst := bstring (B + 1) B x _ (hBd.below hal) (hBd.below hal).base.1
    go_wp2_with fail
    refine hst.mono ?_
    rintro e we ⟨s, rfl, hs, hbe⟩
    have HS := hid hs
    have HF := hid ((HB.out.trans (hal.mono (by rw [HE.out]; exact hsz))).trans hbe)
    clear hst hs hbe hal hBd
    go_wp2
    go_ret2
    refine ⟨s, rfl, HS.out, ?_⟩
    rw [← HE.out]
    exact HF.out
end Go.Proofs.YtmiohekmpjiloaaGreatDoor

