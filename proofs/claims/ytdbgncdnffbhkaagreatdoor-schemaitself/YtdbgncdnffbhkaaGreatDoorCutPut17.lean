/- parse: caught. parse: Parse. parse: Text; alive. parse: rows are read; alive. Are types one? parse: types of any make, as they lie; holdsTypes, deepest. -/
import Derived.Test.YtdbgncdnffbhkaaGreatDoorCutPut13
import Derived.Defers
import Derived.Recover
import Derived.Test.YtdbgncdnffbhkaaGreatDoorCutPut16
import Derived.Test.YtdbgncdnffbhkaaGreatDoorCutPut15
namespace Go.Proofs.YtdbgncdnffbhkaaGreatDoor
open Go.RowKit
set_option maxRecDepth 20000

theorem run_assert (x : Value) (w : World) : (Instr.typeAssert (.iface 134 x) 20 134 false).run Tryz.prog w = .ok x w := by kernel_rfl

theorem catch_panicking (b : Nat) (ln er : Int) (older : List PanicEntry) (w : World) (hB : Bx w b [.int .i64 0, .int .i64 0] 134) :
    CallsD Tryz.prog 110 #[.pointer (some ⟨b, 0, none⟩)] (.panicking ({ v := .iface 134 (.agg #[.int .i64 ln, .int .i64 er]), recovered := false } :: older)) w fun e u' w' =>
      e = .returned (.tuple #[]) ∧ u' = .panicking ({ v := .iface 134 (.agg #[.int .i64 ln, .int .i64 er]), recovered := true } :: older) ∧ w' = (w.setCell ⟨b, 0, none⟩ (.int .i64 ln)).setCell ⟨b, 1, none⟩ (.int .i64 er) := by
  have h0 := hB.cell 0 rfl
  have h1 := hB.cell 1 rfl
  have hf := hB.frozen
  have hf2 := (hB.set 0 (.int .i64 ln)).frozen
  have ha := run_assert
  refine callsD_of_wpS Tryz.func110 rfl fun c₀ cs hu => ?_
  apply wpS_seq
  apply wpS_region
  simp [wpOpsS, go_sem, recoverD, hu, Tryz.ntmps110, Exit.thenS]
  apply wpS_seq
  apply wpS_region
  simp [wpOpsS, go_sem, Exit.thenS]
  refine wpS_cond (t := true) (by simp [Act.eval, Array.replicate]) ?_
  simp only [if_true]
  apply wpS_region
  simp [wpOpsS, go_sem, ha, h0, h1, hf, hf2, bodyPostS, results, Tryz.results110]

set_option maxRecDepth 4000 in
theorem catch_idle (b : Nat) (w : World) :
    CallsD Tryz.prog 110 #[.pointer (some ⟨b, 0, none⟩)] .returning w fun e u' w' => e = .returned (.tuple #[]) ∧ u' = .returning ∧ w' = w := by
  refine callsD_of_wpS Tryz.func110 rfl fun c₀ cs hu => ?_
  apply wpS_seq
  apply wpS_region
  simp [wpOpsS, go_sem, recoverD, hu, Tryz.ntmps110, Exit.thenS]
  apply wpS_seq
  apply wpS_region
  simp [wpOpsS, go_sem, Exit.thenS]
  refine wpS_cond (t := false) (by simp [Act.eval, Array.replicate]) ?_
  simp only [Bool.false_eq_true, if_false]
  refine wpS_of_wp (wp_skip ?_)
  cases c₀
  simp_all [bodyPostS, results, Tryz.results110]

theorem ret_fault17 {W : World} {tmps : Array Value} {b : Nat} {x y : Value} (ht : tmps.getD 2 undef = .pointer (some ⟨b, 0, none⟩)) (h0 : W.cell? ⟨b, 0, none⟩ = some x) (h1 : W.cell? ⟨b, 1, none⟩ = some y) :
    (results Tryz.f66 tmps).run Tryz.prog W = .ok (.agg #[x, y]) W := by
  have ht' : tmps[2]?.getD undef = .pointer (some ⟨b, 0, none⟩) := by rw [← Array.getD_eq_getD_getElem?]; exact ht
  simp [results, Tryz.results66]
  go_simp

/-- What the work ends with: it returns, or panics with a fault; in either case P says what it left. -/
theorem caught_ok (fr : Nat) (first : Array Value) (hen : ∀ (args : Array Value) (w' : World), (callFunc fr args).run Tryz.prog w' = .ok (.enter fr args) w') (w : World) (P : World → Prop) (hP : ∀ W, P W → Bx W w.heap.size [.int .i64 0, .int .i64 0] 134)
    (hw : Calls Tryz.prog fr first (w.alloc (.cells #[.int .i64 0, .int .i64 0] 134)) fun e w' => e = .returned (.tuple #[]) ∧ P w') :
    Calls Tryz.prog 66 #[.func (.func fr) first #[]] w fun e w' => e = .returned (.agg #[.int .i64 0, .int .i64 0]) ∧ ∃ W, P W ∧ w' = (W.setCell ⟨w.heap.size, 0, none⟩ (.int .i64 0)).setCell ⟨w.heap.size, 1, none⟩ (.int .i64 0) := by
  have hmf : ∀ (fn : Fn) (first cap : Array Value) (w : World), (Instr.makeFunc fn first cap).run Tryz.prog w = .ok (.func fn first cap) w := fun _ _ _ _ => rfl
  go_enter_defers Tryz.func66, Tryz.ntmps66
  go_wp2_with fail
  refine hw.mono ?_
  rintro e W ⟨rfl, hPW⟩
  have hB := hP W hPW
  have HP := hid hPW
  have h0 := hB.cell 0 rfl
  have h1 := hB.cell 1 rfl
  have hf := hB.frozen
  have hB2 := (hB.set 0 (.int .i64 0)).set 1 (.int .i64 0)
  have g0 := hB2.cell 0 rfl
  have g1 := hB2.cell 1 rfl
  clear hP hPW hw
  go_wp2
  refine leaves_cons (f := 110) (args := #[.pointer (some ⟨w.heap.size, 0, none⟩)]) (by simp) (by simp [go_sem]) ?_
  refine (catch_idle w.heap.size _).mono ?_
  rintro e u' w'' ⟨rfl, rfl, rfl⟩
  exact ⟨_, ret_fault17 rfl g0 g1, rfl, W, HP.out, rfl⟩

theorem caught_bad (fr : Nat) (first : Array Value) (hen : ∀ (args : Array Value) (w' : World), (callFunc fr args).run Tryz.prog w' = .ok (.enter fr args) w') (w : World) (ln er : Int) (P : World → Prop) (hP : ∀ W, P W → Bx W w.heap.size [.int .i64 0, .int .i64 0] 134)
    (hw : Calls Tryz.prog fr first (w.alloc (.cells #[.int .i64 0, .int .i64 0] 134)) fun e w' => e = .panicked (fault ln er) ∧ P w') :
    Calls Tryz.prog 66 #[.func (.func fr) first #[]] w fun e w' => e = .returned (.agg #[.int .i64 ln, .int .i64 er]) ∧ ∃ W, P W ∧ w' = (W.setCell ⟨w.heap.size, 0, none⟩ (.int .i64 ln)).setCell ⟨w.heap.size, 1, none⟩ (.int .i64 er) := by
  have hmf : ∀ (fn : Fn) (first cap : Array Value) (w : World), (Instr.makeFunc fn first cap).run Tryz.prog w = .ok (.func fn first cap) w := fun _ _ _ _ => rfl
  go_enter_defers Tryz.func66, Tryz.ntmps66
  go_wp2_with fail
  refine hw.mono ?_
  rintro e W ⟨rfl, hPW⟩
  have hB := hP W hPW
  have HP := hid hPW
  have hB2 := (hB.set 0 (.int .i64 ln)).set 1 (.int .i64 er)
  have g0 := hB2.cell 0 rfl
  have g1 := hB2.cell 1 rfl
  clear hP hPW hw
  refine leaves_cons (f := 110) (args := #[.pointer (some ⟨w.heap.size, 0, none⟩)]) (by simp) (by simp [go_sem]) ?_
  refine (catch_panicking w.heap.size ln er [] _ hB).mono ?_
  rintro e u' w'' ⟨rfl, rfl, rfl⟩
  exact ⟨_, ret_fault17 rfl g0 g1, rfl, W, HP.out, rfl⟩
end Go.Proofs.YtdbgncdnffbhkaaGreatDoor

namespace Go.Proofs.YtdbgncdnffbhkaaGreatDoor
open Go.RowKit
set_option maxRecDepth 20000

/-- A schema as it is told: the three rows. -/
def SchV (B : Nat) (ds : List Pl.Decl) (s1 s2 s3 : Value) (w : World) : Prop := Rows 60 2 (SctR B) B w s1 (stOf ds) ∧ Rows 64 2 (EnmR B) B w s2 (enOf ds) ∧ Rows 67 2 (SvcR B) B w s3 (svOf ds)

def ParseR (B : Nat) (l : List T3) (w : World) (res : Pl.Res (List Pl.Decl)) (e : Ending) (w' : World) : Prop :=
  match res with
  | .ok ds _ => ∃ s1 s2 s3, e = .returned (.tuple #[.agg #[s1, s2, s3], .int .i64 0, .int .i64 0]) ∧ SchV B ds s1 s2 s3 w' ∧ Below w.heap.size w w'
  | .bad r er => ∃ i', r = (l.drop i').map kt3 ∧ i' ≤ l.length ∧ e = .returned (.tuple #[.agg #[.slice none 0 0, .slice none 0 0, .slice none 0 0], .int .i64 (lineAt l i' : Int), .int .i64 (er : Int)]) ∧ Below w.heap.size w w'

theorem SchV.mono {B B' : Nat} (hB : B' ≤ B) {ds : List Pl.Decl} {s1 s2 s3 : Value} {w : World} (h : SchV B ds s1 s2 s3 w) : SchV B' ds s1 s2 s3 w := by
  obtain ⟨h1, h2, h3⟩ := h
  refine ⟨h1.mono hB ?_, h2.mono hB ?_, h3.mono hB ?_⟩
  · rintro a c ⟨s, ad, m, cp, e1, e2, e3⟩
    exact ⟨s, ad, m, cp, e1, e2, e3.mono hB (fun a c h => FldR.mono hB a c h)⟩
  · rintro a c ⟨s, ad, m, cp, e1, e2, e3⟩
    exact ⟨s, ad, m, cp, e1, e2, e3.mono hB (fun a c h => h)⟩
  · rintro a c ⟨s, ad, m, cp, e1, e2, e3⟩
    exact ⟨s, ad, m, cp, e1, e2, e3.mono hB (fun a c h => MthR.mono hB a c h)⟩
theorem SchV.ch {X : Nat → TypeId → Prop} {B : Nat} {ds : List Pl.Decl} {s1 s2 s3 : Value} {w w' : World} (h : SchV B ds s1 s2 s3 w) (hc : Ch X w w') (hX : ∀ g T, X g T → T ≠ 60 ∧ T ≠ 64 ∧ T ≠ 67 ∧ T ≠ 83 ∧ T ≠ 86 ∧ T ≠ 36 ∧ T ≠ 34) : SchV B ds s1 s2 s3 w' := by
  obtain ⟨h1, h2, h3⟩ := h
  refine ⟨h1.ch hc ?_ (fun k _ hx => (hX _ _ hx).1 rfl), h2.ch hc ?_ (fun k _ hx => (hX _ _ hx).2.1 rfl), h3.ch hc ?_ (fun k _ hx => (hX _ _ hx).2.2.1 rfl)⟩
  · rintro a c ⟨s, ad, m, cp, e1, e2, e3⟩
    exact ⟨s, ad, m, cp, e1, e2, e3.ch hc (fun a c h => FldR.ch hc (fun g _ hx => (hX _ _ hx).2.2.2.2.2.2 rfl) a c h) (fun k _ hx => (hX _ _ hx).2.2.2.1 rfl)⟩
  · rintro a c ⟨s, ad, m, cp, e1, e2, e3⟩
    exact ⟨s, ad, m, cp, e1, e2, e3.ch hc (fun a c h => h) (fun k _ hx => (hX _ _ hx).2.2.2.2.1 rfl)⟩
  · rintro a c ⟨s, ad, m, cp, e1, e2, e3⟩
    exact ⟨s, ad, m, cp, e1, e2, e3.ch hc (fun a c h => MthR.ch hc (fun g _ hx => (hX _ _ hx).2.2.2.2.2.2 rfl) a c h) (fun k _ hx => (hX _ _ hx).2.2.2.2.2.1 rfl)⟩
theorem SchV.below {B : Nat} {ds : List Pl.Decl} {s1 s2 s3 : Value} {w w' : World} (h : SchV B ds s1 s2 s3 w) (hb : Below w.heap.size w w') : SchV B ds s1 s2 s3 w' :=
  h.ch (X := fun _ _ => False) (Ch.below hb) (fun _ _ h => h.elim)
theorem Xa.below {B : Nat} {w w' : World} (h : Ch (Xa B) w w') (hB : B ≤ w.heap.size) : Below B w w' :=
  ⟨h.os, h.tape, h.output, h.size, fun k hk => by
    have ho : w.heap[k]? = some (w.heap[k]'(by omega)) := by simp
    rw [ho]
    exact h.block k _ ho (fun cs T r _ hx => by have := hx.1; omega)⟩

/-- An error that is told is one. -/
def NZ {α : Type} (P : List Pl.Kt → Pl.Res α) : Prop := ∀ l r e, P l = .bad r e → e ≠ 0
theorem NZ.bind {α β : Type} {P : List Pl.Kt → Pl.Res α} {Q : α → List Pl.Kt → Pl.Res β} (h1 : NZ P) (h2 : ∀ a, NZ (Q a)) : NZ (fun l => (P l).bind Q) := by
  intro l r e h
  cases hP : P l with
  | ok a r1 =>
    simp only [hP, ok_bind] at h
    exact h2 a r1 r e h
  | bad r1 e1 =>
    simp only [hP, Pl.Res.bind, Pl.Res.bad.injEq] at h
    rw [← h.2]
    exact h1 l r1 e1 hP
theorem NZ.pure {α : Type} (a : α) : NZ (fun r => Pl.Res.ok a r) := by intro l r e h; cases h
theorem NZ.take (p : Pl.Kt → Bool) : NZ (Pl.takeP p) := by
  intro l r e h
  cases l with
  | nil => simp only [Pl.takeP, Pl.Res.bad.injEq] at h; omega
  | cons t l =>
    simp only [Pl.takeP] at h
    split at h
    · cases h
    · simp only [Pl.Res.bad.injEq] at h; omega
theorem NZ.ite {α : Type} {b : Prop} [Decidable b] {P Q : List Pl.Kt → Pl.Res α} (h1 : NZ P) (h2 : NZ Q) : NZ (fun l => if b then P l else Q l) := by
  by_cases hb : b
  · simp only [if_pos hb]; exact h1
  · simp only [if_neg hb]; exact h2
theorem NZ.type (d : Nat) : NZ (Pl.typeP d) := by
  induction d with
  | zero =>
    intro l r e h
    cases hP : Pl.takeP Pl.begT l with
    | ok a r1 =>
      simp only [Pl.typeP, hP, ok_bind, Pl.Res.bad.injEq] at h
      omega
    | bad r1 e1 =>
      simp only [Pl.typeP, hP, Pl.Res.bind, Pl.Res.bad.injEq] at h
      rw [← h.2]
      exact NZ.take _ l r1 e1 hP
  | succ d ih =>
    have h1 : NZ (fun l => (Pl.takeP Pl.begT l).bind fun t r =>
      if t.2 = [91] then (Pl.typeP d r).bind fun x r1 => (Pl.takeP (Pl.isT [93]) r1).bind fun _ r2 => .ok (Pl.Ty.list x) r2
      else if t.2 = [63] then (Pl.typeP d r).bind fun x r1 => .ok (Pl.Ty.opt x) r1
      else if Pl.nameT t then .ok (Pl.Ty.named t.2) r
      else .ok (Pl.Ty.plain (Pl.plainK t.2)) r) :=
      (NZ.take _).bind fun t => NZ.ite (ih.bind fun x => (NZ.take _).bind fun _ => NZ.pure _) (NZ.ite (ih.bind fun x => NZ.pure _) (NZ.ite (NZ.pure _) (NZ.pure _)))
    exact h1
theorem NZ.parts {α : Type} (beg : Pl.Kt → Bool) (part : Pl.Kt → List Pl.Kt → Pl.Res α) (hp : ∀ t, NZ (part t)) (k : Nat) : NZ (Pl.partsP beg part k) := by
  induction k with
  | zero =>
    intro l r e h
    cases l with
    | nil => simp only [Pl.partsP, Pl.Res.bad.injEq] at h; omega
    | cons t l =>
      simp only [Pl.partsP] at h
      split at h
      · cases h
      · split at h <;> simp only [Pl.Res.bad.injEq] at h <;> omega
  | succ k ih =>
    intro l r e h
    cases l with
    | nil => simp only [Pl.partsP, Pl.Res.bad.injEq] at h; omega
    | cons t l =>
      simp only [Pl.partsP] at h
      split at h
      · cases h
      · split at h
        · exact ((hp t).bind (Q := fun a r1 => (Pl.partsP beg part k r1).bind fun xs r2 => .ok (a :: xs) r2) fun a => ih.bind fun xs => NZ.pure _) l r e h
        · simp only [Pl.Res.bad.injEq] at h; omega
theorem NZ.body {α : Type} (beg : Pl.Kt → Bool) (part : Pl.Kt → List Pl.Kt → Pl.Res α) (hp : ∀ t, NZ (part t)) : NZ (Pl.bodyP beg part) :=
  (NZ.take _).bind fun _ => (NZ.take _).bind fun _ => (NZ.parts beg part hp 32).bind fun _ => NZ.pure _
theorem NZ.decl (t : Pl.Kt) : NZ (Pl.declP t) := by
  unfold Pl.declP
  split
  · exact (NZ.body _ _ (fun f => (NZ.take _).bind fun _ => (NZ.take _).bind fun _ => (NZ.type 8).bind fun _ => (NZ.take _).bind fun _ => NZ.pure _)).bind fun _ => NZ.pure _
  · split
    · exact (NZ.body _ _ (fun f => (NZ.take _).bind fun _ => (NZ.take _).bind fun _ => NZ.pure _)).bind fun _ => NZ.pure _
    · exact (NZ.body _ _ (fun f => (NZ.take _).bind fun _ => (NZ.take _).bind fun _ => (NZ.type 8).bind fun _ => (NZ.take _).bind fun _ => (NZ.type 8).bind fun _ => (NZ.take _).bind fun _ => NZ.pure _)).bind fun _ => NZ.pure _
theorem NZ.decls (k : Nat) : NZ (Pl.declsP k) := by
  induction k with
  | zero =>
    intro l r e h
    cases l with
    | nil => cases h
    | cons t l =>
      simp only [Pl.declsP] at h
      split at h <;> simp only [Pl.Res.bad.injEq] at h <;> omega
  | succ k ih =>
    intro l r e h
    cases l with
    | nil => cases h
    | cons t l =>
      simp only [Pl.declsP] at h
      split at h
      · exact ((NZ.decl t).bind (Q := fun a r1 => (Pl.declsP k r1).bind fun xs r2 => .ok (a :: xs) r2) fun a => ih.bind fun xs => NZ.pure _) l r e h
      · simp only [Pl.Res.bad.injEq] at h; omega

theorem ret_parse8 {W : World} {tmps : Array Value} {b : Nat} {x y z p q : Value} (ht : tmps.getD 2 undef = .pointer (some ⟨b, 0, none⟩)) (h3 : tmps.getD 3 undef = p) (h4 : tmps.getD 4 undef = q) (h0 : W.cell? ⟨b, 0, none⟩ = some x) (h1 : W.cell? ⟨b, 1, none⟩ = some y) (h2 : W.cell? ⟨b, 2, none⟩ = some z) :
    (results Tryz.f57 tmps).run Tryz.prog W = .ok (.tuple #[.agg #[x, y, z], p, q]) W := by
  have ht' : tmps[2]?.getD undef = .pointer (some ⟨b, 0, none⟩) := by rw [← Array.getD_eq_getD_getElem?]; exact ht
  have h3' : tmps[3]?.getD undef = p := by rw [← Array.getD_eq_getD_getElem?]; exact h3
  have h4' : tmps[4]?.getD undef = q := by rw [← Array.getD_eq_getD_getElem?]; exact h4
  simp [results, Tryz.results57]
  go_simp

set_option maxHeartbeats 16000000 in
set_option maxRecDepth 4000 in
theorem parse_any (sv : Value) (l : List T3) (hbig : l.length ≤ 1000000) (hG : GoodT l) (w : World) (hS : TSeg w sv (l.map toZ)) :
    Calls Tryz.prog 57 #[sv] w (ParseR w.heap.size l w (Pl.declsP 64 (l.map kt3))) := by
  obtain ⟨RES, hRES⟩ : ∃ RES, Pl.declsP 64 (l.map kt3) = RES := ⟨_, rfl⟩
  rw [hRES]
  have HR := hid hRES
  have HS := hid hS
  have HG := hid hG
  have hck : ∀ t ∈ l, ∀ W, Calls Tryz.prog 96 #[tokV t] W fun e w' => e = .returned (.int .i64 0) ∧ Below W.heap.size W w' := by
    intro t ht W
    have h0 := hG t ht
    have h1 := check_any (toZ t) (by have := (check_kt h0).2.2.1; show t.2.1.size ≤ maxLen; unfold maxLen; omega) W
    rw [h0] at h1
    exact h1
  have Hck := hid hck
  obtain ⟨a, cp, hsv, h1, h2, -⟩ := id hS
  rw [List.length_map] at hsv h1
  subst hsv
  obtain ⟨N, hN⟩ : ∃ N, N = l.length := ⟨_, rfl⟩
  have HN := hid hN
  rw [← hN] at hbig h1 ⊢
  unfold maxLen at h2
  have hmf : ∀ (fn : Fn) (first cap : Array Value) (w : World), (Instr.makeFunc fn first cap).run Tryz.prog w = .ok (.func fn first cap) w := fun _ _ _ _ => rfl
  obtain ⟨b, hbe⟩ : ∃ b, b = w.heap.size := ⟨_, rfl⟩
  have hb0 := below_alloc w (.cells #[.slice none 0 0, .slice none 0 0, .slice none 0 0] 26)
  have hB0 := Bx.new w [.slice none 0 0, .slice none 0 0, .slice none 0 0] 26
  rw [← hbe] at hB0
  change Bx (w.alloc (.cells #[.slice none 0 0, .slice none 0 0, .slice none 0 0] 26)) _ _ _ at hB0
  clear hRES hG hS hck hN
  go_enter Tryz.func57, Tryz.ntmps57
  go_wp2_with fail
  rw [← hbe]
  have HB := hid hbe
  clear hbe
  generalize w.alloc (.cells #[.slice none 0 0, .slice none 0 0, .slice none 0 0] 26) = w0 at *
  go_loopw [12] (fun i wr => ∃ k : Nat, k ≤ N ∧ i = .int .i64 k ∧ Below w0.heap.size w0 wr) (fun i _ => N - (intOf i).toNat)
  case atStart => exact ⟨0, Nat.zero_le _, rfl, Below.refl _ _⟩
  case round =>
    obtain ⟨k, hk, rfl, hbk⟩ := hrel
    by_cases hlt : k < N
    · obtain ⟨t, ht⟩ : ∃ t, l[k]? = some t := ⟨l[k]'(by have := HN.out; omega), by simp⟩
      have hSk : TSeg wr (.slice a N cp) (l.map toZ) := by
        have := (HS.out.below hb0).below hbk
        rw [← HN.out] at this
        exact this
      obtain ⟨g, off, rfl, hg, -, q1, q2, q3⟩ := hSk.token k t ht
      have hck := Hck.out t (List.mem_of_getElem? ht)
      have hkN : (0 : Int) ≤ (k : Int) ∧ (k : Int) < (N : Int) := by omega
      unfold tokV at hck
      clear hSk ht
      go_wp2_with fail
      refine (hck _).mono ?_
      rintro e w2 ⟨rfl, hb2⟩
      have hb02 := hbk.trans ((below_next (below_alloc wr _) hb2).mono hbk.size)
      go_wp2
      exact ⟨⟨k + 1, by omega, by go_num, hb02⟩, by simp [intOf]; omega⟩
    · have hbw := below_next hb0 hbk
      have hBk := hB0.below hbk
      have hSk : TSeg wr (.slice a N cp) (l.map toZ) := by
        have := HS.out.below hbw
        rw [← HN.out] at this
        exact this
      obtain ⟨n, hn⟩ : ∃ n, n = wr.heap.size := ⟨_, rfl⟩
      have hbA := below_alloc wr (.cells #[.slice a N cp, .int .i64 0, .slice none 0 0, .slice none 0 0, .slice none 0 0] 170)
      have hBn := Bx.new wr [.slice a N cp, .int .i64 0, .slice none 0 0, .slice none 0 0, .slice none 0 0] 170
      have hsz : (wr.alloc (.cells #[.slice a N cp, .int .i64 0, .slice none 0 0, .slice none 0 0, .slice none 0 0] 170)).heap.size = n + 1 := by rw [hn]; simp
      rw [← hn] at hBn
      change Bx (wr.alloc (.cells #[.slice a N cp, .int .i64 0, .slice none 0 0, .slice none 0 0, .slice none 0 0] 170)) _ _ _ at hBn
      have hbb : b < n := by have := hBk.lt; omega
      have hwn : w.heap.size ≤ n := by have := hbw.size; omega
      have hBkA := hBk.below hbA
      have hbwA := below_next hbw hbA
      have hSA := hSk.below hbA
      have hsb : 0 < l.length → ∀ g, (Value.slice a N cp).ownBlock = some g → g < n := by
        intro h0 g hg
        obtain ⟨a', cp', he, -, -, -, h5⟩ := hSk
        injection he with e1 e2 e3
        subst e1
        rcases a with _ | ⟨g', off, ar⟩
        · simp [Value.ownBlock] at hg
        · simp [Value.ownBlock] at hg
          subst hg
          have := (h5 g' off ar rfl (by rw [List.length_map]; exact h0)).2.1
          omega
      go_wp2_with fail
      rw [← hn]
      have Hn := hid hn
      clear hn
      generalize wr.alloc (.cells #[.slice a N cp, .int .i64 0, .slice none 0 0, .slice none 0 0, .slice none 0 0] 170) = wA at *
      have hbB := below_alloc wA (.cells #[.int .i64 0, .int .i64 0] 134)
      have hBf := Bx.new wA [.int .i64 0, .int .i64 0] 134
      have hrd := readAll_any n n (.slice a N cp) l (by rw [← HN.out]; exact hbig) HG.out (wA.alloc (.cells #[.int .i64 0, .int .i64 0] 134)) ⟨_, _, _, hBn.below hbB, Rows.nil _ _ _ _ _, Rows.nil _ _ _ _ _, Rows.nil _ _ _ _ _⟩ (hSA.below hbB) (Nat.le_refl _) hsb
      rw [HR.out] at hrd
      have hfX : ∀ W', Ch (Xa n) (wA.alloc (.cells #[.int .i64 0, .int .i64 0] 134)) W' → Bx W' wA.heap.size [.int .i64 0, .int .i64 0] 134 := fun W' hc => hBf.ch hc (fun hx => by have := hx.2; revert this; unfold Xs; decide)
      cases RES with
      | ok ds r =>
        have hca := caught_ok 97 #[.pointer (some ⟨n, 0, none⟩)] (fun _ _ => rfl) wA (fun W' => ∃ i', SchI n n (.slice a N cp) ds W' i' ∧ Ch (Xa n) (wA.alloc (.cells #[.int .i64 0, .int .i64 0] 134)) W') (fun W' hW => by obtain ⟨i', -, hc⟩ := hW; exact hfX W' hc) (hrd.mono (by
          rintro e w' ⟨i', rfl, -, -, h1, h2⟩
          exact ⟨rfl, i', h1, h2⟩))
        refine hca.mono ?_
        rintro e w5 ⟨rfl, W', ⟨i', ⟨s1, s2, s3, hP', hr1, hr2, hr3⟩, hc'⟩, rfl⟩
        have hB' := (hBkA.below hbB).ch hc' (fun hx => by have := hx.2; revert this; unfold Xs; decide)
        have hf' := hfX W' hc'
        have hfn : wA.heap.size ≠ n := by omega
        have hfb : wA.heap.size ≠ b := by omega
        have hbw' : Below w.heap.size w W' := (below_next hbwA hbB).trans ((Xa.below hc' (by simp; omega)).mono hwn)
        have hwf : w.heap.size ≤ wA.heap.size := by omega
        have hP5 := (hP'.other (k := 0) (Ne.symm hfn) (.int .i64 0)).other (k := 1) (Ne.symm hfn) (.int .i64 0)
        have hB5 := (hB'.other (k := 0) (Ne.symm hfb) (.int .i64 0)).other (k := 1) (Ne.symm hfb) (.int .i64 0)
        have hb5 := (hbw'.setCell (p := ⟨wA.heap.size, 0, none⟩) hwf (.int .i64 0)).setCell (p := ⟨wA.heap.size, 1, none⟩) hwf (.int .i64 0)
        have hX5 : Ch (fun g T => g = wA.heap.size ∧ T = 134) W' ((W'.setCell ⟨wA.heap.size, 0, none⟩ (.int .i64 0)).setCell ⟨wA.heap.size, 1, none⟩ (.int .i64 0)) := (Ch.set hf' ⟨rfl, rfl⟩ _).trans (Ch.set (hf'.set 0 (.int .i64 0)) ⟨rfl, rfl⟩ _)
        have hV5 : SchV n ds s1 s2 s3 _ := SchV.ch ⟨hr1, hr2, hr3⟩ hX5 (fun g T h => by rw [h.2]; decide)
        obtain ⟨ad1, cp1, rfl⟩ := hr1.shape
        obtain ⟨ad2, cp2, rfl⟩ := hr2.shape
        obtain ⟨ad3, cp3, rfl⟩ := hr3.shape
        clear hr1 hr2 hr3 hX5 hP' hB' hf' hbw' hca hc' hrd hfX
        generalize ((W'.setCell ⟨wA.heap.size, 0, none⟩ (.int .i64 0)).setCell ⟨wA.heap.size, 1, none⟩ (.int .i64 0)) = w5 at *
        generalize (stOf ds).length = m1 at *
        generalize (enOf ds).length = m2 at *
        generalize (svOf ds).length = m3 at *
        have c2 := Bx.cell hP5 2 rfl
        have c3 := Bx.cell hP5 3 rfl
        have c4 := Bx.cell hP5 4 rfl
        have d0 := hB5.cell 0 rfl
        have d1 := hB5.cell 1 rfl
        have d2 := hB5.cell 2 rfl
        have df := hB5.frozen
        have hln5 := Bx.lt hP5
        have hlb5 := hB5.lt
        have hbn5 : b ≠ n := by omega
        go_wp2
        have hge : w.heap.size ≤ b := by rw [HB.out]; exact Nat.le_refl _
        have hB6 := (((hB5.set 0 (.slice ad1 m1 cp1)).set 1 (.slice ad2 m2 cp2)).set 2 (.slice ad3 m3 cp3)).alloc (.cells #[.int .i64 0, .int .i64 0] 134)
        refine bodyPost_ret (ret_parse8 rfl rfl rfl (hB6.cell 0 rfl) (hB6.cell 1 rfl) (hB6.cell 2 rfl)) rfl ?_
        have hX6 : Ch (fun g T => g = b ∧ T = 26) w5 (((w5.setCell ⟨b, 0, none⟩ (.slice ad1 m1 cp1)).setCell ⟨b, 1, none⟩ (.slice ad2 m2 cp2)).setCell ⟨b, 2, none⟩ (.slice ad3 m3 cp3)) := ((Ch.set hB5 ⟨rfl, rfl⟩ _).trans (Ch.set (hB5.set 0 (.slice ad1 m1 cp1)) ⟨rfl, rfl⟩ _)).trans (Ch.set ((hB5.set 0 (.slice ad1 m1 cp1)).set 1 (.slice ad2 m2 cp2)) ⟨rfl, rfl⟩ _)
        have hV6 := (hV5.ch hX6 (fun g T h => by rw [h.2]; decide)).below (below_alloc _ (.cells #[.int .i64 0, .int .i64 0] 134))
        have hb6 := ((hb5.setCell (p := ⟨b, 0, none⟩) hge (.slice ad1 m1 cp1)).setCell (p := ⟨b, 1, none⟩) hge (.slice ad2 m2 cp2)).setCell (p := ⟨b, 2, none⟩) hge (.slice ad3 m3 cp3)
        exact ⟨_, _, _, rfl, hV6.mono hwn, hb6.trans ((below_alloc _ _).mono hb6.size)⟩
      | bad r er =>
        have her : er ≠ 0 := NZ.decls 64 _ _ _ HR.out
        have hca := caught_bad 97 #[.pointer (some ⟨n, 0, none⟩)] (fun _ _ => rfl) wA (lineAt l (l.length - r.length) : Int) (er : Int) (fun W' => (l.length - r.length ≤ l.length ∧ r = (l.drop (l.length - r.length)).map kt3) ∧ Ch (Xa n) (wA.alloc (.cells #[.int .i64 0, .int .i64 0] 134)) W') (fun W' hW => hfX W' hW.2) (hrd.mono (by
          rintro e w' ⟨i', rfl, hi', hr', h2⟩
          have hlr : l.length - r.length = i' := by
            rw [hr', List.length_map, List.length_drop]
            omega
          rw [hlr]
          exact ⟨rfl, ⟨hi', hr'⟩, h2⟩))
        generalize l.length - r.length = i5 at *
        generalize hLN : lineAt l i5 = LN at *
        have HLN := hid hLN
        clear hLN
        refine hca.mono ?_
        rintro e w5 ⟨rfl, W', ⟨hh', hc'⟩, rfl⟩
        have HH := hid hh'
        have hB' := (hBkA.below hbB).ch hc' (fun hx => by have := hx.2; revert this; unfold Xs; decide)
        have hfb : wA.heap.size ≠ b := by omega
        have hbw' : Below w.heap.size w W' := (below_next hbwA hbB).trans ((Xa.below hc' (by simp; omega)).mono hwn)
        have hwf : w.heap.size ≤ wA.heap.size := by omega
        have hB5 := (hB'.other (k := 0) (Ne.symm hfb) (.int .i64 (LN : Int))).other (k := 1) (Ne.symm hfb) (.int .i64 (er : Int))
        have hb5 := (hbw'.setCell (p := ⟨wA.heap.size, 0, none⟩) hwf (.int .i64 (LN : Int))).setCell (p := ⟨wA.heap.size, 1, none⟩) hwf (.int .i64 (er : Int))
        clear hB' hbw' hca hc' hrd hfX hh'
        generalize ((W'.setCell ⟨wA.heap.size, 0, none⟩ (.int .i64 (LN : Int))).setCell ⟨wA.heap.size, 1, none⟩ (.int .i64 (er : Int))) = w5 at *
        have d0 := hB5.cell 0 rfl
        have d1 := hB5.cell 1 rfl
        have d2 := hB5.cell 2 rfl
        have df := hB5.frozen
        have hlb5 := hB5.lt
        have her' : ((er : Int) == 0) = false := by simp; omega
        go_wp2_with fail
        go_region
        go_wp2
        have hge : w.heap.size ≤ b := by rw [HB.out]; exact Nat.le_refl _
        have hB6 := ((((hB5.set 0 (.slice none 0 0)).set 1 (.slice none 0 0)).set 2 (.slice none 0 0)).alloc (.cells #[.int .i64 (LN : Int), .int .i64 (er : Int)] 134)).below (Below.refl _ _).drew
        refine bodyPost_ret (ret_parse8 rfl rfl rfl (hB6.cell 0 rfl) (hB6.cell 1 rfl) (hB6.cell 2 rfl)) rfl ?_
        have hb6 := ((hb5.setCell (p := ⟨b, 0, none⟩) hge (.slice none 0 0)).setCell (p := ⟨b, 1, none⟩) hge (.slice none 0 0)).setCell (p := ⟨b, 2, none⟩) hge (.slice none 0 0)
        rw [← HLN.out]
        exact ⟨i5, HH.out.2, HH.out.1, rfl, (hb6.trans ((below_alloc _ _).mono hb6.size)).drew⟩
end Go.Proofs.YtdbgncdnffbhkaaGreatDoor

namespace Go.Proofs.YtdbgncdnffbhkaaGreatDoor
open Go.RowKit
set_option maxRecDepth 20000

theorem cons_count (t : Pl.Tok) (x : List Pl.Tok × Nat × Int) : (Pl.tokCons t x).1.length ≤ x.1.length + 1 := by
  unfold Pl.tokCons
  split
  · simp
  · simp
theorem tok_count (f : Nat) : ∀ (l : List Nat) (ln : Nat), (Pl.tokS f l ln).1.length ≤ l.length := by
  induction f with
  | zero => intro l ln; exact Nat.zero_le _
  | succ f ih =>
    intro l ln
    cases l with
    | nil => exact Nat.le_refl _
    | cons c r =>
      simp only [Pl.tokS, List.length_cons]
      split
      · have := ih r (ln + 1); omega
      · split
        · have := ih r ln; omega
        · split
          · have h1 := ih (r.dropWhile (fun d => d != 10)) ln
            have := Pl.dropWhile_le (fun d => d != 10) r
            omega
          · split
            · have h1 := ih r ln
              have := cons_count ⟨3, [c], ln⟩ (Pl.tokS f r ln)
              omega
            · split
              · rename_i hp
                split
                · have h1 := ih ((c :: r).dropWhile Pl.isPart) ln
                  have h2 := Pl.part_drop c r hp
                  have := cons_count ⟨(Pl.wordE ((c :: r).takeWhile Pl.isPart)).1, (c :: r).takeWhile Pl.isPart, ln⟩ (Pl.tokS f ((c :: r).dropWhile Pl.isPart) ln)
                  omega
                · simp
              · simp

/-- The tokens of a text may be. -/
theorem text_good (s : ByteArray) (tl : List T3) (h : tl.map asTok = (tokA s).1) : GoodT tl ∧ tl.length ≤ 65536 ∧ tl.map kt3 = (tokA s).1.map Pl.kt := by
  have hkt : tl.map kt3 = (tokA s).1.map Pl.kt := by
    rw [← h, List.map_map]
    exact List.map_congr_left fun t _ => rfl
  have hl : tl.length = (tokA s).1.length := by rw [← h, List.length_map]
  unfold tokA at h hl
  split at h
  · have : tl = [] := by simpa using h
    subst this
    exact ⟨(fun t ht => by cases ht), by simp, hkt⟩
  · rename_i hs
    rw [if_neg hs] at hl
    refine ⟨fun t ht => ?_, ?_, hkt⟩
    · have hm : asTok t ∈ (Pl.tok (bl s) 1).1 := by rw [← h]; exact List.mem_map_of_mem ht
      have hok := Pl.tok_ok _ _ _ _ hm
      have hw := ((Pl.tok_within _ _ _).1 _ hm).1
      have hn := Pl.ok_next _ hok
      have hk := Pl.ok_kind _ hok
      obtain ⟨k, x, ln⟩ := t
      simp only [asTok] at hn hk hw
      unfold checkZ toZ just
      simp only
      rw [hn, bl_length]
      rw [if_neg (by omega)]
      simp only [decide_true, Bool.and_self, Bool.true_eq_false, if_false]
      rw [if_neg (by omega)]
    · rw [hl]
      have := tok_count ((bl s).length + 1) (bl s) 1
      rw [bl_length] at this
      unfold Pl.tok
      rw [bl_length]
      omega

def nilSch : Value := .agg #[.slice none 0 0, .slice none 0 0, .slice none 0 0]

def TextR (w : World) (s : ByteArray) (e : Ending) (w' : World) : Prop :=
  ((tokA s).2.2 ≠ 0 ∧ e = .returned (.tuple #[nilSch, .int .i64 ((tokA s).2.1 : Int), .int .i64 (tokA s).2.2]) ∧ Below w.heap.size w w') ∨
  ((tokA s).2.2 = 0 ∧ ∃ tl : List T3, tl.map asTok = (tokA s).1 ∧ ParseR w.heap.size tl w (Pl.declsP 64 ((tokA s).1.map Pl.kt)) e w')

theorem ret_text10 {W : World} {tmps : Array Value} {b : Nat} {x y z p q : Value} (ht : tmps.getD 2 undef = .pointer (some ⟨b, 0, none⟩)) (h3 : tmps.getD 3 undef = p) (h4 : tmps.getD 4 undef = q) (h0 : W.cell? ⟨b, 0, none⟩ = some x) (h1 : W.cell? ⟨b, 1, none⟩ = some y) (h2 : W.cell? ⟨b, 2, none⟩ = some z) :
    (results Tryz.f26 tmps).run Tryz.prog W = .ok (.tuple #[.agg #[x, y, z], p, q]) W := by
  have ht' : tmps[2]?.getD undef = .pointer (some ⟨b, 0, none⟩) := by rw [← Array.getD_eq_getD_getElem?]; exact ht
  have h3' : tmps[3]?.getD undef = p := by rw [← Array.getD_eq_getD_getElem?]; exact h3
  have h4' : tmps[4]?.getD undef = q := by rw [← Array.getD_eq_getD_getElem?]; exact h4
  simp [results, Tryz.results26]
  go_simp

theorem SchV.shape {B : Nat} {ds : List Pl.Decl} {s1 s2 s3 : Value} {w : World} (h : SchV B ds s1 s2 s3 w) : ∃ a1 c1 a2 c2 a3 c3, s1 = .slice a1 (stOf ds).length c1 ∧ s2 = .slice a2 (enOf ds).length c2 ∧ s3 = .slice a3 (svOf ds).length c3 := by
  obtain ⟨a1, c1, e1⟩ := h.1.shape
  obtain ⟨a2, c2, e2⟩ := h.2.1.shape
  obtain ⟨a3, c3, e3⟩ := h.2.2.shape
  exact ⟨a1, c1, a2, c2, a3, c3, e1, e2, e3⟩

set_option maxHeartbeats 8000000 in
set_option maxRecDepth 4000 in
theorem text_any (s : ByteArray) (w : World) : Calls Tryz.prog 26 #[.string s] w (TextR w s) := by
  have ht := fun w => tokens_any s w
  obtain ⟨b, hbe⟩ : ∃ b, b = w.heap.size := ⟨_, rfl⟩
  have hb0 := below_alloc w (.cells #[.slice none 0 0, .slice none 0 0, .slice none 0 0] 26)
  have hB0 := Bx.new w [.slice none 0 0, .slice none 0 0, .slice none 0 0] 26
  rw [← hbe] at hB0
  change Bx (w.alloc (.cells #[.slice none 0 0, .slice none 0 0, .slice none 0 0] 26)) _ _ _ at hB0
  obtain ⟨TL, LN, ER, hA⟩ : ∃ TL LN ER, tokA s = (TL, LN, ER) := ⟨_, _, _, rfl⟩
  have HA := hid hA
  rw [hA] at ht
  simp only at ht
  clear hA
  have ht0 := ht (w.alloc (.cells #[.slice none 0 0, .slice none 0 0, .slice none 0 0] 26))
  go_enter Tryz.func26, Tryz.ntmps26
  go_wp2_with fail
  rw [← hbe]
  have HB := hid hbe
  clear hbe ht
  generalize w.alloc (.cells #[.slice none 0 0, .slice none 0 0, .slice none 0 0] 26) = w0 at *
  refine ht0.mono ?_
  rintro e w1 ⟨v, tl, rfl, hT, hm, hb1⟩
  have hB1 := hB0.below hb1
  have hbw := below_next hb0 hb1
  have hge : w.heap.size ≤ b := by rw [HB.out]; exact Nat.le_refl _
  obtain ⟨ad, cp, rfl⟩ := hT.shape
  have hS := hT.seg
  have HM := hid hm
  clear ht0 hm hT
  by_cases her : ER = 0
  · subst her
    have hm2 : tl.map asTok = (tokA s).1 := by rw [HA.out]; exact HM.out
    obtain ⟨hG, htl, hkt⟩ := text_good s tl hm2
    have hpa := parse_any _ tl (by omega) hG w1 hS
    rw [hkt] at hpa
    have HM2 := hid hm2
    have HK : Hid ((tokA s).2.2 = 0) := by rw [HA.out]; exact rfl
    generalize hRES : Pl.declsP 64 ((tokA s).1.map Pl.kt) = RES at *
    have HR := hid hRES
    clear hRES hkt hG hS hm2 HA HM
    generalize tl.length = m at *
    go_wp2_with fail
    refine hpa.mono ?_
    clear hpa
    cases RES with
    | ok ds r =>
      rintro e w2 ⟨s1, s2, s3, rfl, hV, hb2⟩
      obtain ⟨a1, c1, a2, c2, a3, c3, rfl, rfl, rfl⟩ := hV.shape
      generalize (stOf ds).length = m1 at *
      generalize (enOf ds).length = m2 at *
      generalize (svOf ds).length = m3 at *
      have hB2 := hB1.below hb2
      have hbw2 := below_next hbw hb2
      have d0 := hB2.cell 0 rfl
      have d1 := hB2.cell 1 rfl
      have d2 := hB2.cell 2 rfl
      have df := hB2.frozen
      go_wp2
      have hB6 := ((hB2.set 0 (.slice a1 m1 c1)).set 1 (.slice a2 m2 c2)).set 2 (.slice a3 m3 c3)
      refine bodyPost_ret (ret_text10 rfl rfl rfl (hB6.cell 0 rfl) (hB6.cell 1 rfl) (hB6.cell 2 rfl)) rfl ?_
      have hX6 : Ch (fun g T => g = b ∧ T = 26) w2 (((w2.setCell ⟨b, 0, none⟩ (.slice a1 m1 c1)).setCell ⟨b, 1, none⟩ (.slice a2 m2 c2)).setCell ⟨b, 2, none⟩ (.slice a3 m3 c3)) := ((Ch.set hB2 ⟨rfl, rfl⟩ _).trans (Ch.set (hB2.set 0 (.slice a1 m1 c1)) ⟨rfl, rfl⟩ _)).trans (Ch.set ((hB2.set 0 (.slice a1 m1 c1)).set 1 (.slice a2 m2 c2)) ⟨rfl, rfl⟩ _)
      have hV6 := hV.ch hX6 (fun g T h => by rw [h.2]; decide)
      refine .inr ⟨HK.out, tl, HM2.out, ?_⟩
      rw [HR.out]
      exact ⟨_, _, _, rfl, hV6.mono hbw.size, ((hbw2.setCell (p := ⟨b, 0, none⟩) hge _).setCell (p := ⟨b, 1, none⟩) hge _).setCell (p := ⟨b, 2, none⟩) hge _⟩
    | bad r er =>
      rintro e w2 ⟨i5, hr5, hi5, rfl, hb2⟩
      have hB2 := hB1.below hb2
      have hbw2 := below_next hbw hb2
      have d0 := hB2.cell 0 rfl
      have d1 := hB2.cell 1 rfl
      have d2 := hB2.cell 2 rfl
      have df := hB2.frozen
      have HR5 := hid hr5
      clear hr5
      go_wp2
      have hB6 := ((hB2.set 0 (.slice none 0 0)).set 1 (.slice none 0 0)).set 2 (.slice none 0 0)
      refine bodyPost_ret (ret_text10 rfl rfl rfl (hB6.cell 0 rfl) (hB6.cell 1 rfl) (hB6.cell 2 rfl)) rfl ?_
      refine .inr ⟨HK.out, tl, HM2.out, ?_⟩
      rw [HR.out]
      exact ⟨i5, HR5.out, hi5, rfl, ((hbw2.setCell (p := ⟨b, 0, none⟩) hge _).setCell (p := ⟨b, 1, none⟩) hge _).setCell (p := ⟨b, 2, none⟩) hge _⟩
  · have her' : (ER == 0) = false := by simp [her]
    have HE := hid her
    generalize tl.length = m at *
    have d0 := hB1.cell 0 rfl
    have d1 := hB1.cell 1 rfl
    have d2 := hB1.cell 2 rfl
    have df := hB1.frozen
    clear hS
    go_wp2
    have hB6 := ((hB1.set 0 (.slice none 0 0)).set 1 (.slice none 0 0)).set 2 (.slice none 0 0)
    refine bodyPost_ret (ret_text10 rfl rfl rfl (hB6.cell 0 rfl) (hB6.cell 1 rfl) (hB6.cell 2 rfl)) rfl ?_
    refine .inl ?_
    rw [HA.out]
    exact ⟨HE.out, rfl, ((hbw.setCell (p := ⟨b, 0, none⟩) hge _).setCell (p := ⟨b, 1, none⟩) hge _).setCell (p := ⟨b, 2, none⟩) hge _⟩
end Go.Proofs.YtdbgncdnffbhkaaGreatDoor

namespace Go.Proofs.YtdbgncdnffbhkaaGreatDoor
open Go.RowKit
set_option maxRecDepth 20000

theorem flat_at {α : Type} (m : Nat) (ps : List (α × List Value)) (h : ∀ p ∈ ps, p.2.length = m) (i : Nat) (p : α × List Value) (hi : ps[i]? = some p) (j : Nat) (hj : j < m) : (ps.flatMap Prod.snd)[i * m + j]? = p.2[j]? := by
  induction ps generalizing i with
  | nil => simp at hi
  | cons q ps ih =>
    have hq := h q (by simp)
    rw [List.flatMap_cons]
    cases i with
    | zero =>
      simp at hi
      subst hi
      rw [Nat.zero_mul, Nat.zero_add, List.getElem?_append_left (by omega)]
    | succ i =>
      rw [List.getElem?_cons_succ] at hi
      have e : (i + 1) * m + j = m + (i * m + j) := by rw [Nat.succ_mul]; omega
      rw [e, List.getElem?_append_right (by omega), hq, Nat.add_sub_cancel_left]
      exact ih (fun p hp => h p (by simp [hp])) i hi

theorem Rows.at {α : Type} {T : TypeId} {m : Nat} {R : α → List Value → World → Prop} {B : Nat} {w : World} {v : Value} {xs : List α} (h : Rows T m R B w v xs) {i : Nat} {a : α} (hi : xs[i]? = some a) :
    ∃ g cap c, v = .slice (some ⟨g, 0, none⟩) xs.length cap ∧ xs.length ≤ cap ∧ cap ≤ maxLen ∧ g < w.heap.size ∧ R a c w ∧ c.length = m ∧ ∀ j u, c[j]? = some u → w.cell? ⟨g, i * m + j, none⟩ = some u := by
  obtain ⟨ps, rfl, h2, h3⟩ := h
  rw [List.getElem?_map] at hi
  cases hp : ps[i]? with
  | none => rw [hp] at hi; simp at hi
  | some p =>
    rw [hp] at hi
    simp at hi
    subst hi
    have hil := (List.getElem?_eq_some_iff.1 hp).1
    rcases h3.2 with ⟨_, h0⟩ | ⟨g, cap, cur, rfl, hb, hg, hle, hm, hs, ht⟩
    · omega
    · have hmem := List.mem_of_getElem? hp
      refine ⟨g, cap, p.2, by rw [List.length_map], by rw [List.length_map]; exact hle, hm, lt_of_some hg, (h2 p hmem).1, (h2 p hmem).2, fun j u hu => ?_⟩
      have hj : j < m := by
        have := (List.getElem?_eq_some_iff.1 hu).1
        rw [(h2 p hmem).2] at this
        exact this
      have hlt : i * m + j < ps.length * m := by
        have : (i + 1) * m ≤ ps.length * m := Nat.mul_le_mul_right m hil
        rw [Nat.succ_mul] at this
        omega
      rw [cell_of_row w g _ cur T (0, 0) hg]
      have hf := flat_at m ps (fun p hp => (h2 p hp).2) i p hp j hj
      rw [← ht, List.getElem?_take_of_lt hlt, hu] at hf
      simpa using hf

end Go.Proofs.YtdbgncdnffbhkaaGreatDoor

namespace Go.Proofs.YtdbgncdnffbhkaaGreatDoor
open Go.RowKit
set_option maxRecDepth 20000

/-- A slice of one type, or of none. -/
def OfC (B : Nat) (w : World) (v : Value) (t : Option Pl.Ty) : Prop :=
  match t with
  | none => ∃ cap, v = .slice none 0 cap
  | some t => ∃ g x y z, v = .slice (some ⟨g, 0, none⟩) 1 1 ∧ Bx w g [x, y, z] 34 ∧ TyC B t w x y z

def inner : Pl.Ty → Option Pl.Ty
  | .plain _ => none
  | .named _ => none
  | .list t => some t
  | .opt t => some t
def kindOf : Pl.Ty → Int
  | .plain k => (k : Int)
  | .named _ => 8
  | .list _ => 6
  | .opt _ => 7
def nameOf : Pl.Ty → List Nat
  | .plain _ => []
  | .named n => n
  | .list _ => []
  | .opt _ => []

theorem TyC.parts {B : Nat} {t : Pl.Ty} {w : World} {a b c : Value} (h : TyC B t w a b c) : a = .int .i64 (kindOf t) ∧ (∃ s, b = .string s ∧ bl s = nameOf t) ∧ OfC B w c (inner t) := by
  cases t with
  | plain k => obtain ⟨rfl, rfl, rfl⟩ := h; exact ⟨rfl, ⟨_, rfl, rfl⟩, 0, rfl⟩
  | named x => obtain ⟨rfl, ⟨s, rfl, hs⟩, rfl⟩ := h; exact ⟨rfl, ⟨s, rfl, hs⟩, 0, rfl⟩
  | list t => obtain ⟨rfl, rfl, g, x, y, z, rfl, _, h4, h5⟩ := h; exact ⟨rfl, ⟨_, rfl, rfl⟩, g, x, y, z, rfl, h4, h5⟩
  | opt t => obtain ⟨rfl, rfl, g, x, y, z, rfl, _, h4, h5⟩ := h; exact ⟨rfl, ⟨_, rfl, rfl⟩, g, x, y, z, rfl, h4, h5⟩
theorem TyC.below {B : Nat} {t : Pl.Ty} {w w' : World} {a b c : Value} (h : TyC B t w a b c) (hb : Below w.heap.size w w') : TyC B t w' a b c :=
  TyC.ch (X := fun _ _ => False) (Ch.below hb) (fun _ _ h => h) _ _ _ _ h
theorem OfC.below {B : Nat} {w w' : World} {v : Value} {t : Option Pl.Ty} (h : OfC B w v t) (hb : Below w.heap.size w w') : OfC B w' v t := by
  cases t with
  | none => exact h
  | some t =>
    obtain ⟨g, x, y, z, h1, h2, h3⟩ := h
    exact ⟨g, x, y, z, h1, h2.below hb, h3.below hb⟩

end Go.Proofs.YtdbgncdnffbhkaaGreatDoor

namespace Go.Proofs.YtdbgncdnffbhkaaGreatDoor
open Go.RowKit
set_option maxRecDepth 20000

/-- Types of any make lie in a slice, so many steps down; their rows lie below B. -/
def LyS (B : Nat) : Nat → List Pl.GT → World → Value → Prop
  | 0, _, _, v => ∃ ad m cp, v = .slice ad m cp
  | n + 1, l, w, v => ∃ ad cp, v = .slice ad l.length cp ∧ l.length ≤ 9223372036854775807 ∧ ∀ i g, l[i]? = some g → ∃ blk off s o, ad = some ⟨blk, off, none⟩ ∧ blk < B ∧
      w.cell? ⟨blk, off + i * 3, none⟩ = some (.int .i64 g.k) ∧ w.cell? ⟨blk, off + i * 3 + 1, none⟩ = some (.string s) ∧ bl s = g.n ∧ s.size ≤ maxLen ∧ w.cell? ⟨blk, off + i * 3 + 2, none⟩ = some o ∧ LyS B n g.os w o
theorem LyS.mono {B B' : Nat} (hB : B ≤ B') : ∀ (n : Nat) (l : List Pl.GT) (w : World) (v : Value), LyS B n l w v → LyS B' n l w v := by
  intro n
  induction n with
  | zero => intro l w v h; exact h
  | succ n ih =>
    rintro l w v ⟨ad, cp, h1, h2, h3⟩
    refine ⟨ad, cp, h1, h2, fun i g hg => ?_⟩
    obtain ⟨blk, off, s, o, q1, q2, q3, q4, q5, q6, q7, q8⟩ := h3 i g hg
    exact ⟨blk, off, s, o, q1, Nat.lt_of_lt_of_le q2 hB, q3, q4, q5, q6, q7, ih _ _ _ q8⟩
theorem LyS.less {B : Nat} : ∀ (n : Nat) (l : List Pl.GT) (w : World) (v : Value), LyS B (n + 1) l w v → LyS B n l w v := by
  intro n
  induction n with
  | zero => rintro l w v ⟨ad, cp, h1, _⟩; exact ⟨ad, _, cp, h1⟩
  | succ n ih =>
    rintro l w v ⟨ad, cp, h1, h2, h3⟩
    refine ⟨ad, cp, h1, h2, fun i g hg => ?_⟩
    obtain ⟨blk, off, s, o, q1, q2, q3, q4, q5, q6, q7, q8⟩ := h3 i g hg
    exact ⟨blk, off, s, o, q1, q2, q3, q4, q5, q6, q7, ih _ _ _ q8⟩
theorem LyS.bel {B : Nat} {w w' : World} (hb : Below B w w') : ∀ (n : Nat) (l : List Pl.GT) (v : Value), LyS B n l w v → LyS B n l w' v := by
  intro n
  induction n with
  | zero => intro l v h; exact h
  | succ n ih =>
    rintro l v ⟨ad, cp, h1, h2, h3⟩
    refine ⟨ad, cp, h1, h2, fun i g hg => ?_⟩
    obtain ⟨blk, off, s, o, q1, q2, q3, q4, q5, q6, q7, q8⟩ := h3 i g hg
    exact ⟨blk, off, s, o, q1, q2, (hb.cell q2).trans q3, (hb.cell q2).trans q4, q5, q6, (hb.cell q2).trans q7, ih _ _ q8⟩
theorem LyS.shape {B n : Nat} {l : List Pl.GT} {w : World} {v : Value} (h : LyS B n l w v) : ∃ ad m cp, v = .slice ad m cp := by
  cases n with
  | zero => exact h
  | succ n => obtain ⟨ad, cp, h1, _⟩ := h; exact ⟨ad, _, cp, h1⟩

set_option maxHeartbeats 2000000 in
theorem holds_any (g : Pl.GT) (s o : Value) (w : World) : Calls Tryz.prog 211 #[.agg #[.int .i64 g.k, s, o]] w fun e w' => e = .returned (.bool g.holds) ∧ Below w.heap.size w w' := by
  unfold Pl.GT.holds
  generalize g.k = k
  by_cases h6 : k = 6
  · subst h6
    go_enter Tryz.func211, Tryz.ntmps211
    go_wp2
    go_ret
    exact ⟨rfl, below_alloc w _⟩
  · have hq : (k == 6) = false := by simp [h6]
    by_cases h7 : k = 7
    · subst h7
      go_enter Tryz.func211, Tryz.ntmps211
      go_wp2
      go_ret
      exact ⟨rfl, below_alloc w _⟩
    · have hq7 : (k == 7) = false := by simp [h7]
      go_enter Tryz.func211, Tryz.ntmps211
      go_wp2
      go_ret
      refine ⟨?_, below_alloc w _⟩
      simp [h6, h7]

/-- One step of deepP. -/
def deepF (m : Nat) (d : Nat) (g : Pl.GT) : Nat := if d < m + 1 then max d (1 + (if g.holds then Pl.deepP m g.os else 0)) else d
theorem deepP_succ (m : Nat) (l : List Pl.GT) : Pl.deepP (m + 1) l = l.foldl (deepF m) 0 := rfl
theorem deepF_stay (m d : Nat) (l : List Pl.GT) (h : ¬ d < m + 1) : l.foldl (deepF m) d = d := by
  induction l with
  | nil => rfl
  | cons g l ih => rw [List.foldl_cons, deepF, if_neg h, ih]
theorem deepP_le (m : Nat) : ∀ l, Pl.deepP m l ≤ m := by
  induction m with
  | zero => intro l; exact Nat.le_refl _
  | succ m ih =>
    intro l
    rw [deepP_succ]
    suffices H : ∀ d, d ≤ m + 1 → l.foldl (deepF m) d ≤ m + 1 from H 0 (by omega)
    induction l with
    | nil => intro d hd; exact hd
    | cons g l ihl =>
      intro d hd
      rw [List.foldl_cons]
      refine ihl _ ?_
      unfold deepF
      have := ih g.os
      split
      · split <;> omega
      · exact hd
theorem fold_take {α β : Type} (f : β → α → β) (b : β) (l : List α) (k : Nat) (x : α) (h : l[k]? = some x) : (l.take (k + 1)).foldl f b = f ((l.take k).foldl f b) x := by
  rw [List.take_add_one, h, List.foldl_append]
  rfl

structure DeepI (M m : Nat) (l : List Pl.GT) (w : World) (d i : Value) (wr : World) : Prop where
  all : ∃ k : Nat, k ≤ M ∧ i = .int .i64 k ∧ d = .int .i64 (((l.take k).foldl (deepF m) 0 : Nat) : Int) ∧ Below w.heap.size w wr

set_option maxHeartbeats 8000000 in
theorem deepest_any (m : Nat) : ∀ (B : Nat) (l : List Pl.GT) (w : World) (v : Value), m ≤ 1000 → LyS B m l w v → B ≤ w.heap.size →
    Calls Tryz.prog 210 #[.int .i64 (m : Int), v] w fun e w' => e = .returned (.int .i64 (Pl.deepP m l : Int)) ∧ Below w.heap.size w w' := by
  induction m with
  | zero =>
    intro B l w v _ h hB
    obtain ⟨ad, n, cp, rfl⟩ := h
    rw [show Pl.deepP 0 l = 0 from rfl]
    go_enter Tryz.func210, Tryz.ntmps210
    go_wp2_with fail
    by_cases hn : 0 < n
    · go_rounds 1
      go_ret
      exact ⟨rfl, Below.refl _ _⟩
    · go_rounds 1
      go_ret
      exact ⟨rfl, Below.refl _ _⟩
  | succ m ih =>
    intro B l w v hm h hB
    obtain ⟨ad, cp, rfl, hlen, hcells⟩ := h
    obtain ⟨M, hM⟩ : ∃ M, M = l.length := ⟨_, rfl⟩
    obtain ⟨D, hD⟩ : ∃ D, D = Pl.deepP (m + 1) l := ⟨_, rfl⟩
    rw [← hM, ← hD]
    have HM : Hid (M = l.length) := hM
    have HD : Hid (D = l.foldl (deepF m) 0) := hD
    have HC := hid hcells
    have HI := hid ih
    rw [← hM] at hlen
    clear hM hD hcells ih
    go_enter Tryz.func210, Tryz.ntmps210
    go_wp2_with fail
    go_loopw [5, 6] (fun d i wr => DeepI M m l w d i wr) (fun _ i _ => M - (intOf i).toNat)
    case atStart => exact ⟨0, Nat.zero_le _, rfl, rfl, Below.refl _ _⟩
    case round =>
      obtain ⟨k, hk, rfl, rfl, hbw⟩ := hrel.all
      clear hrel
      obtain ⟨d, hd⟩ : ∃ d, d = (l.take k).foldl (deepF m) 0 := ⟨_, rfl⟩
      rw [← hd]
      have Hd : Hid (d = (l.take k).foldl (deepF m) 0) := hd
      clear hd
      by_cases hlt : k < M
      · by_cases hdm : d < m + 1
        · obtain ⟨g, hg⟩ : ∃ g, l[k]? = some g := ⟨l[k]'(by rw [← HM.out]; exact hlt), by simp⟩
          obtain ⟨blk, off, s, o, rfl, q2, q3, q4, q5, q6, q7, q8⟩ := HC.out k g hg
          obtain ⟨oa, om, oc, rfl⟩ := q8.shape
          have hB' : blk < w.heap.size := Nat.lt_of_lt_of_le q2 hB
          have c0 := (hbw.cell hB').trans q3
          have c1 := (hbw.cell hB').trans q4
          have c2 := (hbw.cell hB').trans q7
          have hh := holds_any g (.string s) (.slice oa om oc) wr
          have hnext : (l.take (k + 1)).foldl (deepF m) 0 = max d (1 + (if g.holds then Pl.deepP m g.os else 0)) := by
            rw [fold_take _ _ _ _ _ hg, ← Hd.out, deepF, if_pos hdm]
          have hle := deepP_le m g.os
          have hblk : blk < wr.heap.size := Nat.lt_of_lt_of_le hB' hbw.size
          have Hn := hid hnext
          have Hq := hid q8
          have HW := hid hbw
          clear hnext q3 q4 q5 q6 q7 hg q8 hbw
          cases hb : g.holds with
          | true =>
            rw [hb] at hh
            have hn2 := Hn.out
            rw [hb, if_pos rfl] at hn2
            have Hn2 := hid hn2
            clear hn2 Hn hb
            go_wp2_with fail
            refine hh.mono ?_
            rintro e w1 ⟨rfl, hb1⟩
            have HB1 := hid (below_next HW.out hb1)
            have c2' := (hb1.cell hblk).trans c2
            have hr := HI.out B g.os w1 _ (by omega) (LyS.bel (HB1.out.mono hB) _ _ _ Hq.out) (Nat.le_trans hB HB1.out.size)
            have hblk1 : blk < w1.heap.size := Nat.lt_of_lt_of_le hblk hb1.size
            clear hh c0 c1 c2 hb1
            generalize Pl.deepP m g.os = R at *
            go_wp2_with fail
            refine hr.mono ?_
            rintro e w2 ⟨rfl, hb2⟩
            have HB2 := hid (below_next HB1.out hb2)
            clear hr hb2
            go_wp2
            refine ⟨?_, ?_⟩
            · (repeat apply Exists.intro)
              refine ⟨⟨k + 1, by omega, by go_num, ?_, HB2.out⟩, rfl⟩
              rw [Hn2.out]
              congr 1
              omega
            · simp [intOf]; omega
          | false =>
            rw [hb] at hh
            have hn2 := Hn.out
            rw [hb, if_neg (by simp)] at hn2
            have Hn2 := hid hn2
            clear hn2 Hn hb
            go_wp2_with fail
            refine hh.mono ?_
            rintro e w1 ⟨rfl, hb1⟩
            have HB1 := hid (below_next HW.out hb1)
            clear hh c0 c1 c2 hb1
            go_wp2
            refine ⟨?_, ?_⟩
            · (repeat apply Exists.intro)
              refine ⟨⟨k + 1, by omega, by go_num, ?_, HB1.out⟩, rfl⟩
              rw [Hn2.out]
              congr 1
              omega
            · simp [intOf]; omega
        · have hDd : D = d := by
            rw [HD.out]
            have e : l = l.take k ++ l.drop k := (List.take_append_drop k l).symm
            rw [e, List.foldl_append, ← Hd.out]
            exact deepF_stay m d _ hdm
          subst hDd
          clear Hd
          go_wp2
          go_ret
          exact ⟨rfl, hbw⟩
      · have hDd : D = d := by
          rw [HD.out, Hd.out, show k = l.length by rw [← HM.out]; omega, List.take_length]
        subst hDd
        clear Hd
        go_wp2
        go_ret
        exact ⟨rfl, hbw⟩
end Go.Proofs.YtdbgncdnffbhkaaGreatDoor

