/- parse: caught. parse: Parse. parse: Text; alive. parse: rows are read; alive. Are types one? parse: types of any make, as they lie; holdsTypes, deepest. -/
import Derived.Test.YtmiohekmpjiloaaGreatDoorCutPut13
import Derived.Defers
import Derived.Recover
import Derived.Test.YtmiohekmpjiloaaGreatDoorCutPut16
import Derived.Test.YtmiohekmpjiloaaGreatDoorCutPut15
namespace Go.Proofs.YtmiohekmpjiloaaGreatDoor
open Go.RowKit
set_option maxRecDepth 20000

theorem run_assert (x : Value) (w : World) : (Instr.typeAssert (.iface 150 x) 20 150 false).run Tryz.prog w = .ok x w := by kernel_rfl

theorem catch_panicking (b : Nat) (ln er : Int) (older : List PanicEntry) (w : World) (hB : Bx w b [.int .i64 0, .int .i64 0] 150) :
    CallsD Tryz.prog 130 #[.pointer (some ⟨b, 0, none⟩)] (.panicking ({ v := .iface 150 (.agg #[.int .i64 ln, .int .i64 er]), recovered := false } :: older)) w fun e u' w' =>
      e = .returned (.tuple #[]) ∧ u' = .panicking ({ v := .iface 150 (.agg #[.int .i64 ln, .int .i64 er]), recovered := true } :: older) ∧ w' = (w.setCell ⟨b, 0, none⟩ (.int .i64 ln)).setCell ⟨b, 1, none⟩ (.int .i64 er) := by
  have h0 := hB.cell 0 rfl
  have h1 := hB.cell 1 rfl
  have hf := hB.frozen
  have hf2 := (hB.set 0 (.int .i64 ln)).frozen
  have ha := run_assert
  refine callsD_of_wpS Tryz.func130 rfl fun c₀ cs hu => ?_
  apply wpS_seq
  apply wpS_region
  simp [wpOpsS, go_sem, recoverD, hu, Tryz.ntmps130, Exit.thenS]
  apply wpS_seq
  apply wpS_region
  simp [wpOpsS, go_sem, Exit.thenS]
  refine wpS_cond (t := true) (by simp [Act.eval, Array.replicate]) ?_
  simp only [if_true]
  apply wpS_region
  simp [wpOpsS, go_sem, ha, h0, h1, hf, hf2, bodyPostS, results, Tryz.results130]

set_option maxRecDepth 4000 in
theorem catch_idle (b : Nat) (w : World) :
    CallsD Tryz.prog 130 #[.pointer (some ⟨b, 0, none⟩)] .returning w fun e u' w' => e = .returned (.tuple #[]) ∧ u' = .returning ∧ w' = w := by
  refine callsD_of_wpS Tryz.func130 rfl fun c₀ cs hu => ?_
  apply wpS_seq
  apply wpS_region
  simp [wpOpsS, go_sem, recoverD, hu, Tryz.ntmps130, Exit.thenS]
  apply wpS_seq
  apply wpS_region
  simp [wpOpsS, go_sem, Exit.thenS]
  refine wpS_cond (t := false) (by simp [Act.eval, Array.replicate]) ?_
  simp only [Bool.false_eq_true, if_false]
  refine wpS_of_wp (wp_skip ?_)
  cases c₀
  simp_all [bodyPostS, results, Tryz.results130]

theorem ret_fault17 {W : World} {tmps : Array Value} {b : Nat} {x y : Value} (ht : tmps.getD 2 undef = .pointer (some ⟨b, 0, none⟩)) (h0 : W.cell? ⟨b, 0, none⟩ = some x) (h1 : W.cell? ⟨b, 1, none⟩ = some y) :
    (results Tryz.f94 tmps).run Tryz.prog W = .ok (.agg #[x, y]) W := by
  have ht' : tmps[2]?.getD undef = .pointer (some ⟨b, 0, none⟩) := by rw [← Array.getD_eq_getD_getElem?]; exact ht
  simp [results, Tryz.results94]
  go_simp

end Go.Proofs.YtmiohekmpjiloaaGreatDoor

namespace Go.Proofs.YtmiohekmpjiloaaGreatDoor
open Go.RowKit
set_option maxRecDepth 20000

/-- A schema as it is told: the three rows. -/
def SchV (B : Nat) (ds : List Pl.Decl) (s1 s2 s3 : Value) (w : World) : Prop := Rows 59 2 (SctR B) B w s1 (stOf ds) ∧ Rows 83 2 (EnmR B) B w s2 (enOf ds) ∧ Rows 86 2 (SvcR B) B w s3 (svOf ds)

theorem SchV.mono {B B' : Nat} (hB : B' ≤ B) {ds : List Pl.Decl} {s1 s2 s3 : Value} {w : World} (h : SchV B ds s1 s2 s3 w) : SchV B' ds s1 s2 s3 w := by
  obtain ⟨h1, h2, h3⟩ := h
  refine ⟨h1.mono hB ?_, h2.mono hB ?_, h3.mono hB ?_⟩
  · rintro a c ⟨s, ad, m, cp, e1, e2, e3⟩
    exact ⟨s, ad, m, cp, e1, e2, e3.mono hB (fun a c h => FldR.mono hB a c h)⟩
  · rintro a c ⟨s, ad, m, cp, e1, e2, e3⟩
    exact ⟨s, ad, m, cp, e1, e2, e3.mono hB (fun a c h => h)⟩
  · rintro a c ⟨s, ad, m, cp, e1, e2, e3⟩
    exact ⟨s, ad, m, cp, e1, e2, e3.mono hB (fun a c h => MthR.mono hB a c h)⟩
theorem SchV.ch {X : Nat → TypeId → Prop} {B : Nat} {ds : List Pl.Decl} {s1 s2 s3 : Value} {w w' : World} (h : SchV B ds s1 s2 s3 w) (hc : Ch X w w') (hX : ∀ g T, X g T → T ≠ 59 ∧ T ≠ 83 ∧ T ≠ 86 ∧ T ≠ 61 ∧ T ≠ 101 ∧ T ≠ 122 ∧ T ≠ 29) : SchV B ds s1 s2 s3 w' := by
  obtain ⟨h1, h2, h3⟩ := h
  refine ⟨h1.ch hc ?_ (fun k _ hx => (hX _ _ hx).1 rfl), h2.ch hc ?_ (fun k _ hx => (hX _ _ hx).2.1 rfl), h3.ch hc ?_ (fun k _ hx => (hX _ _ hx).2.2.1 rfl)⟩
  · rintro a c ⟨s, ad, m, cp, e1, e2, e3⟩
    exact ⟨s, ad, m, cp, e1, e2, e3.ch hc (fun a c h => FldR.ch hc (fun g _ hx => (hX _ _ hx).2.2.2.2.2.2 rfl) a c h) (fun k _ hx => (hX _ _ hx).2.2.2.1 rfl)⟩
  · rintro a c ⟨s, ad, m, cp, e1, e2, e3⟩
    exact ⟨s, ad, m, cp, e1, e2, e3.ch hc (fun a c h => h) (fun k _ hx => (hX _ _ hx).2.2.2.2.1 rfl)⟩
  · rintro a c ⟨s, ad, m, cp, e1, e2, e3⟩
    exact ⟨s, ad, m, cp, e1, e2, e3.ch hc (fun a c h => MthR.ch hc (fun g _ hx => (hX _ _ hx).2.2.2.2.2.2 rfl) a c h) (fun k _ hx => (hX _ _ hx).2.2.2.2.2.1 rfl)⟩
theorem SchV.below {B : Nat} {ds : List Pl.Decl} {s1 s2 s3 : Value} {w w' : World} (h : SchV B ds s1 s2 s3 w) (hb : Below w.heap.size w w') : SchV B ds s1 s2 s3 w' :=
  h.ch (X := fun _ _ => False) (Ch.below hb) (fun _ _ h => h.elim)
/-- An error that is told is one. -/
def NZ {α : Type} (P : List Pl.Kt → Pl.Res α) : Prop := ∀ l r e, P l = .bad r e → e ≠ 0
theorem NZ.bind {α β : Type} {P : List Pl.Kt → Pl.Res α} {Q : α → List Pl.Kt → Pl.Res β} (h1 : NZ P) (h2 : ∀ a, NZ (Q a)) : NZ (fun l => (P l).bind Q) := by
  intro l r e h
  cases hP : P l with
  | ok a r1 =>
    simp only [hP, ok_bind] at h
    exact h2 a r1 r e h
  | bad r1 e1 =>
    simp only [hP, Pl.Res.bind, Pl.Res.bad.injEq] at h
    rw [← h.2]
    exact h1 l r1 e1 hP
theorem NZ.pure {α : Type} (a : α) : NZ (fun r => Pl.Res.ok a r) := by intro l r e h; cases h
theorem NZ.take (p : Pl.Kt → Bool) : NZ (Pl.takeP p) := by
  intro l r e h
  cases l with
  | nil => simp only [Pl.takeP, Pl.Res.bad.injEq] at h; omega
  | cons t l =>
    simp only [Pl.takeP] at h
    split at h
    · cases h
    · simp only [Pl.Res.bad.injEq] at h; omega
theorem NZ.ite {α : Type} {b : Prop} [Decidable b] {P Q : List Pl.Kt → Pl.Res α} (h1 : NZ P) (h2 : NZ Q) : NZ (fun l => if b then P l else Q l) := by
  by_cases hb : b
  · simp only [if_pos hb]; exact h1
  · simp only [if_neg hb]; exact h2
theorem NZ.type (d : Nat) : NZ (Pl.typeP d) := by
  induction d with
  | zero =>
    intro l r e h
    cases hP : Pl.takeP Pl.begT l with
    | ok a r1 =>
      simp only [Pl.typeP, hP, ok_bind, Pl.Res.bad.injEq] at h
      omega
    | bad r1 e1 =>
      simp only [Pl.typeP, hP, Pl.Res.bind, Pl.Res.bad.injEq] at h
      rw [← h.2]
      exact NZ.take _ l r1 e1 hP
  | succ d ih =>
    have h1 : NZ (fun l => (Pl.takeP Pl.begT l).bind fun t r =>
      if t.2 = [91] then (Pl.typeP d r).bind fun x r1 => (Pl.takeP (Pl.isT [93]) r1).bind fun _ r2 => .ok (Pl.Ty.list x) r2
      else if t.2 = [63] then (Pl.typeP d r).bind fun x r1 => .ok (Pl.Ty.opt x) r1
      else if Pl.nameT t then .ok (Pl.Ty.named t.2) r
      else .ok (Pl.Ty.plain (Pl.plainK t.2)) r) :=
      (NZ.take _).bind fun t => NZ.ite (ih.bind fun x => (NZ.take _).bind fun _ => NZ.pure _) (NZ.ite (ih.bind fun x => NZ.pure _) (NZ.ite (NZ.pure _) (NZ.pure _)))
    exact h1
theorem NZ.parts {α : Type} (beg : Pl.Kt → Bool) (part : Pl.Kt → List Pl.Kt → Pl.Res α) (hp : ∀ t, NZ (part t)) (k : Nat) : NZ (Pl.partsP beg part k) := by
  induction k with
  | zero =>
    intro l r e h
    cases l with
    | nil => simp only [Pl.partsP, Pl.Res.bad.injEq] at h; omega
    | cons t l =>
      simp only [Pl.partsP] at h
      split at h
      · cases h
      · split at h <;> simp only [Pl.Res.bad.injEq] at h <;> omega
  | succ k ih =>
    intro l r e h
    cases l with
    | nil => simp only [Pl.partsP, Pl.Res.bad.injEq] at h; omega
    | cons t l =>
      simp only [Pl.partsP] at h
      split at h
      · cases h
      · split at h
        · exact ((hp t).bind (Q := fun a r1 => (Pl.partsP beg part k r1).bind fun xs r2 => .ok (a :: xs) r2) fun a => ih.bind fun xs => NZ.pure _) l r e h
        · simp only [Pl.Res.bad.injEq] at h; omega
theorem NZ.body {α : Type} (beg : Pl.Kt → Bool) (part : Pl.Kt → List Pl.Kt → Pl.Res α) (hp : ∀ t, NZ (part t)) : NZ (Pl.bodyP beg part) :=
  (NZ.take _).bind fun _ => (NZ.take _).bind fun _ => (NZ.parts beg part hp 32).bind fun _ => NZ.pure _
theorem NZ.decl (t : Pl.Kt) : NZ (Pl.declP t) := by
  unfold Pl.declP
  split
  · exact (NZ.body _ _ (fun f => (NZ.take _).bind fun _ => (NZ.take _).bind fun _ => (NZ.type 8).bind fun _ => (NZ.take _).bind fun _ => NZ.pure _)).bind fun _ => NZ.pure _
  · split
    · exact (NZ.body _ _ (fun f => (NZ.take _).bind fun _ => (NZ.take _).bind fun _ => NZ.pure _)).bind fun _ => NZ.pure _
    · exact (NZ.body _ _ (fun f => (NZ.take _).bind fun _ => (NZ.take _).bind fun _ => (NZ.type 8).bind fun _ => (NZ.take _).bind fun _ => (NZ.type 8).bind fun _ => (NZ.take _).bind fun _ => NZ.pure _)).bind fun _ => NZ.pure _
theorem NZ.decls (k : Nat) : NZ (Pl.declsP k) := by
  induction k with
  | zero =>
    intro l r e h
    cases l with
    | nil => cases h
    | cons t l =>
      simp only [Pl.declsP] at h
      split at h <;> simp only [Pl.Res.bad.injEq] at h <;> omega
  | succ k ih =>
    intro l r e h
    cases l with
    | nil => cases h
    | cons t l =>
      simp only [Pl.declsP] at h
      split at h
      · exact ((NZ.decl t).bind (Q := fun a r1 => (Pl.declsP k r1).bind fun xs r2 => .ok (a :: xs) r2) fun a => ih.bind fun xs => NZ.pure _) l r e h
      · simp only [Pl.Res.bad.injEq] at h; omega

end Go.Proofs.YtmiohekmpjiloaaGreatDoor

namespace Go.Proofs.YtmiohekmpjiloaaGreatDoor
open Go.RowKit
set_option maxRecDepth 20000

theorem SchV.shape {B : Nat} {ds : List Pl.Decl} {s1 s2 s3 : Value} {w : World} (h : SchV B ds s1 s2 s3 w) : ∃ a1 c1 a2 c2 a3 c3, s1 = .slice a1 (stOf ds).length c1 ∧ s2 = .slice a2 (enOf ds).length c2 ∧ s3 = .slice a3 (svOf ds).length c3 := by
  obtain ⟨a1, c1, e1⟩ := h.1.shape
  obtain ⟨a2, c2, e2⟩ := h.2.1.shape
  obtain ⟨a3, c3, e3⟩ := h.2.2.shape
  exact ⟨a1, c1, a2, c2, a3, c3, e1, e2, e3⟩

end Go.Proofs.YtmiohekmpjiloaaGreatDoor

namespace Go.Proofs.YtmiohekmpjiloaaGreatDoor
open Go.RowKit
set_option maxRecDepth 20000

theorem flat_at {α : Type} (m : Nat) (ps : List (α × List Value)) (h : ∀ p ∈ ps, p.2.length = m) (i : Nat) (p : α × List Value) (hi : ps[i]? = some p) (j : Nat) (hj : j < m) : (ps.flatMap Prod.snd)[i * m + j]? = p.2[j]? := by
  induction ps generalizing i with
  | nil => simp at hi
  | cons q ps ih =>
    have hq := h q (by simp)
    rw [List.flatMap_cons]
    cases i with
    | zero =>
      simp at hi
      subst hi
      rw [Nat.zero_mul, Nat.zero_add, List.getElem?_append_left (by omega)]
    | succ i =>
      rw [List.getElem?_cons_succ] at hi
      have e : (i + 1) * m + j = m + (i * m + j) := by rw [Nat.succ_mul]; omega
      rw [e, List.getElem?_append_right (by omega), hq, Nat.add_sub_cancel_left]
      exact ih (fun p hp => h p (by simp [hp])) i hi

theorem Rows.at {α : Type} {T : TypeId} {m : Nat} {R : α → List Value → World → Prop} {B : Nat} {w : World} {v : Value} {xs : List α} (h : Rows T m R B w v xs) {i : Nat} {a : α} (hi : xs[i]? = some a) :
    ∃ g cap c, v = .slice (some ⟨g, 0, none⟩) xs.length cap ∧ xs.length ≤ cap ∧ cap ≤ maxLen ∧ g < w.heap.size ∧ R a c w ∧ c.length = m ∧ ∀ j u, c[j]? = some u → w.cell? ⟨g, i * m + j, none⟩ = some u := by
  obtain ⟨ps, rfl, h2, h3⟩ := h
  rw [List.getElem?_map] at hi
  cases hp : ps[i]? with
  | none => rw [hp] at hi; simp at hi
  | some p =>
    rw [hp] at hi
    simp at hi
    subst hi
    have hil := (List.getElem?_eq_some_iff.1 hp).1
    rcases h3.2 with ⟨_, h0⟩ | ⟨g, cap, cur, rfl, hb, hg, hle, hm, hs, ht⟩
    · omega
    · have hmem := List.mem_of_getElem? hp
      refine ⟨g, cap, p.2, by rw [List.length_map], by rw [List.length_map]; exact hle, hm, lt_of_some hg, (h2 p hmem).1, (h2 p hmem).2, fun j u hu => ?_⟩
      have hj : j < m := by
        have := (List.getElem?_eq_some_iff.1 hu).1
        rw [(h2 p hmem).2] at this
        exact this
      have hlt : i * m + j < ps.length * m := by
        have : (i + 1) * m ≤ ps.length * m := Nat.mul_le_mul_right m hil
        rw [Nat.succ_mul] at this
        omega
      rw [cell_of_row w g _ cur T (0, 0) hg]
      have hf := flat_at m ps (fun p hp => (h2 p hp).2) i p hp j hj
      rw [← ht, List.getElem?_take_of_lt hlt, hu] at hf
      simpa using hf

end Go.Proofs.YtmiohekmpjiloaaGreatDoor

namespace Go.Proofs.YtmiohekmpjiloaaGreatDoor
open Go.RowKit
set_option maxRecDepth 20000

/-- A slice of one type, or of none. -/
def OfC (B : Nat) (w : World) (v : Value) (t : Option Pl.Ty) : Prop :=
  match t with
  | none => ∃ cap, v = .slice none 0 cap
  | some t => ∃ g x y z, v = .slice (some ⟨g, 0, none⟩) 1 1 ∧ Bx w g [x, y, z] 29 ∧ TyC B t w x y z

def inner : Pl.Ty → Option Pl.Ty
  | .plain _ => none
  | .named _ => none
  | .list t => some t
  | .opt t => some t
def kindOf : Pl.Ty → Int
  | .plain k => (k : Int)
  | .named _ => 8
  | .list _ => 6
  | .opt _ => 7
def nameOf : Pl.Ty → List Nat
  | .plain _ => []
  | .named n => n
  | .list _ => []
  | .opt _ => []

theorem TyC.parts {B : Nat} {t : Pl.Ty} {w : World} {a b c : Value} (h : TyC B t w a b c) : a = .int .i64 (kindOf t) ∧ (∃ s, b = .string s ∧ bl s = nameOf t) ∧ OfC B w c (inner t) := by
  cases t with
  | plain k => obtain ⟨rfl, rfl, rfl⟩ := h; exact ⟨rfl, ⟨_, rfl, rfl⟩, 0, rfl⟩
  | named x => obtain ⟨rfl, ⟨s, rfl, hs⟩, rfl⟩ := h; exact ⟨rfl, ⟨s, rfl, hs⟩, 0, rfl⟩
  | list t => obtain ⟨rfl, rfl, g, x, y, z, rfl, _, h4, h5⟩ := h; exact ⟨rfl, ⟨_, rfl, rfl⟩, g, x, y, z, rfl, h4, h5⟩
  | opt t => obtain ⟨rfl, rfl, g, x, y, z, rfl, _, h4, h5⟩ := h; exact ⟨rfl, ⟨_, rfl, rfl⟩, g, x, y, z, rfl, h4, h5⟩
theorem TyC.below {B : Nat} {t : Pl.Ty} {w w' : World} {a b c : Value} (h : TyC B t w a b c) (hb : Below w.heap.size w w') : TyC B t w' a b c :=
  TyC.ch (X := fun _ _ => False) (Ch.below hb) (fun _ _ h => h) _ _ _ _ h
theorem OfC.below {B : Nat} {w w' : World} {v : Value} {t : Option Pl.Ty} (h : OfC B w v t) (hb : Below w.heap.size w w') : OfC B w' v t := by
  cases t with
  | none => exact h
  | some t =>
    obtain ⟨g, x, y, z, h1, h2, h3⟩ := h
    exact ⟨g, x, y, z, h1, h2.below hb, h3.below hb⟩

end Go.Proofs.YtmiohekmpjiloaaGreatDoor

namespace Go.Proofs.YtmiohekmpjiloaaGreatDoor
open Go.RowKit
set_option maxRecDepth 20000

/-- Types of any make lie in a slice, so many steps down; their rows lie below B. -/
def LyS (B : Nat) : Nat → List Pl.GT → World → Value → Prop
  | 0, _, _, v => ∃ ad m cp, v = .slice ad m cp
  | n + 1, l, w, v => ∃ ad cp, v = .slice ad l.length cp ∧ l.length ≤ 9223372036854775807 ∧ ∀ i g, l[i]? = some g → ∃ blk off s o, ad = some ⟨blk, off, none⟩ ∧ blk < B ∧
      w.cell? ⟨blk, off + i * 3, none⟩ = some (.int .i64 g.k) ∧ w.cell? ⟨blk, off + i * 3 + 1, none⟩ = some (.string s) ∧ bl s = g.n ∧ s.size ≤ maxLen ∧ w.cell? ⟨blk, off + i * 3 + 2, none⟩ = some o ∧ LyS B n g.os w o
theorem LyS.mono {B B' : Nat} (hB : B ≤ B') : ∀ (n : Nat) (l : List Pl.GT) (w : World) (v : Value), LyS B n l w v → LyS B' n l w v := by
  intro n
  induction n with
  | zero => intro l w v h; exact h
  | succ n ih =>
    rintro l w v ⟨ad, cp, h1, h2, h3⟩
    refine ⟨ad, cp, h1, h2, fun i g hg => ?_⟩
    obtain ⟨blk, off, s, o, q1, q2, q3, q4, q5, q6, q7, q8⟩ := h3 i g hg
    exact ⟨blk, off, s, o, q1, Nat.lt_of_lt_of_le q2 hB, q3, q4, q5, q6, q7, ih _ _ _ q8⟩
theorem LyS.less {B : Nat} : ∀ (n : Nat) (l : List Pl.GT) (w : World) (v : Value), LyS B (n + 1) l w v → LyS B n l w v := by
  intro n
  induction n with
  | zero => rintro l w v ⟨ad, cp, h1, _⟩; exact ⟨ad, _, cp, h1⟩
  | succ n ih =>
    rintro l w v ⟨ad, cp, h1, h2, h3⟩
    refine ⟨ad, cp, h1, h2, fun i g hg => ?_⟩
    obtain ⟨blk, off, s, o, q1, q2, q3, q4, q5, q6, q7, q8⟩ := h3 i g hg
    exact ⟨blk, off, s, o, q1, q2, q3, q4, q5, q6, q7, ih _ _ _ q8⟩
theorem LyS.bel {B : Nat} {w w' : World} (hb : Below B w w') : ∀ (n : Nat) (l : List Pl.GT) (v : Value), LyS B n l w v → LyS B n l w' v := by
  intro n
  induction n with
  | zero => intro l v h; exact h
  | succ n ih =>
    rintro l v ⟨ad, cp, h1, h2, h3⟩
    refine ⟨ad, cp, h1, h2, fun i g hg => ?_⟩
    obtain ⟨blk, off, s, o, q1, q2, q3, q4, q5, q6, q7, q8⟩ := h3 i g hg
    exact ⟨blk, off, s, o, q1, q2, (hb.cell q2).trans q3, (hb.cell q2).trans q4, q5, q6, (hb.cell q2).trans q7, ih _ _ q8⟩
theorem LyS.shape {B n : Nat} {l : List Pl.GT} {w : World} {v : Value} (h : LyS B n l w v) : ∃ ad m cp, v = .slice ad m cp := by
  cases n with
  | zero => exact h
  | succ n => obtain ⟨ad, cp, h1, _⟩ := h; exact ⟨ad, _, cp, h1⟩

set_option maxHeartbeats 2000000 in
theorem holds_any (g : Pl.GT) (s o : Value) (w : World) : Calls Tryz.prog 114 #[.agg #[.int .i64 g.k, s, o]] w fun e w' => e = .returned (.bool g.holds) ∧ Below w.heap.size w w' := by
  unfold Pl.GT.holds
  generalize g.k = k
  by_cases h6 : k = 6
  · subst h6
    go_enter Tryz.func114, Tryz.ntmps114
    go_wp2
    go_ret
    exact ⟨rfl, below_alloc w _⟩
  · have hq : (k == 6) = false := by simp [h6]
    by_cases h7 : k = 7
    · subst h7
      go_enter Tryz.func114, Tryz.ntmps114
      go_wp2
      go_ret
      exact ⟨rfl, below_alloc w _⟩
    · have hq7 : (k == 7) = false := by simp [h7]
      go_enter Tryz.func114, Tryz.ntmps114
      go_wp2
      go_ret
      refine ⟨?_, below_alloc w _⟩
      simp [h6, h7]

/-- One step of deepP. -/
def deepF (m : Nat) (d : Nat) (g : Pl.GT) : Nat := if d < m + 1 then max d (1 + (if g.holds then Pl.deepP m g.os else 0)) else d
theorem deepP_succ (m : Nat) (l : List Pl.GT) : Pl.deepP (m + 1) l = l.foldl (deepF m) 0 := rfl
theorem deepF_stay (m d : Nat) (l : List Pl.GT) (h : ¬ d < m + 1) : l.foldl (deepF m) d = d := by
  induction l with
  | nil => rfl
  | cons g l ih => rw [List.foldl_cons, deepF, if_neg h, ih]
theorem deepP_le (m : Nat) : ∀ l, Pl.deepP m l ≤ m := by
  induction m with
  | zero => intro l; exact Nat.le_refl _
  | succ m ih =>
    intro l
    rw [deepP_succ]
    suffices H : ∀ d, d ≤ m + 1 → l.foldl (deepF m) d ≤ m + 1 from H 0 (by omega)
    induction l with
    | nil => intro d hd; exact hd
    | cons g l ihl =>
      intro d hd
      rw [List.foldl_cons]
      refine ihl _ ?_
      unfold deepF
      have := ih g.os
      split
      · split <;> omega
      · exact hd
theorem fold_take {α β : Type} (f : β → α → β) (b : β) (l : List α) (k : Nat) (x : α) (h : l[k]? = some x) : (l.take (k + 1)).foldl f b = f ((l.take k).foldl f b) x := by
  rw [List.take_add_one, h, List.foldl_append]
  rfl

structure DeepI (M m : Nat) (l : List Pl.GT) (w : World) (d i : Value) (wr : World) : Prop where
  all : ∃ k : Nat, k ≤ M ∧ i = .int .i64 k ∧ d = .int .i64 (((l.take k).foldl (deepF m) 0 : Nat) : Int) ∧ Below w.heap.size w wr

set_option maxHeartbeats 8000000 in
theorem deepest_any (m : Nat) : ∀ (B : Nat) (l : List Pl.GT) (w : World) (v : Value), m ≤ 1000 → LyS B m l w v → B ≤ w.heap.size →
    Calls Tryz.prog 113 #[.int .i64 (m : Int), v] w fun e w' => e = .returned (.int .i64 (Pl.deepP m l : Int)) ∧ Below w.heap.size w w' := by
  induction m with
  | zero =>
    intro B l w v _ h hB
    obtain ⟨ad, n, cp, rfl⟩ := h
    rw [show Pl.deepP 0 l = 0 from rfl]
    go_enter Tryz.func113, Tryz.ntmps113
    go_wp2_with fail
    by_cases hn : 0 < n
    · go_rounds 1
      go_ret
      exact ⟨rfl, Below.refl _ _⟩
    · go_rounds 1
      go_ret
      exact ⟨rfl, Below.refl _ _⟩
  | succ m ih =>
    intro B l w v hm h hB
    obtain ⟨ad, cp, rfl, hlen, hcells⟩ := h
    obtain ⟨M, hM⟩ : ∃ M, M = l.length := ⟨_, rfl⟩
    obtain ⟨D, hD⟩ : ∃ D, D = Pl.deepP (m + 1) l := ⟨_, rfl⟩
    rw [← hM, ← hD]
    have HM : Hid (M = l.length) := hM
    have HD : Hid (D = l.foldl (deepF m) 0) := hD
    have HC := hid hcells
    have HI := hid ih
    rw [← hM] at hlen
    clear hM hD hcells ih
    go_enter Tryz.func113, Tryz.ntmps113
    go_wp2_with fail
    go_loopw [5, 6] (fun d i wr => DeepI M m l w d i wr) (fun _ i _ => M - (intOf i).toNat)
    case atStart => exact ⟨0, Nat.zero_le _, rfl, rfl, Below.refl _ _⟩
    case round =>
      obtain ⟨k, hk, rfl, rfl, hbw⟩ := hrel.all
      clear hrel
      obtain ⟨d, hd⟩ : ∃ d, d = (l.take k).foldl (deepF m) 0 := ⟨_, rfl⟩
      rw [← hd]
      have Hd : Hid (d = (l.take k).foldl (deepF m) 0) := hd
      clear hd
      by_cases hlt : k < M
      · by_cases hdm : d < m + 1
        · obtain ⟨g, hg⟩ : ∃ g, l[k]? = some g := ⟨l[k]'(by rw [← HM.out]; exact hlt), by simp⟩
          obtain ⟨blk, off, s, o, rfl, q2, q3, q4, q5, q6, q7, q8⟩ := HC.out k g hg
          obtain ⟨oa, om, oc, rfl⟩ := q8.shape
          have hB' : blk < w.heap.size := Nat.lt_of_lt_of_le q2 hB
          have c0 := (hbw.cell hB').trans q3
          have c1 := (hbw.cell hB').trans q4
          have c2 := (hbw.cell hB').trans q7
          have hh := holds_any g (.string s) (.slice oa om oc) wr
          have hnext : (l.take (k + 1)).foldl (deepF m) 0 = max d (1 + (if g.holds then Pl.deepP m g.os else 0)) := by
            rw [fold_take _ _ _ _ _ hg, ← Hd.out, deepF, if_pos hdm]
          have hle := deepP_le m g.os
          have hblk : blk < wr.heap.size := Nat.lt_of_lt_of_le hB' hbw.size
          have Hn := hid hnext
          have Hq := hid q8
          have HW := hid hbw
          clear hnext q3 q4 q5 q6 q7 hg q8 hbw
          cases hb : g.holds with
          | true =>
            rw [hb] at hh
            have hn2 := Hn.out
            rw [hb, if_pos rfl] at hn2
            have Hn2 := hid hn2
            clear hn2 Hn hb
            go_wp2_with fail
            refine hh.mono ?_
            rintro e w1 ⟨rfl, hb1⟩
            have HB1 := hid (below_next HW.out hb1)
            have c2' := (hb1.cell hblk).trans c2
            have hr := HI.out B g.os w1 _ (by omega) (LyS.bel (HB1.out.mono hB) _ _ _ Hq.out) (Nat.le_trans hB HB1.out.size)
            have hblk1 : blk < w1.heap.size := Nat.lt_of_lt_of_le hblk hb1.size
            clear hh c0 c1 c2 hb1
            generalize Pl.deepP m g.os = R at *
            go_wp2_with fail
            refine hr.mono ?_
            rintro e w2 ⟨rfl, hb2⟩
            have HB2 := hid (below_next HB1.out hb2)
            clear hr hb2
            go_wp2
            refine ⟨?_, ?_⟩
            · (repeat apply Exists.intro)
              refine ⟨⟨k + 1, by omega, by go_num, ?_, HB2.out⟩, rfl⟩
              rw [Hn2.out]
              congr 1
              omega
            · simp [intOf]; omega
          | false =>
            rw [hb] at hh
            have hn2 := Hn.out
            rw [hb, if_neg (by simp)] at hn2
            have Hn2 := hid hn2
            clear hn2 Hn hb
            go_wp2_with fail
            refine hh.mono ?_
            rintro e w1 ⟨rfl, hb1⟩
            have HB1 := hid (below_next HW.out hb1)
            clear hh c0 c1 c2 hb1
            go_wp2
            refine ⟨?_, ?_⟩
            · (repeat apply Exists.intro)
              refine ⟨⟨k + 1, by omega, by go_num, ?_, HB1.out⟩, rfl⟩
              rw [Hn2.out]
              congr 1
              omega
            · simp [intOf]; omega
        · have hDd : D = d := by
            rw [HD.out]
            have e : l = l.take k ++ l.drop k := (List.take_append_drop k l).symm
            rw [e, List.foldl_append, ← Hd.out]
            exact deepF_stay m d _ hdm
          subst hDd
          clear Hd
          go_wp2
          go_ret
          exact ⟨rfl, hbw⟩
      · have hDd : D = d := by
          rw [HD.out, Hd.out, show k = l.length by rw [← HM.out]; omega, List.take_length]
        subst hDd
        clear Hd
        go_wp2
        go_ret
        exact ⟨rfl, hbw⟩
end Go.Proofs.YtmiohekmpjiloaaGreatDoor

