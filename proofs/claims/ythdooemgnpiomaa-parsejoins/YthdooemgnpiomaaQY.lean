/- parse: Parse. -/
import Derived.Test.YthdooemgnpiomaaQV
import Derived.Test.YthdooemgnpiomaaQX
namespace Go.Proofs.Ythdooemgnpiomaa
open Go.RowKit

/-- A schema as it is told: the three rows. -/
def SchV (B : Nat) (ds : List Pl.Decl) (s1 s2 s3 : Value) (w : World) : Prop := Rows 43 2 (SctR B) B w s1 (stOf ds) ∧ Rows 68 2 (EnmR B) B w s2 (enOf ds) ∧ Rows 73 2 (SvcR B) B w s3 (svOf ds)

def ParseR (B : Nat) (l : List T3) (w : World) (res : Pl.Res (List Pl.Decl)) (e : Ending) (w' : World) : Prop :=
  match res with
  | .ok ds _ => ∃ s1 s2 s3, e = .returned (.tuple #[.agg #[s1, s2, s3], .int .i64 0, .int .i64 0]) ∧ SchV B ds s1 s2 s3 w' ∧ Below w.heap.size w w'
  | .bad r er => ∃ i', r = (l.drop i').map kt3 ∧ i' ≤ l.length ∧ e = .returned (.tuple #[.agg #[.slice none 0 0, .slice none 0 0, .slice none 0 0], .int .i64 (lineAt l i' : Int), .int .i64 (er : Int)]) ∧ Below w.heap.size w w'

theorem SchV.mono {B B' : Nat} (hB : B' ≤ B) {ds : List Pl.Decl} {s1 s2 s3 : Value} {w : World} (h : SchV B ds s1 s2 s3 w) : SchV B' ds s1 s2 s3 w := by
  obtain ⟨h1, h2, h3⟩ := h
  refine ⟨h1.mono hB ?_, h2.mono hB ?_, h3.mono hB ?_⟩
  · rintro a c ⟨s, ad, m, cp, e1, e2, e3⟩
    exact ⟨s, ad, m, cp, e1, e2, e3.mono hB (fun a c h => FldR.mono hB a c h)⟩
  · rintro a c ⟨s, ad, m, cp, e1, e2, e3⟩
    exact ⟨s, ad, m, cp, e1, e2, e3.mono hB (fun a c h => h)⟩
  · rintro a c ⟨s, ad, m, cp, e1, e2, e3⟩
    exact ⟨s, ad, m, cp, e1, e2, e3.mono hB (fun a c h => MthR.mono hB a c h)⟩
theorem SchV.ch {X : Nat → TypeId → Prop} {B : Nat} {ds : List Pl.Decl} {s1 s2 s3 : Value} {w w' : World} (h : SchV B ds s1 s2 s3 w) (hc : Ch X w w') (hX : ∀ g T, X g T → T ≠ 43 ∧ T ≠ 68 ∧ T ≠ 73 ∧ T ≠ 48 ∧ T ≠ 70 ∧ T ≠ 76 ∧ T ≠ 46) : SchV B ds s1 s2 s3 w' := by
  obtain ⟨h1, h2, h3⟩ := h
  refine ⟨h1.ch hc ?_ (fun k _ hx => (hX _ _ hx).1 rfl), h2.ch hc ?_ (fun k _ hx => (hX _ _ hx).2.1 rfl), h3.ch hc ?_ (fun k _ hx => (hX _ _ hx).2.2.1 rfl)⟩
  · rintro a c ⟨s, ad, m, cp, e1, e2, e3⟩
    exact ⟨s, ad, m, cp, e1, e2, e3.ch hc (fun a c h => FldR.ch hc (fun g _ hx => (hX _ _ hx).2.2.2.2.2.2 rfl) a c h) (fun k _ hx => (hX _ _ hx).2.2.2.1 rfl)⟩
  · rintro a c ⟨s, ad, m, cp, e1, e2, e3⟩
    exact ⟨s, ad, m, cp, e1, e2, e3.ch hc (fun a c h => h) (fun k _ hx => (hX _ _ hx).2.2.2.2.1 rfl)⟩
  · rintro a c ⟨s, ad, m, cp, e1, e2, e3⟩
    exact ⟨s, ad, m, cp, e1, e2, e3.ch hc (fun a c h => MthR.ch hc (fun g _ hx => (hX _ _ hx).2.2.2.2.2.2 rfl) a c h) (fun k _ hx => (hX _ _ hx).2.2.2.2.2.1 rfl)⟩
theorem SchV.below {B : Nat} {ds : List Pl.Decl} {s1 s2 s3 : Value} {w w' : World} (h : SchV B ds s1 s2 s3 w) (hb : Below w.heap.size w w') : SchV B ds s1 s2 s3 w' :=
  h.ch (X := fun _ _ => False) (Ch.below hb) (fun _ _ h => h.elim)
theorem Xa.below {B : Nat} {w w' : World} (h : Ch (Xa B) w w') (hB : B ≤ w.heap.size) : Below B w w' :=
  ⟨h.os, h.tape, h.output, h.size, fun k hk => by
    have ho : w.heap[k]? = some (w.heap[k]'(by omega)) := by simp
    rw [ho]
    exact h.block k _ ho (fun cs T r _ hx => by have := hx.1; omega)⟩

/-- An error that is told is one. -/
def NZ {α : Type} (P : List Pl.Kt → Pl.Res α) : Prop := ∀ l r e, P l = .bad r e → e ≠ 0
theorem NZ.bind {α β : Type} {P : List Pl.Kt → Pl.Res α} {Q : α → List Pl.Kt → Pl.Res β} (h1 : NZ P) (h2 : ∀ a, NZ (Q a)) : NZ (fun l => (P l).bind Q) := by
  intro l r e h
  cases hP : P l with
  | ok a r1 =>
    simp only [hP, ok_bind] at h
    exact h2 a r1 r e h
  | bad r1 e1 =>
    simp only [hP, Pl.Res.bind, Pl.Res.bad.injEq] at h
    rw [← h.2]
    exact h1 l r1 e1 hP
theorem NZ.pure {α : Type} (a : α) : NZ (fun r => Pl.Res.ok a r) := by intro l r e h; cases h
theorem NZ.take (p : Pl.Kt → Bool) : NZ (Pl.takeP p) := by
  intro l r e h
  cases l with
  | nil => simp only [Pl.takeP, Pl.Res.bad.injEq] at h; omega
  | cons t l =>
    simp only [Pl.takeP] at h
    split at h
    · cases h
    · simp only [Pl.Res.bad.injEq] at h; omega
theorem NZ.ite {α : Type} {b : Prop} [Decidable b] {P Q : List Pl.Kt → Pl.Res α} (h1 : NZ P) (h2 : NZ Q) : NZ (fun l => if b then P l else Q l) := by
  by_cases hb : b
  · simp only [if_pos hb]; exact h1
  · simp only [if_neg hb]; exact h2
theorem NZ.type (d : Nat) : NZ (Pl.typeP d) := by
  induction d with
  | zero =>
    intro l r e h
    cases hP : Pl.takeP Pl.begT l with
    | ok a r1 =>
      simp only [Pl.typeP, hP, ok_bind, Pl.Res.bad.injEq] at h
      omega
    | bad r1 e1 =>
      simp only [Pl.typeP, hP, Pl.Res.bind, Pl.Res.bad.injEq] at h
      rw [← h.2]
      exact NZ.take _ l r1 e1 hP
  | succ d ih =>
    have h1 : NZ (fun l => (Pl.takeP Pl.begT l).bind fun t r =>
      if t.2 = [91] then (Pl.typeP d r).bind fun x r1 => (Pl.takeP (Pl.isT [93]) r1).bind fun _ r2 => .ok (Pl.Ty.list x) r2
      else if t.2 = [63] then (Pl.typeP d r).bind fun x r1 => .ok (Pl.Ty.opt x) r1
      else if Pl.nameT t then .ok (Pl.Ty.named t.2) r
      else .ok (Pl.Ty.plain (Pl.plainK t.2)) r) :=
      (NZ.take _).bind fun t => NZ.ite (ih.bind fun x => (NZ.take _).bind fun _ => NZ.pure _) (NZ.ite (ih.bind fun x => NZ.pure _) (NZ.ite (NZ.pure _) (NZ.pure _)))
    exact h1
theorem NZ.parts {α : Type} (beg : Pl.Kt → Bool) (part : Pl.Kt → List Pl.Kt → Pl.Res α) (hp : ∀ t, NZ (part t)) (k : Nat) : NZ (Pl.partsP beg part k) := by
  induction k with
  | zero =>
    intro l r e h
    cases l with
    | nil => simp only [Pl.partsP, Pl.Res.bad.injEq] at h; omega
    | cons t l =>
      simp only [Pl.partsP] at h
      split at h
      · cases h
      · split at h <;> simp only [Pl.Res.bad.injEq] at h <;> omega
  | succ k ih =>
    intro l r e h
    cases l with
    | nil => simp only [Pl.partsP, Pl.Res.bad.injEq] at h; omega
    | cons t l =>
      simp only [Pl.partsP] at h
      split at h
      · cases h
      · split at h
        · exact ((hp t).bind (Q := fun a r1 => (Pl.partsP beg part k r1).bind fun xs r2 => .ok (a :: xs) r2) fun a => ih.bind fun xs => NZ.pure _) l r e h
        · simp only [Pl.Res.bad.injEq] at h; omega
theorem NZ.body {α : Type} (beg : Pl.Kt → Bool) (part : Pl.Kt → List Pl.Kt → Pl.Res α) (hp : ∀ t, NZ (part t)) : NZ (Pl.bodyP beg part) :=
  (NZ.take _).bind fun _ => (NZ.take _).bind fun _ => (NZ.parts beg part hp 32).bind fun _ => NZ.pure _
theorem NZ.decl (t : Pl.Kt) : NZ (Pl.declP t) := by
  unfold Pl.declP
  split
  · exact (NZ.body _ _ (fun f => (NZ.take _).bind fun _ => (NZ.take _).bind fun _ => (NZ.type 8).bind fun _ => (NZ.take _).bind fun _ => NZ.pure _)).bind fun _ => NZ.pure _
  · split
    · exact (NZ.body _ _ (fun f => (NZ.take _).bind fun _ => (NZ.take _).bind fun _ => NZ.pure _)).bind fun _ => NZ.pure _
    · exact (NZ.body _ _ (fun f => (NZ.take _).bind fun _ => (NZ.take _).bind fun _ => (NZ.type 8).bind fun _ => (NZ.take _).bind fun _ => (NZ.type 8).bind fun _ => (NZ.take _).bind fun _ => NZ.pure _)).bind fun _ => NZ.pure _
theorem NZ.decls (k : Nat) : NZ (Pl.declsP k) := by
  induction k with
  | zero =>
    intro l r e h
    cases l with
    | nil => cases h
    | cons t l =>
      simp only [Pl.declsP] at h
      split at h <;> simp only [Pl.Res.bad.injEq] at h <;> omega
  | succ k ih =>
    intro l r e h
    cases l with
    | nil => cases h
    | cons t l =>
      simp only [Pl.declsP] at h
      split at h
      · exact ((NZ.decl t).bind (Q := fun a r1 => (Pl.declsP k r1).bind fun xs r2 => .ok (a :: xs) r2) fun a => ih.bind fun xs => NZ.pure _) l r e h
      · simp only [Pl.Res.bad.injEq] at h; omega

theorem ret_parse8 {W : World} {tmps : Array Value} {b : Nat} {x y z p q : Value} (ht : tmps.getD 2 undef = .pointer (some ⟨b, 0, none⟩)) (h3 : tmps.getD 3 undef = p) (h4 : tmps.getD 4 undef = q) (h0 : W.cell? ⟨b, 0, none⟩ = some x) (h1 : W.cell? ⟨b, 1, none⟩ = some y) (h2 : W.cell? ⟨b, 2, none⟩ = some z) :
    (results Try.f8 tmps).run Try.prog W = .ok (.tuple #[.agg #[x, y, z], p, q]) W := by
  have ht' : tmps[2]?.getD undef = .pointer (some ⟨b, 0, none⟩) := by rw [← Array.getD_eq_getD_getElem?]; exact ht
  have h3' : tmps[3]?.getD undef = p := by rw [← Array.getD_eq_getD_getElem?]; exact h3
  have h4' : tmps[4]?.getD undef = q := by rw [← Array.getD_eq_getD_getElem?]; exact h4
  simp [results, Try.results8]
  go_simp

set_option maxHeartbeats 16000000 in
set_option maxRecDepth 4000 in
theorem parse_any (sv : Value) (l : List T3) (hbig : l.length ≤ 1000000) (hG : GoodT l) (w : World) (hS : TSeg w sv (l.map toZ)) :
    Calls Try.prog 8 #[sv] w (ParseR w.heap.size l w (Pl.declsP 64 (l.map kt3))) := by
  obtain ⟨RES, hRES⟩ : ∃ RES, Pl.declsP 64 (l.map kt3) = RES := ⟨_, rfl⟩
  rw [hRES]
  have HR := hid hRES
  have HS := hid hS
  have HG := hid hG
  have hck : ∀ t ∈ l, ∀ W, Calls Try.prog 16 #[tokV t] W fun e w' => e = .returned (.int .i64 0) ∧ Below W.heap.size W w' := by
    intro t ht W
    have h0 := hG t ht
    have h1 := check_any (toZ t) (by have := (check_kt h0).2.2.1; show t.2.1.size ≤ maxLen; unfold maxLen; omega) W
    rw [h0] at h1
    exact h1
  have Hck := hid hck
  obtain ⟨a, cp, hsv, h1, h2, -⟩ := id hS
  rw [List.length_map] at hsv h1
  subst hsv
  obtain ⟨N, hN⟩ : ∃ N, N = l.length := ⟨_, rfl⟩
  have HN := hid hN
  rw [← hN] at hbig h1 ⊢
  unfold maxLen at h2
  have hmf : ∀ (fn : Fn) (first cap : Array Value) (w : World), (Instr.makeFunc fn first cap).run Try.prog w = .ok (.func fn first cap) w := fun _ _ _ _ => rfl
  obtain ⟨b, hbe⟩ : ∃ b, b = w.heap.size := ⟨_, rfl⟩
  have hb0 := below_alloc w (.cells #[.slice none 0 0, .slice none 0 0, .slice none 0 0] 30)
  have hB0 := Bx.new w [.slice none 0 0, .slice none 0 0, .slice none 0 0] 30
  rw [← hbe] at hB0
  change Bx (w.alloc (.cells #[.slice none 0 0, .slice none 0 0, .slice none 0 0] 30)) _ _ _ at hB0
  clear hRES hG hS hck hN
  go_enter Try.func8, Try.ntmps8
  go_wp2_with fail
  rw [← hbe]
  have HB := hid hbe
  clear hbe
  generalize w.alloc (.cells #[.slice none 0 0, .slice none 0 0, .slice none 0 0] 30) = w0 at *
  go_loopw [12] (fun i wr => ∃ k : Nat, k ≤ N ∧ i = .int .i64 k ∧ Below w0.heap.size w0 wr) (fun i _ => N - (intOf i).toNat)
  case atStart => exact ⟨0, Nat.zero_le _, rfl, Below.refl _ _⟩
  case round =>
    obtain ⟨k, hk, rfl, hbk⟩ := hrel
    by_cases hlt : k < N
    · obtain ⟨t, ht⟩ : ∃ t, l[k]? = some t := ⟨l[k]'(by have := HN.out; omega), by simp⟩
      have hSk : TSeg wr (.slice a N cp) (l.map toZ) := by
        have := (HS.out.below hb0).below hbk
        rw [← HN.out] at this
        exact this
      obtain ⟨g, off, rfl, hg, -, q1, q2, q3⟩ := hSk.token k t ht
      have hck := Hck.out t (List.mem_of_getElem? ht)
      have hkN : (0 : Int) ≤ (k : Int) ∧ (k : Int) < (N : Int) := by omega
      unfold tokV at hck
      clear hSk ht
      go_wp2_with fail
      refine (hck _).mono ?_
      rintro e w2 ⟨rfl, hb2⟩
      have hb02 := hbk.trans ((below_next (below_alloc wr _) hb2).mono hbk.size)
      go_wp2
      exact ⟨⟨k + 1, by omega, by go_num, hb02⟩, by simp [intOf]; omega⟩
    · have hbw := below_next hb0 hbk
      have hBk := hB0.below hbk
      have hSk : TSeg wr (.slice a N cp) (l.map toZ) := by
        have := HS.out.below hbw
        rw [← HN.out] at this
        exact this
      obtain ⟨n, hn⟩ : ∃ n, n = wr.heap.size := ⟨_, rfl⟩
      have hbA := below_alloc wr (.cells #[.slice a N cp, .int .i64 0, .slice none 0 0, .slice none 0 0, .slice none 0 0] 59)
      have hBn := Bx.new wr [.slice a N cp, .int .i64 0, .slice none 0 0, .slice none 0 0, .slice none 0 0] 59
      have hsz : (wr.alloc (.cells #[.slice a N cp, .int .i64 0, .slice none 0 0, .slice none 0 0, .slice none 0 0] 59)).heap.size = n + 1 := by rw [hn]; simp
      rw [← hn] at hBn
      change Bx (wr.alloc (.cells #[.slice a N cp, .int .i64 0, .slice none 0 0, .slice none 0 0, .slice none 0 0] 59)) _ _ _ at hBn
      have hbb : b < n := by have := hBk.lt; omega
      have hwn : w.heap.size ≤ n := by have := hbw.size; omega
      have hBkA := hBk.below hbA
      have hbwA := below_next hbw hbA
      have hSA := hSk.below hbA
      have hsb : 0 < l.length → ∀ g, (Value.slice a N cp).ownBlock = some g → g < n := by
        intro h0 g hg
        obtain ⟨a', cp', he, -, -, -, h5⟩ := hSk
        injection he with e1 e2 e3
        subst e1
        rcases a with _ | ⟨g', off, ar⟩
        · simp [Value.ownBlock] at hg
        · simp [Value.ownBlock] at hg
          subst hg
          have := (h5 g' off ar rfl (by rw [List.length_map]; exact h0)).2.1
          omega
      go_wp2_with fail
      rw [← hn]
      have Hn := hid hn
      clear hn
      generalize wr.alloc (.cells #[.slice a N cp, .int .i64 0, .slice none 0 0, .slice none 0 0, .slice none 0 0] 59) = wA at *
      have hbB := below_alloc wA (.cells #[.int .i64 0, .int .i64 0] 61)
      have hBf := Bx.new wA [.int .i64 0, .int .i64 0] 61
      have hrd := readAll_any n n (.slice a N cp) l (by rw [← HN.out]; exact hbig) HG.out (wA.alloc (.cells #[.int .i64 0, .int .i64 0] 61)) ⟨_, _, _, hBn.below hbB, Rows.nil _ _ _ _ _, Rows.nil _ _ _ _ _, Rows.nil _ _ _ _ _⟩ (hSA.below hbB) (Nat.le_refl _) hsb
      rw [HR.out] at hrd
      have hfX : ∀ W', Ch (Xa n) (wA.alloc (.cells #[.int .i64 0, .int .i64 0] 61)) W' → Bx W' wA.heap.size [.int .i64 0, .int .i64 0] 61 := fun W' hc => hBf.ch hc (fun hx => by have := hx.2; revert this; unfold Xs; decide)
      cases RES with
      | ok ds r =>
        have hca := caught_ok 18 #[.pointer (some ⟨n, 0, none⟩)] (fun _ _ => rfl) wA (fun W' => ∃ i', SchI n n (.slice a N cp) ds W' i' ∧ Ch (Xa n) (wA.alloc (.cells #[.int .i64 0, .int .i64 0] 61)) W') (fun W' hW => by obtain ⟨i', -, hc⟩ := hW; exact hfX W' hc) (hrd.mono (by
          rintro e w' ⟨i', rfl, -, -, h1, h2⟩
          exact ⟨rfl, i', h1, h2⟩))
        refine hca.mono ?_
        rintro e w5 ⟨rfl, W', ⟨i', ⟨s1, s2, s3, hP', hr1, hr2, hr3⟩, hc'⟩, rfl⟩
        have hB' := (hBkA.below hbB).ch hc' (fun hx => by have := hx.2; revert this; unfold Xs; decide)
        have hf' := hfX W' hc'
        have hfn : wA.heap.size ≠ n := by omega
        have hfb : wA.heap.size ≠ b := by omega
        have hbw' : Below w.heap.size w W' := (below_next hbwA hbB).trans ((Xa.below hc' (by simp; omega)).mono hwn)
        have hwf : w.heap.size ≤ wA.heap.size := by omega
        have hP5 := (hP'.other (k := 0) (Ne.symm hfn) (.int .i64 0)).other (k := 1) (Ne.symm hfn) (.int .i64 0)
        have hB5 := (hB'.other (k := 0) (Ne.symm hfb) (.int .i64 0)).other (k := 1) (Ne.symm hfb) (.int .i64 0)
        have hb5 := (hbw'.setCell (p := ⟨wA.heap.size, 0, none⟩) hwf (.int .i64 0)).setCell (p := ⟨wA.heap.size, 1, none⟩) hwf (.int .i64 0)
        have hX5 : Ch (fun g T => g = wA.heap.size ∧ T = 61) W' ((W'.setCell ⟨wA.heap.size, 0, none⟩ (.int .i64 0)).setCell ⟨wA.heap.size, 1, none⟩ (.int .i64 0)) := (Ch.set hf' ⟨rfl, rfl⟩ _).trans (Ch.set (hf'.set 0 (.int .i64 0)) ⟨rfl, rfl⟩ _)
        have hV5 : SchV n ds s1 s2 s3 _ := SchV.ch ⟨hr1, hr2, hr3⟩ hX5 (fun g T h => by rw [h.2]; decide)
        obtain ⟨ad1, cp1, rfl⟩ := hr1.shape
        obtain ⟨ad2, cp2, rfl⟩ := hr2.shape
        obtain ⟨ad3, cp3, rfl⟩ := hr3.shape
        clear hr1 hr2 hr3 hX5 hP' hB' hf' hbw' hca hc' hrd hfX
        generalize ((W'.setCell ⟨wA.heap.size, 0, none⟩ (.int .i64 0)).setCell ⟨wA.heap.size, 1, none⟩ (.int .i64 0)) = w5 at *
        generalize (stOf ds).length = m1 at *
        generalize (enOf ds).length = m2 at *
        generalize (svOf ds).length = m3 at *
        have c2 := Bx.cell hP5 2 rfl
        have c3 := Bx.cell hP5 3 rfl
        have c4 := Bx.cell hP5 4 rfl
        have d0 := hB5.cell 0 rfl
        have d1 := hB5.cell 1 rfl
        have d2 := hB5.cell 2 rfl
        have df := hB5.frozen
        have hln5 := Bx.lt hP5
        have hlb5 := hB5.lt
        have hbn5 : b ≠ n := by omega
        go_wp2
        have hge : w.heap.size ≤ b := by rw [HB.out]; exact Nat.le_refl _
        have hB6 := (((hB5.set 0 (.slice ad1 m1 cp1)).set 1 (.slice ad2 m2 cp2)).set 2 (.slice ad3 m3 cp3)).alloc (.cells #[.int .i64 0, .int .i64 0] 61)
        refine bodyPost_ret (ret_parse8 rfl rfl rfl (hB6.cell 0 rfl) (hB6.cell 1 rfl) (hB6.cell 2 rfl)) rfl ?_
        have hX6 : Ch (fun g T => g = b ∧ T = 30) w5 (((w5.setCell ⟨b, 0, none⟩ (.slice ad1 m1 cp1)).setCell ⟨b, 1, none⟩ (.slice ad2 m2 cp2)).setCell ⟨b, 2, none⟩ (.slice ad3 m3 cp3)) := ((Ch.set hB5 ⟨rfl, rfl⟩ _).trans (Ch.set (hB5.set 0 (.slice ad1 m1 cp1)) ⟨rfl, rfl⟩ _)).trans (Ch.set ((hB5.set 0 (.slice ad1 m1 cp1)).set 1 (.slice ad2 m2 cp2)) ⟨rfl, rfl⟩ _)
        have hV6 := (hV5.ch hX6 (fun g T h => by rw [h.2]; decide)).below (below_alloc _ (.cells #[.int .i64 0, .int .i64 0] 61))
        have hb6 := ((hb5.setCell (p := ⟨b, 0, none⟩) hge (.slice ad1 m1 cp1)).setCell (p := ⟨b, 1, none⟩) hge (.slice ad2 m2 cp2)).setCell (p := ⟨b, 2, none⟩) hge (.slice ad3 m3 cp3)
        exact ⟨_, _, _, rfl, hV6.mono hwn, hb6.trans ((below_alloc _ _).mono hb6.size)⟩
      | bad r er =>
        have her : er ≠ 0 := NZ.decls 64 _ _ _ HR.out
        have hca := caught_bad 18 #[.pointer (some ⟨n, 0, none⟩)] (fun _ _ => rfl) wA (lineAt l (l.length - r.length) : Int) (er : Int) (fun W' => (l.length - r.length ≤ l.length ∧ r = (l.drop (l.length - r.length)).map kt3) ∧ Ch (Xa n) (wA.alloc (.cells #[.int .i64 0, .int .i64 0] 61)) W') (fun W' hW => hfX W' hW.2) (hrd.mono (by
          rintro e w' ⟨i', rfl, hi', hr', h2⟩
          have hlr : l.length - r.length = i' := by
            rw [hr', List.length_map, List.length_drop]
            omega
          rw [hlr]
          exact ⟨rfl, ⟨hi', hr'⟩, h2⟩))
        generalize l.length - r.length = i5 at *
        generalize hLN : lineAt l i5 = LN at *
        have HLN := hid hLN
        clear hLN
        refine hca.mono ?_
        rintro e w5 ⟨rfl, W', ⟨hh', hc'⟩, rfl⟩
        have HH := hid hh'
        have hB' := (hBkA.below hbB).ch hc' (fun hx => by have := hx.2; revert this; unfold Xs; decide)
        have hfb : wA.heap.size ≠ b := by omega
        have hbw' : Below w.heap.size w W' := (below_next hbwA hbB).trans ((Xa.below hc' (by simp; omega)).mono hwn)
        have hwf : w.heap.size ≤ wA.heap.size := by omega
        have hB5 := (hB'.other (k := 0) (Ne.symm hfb) (.int .i64 (LN : Int))).other (k := 1) (Ne.symm hfb) (.int .i64 (er : Int))
        have hb5 := (hbw'.setCell (p := ⟨wA.heap.size, 0, none⟩) hwf (.int .i64 (LN : Int))).setCell (p := ⟨wA.heap.size, 1, none⟩) hwf (.int .i64 (er : Int))
        clear hB' hbw' hca hc' hrd hfX hh'
        generalize ((W'.setCell ⟨wA.heap.size, 0, none⟩ (.int .i64 (LN : Int))).setCell ⟨wA.heap.size, 1, none⟩ (.int .i64 (er : Int))) = w5 at *
        have d0 := hB5.cell 0 rfl
        have d1 := hB5.cell 1 rfl
        have d2 := hB5.cell 2 rfl
        have df := hB5.frozen
        have hlb5 := hB5.lt
        have her' : ((er : Int) == 0) = false := by simp; omega
        go_wp2_with fail
        go_region
        go_wp2
        have hge : w.heap.size ≤ b := by rw [HB.out]; exact Nat.le_refl _
        have hB6 := ((((hB5.set 0 (.slice none 0 0)).set 1 (.slice none 0 0)).set 2 (.slice none 0 0)).alloc (.cells #[.int .i64 (LN : Int), .int .i64 (er : Int)] 61)).below (Below.refl _ _).drew
        refine bodyPost_ret (ret_parse8 rfl rfl rfl (hB6.cell 0 rfl) (hB6.cell 1 rfl) (hB6.cell 2 rfl)) rfl ?_
        have hb6 := ((hb5.setCell (p := ⟨b, 0, none⟩) hge (.slice none 0 0)).setCell (p := ⟨b, 1, none⟩) hge (.slice none 0 0)).setCell (p := ⟨b, 2, none⟩) hge (.slice none 0 0)
        rw [← HLN.out]
        exact ⟨i5, HH.out.2, HH.out.1, rfl, (hb6.trans ((below_alloc _ _).mono hb6.size)).drew⟩
end Go.Proofs.Ythdooemgnpiomaa
