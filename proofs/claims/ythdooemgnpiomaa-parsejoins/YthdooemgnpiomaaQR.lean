/- parse: a declaration is read. -/
import Derived.Test.YthdooemgnpiomaaQN
import Derived.Test.YthdooemgnpiomaaQQ
namespace Go.Proofs.Ythdooemgnpiomaa
open Go.RowKit

theorem bind_assoc {α β γ : Type} (x : Pl.Res α) (f : α → List Pl.Kt → Pl.Res β) (g : β → List Pl.Kt → Pl.Res γ) : (x.bind f).bind g = x.bind fun a r => (f a r).bind g := by cases x <;> rfl

/-- The declarations' cells: name, parts. -/
def SctR (B : Nat) (x : List Nat × List Pl.Fld) (c : List Value) (w : World) : Prop := ∃ s ad m cp, c = [.string s, .slice ad m cp] ∧ bl s = x.1 ∧ Rows 48 5 (FldR B) B w (.slice ad m cp) x.2
def EnmR (B : Nat) (x : List Nat × List Pl.Cas) (c : List Value) (w : World) : Prop := ∃ s ad m cp, c = [.string s, .slice ad m cp] ∧ bl s = x.1 ∧ Rows 70 2 CasR B w (.slice ad m cp) x.2
def SvcR (B : Nat) (x : List Nat × List Pl.Mth) (c : List Value) (w : World) : Prop := ∃ s ad m cp, c = [.string s, .slice ad m cp] ∧ bl s = x.1 ∧ Rows 76 8 (MthR B) B w (.slice ad m cp) x.2

/-- The place, and a row of declarations from B on. -/
def Xt (n B : Nat) (Tr : TypeId) (g : Nat) (T : TypeId) : Prop := Xp n g T ∨ (B ≤ g ∧ T = Tr)
def isTr (Tr : TypeId) : Prop := Tr = 43 ∨ Tr = 68 ∨ Tr = 73
theorem Xt.not {n B : Nat} {Tr : TypeId} {g : Nat} {T : TypeId} (h1 : T ≠ 59) (h2 : T ≠ Tr) : ¬ Xt n B Tr g T := by
  rintro (h | h)
  · exact h1 h.2
  · exact h2 h.2
theorem tr_not {Tr : TypeId} (h : isTr Tr) : 46 ≠ Tr ∧ 48 ≠ Tr ∧ 70 ≠ Tr ∧ 76 ≠ Tr := by
  rcases h with rfl | rfl | rfl <;> decide

theorem SctR.ch {n B : Nat} {Tr : TypeId} (hT : isTr Tr) {w w' : World} (hc : Ch (Xt n B Tr) w w') (x : List Nat × List Pl.Fld) (c : List Value) (h : SctR B x c w) : SctR B x c w' := by
  obtain ⟨s, ad, m, cp, h1, h2, h3⟩ := h
  obtain ⟨t1, t2, t3, t4⟩ := tr_not hT
  exact ⟨s, ad, m, cp, h1, h2, h3.ch hc (fun a c h => FldR.ch hc (fun g _ => Xt.not (by decide) t1) a c h) (fun k _ => Xt.not (by decide) t2)⟩
theorem EnmR.ch {n B : Nat} {Tr : TypeId} (hT : isTr Tr) {w w' : World} (hc : Ch (Xt n B Tr) w w') (x : List Nat × List Pl.Cas) (c : List Value) (h : EnmR B x c w) : EnmR B x c w' := by
  obtain ⟨s, ad, m, cp, h1, h2, h3⟩ := h
  obtain ⟨t1, t2, t3, t4⟩ := tr_not hT
  exact ⟨s, ad, m, cp, h1, h2, h3.ch hc (fun a c h => h) (fun k _ => Xt.not (by decide) t3)⟩
theorem SvcR.ch {n B : Nat} {Tr : TypeId} (hT : isTr Tr) {w w' : World} (hc : Ch (Xt n B Tr) w w') (x : List Nat × List Pl.Mth) (c : List Value) (h : SvcR B x c w) : SvcR B x c w' := by
  obtain ⟨s, ad, m, cp, h1, h2, h3⟩ := h
  obtain ⟨t1, t2, t3, t4⟩ := tr_not hT
  exact ⟨s, ad, m, cp, h1, h2, h3.ch hc (fun a c h => MthR.ch hc (fun g _ => Xt.not (by decide) t1) a c h) (fun k _ => Xt.not (by decide) t4)⟩

theorem Rows.mono {α : Type} {T : TypeId} {m : Nat} {R R' : α → List Value → World → Prop} {B B' : Nat} {w : World} {v : Value} {xs : List α} (h : Rows T m R B w v xs) (hB : B' ≤ B) (hR : ∀ a c, R a c w → R' a c w) : Rows T m R' B' w v xs := by
  obtain ⟨ps, h1, h2, h3⟩ := h
  refine ⟨ps, h1, fun p hp => ⟨hR _ _ (h2 p hp).1, (h2 p hp).2⟩, h3.1, ?_⟩
  rcases h3.2 with h0 | ⟨g, cap, cur, e, hb, hr⟩
  · exact .inl h0
  · exact .inr ⟨g, cap, cur, e, Nat.le_trans hB hb, hr⟩
theorem FldR.mono {B B' : Nat} (hB : B' ≤ B) {w : World} (f : Pl.Fld) (c : List Value) (h : FldR B f c w) : FldR B' f c w := by
  obtain ⟨s, k, sn, ad, m, cp, h1, h2, h3⟩ := h
  exact ⟨s, k, sn, ad, m, cp, h1, h2, TyC.mono hB _ _ _ _ h3⟩
theorem MthR.mono {B B' : Nat} (hB : B' ≤ B) {w : World} (f : Pl.Mth) (c : List Value) (h : MthR B f c w) : MthR B' f c w := by
  obtain ⟨s, k, sn, ad, m, cp, k', sn', ad', m', cp', h1, h2, h3, h4⟩ := h
  exact ⟨s, k, sn, ad, m, cp, k', sn', ad', m', cp', h1, h2, TyC.mono hB _ _ _ _ h3, TyC.mono hB _ _ _ _ h4⟩
theorem Ch.old {n : Nat} {w w' : World} (h : Ch (Xq n w.heap.size) w w') : Ch (Xp n) w w' :=
  ⟨h.os, h.tape, h.output, h.size, fun g o ho hn => h.block g o ho (fun cs T r e hx => by
    rcases hx with hx | hx
    · exact hn cs T r e hx
    · have := lt_of_some ho
      omega)⟩

theorem InvF.keep {n n1 sb rb : Nat} {nm : ByteArray} (hs : sb ≠ n) (xs : List Pl.Fld) (W W' : World) (h : InvF n n1 sb rb nm xs W) (hc : Ch (Xp n) W W') : InvF n n1 sb rb nm xs W' := by
  obtain ⟨fv, h1, h2, h3⟩ := h
  exact ⟨fv, h1.ch hc (fun hx => hs hx.1), h2.ch hc (fun a c h => FldR.ch hc (fun g hg => Xp.ty g hg) a c h) (fun k _ hx => by have := hx.2; revert this; decide), h3.ch hc (fun hx => by have := hx.2; revert this; decide)⟩
theorem InvC.keep {n n1 sb rb : Nat} {nm : ByteArray} (hs : sb ≠ n) (xs : List Pl.Cas) (W W' : World) (h : InvC n n1 sb rb nm xs W) (hc : Ch (Xp n) W W') : InvC n n1 sb rb nm xs W' := by
  obtain ⟨fv, h1, h2, h3⟩ := h
  exact ⟨fv, h1.ch hc (fun hx => hs hx.1), h2.ch hc (fun a c h => h) (fun k _ hx => by have := hx.2; revert this; decide), h3.ch hc (fun hx => by have := hx.2; revert this; decide)⟩
theorem InvM.keep {n n1 sb rb : Nat} {nm : ByteArray} (hs : sb ≠ n) (xs : List Pl.Mth) (W W' : World) (h : InvM n n1 sb rb nm xs W) (hc : Ch (Xp n) W W') : InvM n n1 sb rb nm xs W' := by
  obtain ⟨fv, h1, h2, h3⟩ := h
  exact ⟨fv, h1.ch hc (fun hx => hs hx.1), h2.ch hc (fun a c h => MthR.ch hc (fun g hg => Xp.ty g hg) a c h) (fun k _ hx => by have := hx.2; revert this; decide), h3.ch hc (fun hx => by have := hx.2; revert this; decide)⟩

/-- A declaration is read: it stands in its row, or the fault. -/
def ReadD {α : Type} (n B : Nat) (Tr : TypeId) (l : List T3) (sv : Value) (mk : Value → List Value) (R : α → List Value → World → Prop) (xs : List α) (W : World) (res : Pl.Res α) (e : Ending) (w' : World) : Prop :=
  match res with
  | .ok a r => ∃ i' u', e = .returned (.tuple #[]) ∧ i' ≤ l.length ∧ r = (l.drop i').map kt3 ∧ Pos n sv (mk u') w' i' ∧ Rows Tr 2 R B w' u' (xs ++ [a]) ∧ Ch (Xt n B Tr) W w'
  | .bad r er => ∃ i', e = .panicked (fault (lineAt l i') er) ∧ i' ≤ l.length ∧ r = (l.drop i').map kt3 ∧ Ch (Xt n B Tr) W w'

/-- One declaration more stands in its row, and the reading knows it: rest is what lies behind the place, k the cell that is written. -/
theorem decl_end {α : Type} {Tr : TypeId} {n B i5 k : Nat} {sv v u : Value} {rest rest' : List Value} {R : α → List Value → World → Prop} {W w5 wA w6 : World} {ps : List (α × List Value)} {c : List Value} (a5 : α) (hTr : isTr Tr)
    (hst : ∀ w w', Ch (Xt n B Tr) w w' → ∀ a c, R a c w → R a c w') (hC5 : Ch (Xp n) W w5) (hRP : ∀ p ∈ ps, R p.1 p.2 W ∧ p.2.length = 2) (hown5 : w5.ownsRow B Tr 2 v ps.length (ps.flatMap Prod.snd)) (hbA : Below w5.heap.size w5 wA) (hgr : wA.grownBy w6 v.ownBlock) (hown6 : w6.ownsRow B Tr 2 u (ps.length + 1) (ps.flatMap Prod.snd ++ c))
    (hP6 : Pos n sv rest w6 i5) (hr : (sv :: .int .i64 (i5 : Int) :: rest).set k u = sv :: .int .i64 (i5 : Int) :: rest') (hnew : R a5 c w5) (hc : c.length = 2) :
    Pos n sv rest' (w6.setCell ⟨n, k, none⟩ u) i5 ∧ Rows Tr 2 R B (w6.setCell ⟨n, k, none⟩ u) u (ps.map Prod.fst ++ [a5]) ∧ Ch (Xt n B Tr) W (w6.setCell ⟨n, k, none⟩ u) := by
  have hT1 : Tr ≠ 59 := by rcases hTr with rfl | rfl | rfl <;> decide
  have hownA := own_ch (X := Xp n) hown5 (Ch.below hbA) (fun k _ hx => hT1 hx.2)
  have hC56 : Ch (Xt n B Tr) w5 w6 := grown_ch hownA (Ch.below hbA) hgr (fun k hk => .inr ⟨hk, rfl⟩)
  have hC5' : Ch (Xt n B Tr) W w5 := hC5.mono (fun _ _ h => .inl h)
  have hCs : Ch (Xp n) w6 (w6.setCell ⟨n, k, none⟩ u) := Ch.set hP6 ⟨rfl, rfl⟩ u
  have hCs' : Ch (Xt n B Tr) w6 (w6.setCell ⟨n, k, none⟩ u) := hCs.mono (fun _ _ h => .inl h)
  refine ⟨?_, ?_, (hC5'.trans hC56).trans hCs'⟩
  · have := Bx.set hP6 k u
    rw [hr] at this
    exact this
  · exact (Rows.more hRP (hst _ _ (hC5'.trans hC56)) a5 c (hst _ _ hC56 _ _ hnew) hc hown6).ch hCs (hst _ _ hCs') (fun k _ hx => hT1 hx.2)
end Go.Proofs.Ythdooemgnpiomaa
