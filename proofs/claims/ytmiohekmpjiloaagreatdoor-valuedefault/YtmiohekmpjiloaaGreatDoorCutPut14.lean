/- parse: takeMethod. parse: takeParts, whatever the parts are. parse: rows of parts that are gathered. -/
import Derived.Test.YtmiohekmpjiloaaGreatDoorCutPut13
import Derived.Deep.DeepCutAuto
namespace Go.Proofs.YtmiohekmpjiloaaGreatDoor
open Go.RowKit
set_option maxRecDepth 20000

theorem run_bin {P : Program} {w : World} {o : Oper} {a : Act} {op : BinOp} {T T' : TypeId} {x y : Operand} {u z v : Value} (hop : o.op = .binOp op T x y T') (hx : a.eval x = u) (hy : a.eval y = z) (hg : (eqGuard op T x y u z).run P w = .ok () w) (hr : (binOp op T u z).run P w = .ok v w) : (execOp a.eval o).run P w = .ok (.value v) w := by
  simp only [execOp, hop, hx, hy]
  simp [hg, hr]
def MthV (B : Nat) (f : Pl.Mth) (v : Value) (w : World) : Prop := ∃ s a b c a' b' c', v = .agg #[.string s, .bool f.once, a, b, c, a', b', c'] ∧ bl s = f.name ∧ TyC B f.arg w a b c ∧ TyC B f.res w a' b' c'

end Go.Proofs.YtmiohekmpjiloaaGreatDoor

namespace Go.Proofs.YtmiohekmpjiloaaGreatDoor
open Go.RowKit
end Go.Proofs.YtmiohekmpjiloaaGreatDoor

namespace Go.Proofs.YtmiohekmpjiloaaGreatDoor
open Go.RowKit
set_option maxRecDepth 20000

/-- A row of the call's own, of parts of m cells each, of which R speaks. -/
def Rows {α : Type} (T : TypeId) (m : Nat) (R : α → List Value → World → Prop) (B : Nat) (w : World) (v : Value) (xs : List α) : Prop :=
  ∃ ps : List (α × List Value), ps.map Prod.fst = xs ∧ (∀ p ∈ ps, R p.1 p.2 w ∧ p.2.length = m) ∧ w.ownsRow B T m v ps.length (ps.flatMap Prod.snd)

theorem Rows.nil {α : Type} (T : TypeId) (m : Nat) (R : α → List Value → World → Prop) (B : Nat) (w : World) : Rows T m R B w (.slice none 0 0) [] :=
  ⟨[], rfl, (fun p hp => by cases hp), World.ownsRow_nil w B T m⟩
theorem Rows.shape {α : Type} {T : TypeId} {m : Nat} {R : α → List Value → World → Prop} {B : Nat} {w : World} {v : Value} {xs : List α} (h : Rows T m R B w v xs) : ∃ ad cp, v = .slice ad xs.length cp := by
  obtain ⟨ps, rfl, _, h⟩ := h
  rw [List.length_map]
  rcases h.2 with ⟨rfl, h0⟩ | ⟨g, cap, cur, rfl, _⟩
  · exact ⟨none, 0, by rw [h0]⟩
  · exact ⟨_, _, rfl⟩
theorem own_block {T : TypeId} {m B : Nat} {w : World} {v : Value} {n : Nat} {cs : List Value} (h : w.ownsRow B T m v n cs) {k : Nat} (hk : v.ownBlock = some k) : B ≤ k ∧ ∃ cur, w.heap[k]? = some (.cells cur T (0, 0)) := by
  rcases h.2 with ⟨rfl, _⟩ | ⟨g, cap, cur, rfl, hb, hg, _⟩
  · simp [Value.ownBlock] at hk
  · simp [Value.ownBlock] at hk
    subst hk
    exact ⟨hb, cur, hg⟩
theorem own_ch {X : Nat → TypeId → Prop} {T : TypeId} {m B : Nat} {w w' : World} {v : Value} {n : Nat} {cs : List Value} (h : w.ownsRow B T m v n cs) (hc : Ch X w w') (hX : ∀ k, v.ownBlock = some k → ¬ X k T) : w'.ownsRow B T m v n cs := by
  refine ⟨h.1, ?_⟩
  rcases h.2 with h0 | ⟨g, cap, cur, rfl, hb, hg, hr⟩
  · exact .inl h0
  · exact .inr ⟨g, cap, cur, rfl, hb, hc.block g _ hg (fun _ _ _ e => by cases e; exact hX g rfl), hr⟩
theorem Rows.ch {α : Type} {X : Nat → TypeId → Prop} {T : TypeId} {m : Nat} {R : α → List Value → World → Prop} {B : Nat} {w w' : World} {v : Value} {xs : List α} (h : Rows T m R B w v xs) (hc : Ch X w w') (hR : ∀ a c, R a c w → R a c w') (hX : ∀ k, B ≤ k → ¬ X k T) : Rows T m R B w' v xs := by
  obtain ⟨ps, h1, h2, h3⟩ := h
  exact ⟨ps, h1, fun p hp => ⟨hR _ _ (h2 p hp).1, (h2 p hp).2⟩, own_ch h3 hc (fun k hk => hX k (own_block h3 hk).1)⟩
theorem Rows.more {α : Type} {T : TypeId} {m : Nat} {R : α → List Value → World → Prop} {B : Nat} {w w' : World} {v' : Value} {ps : List (α × List Value)} (h2 : ∀ p ∈ ps, R p.1 p.2 w ∧ p.2.length = m) (hR : ∀ a c, R a c w → R a c w') (a : α) (c : List Value) (hc : R a c w') (hl : c.length = m)
    (ho : w'.ownsRow B T m v' (ps.length + 1) (ps.flatMap Prod.snd ++ c)) : Rows T m R B w' v' (ps.map Prod.fst ++ [a]) := by
  refine ⟨ps ++ [(a, c)], by simp, fun p hp => ?_, by simpa using ho⟩
  rcases List.mem_append.1 hp with hp | hp
  · exact ⟨hR _ _ (h2 p hp).1, (h2 p hp).2⟩
  · simp at hp
    subst hp
    exact ⟨hc, hl⟩
theorem grown_ch {X : Nat → TypeId → Prop} {T : TypeId} {m B : Nat} {w w' : World} {v : Value} {n : Nat} {cs : List Value} (h : w.ownsRow B T m v n cs) {w0 : World} (ha : Ch X w0 w) (hg : w.grownBy w' v.ownBlock) (hX : ∀ k, B ≤ k → X k T) : Ch X w0 w' := by
  refine ha.trans (Ch.grown hg (fun g cs' T' r hr ho => ?_) (fun g o hr ho => ?_))
  · obtain ⟨hb, cur, hq⟩ := own_block h hr
    rw [hq] at ho
    cases ho
    exact hX g hb
  · obtain ⟨hb, cur, hq⟩ := own_block h hr
    rw [hq] at ho
    exact ⟨_, _, _, (Option.some.inj ho).symm⟩

/-- The cells of a part. -/
def FldR (B : Nat) (f : Pl.Fld) (c : List Value) (w : World) : Prop := ∃ s k sn ad m cp, c = [.string s, .int .i64 (f.num : Int), .int .i64 k, .string sn, .slice ad m cp] ∧ bl s = f.name ∧ TyC B f.ty w (.int .i64 k) (.string sn) (.slice ad m cp)
def CasR (f : Pl.Cas) (c : List Value) (_ : World) : Prop := ∃ s, c = [.string s, .int .i64 (f.num : Int)] ∧ bl s = f.name
def MthR (B : Nat) (f : Pl.Mth) (c : List Value) (w : World) : Prop := ∃ s k sn ad m cp k' sn' ad' m' cp', c = [.string s, .bool f.once, .int .i64 k, .string sn, .slice ad m cp, .int .i64 k', .string sn', .slice ad' m' cp'] ∧ bl s = f.name ∧ TyC B f.arg w (.int .i64 k) (.string sn) (.slice ad m cp) ∧ TyC B f.res w (.int .i64 k') (.string sn') (.slice ad' m' cp')

theorem FldR.ch {B : Nat} {X : Nat → TypeId → Prop} {w w' : World} (hc : Ch X w w') (hX : ∀ g, B ≤ g → ¬ X g 29) (f : Pl.Fld) (c : List Value) (h : FldR B f c w) : FldR B f c w' := by
  obtain ⟨s, k, sn, ad, m, cp, h1, h2, h3⟩ := h
  exact ⟨s, k, sn, ad, m, cp, h1, h2, TyC.ch hc hX _ _ _ _ h3⟩
theorem MthR.ch {B : Nat} {X : Nat → TypeId → Prop} {w w' : World} (hc : Ch X w w') (hX : ∀ g, B ≤ g → ¬ X g 29) (f : Pl.Mth) (c : List Value) (h : MthR B f c w) : MthR B f c w' := by
  obtain ⟨s, k, sn, ad, m, cp, k', sn', ad', m', cp', h1, h2, h3, h4⟩ := h
  exact ⟨s, k, sn, ad, m, cp, k', sn', ad', m', cp', h1, h2, TyC.ch hc hX _ _ _ _ h3, TyC.ch hc hX _ _ _ _ h4⟩

theorem FldV.flat {B : Nat} {f : Pl.Fld} {v : Value} {w : World} (h : FldV B f v w) : ∃ s k sn ad m cp, v = .agg #[.string s, .int .i64 (f.num : Int), .int .i64 k, .string sn, .slice ad m cp] ∧ bl s = f.name ∧ TyC B f.ty w (.int .i64 k) (.string sn) (.slice ad m cp) := by
  obtain ⟨s, a, b, c, rfl, h1, h2⟩ := h
  obtain ⟨k, sn, ad, m, cp, rfl, rfl, rfl⟩ := h2.shape
  exact ⟨s, k, sn, ad, m, cp, rfl, h1, h2⟩
theorem CasV.flat {f : Pl.Cas} {v : Value} {w : World} (h : CasV f v w) : ∃ s, v = .agg #[.string s, .int .i64 (f.num : Int)] ∧ bl s = f.name := h
theorem MthV.flat {B : Nat} {f : Pl.Mth} {v : Value} {w : World} (h : MthV B f v w) : ∃ s k sn ad m cp k' sn' ad' m' cp', v = .agg #[.string s, .bool f.once, .int .i64 k, .string sn, .slice ad m cp, .int .i64 k', .string sn', .slice ad' m' cp'] ∧ bl s = f.name ∧ TyC B f.arg w (.int .i64 k) (.string sn) (.slice ad m cp) ∧ TyC B f.res w (.int .i64 k') (.string sn') (.slice ad' m' cp') := by
  obtain ⟨s, a, b, c, a', b', c', rfl, h1, h2, h3⟩ := h
  obtain ⟨k, sn, ad, m, cp, rfl, rfl, rfl⟩ := h2.shape
  obtain ⟨k', sn', ad', m', cp', rfl, rfl, rfl⟩ := h3.shape
  exact ⟨s, k, sn, ad, m, cp, k', sn', ad', m', cp', rfl, h1, h2, h3⟩
end Go.Proofs.YtmiohekmpjiloaaGreatDoor

