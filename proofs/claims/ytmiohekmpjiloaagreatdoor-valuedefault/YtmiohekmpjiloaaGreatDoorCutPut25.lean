/- Values on lists: how they compare, and that this is an order. Values of any make, as they lie. -/
import Derived.Lib.Bytealg
import Derived.Test.YtmiohekmpjiloaaGreatDoorCutPut02
import Derived.Test.YtmiohekmpjiloaaGreatDoorCutPut11
namespace Go.Proofs.YtmiohekmpjiloaaGreatDoor
open Go.RowKit
set_option maxRecDepth 20000

/-- An answer -1, 0, 1 that is an order. -/
structure Ord3 {α : Type} (c : α → α → Int) : Prop where
  neg : ∀ a b, c b a = - c a b
  tr : ∀ a b d, c a b ≤ 0 → c b d ≤ 0 → c a d ≤ 0
theorem Ord3.self {α : Type} {c : α → α → Int} (h : Ord3 c) (a : α) : c a a = 0 := by
  have := h.neg a a
  omega
theorem Ord3.eqs {α : Type} {c : α → α → Int} (h : Ord3 c) {a b d : α} (h1 : c a b ≤ 0) (h2 : c b d ≤ 0) (h3 : c a d = 0) : c a b = 0 ∧ c b d = 0 := by
  have n1 := h.neg a d
  have n2 := h.neg a b
  have n3 := h.neg b d
  have k1 := h.tr b d a h2 (by omega)
  have k2 := h.tr d a b (by omega) h1
  omega
/-- One behind the other. -/
def lex3 {α : Type} (c d : α → α → Int) (a b : α) : Int := if c a b = 0 then d a b else c a b
theorem Ord3.lex {α : Type} {c d : α → α → Int} (h : Ord3 c) (k : Ord3 d) : Ord3 (lex3 c d) := by
  refine ⟨fun a b => ?_, fun x y z h1 h2 => ?_⟩
  · have n1 := h.neg a b
    have n2 := k.neg a b
    unfold lex3
    split <;> split <;> omega
  · unfold lex3 at *
    have q1 : c x y ≤ 0 := by
      split at h1 <;> omega
    have q2 : c y z ≤ 0 := by
      split at h2 <;> omega
    have q3 := h.tr x y z q1 q2
    split
    · rename_i hz
      obtain ⟨e1, e2⟩ := h.eqs q1 q2 hz
      rw [if_pos e1] at h1
      rw [if_pos e2] at h2
      exact k.tr x y z h1 h2
    · omega
/-- Lists, value by value, a shorter one that is a beginning ahead. -/
def cmpL {α : Type} (c : α → α → Int) : List α → List α → Int
  | [], [] => 0
  | [], _ :: _ => -1
  | _ :: _, [] => 1
  | a :: x, b :: y => if c a b = 0 then cmpL c x y else c a b
theorem cmpL_neg {α : Type} {c : α → α → Int} (h : ∀ a b, c b a = - c a b) : ∀ (x y : List α), cmpL c y x = - cmpL c x y
  | [], [] => rfl
  | [], _ :: _ => rfl
  | _ :: _, [] => rfl
  | a :: x, b :: y => by
    have n1 := h a b
    have n2 := cmpL_neg h x y
    simp only [cmpL]
    split <;> split <;> omega
theorem cmpL_tr {α : Type} {c : α → α → Int} (h : Ord3 c) : ∀ (x y z : List α), cmpL c x y ≤ 0 → cmpL c y z ≤ 0 → cmpL c x z ≤ 0
  | [], _, [] => fun _ _ => by simp [cmpL]
  | [], _, _ :: _ => fun _ _ => by simp [cmpL]
  | _ :: _, [], _ => fun h1 _ => by simp [cmpL] at h1
  | _ :: _, _ :: _, [] => fun _ h2 => by simp [cmpL] at h2
  | a :: x, b :: y, d :: z => fun h1 h2 => by
    simp only [cmpL] at *
    have q1 : c a b ≤ 0 := by
      split at h1 <;> omega
    have q2 : c b d ≤ 0 := by
      split at h2 <;> omega
    have q3 := h.tr a b d q1 q2
    split
    · rename_i hz
      obtain ⟨e1, e2⟩ := h.eqs q1 q2 hz
      rw [if_pos e1] at h1
      rw [if_pos e2] at h2
      exact cmpL_tr h x y z h1 h2
    · omega
theorem Ord3.lists {α : Type} {c : α → α → Int} (h : Ord3 c) : Ord3 (cmpL c) := ⟨cmpL_neg h.neg, cmpL_tr h⟩
/-- Numbers. -/
def cmpI (a b : Int) : Int := if a < b then -1 else if b < a then 1 else 0
theorem ord_int : Ord3 cmpI := by
  refine ⟨fun a b => ?_, fun a b d h1 h2 => ?_⟩
  · unfold cmpI
    (repeat' split) <;> omega
  · unfold cmpI at *
    (repeat' split at h1) <;> (repeat' split at h2) <;> (repeat' split) <;> omega
def cmpU (a b : UInt8) : Int := if a < b then -1 else if b < a then 1 else 0
theorem cmpU_int (a b : UInt8) : cmpU a b = cmpI a.toNat b.toNat := by
  unfold cmpU cmpI
  simp only [UInt8.lt_iff_toNat_lt, Int.ofNat_lt]
theorem ord_u8 : Ord3 cmpU := ⟨fun a b => by rw [cmpU_int, cmpU_int]; exact ord_int.neg _ _, fun a b d => by rw [cmpU_int, cmpU_int, cmpU_int]; exact ord_int.tr _ _ _⟩
theorem cmpB_eq : ∀ (x y : List UInt8), Lib.compareBytes x y = cmpL cmpU x y
  | [], [] => by simp [Lib.compareBytes, cmpL]
  | [], _ :: _ => by simp [Lib.compareBytes, cmpL]
  | _ :: _, [] => by simp [Lib.compareBytes, cmpL]
  | a :: x, b :: y => by
    have ih := cmpB_eq x y
    simp only [Lib.compareBytes, cmpL, cmpU]
    split
    · simp
    · split
      · simp
      · simp [ih]
def cmpT (a b : ByteArray) : Int := Lib.compareBytes a.data.toList b.data.toList
theorem ord_text : Ord3 cmpT := ⟨fun a b => by unfold cmpT; rw [cmpB_eq, cmpB_eq]; exact ord_u8.lists.neg _ _, fun a b d => by unfold cmpT; rw [cmpB_eq, cmpB_eq, cmpB_eq]; exact ord_u8.lists.tr _ _ _⟩
theorem Ord3.on {α β : Type} {c : α → α → Int} (h : Ord3 c) (f : β → α) : Ord3 fun a b => c (f a) (f b) := ⟨fun _ _ => h.neg _ _, fun _ _ _ => h.tr _ _ _⟩

/-- A value, of any make. -/
inductive Pl.GV where
  | node (i : Int) (u : Int) (t : ByteArray) (l : List GV)
def Pl.GV.i : Pl.GV → Int
  | .node i _ _ _ => i
def Pl.GV.u : Pl.GV → Int
  | .node _ u _ _ => u
def Pl.GV.t : Pl.GV → ByteArray
  | .node _ _ t _ => t
def Pl.GV.l : Pl.GV → List Pl.GV
  | .node _ _ _ l => l
instance : Inhabited Pl.GV := ⟨.node 0 0 ⟨#[]⟩ []⟩

/-- What of two values is held against each other ahead of their parts. -/
def keyV : Pl.GV → Pl.GV → Int := lex3 (fun a b => cmpI a.i b.i) (lex3 (fun a b => cmpI a.u b.u) (fun a b => cmpT a.t b.t))
theorem ord_key : Ord3 keyV := (ord_int.on Pl.GV.i).lex ((ord_int.on Pl.GV.u).lex (ord_text.on Pl.GV.t))
/-- Two values, so many steps down. -/
def cmpV : Nat → Pl.GV → Pl.GV → Int
  | 0, a, b => keyV a b
  | n + 1, a, b => if keyV a b = 0 then cmpL (cmpV n) a.l b.l else keyV a b
theorem ord_val (n : Nat) : Ord3 (cmpV n) := by
  induction n with
  | zero => exact ord_key
  | succ n ih => exact ord_key.lex (ih.lists.on Pl.GV.l)
end Go.Proofs.YtmiohekmpjiloaaGreatDoor

namespace Go.Proofs.YtmiohekmpjiloaaGreatDoor
open Go.RowKit
set_option maxRecDepth 20000

/-- Values of any make lie in a slice, so many steps down; their rows lie below B. -/
def VyS (B : Nat) : Nat → List Pl.GV → World → Value → Prop
  | 0, _, _, v => ∃ ad m cp, v = .slice ad m cp
  | n + 1, l, w, v => ∃ ad cp, v = .slice ad l.length cp ∧ l.length ≤ 9223372036854775807 ∧ ∀ i g, l[i]? = some g → ∃ blk off o, ad = some ⟨blk, off, none⟩ ∧ blk < B ∧
      w.cell? ⟨blk, off + i * 4, none⟩ = some (.int .i64 g.i) ∧ w.cell? ⟨blk, off + i * 4 + 1, none⟩ = some (.int .u64 g.u) ∧ w.cell? ⟨blk, off + i * 4 + 2, none⟩ = some (.string g.t) ∧ w.cell? ⟨blk, off + i * 4 + 3, none⟩ = some o ∧ VyS B n g.l w o
theorem VyS.mono {B B' : Nat} (hB : B ≤ B') : ∀ (n : Nat) (l : List Pl.GV) (w : World) (v : Value), VyS B n l w v → VyS B' n l w v := by
  intro n
  induction n with
  | zero => intro l w v h; exact h
  | succ n ih =>
    rintro l w v ⟨ad, cp, h1, h2, h3⟩
    refine ⟨ad, cp, h1, h2, fun i g hg => ?_⟩
    obtain ⟨blk, off, o, q1, q2, q3, q4, q5, q6, q7⟩ := h3 i g hg
    exact ⟨blk, off, o, q1, Nat.lt_of_lt_of_le q2 hB, q3, q4, q5, q6, ih _ _ _ q7⟩
theorem VyS.less {B : Nat} : ∀ (n : Nat) (l : List Pl.GV) (w : World) (v : Value), VyS B (n + 1) l w v → VyS B n l w v := by
  intro n
  induction n with
  | zero => rintro l w v ⟨ad, cp, h1, _⟩; exact ⟨ad, _, cp, h1⟩
  | succ n ih =>
    rintro l w v ⟨ad, cp, h1, h2, h3⟩
    refine ⟨ad, cp, h1, h2, fun i g hg => ?_⟩
    obtain ⟨blk, off, o, q1, q2, q3, q4, q5, q6, q7⟩ := h3 i g hg
    exact ⟨blk, off, o, q1, q2, q3, q4, q5, q6, ih _ _ _ q7⟩
theorem VyS.bel {B : Nat} {w w' : World} (hb : Below B w w') : ∀ (n : Nat) (l : List Pl.GV) (v : Value), VyS B n l w v → VyS B n l w' v := by
  intro n
  induction n with
  | zero => intro l v h; exact h
  | succ n ih =>
    rintro l v ⟨ad, cp, h1, h2, h3⟩
    refine ⟨ad, cp, h1, h2, fun i g hg => ?_⟩
    obtain ⟨blk, off, o, q1, q2, q3, q4, q5, q6, q7⟩ := h3 i g hg
    exact ⟨blk, off, o, q1, q2, (hb.cell q2).trans q3, (hb.cell q2).trans q4, (hb.cell q2).trans q5, (hb.cell q2).trans q6, ih _ _ q7⟩
theorem VyS.shape {B n : Nat} {l : List Pl.GV} {w : World} {v : Value} (h : VyS B n l w v) : ∃ ad m cp, v = .slice ad m cp := by
  cases n with
  | zero => exact h
  | succ n => obtain ⟨ad, cp, h1, _⟩ := h; exact ⟨ad, _, cp, h1⟩
theorem VyS.nil (B n : Nat) (w : World) : VyS B n [] w (.slice none 0 0) := by
  cases n with
  | zero => exact ⟨_, _, _, rfl⟩
  | succ n => exact ⟨none, 0, rfl, by simp, fun i g h => by simp at h⟩
/-- A value's cells. -/
def gvA (g : Pl.GV) (o : Value) : Value := .agg #[.int .i64 g.i, .int .u64 g.u, .string g.t, o]
end Go.Proofs.YtmiohekmpjiloaaGreatDoor

