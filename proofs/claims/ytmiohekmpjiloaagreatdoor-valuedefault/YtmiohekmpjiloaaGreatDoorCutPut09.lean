/- What a list of tokens reads as; alive. lex: isJust, Check. Tokens as declarations, on lists: what is taken, what is left, what is told. Declarations one behind the other. Texts as tokens: lines. Tokens of texts one behind the other. -/
import Derived.Test.YtmiohekmpjiloaaGreatDoorCutPut08
import Derived.Laws.StructEq
import Derived.Test.YtmiohekmpjiloaaGreatDoorCutPut03
namespace Go.Proofs.YtmiohekmpjiloaaGreatDoor
open Go.RowKit
set_option maxRecDepth 20000

/-- A token with whatever numbers. -/
abbrev Z3 := Int × ByteArray × Int
def toZ (t : T3) : Z3 := ((t.1 : Int), t.2.1, (t.2.2 : Int))

/-- A slice of tokens that reads as a list. -/
def TSeg (w : World) (v : Value) (l : List Z3) : Prop :=
  ∃ a cap, v = .slice a l.length cap ∧ l.length ≤ cap ∧ cap ≤ maxLen ∧ (a = none → l = [] ∧ cap = 0) ∧
    ∀ g off ar, a = some ⟨g, off, ar⟩ → 0 < l.length → ar = none ∧ g < w.heap.size ∧ ∀ i t, l[i]? = some t → w.cell? ⟨g, off + i * 3, none⟩ = some (.int .i64 t.1) ∧ w.cell? ⟨g, off + i * 3 + 1, none⟩ = some (.string t.2.1) ∧ w.cell? ⟨g, off + i * 3 + 2, none⟩ = some (.int .i64 t.2.2)

theorem TSeg.below {w w' : World} {v : Value} {l : List Z3} (h : TSeg w v l) (hb : Below w.heap.size w w') : TSeg w' v l := by
  obtain ⟨a, cap, h1, h2, h3, h4, h5⟩ := h
  refine ⟨a, cap, h1, h2, h3, h4, fun g off ar ha h0 => ?_⟩
  obtain ⟨k1, k2, k3⟩ := h5 g off ar ha h0
  refine ⟨k1, Nat.lt_of_lt_of_le k2 hb.size, fun i t ht => ?_⟩
  obtain ⟨q1, q2, q3⟩ := k3 i t ht
  exact ⟨(hb.cell k2).trans q1, (hb.cell k2).trans q2, (hb.cell k2).trans q3⟩

theorem rowT_at (l : List T3) (i : Nat) (t : T3) (h : l[i]? = some t) : (rowT l)[i * 3]? = some (.int .i64 (t.1 : Int)) ∧ (rowT l)[i * 3 + 1]? = some (.string t.2.1) ∧ (rowT l)[i * 3 + 2]? = some (.int .i64 (t.2.2 : Int)) := by
  induction l generalizing i with
  | nil => simp at h
  | cons x l ih =>
    cases i with
    | zero =>
      simp at h
      subst h
      exact ⟨rfl, rfl, rfl⟩
    | succ i =>
      rw [List.getElem?_cons_succ] at h
      have := ih i h
      have e : rowT (x :: l) = .int .i64 (x.1 : Int) :: .string x.2.1 :: .int .i64 (x.2.2 : Int) :: rowT l := rfl
      rw [e, show (i + 1) * 3 = i * 3 + 1 + 1 + 1 by omega]
      simpa using this

theorem Toks.seg {B : Nat} {w : World} {v : Value} {l : List T3} (h : Toks B w v l) : TSeg w v (l.map toZ) := by
  rcases h.2 with ⟨rfl, h0⟩ | ⟨g, cap, cur, rfl, hb, hg, hle, hm, hs, ht⟩
  · have : l = [] := List.length_eq_zero_iff.1 h0
    subst this
    exact ⟨none, 0, rfl, Nat.le_refl _, Nat.zero_le _, fun _ => ⟨rfl, rfl⟩, fun g off ar ha _ => by cases ha⟩
  · refine ⟨_, cap, by rw [List.length_map], by rw [List.length_map]; exact hle, hm, (fun h => by cases h), fun g' off ar ha _ => ?_⟩
    cases ha
    have hlt : g < w.heap.size := by
      rcases Nat.lt_or_ge g w.heap.size with hlt | hge
      · exact hlt
      · rw [Array.getElem?_eq_none hge] at hg; cases hg
    refine ⟨rfl, hlt, fun i t hi => ?_⟩
    rw [List.getElem?_map] at hi
    cases hq : l[i]? with
    | none => rw [hq] at hi; simp at hi
    | some t' =>
      rw [hq] at hi
      simp at hi
      subst hi
      obtain ⟨q1, q2, q3⟩ := rowT_at l i t' hq
      have hil : i < l.length := (List.getElem?_eq_some_iff.1 hq).1
      have cell : ∀ j u, j < l.length * 3 → (rowT l)[j]? = some u → w.cell? ⟨g, 0 + j, none⟩ = some u := by
        intro j u hj hu
        rw [cell_of_row w g (0 + j) cur 183 (0, 0) hg]
        rw [← ht, List.getElem?_take_of_lt hj] at hu
        simpa using hu
      refine ⟨cell _ _ (by omega) q1, ?_, ?_⟩
      · have := cell _ _ (by omega) q2
        rwa [← Nat.add_assoc] at this
      · have := cell _ _ (by omega) q3
        rwa [← Nat.add_assoc] at this

theorem bl_inj {s t : ByteArray} (h : bl s = bl t) : s = t := by
  apply ByteArray.ext
  apply Array.toList_inj.1
  unfold bl at h
  exact (List.map_inj_right (fun x y hxy => UInt8.toNat_inj.1 hxy)).1 h

end Go.Proofs.YtmiohekmpjiloaaGreatDoor

namespace Go.Proofs.YtmiohekmpjiloaaGreatDoor
open Go.RowKit
set_option maxRecDepth 20000

/-- Is a text just one token of a kind? -/
def just (k : Int) (x : ByteArray) : Bool := decide ((Pl.nextP (bl x)).2.2 = 0) && decide (((Pl.nextP (bl x)).1 : Int) = k) && decide ((Pl.nextP (bl x)).2.1 = x.size)

/-- Check's answer. -/
def checkZ (t : Z3) : Int := if t.1 < 1 ∨ 3 < t.1 then 23 else if just t.1 t.2.1 = false then 32 else if t.2.2 < 1 then 4 else 0

set_option maxHeartbeats 1000000 in
set_option maxRecDepth 4000 in
theorem isJust_any (k : Int) (x : ByteArray) (hx : x.size ≤ maxLen) (w : World) : Calls Tryz.prog 168 #[.int .i64 k, .string x] w fun e w' => e = .returned (.bool (just k x)) ∧ Below w.heap.size w w' := by
  unfold maxLen at hx
  obtain ⟨kk, m, er, hN⟩ : ∃ kk m er, Pl.nextP (bl x) = (kk, m, er) := ⟨_, _, _, rfl⟩
  have hlen := (Pl.next_len (bl x)).1
  rw [hN, bl_length] at hlen
  simp only at hlen
  have hn : ∀ (n : Nat) (w1 : World), At n 221 [] w1 x 0 0 → Calls Tryz.prog 181 #[.pointer (some ⟨n, 0, none⟩)] w1 fun e w' => e = .returned (.tuple #[.int .i64 (kk : Int), .string (if er = 0 then x.extract 0 (0 + m) else empty), .int .i64 er]) ∧ At n 221 [] w' x m 0 ∧ w1.grownBy w' (some n) := by
    intro n w1 h1
    have h := next_any n 221 [] w1 x 0 0 h1 (Nat.zero_le _) hx
    rw [List.drop_zero, hN, Nat.zero_add] at h
    exact h
  have hJ : just k x = (decide (er = 0) && decide ((kk : Int) = k) && decide (m = x.size)) := by unfold just; rw [hN]
  rw [hJ]
  generalize (if er = 0 then x.extract 0 (0 + m) else empty) = tx at hn
  obtain ⟨n, hnn⟩ : ∃ n, n = w.heap.size := ⟨_, rfl⟩
  go_enter Tryz.func168, Tryz.ntmps168
  go_wp2_with fail
  have hA0 : At n 221 [] (w.alloc (.cells #[.string x, .int .i64 0, .int .i64 0] 221)) x 0 0 := by
    rw [hnn]
    exact heap_alloc_new w _
  have hb0 : Below n w (w.alloc (.cells #[.string x, .int .i64 0, .int .i64 0] 221)) := (Below.refl _ w).alloc (by omega) _
  generalize w.alloc (.cells #[.string x, .int .i64 0, .int .i64 0] 221) = w0 at hA0 hb0 ⊢
  simp only [← hnn]
  have HN : Hid (n = w.heap.size) := hnn
  clear hnn
  refine (hn n w0 hA0).mono ?_
  rintro e w1 ⟨rfl, hA1, hg1⟩
  have hb1 : Below n w w1 := below_grown hb0 hg1 (by have := hA0.facts.2.2.2.2; omega) (fun j hj => by cases hj; exact Nat.le_refl _)
  have hov := over_any n 221 [] w1 x m 0 hA1
  by_cases he : er = 0
  · subst he
    by_cases hk : (kk : Int) = k
    · have hq : ((kk : Int) == k) = true := by simp [hk]
      go_wp2_with (go_at_call 182; refine hov.mono ?_; rintro e w2 ⟨rfl, q, rfl⟩)
      go_ret
      rw [← HN.out]
      exact ⟨rfl, below_drewN hb1 q⟩
    · have hq : ((kk : Int) == k) = false := by simp [hk]
      go_wp2
      go_ret
      rw [← HN.out]
      refine ⟨?_, hb1⟩
      simp
  · have hq : (er == 0) = false := by simp [he]
    go_wp2
    go_ret
    rw [← HN.out]
    refine ⟨?_, hb1⟩
    simp [he]

set_option maxHeartbeats 1000000 in
set_option maxRecDepth 4000 in
theorem check_any (t : Z3) (hx : t.2.1.size ≤ maxLen) (w : World) : Calls Tryz.prog 151 #[.agg #[.int .i64 t.1, .string t.2.1, .int .i64 t.2.2]] w fun e w' => e = .returned (.int .i64 (checkZ t)) ∧ Below w.heap.size w w' := by
  obtain ⟨k, x, ln⟩ := t
  simp only at hx ⊢
  unfold checkZ
  simp only
  by_cases h1 : k < 1
  · rw [if_pos (.inl h1)]
    go_enter Tryz.func151, Tryz.ntmps151
    go_wp2
    go_ret
    exact ⟨rfl, (Below.refl _ w).alloc (Nat.le_refl _) _⟩
  by_cases h3 : 3 < k
  · rw [if_pos (.inr h3)]
    go_enter Tryz.func151, Tryz.ntmps151
    go_wp2
    go_ret
    exact ⟨rfl, (Below.refl _ w).alloc (Nat.le_refl _) _⟩
  rw [if_neg (by omega)]
  have hj := fun w' => isJust_any k x hx w'
  cases hb : just k x with
  | false =>
    rw [hb] at hj
    rw [if_pos rfl]
    go_enter Tryz.func151, Tryz.ntmps151
    go_wp2_with fail
    refine (hj _).mono ?_
    rintro e w1 ⟨rfl, hb1⟩
    have hbb : Below w.heap.size w w1 := ((Below.refl _ w).alloc (Nat.le_refl _) _).trans (hb1.mono (by simp))
    go_wp2
    go_ret
    exact ⟨rfl, hbb⟩
  | true =>
    rw [hb] at hj
    rw [if_neg (by simp)]
    by_cases hl : ln < 1
    · rw [if_pos hl]
      go_enter Tryz.func151, Tryz.ntmps151
      go_wp2_with fail
      refine (hj _).mono ?_
      rintro e w1 ⟨rfl, hb1⟩
      have hbb : Below w.heap.size w w1 := ((Below.refl _ w).alloc (Nat.le_refl _) _).trans (hb1.mono (by simp))
      have hcell : w1.cell? ⟨w.heap.size, 2, none⟩ = some (.int .i64 ln) := (hb1.cell (by simp)).trans (by simp)
      go_wp2
      go_ret
      exact ⟨rfl, hbb⟩
    · rw [if_neg hl]
      go_enter Tryz.func151, Tryz.ntmps151
      go_wp2_with fail
      refine (hj _).mono ?_
      rintro e w1 ⟨rfl, hb1⟩
      have hbb : Below w.heap.size w w1 := ((Below.refl _ w).alloc (Nat.le_refl _) _).trans (hb1.mono (by simp))
      have hcell : w1.cell? ⟨w.heap.size, 2, none⟩ = some (.int .i64 ln) := (hb1.cell (by simp)).trans (by simp)
      go_wp2
      go_ret
      exact ⟨rfl, hbb⟩
end Go.Proofs.YtmiohekmpjiloaaGreatDoor

namespace Go.Proofs.YtmiohekmpjiloaaGreatDoor.Pl

/-- A token without its line. -/
abbrev Kt := Nat × List Nat

inductive Res (α : Type) where
  | ok (a : α) (r : List Kt)
  | bad (r : List Kt) (e : Nat)

def Res.bind {α β : Type} (x : Res α) (f : α → List Kt → Res β) : Res β :=
  match x with
  | .ok a r => f a r
  | .bad r e => .bad r e

inductive Ty where
  | plain (k : Nat)
  | list (t : Ty)
  | opt (t : Ty)
  | named (n : List Nat)
deriving DecidableEq

structure Fld where
  num : Nat
  name : List Nat
  ty : Ty
deriving DecidableEq
structure Cas where
  num : Nat
  name : List Nat
deriving DecidableEq
structure Mth where
  once : Bool
  name : List Nat
  arg : Ty
  res : Ty
deriving DecidableEq
inductive Decl where
  | st (name : List Nat) (l : List Fld)
  | en (name : List Nat) (l : List Cas)
  | sv (name : List Nat) (l : List Mth)
deriving DecidableEq

def wBool : List Nat := [98, 111, 111, 108]
def wInt : List Nat := [105, 110, 116]
def wUint : List Nat := [117, 105, 110, 116]
def wText : List Nat := [116, 101, 120, 116]
def wBytes : List Nat := [98, 121, 116, 101, 115]
def wStruct : List Nat := [115, 116, 114, 117, 99, 116]
def wEnum : List Nat := [101, 110, 117, 109]
def wService : List Nat := [115, 101, 114, 118, 105, 99, 101]
def wOnce : List Nat := [111, 110, 99, 101]
def wRead : List Nat := [114, 101, 97, 100]

def plainK (x : List Nat) : Nat := if x = wBool then 1 else if x = wInt then 2 else if x = wUint then 3 else if x = wText then 4 else if x = wBytes then 5 else 0
def isGram (x : List Nat) : Bool := decide (x = wStruct) || decide (x = wEnum) || decide (x = wService) || decide (x = wOnce) || decide (x = wRead)
def nameT (t : Kt) : Bool := decide (t.1 = 1) && decide (plainK t.2 = 0) && !isGram t.2
def begT (t : Kt) : Bool := decide (t.2 = [91]) || decide (t.2 = [63]) || (decide (t.1 = 1) && !isGram t.2)
def numT (t : Kt) : Bool := decide (t.1 = 2)
def isT (x : List Nat) (t : Kt) : Bool := decide (t.2 = x)
def onrT (t : Kt) : Bool := decide (t.2 = wOnce) || decide (t.2 = wRead)
def decT (t : Kt) : Bool := decide (t.2 = wStruct) || decide (t.2 = wEnum) || decide (t.2 = wService)

/-- A number's value. -/
def valN (x : List Nat) : Nat := x.foldl (fun a c => a * 10 + (c - 48)) 0

def takeP (p : Kt → Bool) : List Kt → Res Kt
  | [] => .bad [] 8
  | t :: r => if p t then .ok t r else .bad (t :: r) 33

def typeP : Nat → List Kt → Res Ty
  | 0, l => (takeP begT l).bind fun _ _ => .bad l 42
  | d + 1, l => (takeP begT l).bind fun t r =>
      if t.2 = [91] then (typeP d r).bind fun x r1 => (takeP (isT [93]) r1).bind fun _ r2 => .ok (.list x) r2
      else if t.2 = [63] then (typeP d r).bind fun x r1 => .ok (.opt x) r1
      else if nameT t then .ok (.named t.2) r
      else .ok (.plain (plainK t.2)) r

def fieldP (f : Kt) (l : List Kt) : Res Fld :=
  (takeP nameT l).bind fun n r => (takeP (isT [58]) r).bind fun _ r => (typeP 8 r).bind fun t r => (takeP (isT [59]) r).bind fun _ r => .ok ⟨valN f.2, n.2, t⟩ r
def caseP (f : Kt) (l : List Kt) : Res Cas :=
  (takeP nameT l).bind fun n r => (takeP (isT [59]) r).bind fun _ r => .ok ⟨valN f.2, n.2⟩ r
def methodP (f : Kt) (l : List Kt) : Res Mth :=
  (takeP nameT l).bind fun n r => (takeP (isT [40]) r).bind fun _ r => (typeP 8 r).bind fun a r => (takeP (isT [41]) r).bind fun _ r =>
    (typeP 8 r).bind fun b r => (takeP (isT [59]) r).bind fun _ r => .ok ⟨decide (f.2 = wOnce), n.2, a, b⟩ r

def partsP {α : Type} (beg : Kt → Bool) (part : Kt → List Kt → Res α) : Nat → List Kt → Res (List α)
  | _, [] => .bad [] 8
  | 0, t :: r => if t.2 = [125] then .ok [] r else if beg t then .bad (t :: r) 3 else .bad (t :: r) 33
  | k + 1, t :: r => if t.2 = [125] then .ok [] r else if beg t then (part t r).bind fun a r1 => (partsP beg part k r1).bind fun as1 r2 => .ok (a :: as1) r2 else .bad (t :: r) 33

def bodyP {α : Type} (beg : Kt → Bool) (part : Kt → List Kt → Res α) (l : List Kt) : Res (List Nat × List α) :=
  (takeP nameT l).bind fun n r => (takeP (isT [123]) r).bind fun _ r => (partsP beg part 32 r).bind fun as1 r => .ok (n.2, as1) r

def declP (t : Kt) (l : List Kt) : Res Decl :=
  if t.2 = wStruct then (bodyP numT fieldP l).bind fun x r => .ok (.st x.1 x.2) r
  else if t.2 = wEnum then (bodyP numT caseP l).bind fun x r => .ok (.en x.1 x.2) r
  else (bodyP onrT methodP l).bind fun x r => .ok (.sv x.1 x.2) r

def declsP : Nat → List Kt → Res (List Decl)
  | _, [] => .ok [] []
  | 0, t :: r => if decT t then .bad (t :: r) 3 else .bad (t :: r) 33
  | k + 1, t :: r => if decT t then (declP t r).bind fun a r1 => (declsP k r1).bind fun as1 r2 => .ok (a :: as1) r2 else .bad (t :: r) 33

/-- A parser that goes over just c, and tells the end where c is cut off; nothing that it goes over is a closing brace. -/
structure Eats {α : Type} (P : List Kt → Res α) (c : List Kt) (a : α) : Prop where
  all : ∀ m, P (c ++ m) = .ok a m
  cut : ∀ c' d, c = c' ++ d → d ≠ [] → P c' = .bad [] 8

/-- Which token text may be where its kind is known. -/
def okKt (t : Kt) : Prop := okTok ⟨t.1, t.2, 0⟩

theorem wordE_brace : wordE [125] = (0, 32) := by decide
theorem ok_brace (t : Kt) (h : okKt t) (ht : t.2 = [125]) : t.1 = 3 := by
  rcases h with ⟨h1, _⟩ | ⟨_, _, h3⟩
  · exact h1
  · simp only [ht, wordE_brace] at h3
    simp at h3

def Fine {α : Type} (P : List Kt → Res α) : Prop := ∀ l a r, P l = .ok a r → ∃ c, l = c ++ r ∧ Eats P c a ∧ ∀ t ∈ c, okKt t → t.2 ≠ [125]
/-- The same, with a closing brace behind it. -/
def FineB {α : Type} (P : List Kt → Res α) : Prop := ∀ l a r, P l = .ok a r → ∃ c t, l = c ++ t :: r ∧ Eats P (c ++ [t]) a ∧ t.2 = [125] ∧ ∀ t ∈ c, okKt t → t.2 ≠ [125]

theorem bind_ok {α β : Type} {x : Res α} {f : α → List Kt → Res β} {b : β} {r : List Kt} (h : x.bind f = .ok b r) : ∃ a r1, x = .ok a r1 ∧ f a r1 = .ok b r := by
  cases x with
  | ok a r1 => exact ⟨a, r1, rfl, h⟩
  | bad r1 e => simp [Res.bind] at h

theorem Eats.bind {α β : Type} {P : List Kt → Res α} {Q : α → List Kt → Res β} {c1 c2 : List Kt} {a : α} {b : β} (h1 : Eats P c1 a) (h2 : Eats (Q a) c2 b) : Eats (fun l => (P l).bind Q) (c1 ++ c2) b := by
  refine ⟨fun m => ?_, fun c' d he hd => ?_⟩
  · simp only [List.append_assoc, h1.all, Res.bind]
    exact h2.all m
  · rcases List.append_eq_append_iff.1 he with ⟨x, hx1, hx2⟩ | ⟨x, hx1, hx2⟩
    · subst hx1
      simp only [h1.all, Res.bind]
      exact h2.cut x d hx2 hd
    · cases x with
      | nil =>
        simp only [List.append_nil] at hx1
        subst hx1
        have := h1.all []
        rw [List.append_nil] at this
        simp only [this, Res.bind]
        exact h2.cut [] c2 rfl (by simp only [List.nil_append] at hx2; rw [← hx2]; exact hd)
      | cons y x =>
        have := h1.cut c' (y :: x) hx1 (by simp)
        simp only [this, Res.bind]

theorem Fine.bind {α β : Type} {P : List Kt → Res α} {Q : α → List Kt → Res β} (h1 : Fine P) (h2 : ∀ a, Fine (Q a)) : Fine (fun l => (P l).bind Q) := by
  intro l b r h
  obtain ⟨a, r1, hP, hQ⟩ := bind_ok h
  obtain ⟨c1, rfl, he1, hb1⟩ := h1 l a r1 hP
  obtain ⟨c2, rfl, he2, hb2⟩ := h2 a r1 b r hQ
  refine ⟨c1 ++ c2, by rw [List.append_assoc], he1.bind he2, fun t ht => ?_⟩
  rcases List.mem_append.1 ht with ht | ht
  · exact hb1 t ht
  · exact hb2 t ht

theorem Fine.pure {α : Type} (a : α) : Fine (fun r => Res.ok a r) := by
  intro l b r h
  cases h
  exact ⟨[], rfl, ⟨fun m => rfl, fun c' d he hd => by simp at he; exact absurd he.2 hd⟩, fun t ht => by cases ht⟩

theorem take_eats (p : Kt → Bool) (t : Kt) (h : p t = true) : Eats (takeP p) [t] t := by
  refine ⟨fun m => by simp [takeP, h], fun c' d he hd => ?_⟩
  cases c' with
  | nil => rfl
  | cons x c' =>
    simp only [List.cons_append, List.cons.injEq] at he
    have h2 := he.2
    cases c' with
    | nil => exact absurd h2.symm hd
    | cons y c' => simp at h2
theorem Fine.take (p : Kt → Bool) (hp : ∀ t, p t = true → okKt t → t.2 ≠ [125]) : Fine (takeP p) := by
  intro l a r h
  cases l with
  | nil => simp [takeP] at h
  | cons t l =>
    simp only [takeP] at h
    by_cases ht : p t = true
    · rw [if_pos ht] at h
      simp only [Res.ok.injEq] at h
      obtain ⟨rfl, rfl⟩ := h
      exact ⟨[t], rfl, take_eats p t ht, fun u hu => by simp at hu; subst hu; exact hp _ ht⟩
    · rw [if_neg ht] at h
      cases h

theorem isT_brace (x : List Nat) (h : x ≠ [125]) (t : Kt) (ht : isT x t = true) (_ : okKt t) : t.2 ≠ [125] := by
  simp only [isT, decide_eq_true_eq] at ht
  rw [ht]
  exact h
theorem name_brace (t : Kt) (ht : nameT t = true) (h : okKt t) : t.2 ≠ [125] := by
  intro hb
  have := ok_brace t h hb
  simp [nameT, this] at ht
theorem num_brace (t : Kt) (ht : numT t = true) (h : okKt t) : t.2 ≠ [125] := by
  intro hb
  have := ok_brace t h hb
  simp [numT, this] at ht
theorem beg_brace (t : Kt) (ht : begT t = true) (h : okKt t) : t.2 ≠ [125] := by
  intro hb
  have := ok_brace t h hb
  simp [begT, this, hb] at ht
theorem onr_brace (t : Kt) (ht : onrT t = true) (_ : okKt t) : t.2 ≠ [125] := by
  intro hb
  simp [onrT, hb, wOnce, wRead] at ht
theorem Fine.sign (x : List Nat) (h : x ≠ [125]) : Fine (takeP (isT x)) := Fine.take _ (isT_brace x h)
theorem Fine.ite {α : Type} {b : Prop} [Decidable b] {P Q : List Kt → Res α} (h1 : Fine P) (h2 : Fine Q) : Fine (fun l => if b then P l else Q l) := by
  by_cases hb : b
  · simp only [if_pos hb]; exact h1
  · simp only [if_neg hb]; exact h2

theorem Fine.type (d : Nat) : Fine (typeP d) := by
  induction d with
  | zero =>
    intro l a r h
    obtain ⟨t, r1, _, h2⟩ := bind_ok h
    cases h2
  | succ d ih =>
    have h1 : Fine (fun l => (takeP begT l).bind fun t r =>
      if t.2 = [91] then (typeP d r).bind fun x r1 => (takeP (isT [93]) r1).bind fun _ r2 => .ok (Ty.list x) r2
      else if t.2 = [63] then (typeP d r).bind fun x r1 => .ok (Ty.opt x) r1
      else if nameT t then .ok (Ty.named t.2) r
      else .ok (Ty.plain (plainK t.2)) r) := by
      refine (Fine.take _ beg_brace).bind fun t => Fine.ite (ih.bind fun x => (Fine.sign _ (by decide)).bind fun _ => Fine.pure _) (Fine.ite (ih.bind fun x => Fine.pure _) (Fine.ite (Fine.pure _) (Fine.pure _)))
    exact h1

theorem Fine.field (f : Kt) : Fine (fieldP f) :=
  (Fine.take _ name_brace).bind fun _ => (Fine.sign _ (by decide)).bind fun _ => (Fine.type 8).bind fun _ => (Fine.sign _ (by decide)).bind fun _ => Fine.pure _
theorem Fine.case (f : Kt) : Fine (caseP f) :=
  (Fine.take _ name_brace).bind fun _ => (Fine.sign _ (by decide)).bind fun _ => Fine.pure _
theorem Fine.method (f : Kt) : Fine (methodP f) :=
  (Fine.take _ name_brace).bind fun _ => (Fine.sign _ (by decide)).bind fun _ => (Fine.type 8).bind fun _ => (Fine.sign _ (by decide)).bind fun _ => (Fine.type 8).bind fun _ => (Fine.sign _ (by decide)).bind fun _ => Fine.pure _

theorem cut_nil {α : Type} {P : List Kt → Res α} {t : Kt} {c : List Kt} {a : α} (h0 : P [] = .bad [] 8) (hall : ∀ m, P (t :: c ++ m) = .ok a m) (hc : ∀ c' d, c = c' ++ d → d ≠ [] → P (t :: c') = .bad [] 8) : Eats P (t :: c) a := by
  refine ⟨hall, fun c' d he hd => ?_⟩
  cases c' with
  | nil => exact h0
  | cons x c' =>
    simp only [List.cons_append, List.cons.injEq] at he
    obtain ⟨rfl, he⟩ := he
    exact hc c' d he hd

theorem FineB.parts {α : Type} (beg : Kt → Bool) (part : Kt → List Kt → Res α) (hb : ∀ t, beg t = true → okKt t → t.2 ≠ [125]) (hp : ∀ t, Fine (part t)) (k : Nat) : FineB (partsP beg part k) := by
  have hend : ∀ (k : Nat) (t : Kt) (r : List Kt), t.2 = [125] → partsP beg part k (t :: r) = .ok [] r := by
    intro k t r ht
    cases k <;> simp only [partsP, if_pos ht]
  have hclose : ∀ (k : Nat) (t : Kt) (r : List Kt), t.2 = [125] → ∃ c u, t :: r = c ++ u :: r ∧ Eats (partsP beg part k) (c ++ [u]) [] ∧ u.2 = [125] ∧ ∀ t ∈ c, okKt t → t.2 ≠ [125] := by
    intro k t r ht
    refine ⟨[], t, rfl, cut_nil (by cases k <;> rfl) (fun m => hend k t _ ht) (fun c' d he hd => ?_), ht, fun u hu => by cases hu⟩
    simp at he
    exact absurd he.2 hd
  induction k with
  | zero =>
    intro l a r h
    cases l with
    | nil => simp [partsP] at h
    | cons t l =>
      by_cases ht : t.2 = [125]
      · rw [hend 0 t l ht] at h
        simp only [Res.ok.injEq] at h
        obtain ⟨rfl, rfl⟩ := h
        exact hclose 0 t l ht
      · simp only [partsP, if_neg ht] at h
        split at h <;> cases h
  | succ k ih =>
    intro l a r h
    cases l with
    | nil => simp [partsP] at h
    | cons t l =>
      by_cases ht : t.2 = [125]
      · rw [hend (k + 1) t l ht] at h
        simp only [Res.ok.injEq] at h
        obtain ⟨rfl, rfl⟩ := h
        exact hclose (k + 1) t l ht
      · simp only [partsP, if_neg ht] at h
        by_cases hbt : beg t = true
        · rw [if_pos hbt] at h
          obtain ⟨x, r1, h1, h2⟩ := bind_ok h
          obtain ⟨xs, r2, h3, h4⟩ := bind_ok h2
          cases h4
          obtain ⟨c1, rfl, e1, b1⟩ := hp t _ _ _ h1
          obtain ⟨c2, u, rfl, e2, hu, b2⟩ := ih _ _ _ h3
          have hE : Eats (fun l => (part t l).bind fun a r1 => (partsP beg part k r1).bind fun as1 r2 => .ok (a :: as1) r2) (c1 ++ ((c2 ++ [u]) ++ [])) (x :: xs) := by
            refine e1.bind (Q := fun a r1 => (partsP beg part k r1).bind fun as1 r2 => .ok (a :: as1) r2) ?_
            refine e2.bind (Q := fun as1 r2 => .ok (x :: as1) r2) ?_
            exact ⟨fun m => rfl, fun c' d he hd => by simp at he; exact absurd he.2 hd⟩
          rw [List.append_nil] at hE
          refine ⟨t :: c1 ++ c2, u, by simp, ?_, hu, fun v hv => ?_⟩
          · have : t :: c1 ++ c2 ++ [u] = t :: (c1 ++ (c2 ++ [u])) := by simp
            rw [this]
            refine cut_nil rfl (fun m => ?_) (fun c' d he hd => ?_)
            · simp only [List.cons_append, partsP, if_neg ht, if_pos hbt]
              exact hE.all m
            · simp only [partsP, if_neg ht, if_pos hbt]
              exact hE.cut c' d he hd
          · simp only [List.cons_append, List.mem_cons, List.mem_append] at hv
            rcases hv with rfl | hv | hv
            · exact hb _ hbt
            · exact b1 v hv
            · exact b2 v hv
        · rw [if_neg hbt] at h
          cases h

theorem FineB.bind {α β : Type} {P : List Kt → Res α} {Q : α → List Kt → Res β} (h1 : Fine P) (h2 : ∀ a, FineB (Q a)) : FineB (fun l => (P l).bind Q) := by
  intro l b r h
  obtain ⟨a, r1, hP, hQ⟩ := bind_ok h
  obtain ⟨c1, rfl, he1, hb1⟩ := h1 l a r1 hP
  obtain ⟨c2, u, rfl, he2, hu, hb2⟩ := h2 a r1 b r hQ
  refine ⟨c1 ++ c2, u, by rw [List.append_assoc], by rw [List.append_assoc]; exact he1.bind he2, hu, fun t ht => ?_⟩
  rcases List.mem_append.1 ht with ht | ht
  · exact hb1 t ht
  · exact hb2 t ht
theorem FineB.map {α β : Type} {P : List Kt → Res α} (f : α → β) (h1 : FineB P) : FineB (fun l => (P l).bind fun a r => .ok (f a) r) := by
  intro l b r h
  obtain ⟨a, r1, hP, hQ⟩ := bind_ok h
  cases hQ
  obtain ⟨c1, u, rfl, he1, hu, hb1⟩ := h1 l a r hP
  refine ⟨c1, u, rfl, ?_, hu, hb1⟩
  have := he1.bind (Q := fun a r => .ok (f a) r) (c2 := []) (b := f a) ⟨fun m => rfl, fun c' d he hd => by simp at he; exact absurd he.2 hd⟩
  rw [List.append_nil] at this
  exact this

theorem FineB.body {α : Type} (beg : Kt → Bool) (part : Kt → List Kt → Res α) (hb : ∀ t, beg t = true → okKt t → t.2 ≠ [125]) (hp : ∀ t, Fine (part t)) : FineB (bodyP beg part) :=
  FineB.bind (Fine.take _ name_brace) fun _ => FineB.bind (Fine.sign _ (by decide)) fun _ => (FineB.parts beg part hb hp 32).map _

theorem FineB.decl (t : Kt) : FineB (declP t) := by
  unfold declP
  split
  · exact (FineB.body _ _ num_brace Fine.field).map _
  · split
    · exact (FineB.body _ _ num_brace Fine.case).map _
    · exact (FineB.body _ _ onr_brace Fine.method).map _

end Go.Proofs.YtmiohekmpjiloaaGreatDoor.Pl

namespace Go.Proofs.YtmiohekmpjiloaaGreatDoor.Pl

end Go.Proofs.YtmiohekmpjiloaaGreatDoor.Pl

namespace Go.Proofs.YtmiohekmpjiloaaGreatDoor.Pl

/-- Lines are from the first one on, and no more than octets. -/
def within (ln n : Nat) (x : List Tok × Nat × Int) : Prop := (∀ t ∈ x.1, ln ≤ t.line ∧ t.line ≤ ln + n) ∧ x.2.1 ≤ ln + n

theorem within_cons {ln n : Nat} {t : Tok} {x : List Tok × Nat × Int} (ht : ln ≤ t.line ∧ t.line ≤ ln + n) (h : within ln n x) : within ln n (tokCons t x) := by
  unfold tokCons
  split
  · refine ⟨fun u hu => ?_, Nat.zero_le _⟩
    rcases List.mem_cons.1 hu with rfl | hu
    · exact ht
    · exact h.1 u hu
  · exact ⟨fun u hu => (by cases hu), h.2⟩
theorem within_mono {ln ln' n n' : Nat} {x : List Tok × Nat × Int} (h : within ln n x) (h1 : ln' ≤ ln) (h2 : ln + n ≤ ln' + n') : within ln' n' x :=
  ⟨fun t ht => by have := h.1 t ht; omega, by have := h.2; omega⟩

theorem tok_within (f : Nat) : ∀ (l : List Nat) (ln : Nat), within ln l.length (tokS f l ln) := by
  induction f with
  | zero => intro l ln; exact ⟨fun t ht => (by cases ht), Nat.zero_le _⟩
  | succ f ih =>
    intro l ln
    cases l with
    | nil => exact ⟨fun t ht => (by cases ht), Nat.zero_le _⟩
    | cons c r =>
      simp only [tokS, List.length_cons]
      split
      · exact within_mono (ih _ _) (by omega) (by omega)
      · split
        · exact within_mono (ih _ _) (by omega) (by omega)
        · split
          · exact within_mono (ih _ _) (by omega) (by have := dropWhile_le (fun d => d != 10) r; omega)
          · split
            · exact within_cons ⟨Nat.le_refl _, by simp⟩ (within_mono (ih _ _) (by omega) (by omega))
            · split
              · rename_i hp
                split
                · exact within_cons ⟨Nat.le_refl _, by simp⟩ (within_mono (ih _ _) (by omega) (by have := part_drop c r hp; omega))
                · exact ⟨fun t ht => (by cases ht), by simp⟩
              · exact ⟨fun t ht => (by cases ht), by simp⟩
end Go.Proofs.YtmiohekmpjiloaaGreatDoor.Pl

namespace Go.Proofs.YtmiohekmpjiloaaGreatDoor.Pl

theorem preT_pre (l : List Tok) (t : Tok) (x : List Tok × Nat × Int) : tokCons t (preT l x) = preT (t :: l) x := by
  unfold preT tokCons
  by_cases h : x.2.2 = 0
  · simp [h]
  · simp [h]

def kt (t : Tok) : Kt := (t.kind, t.text)

end Go.Proofs.YtmiohekmpjiloaaGreatDoor.Pl

