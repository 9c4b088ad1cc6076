/- parse: the words of the grammar; what is looked for. parse: what is looked for, as functions. -/
import Derived.Test.YtmiohekmpjiloaaGreatDoorCutPut10
import Derived.Laws.Strings
namespace Go.Proofs.YtmiohekmpjiloaaGreatDoor
open Go.RowKit
set_option maxRecDepth 20000

/-- A slice of texts in a block of its own. -/
def Strs (w : World) (v : Value) (l : List ByteArray) : Prop := ∃ g, v = .slice (some ⟨g, 0, none⟩) l.length l.length ∧ Bx w g (l.map .string) 9
theorem Strs.below {w w' : World} {v : Value} {l : List ByteArray} (h : Strs w v l) (hb : Below w.heap.size w w') : Strs w' v l := by
  obtain ⟨g, h1, h2⟩ := h
  exact ⟨g, h1, h2.below hb⟩

theorem toList_inj {x y : ByteArray} (h : x.toList = y.toList) : x = y := by
  apply ByteArray.ext
  rw [← Array.toList_inj]
  rw [ByteArray.toList_eq, ByteArray.toList_eq] at h
  exact h
theorem str_no {x y : ByteArray} (h : ¬ x = y) : (x.toList == y.toList) = false := by
  rw [beq_eq_false_iff_ne]
  exact fun e => h (toList_inj e)

/-- Where a text stands first, or -1. -/
def idxZ : List ByteArray → ByteArray → Int
  | [], _ => -1
  | y :: r, x => if y = x then 0 else if idxZ r x < 0 then -1 else idxZ r x + 1

theorem idx_neg (l : List ByteArray) (x : ByteArray) : (idxZ l x < 0 ↔ x ∉ l) ∧ -1 ≤ idxZ l x ∧ idxZ l x < l.length := by
  induction l with
  | nil => simp [idxZ]
  | cons y r ih =>
    obtain ⟨h1, h2, h3⟩ := ih
    simp only [idxZ]
    by_cases h : y = x
    · subst h
      rw [if_pos rfl]
      refine ⟨by simp, by omega, by simp⟩
    · rw [if_neg h]
      have hm : x ∉ y :: r ↔ x ∉ r := by simp; exact fun _ e => h e.symm
      rw [hm, ← h1]
      split
      · refine ⟨by simp; assumption, by omega, by simp; omega⟩
      · refine ⟨by omega, by omega, by simp; omega⟩
theorem idx_at (l : List ByteArray) (x : ByteArray) (k : Nat) (h : l[k]? = some x) (hn : ∀ j, j < k → l[j]? ≠ some x) : idxZ l x = k := by
  induction l generalizing k with
  | nil => simp at h
  | cons y r ih =>
    cases k with
    | zero =>
      simp at h
      simp [idxZ, h]
    | succ k =>
      have h0 := hn 0 (by omega)
      simp at h0
      have := ih k (by simpa using h) (fun j hj => by have := hn (j + 1) (by omega); simpa using this)
      simp only [idxZ, if_neg h0, this]
      rw [if_neg (by omega)]
      simp

theorem str_at (l : List ByteArray) (k : Nat) (x : ByteArray) (h : l[k]? = some x) : (l.map Value.string)[k]? = some (.string x) := by
  rw [List.getElem?_map, h]
  rfl

set_option maxHeartbeats 1000000 in
theorem index_any (w : World) (v : Value) (l : List ByteArray) (x : ByteArray) (h : Strs w v l) (hl : l.length ≤ 100) :
    Calls Tryz.prog 183 #[v, .string x] w fun e w' => e = .returned (.int .i64 (idxZ l x)) ∧ w' = w := by
  obtain ⟨g, rfl, hb⟩ := h
  obtain ⟨N, hN⟩ : ∃ N, N = l.length := ⟨_, rfl⟩
  have HN : Hid (N = l.length) := hN
  have hlt := hb.lt
  rw [← hN] at hl ⊢
  obtain ⟨Z, hZ⟩ : ∃ Z, Z = idxZ l x := ⟨_, rfl⟩
  rw [← hZ]
  have HZ : Hid (Z = idxZ l x) := hZ
  clear hN hZ
  go_enter Tryz.func183, Tryz.ntmps183
  go_wp2_with fail
  go_loopw [8] (fun i wr => ∃ k : Nat, k ≤ N ∧ i = .int .i64 k ∧ wr = w ∧ ∀ j, j < k → l[j]? ≠ some x) (fun i _ => N - (intOf i).toNat)
  case atStart => exact ⟨0, Nat.zero_le _, rfl, rfl, fun j hj => by omega⟩
  case round =>
    obtain ⟨k, hk, rfl, rfl, hne⟩ := hrel
    by_cases hkN : k < N
    · obtain ⟨y, hy⟩ : ∃ y, l[k]? = some y := ⟨l[k]'(by have := HN.out; omega), by simp⟩
      have hc := hb.cell k (str_at l k y hy)
      by_cases hxy : x = y
      · subst hxy
        have hidx := HZ.out.trans (idx_at l x k hy hne)
        subst hidx
        clear hne hy
        go_wp2
        go_ret
        exact ⟨rfl, rfl⟩
      · have hq := str_no hxy
        have hne' : ∀ j, j < k + 1 → l[j]? ≠ some x := by
          intro j hj
          by_cases hjk : j = k
          · subst hjk
            rw [hy]
            simp
            exact fun e => hxy e.symm
          · exact hne j (by omega)
        have HNE : Hid (∀ j, j < k + 1 → l[j]? ≠ some x) := hne'
        clear hne hne' hy
        go_wp2
        exact ⟨⟨k + 1, by omega, by go_num, trivial, HNE.out⟩, by simp [intOf]; omega⟩
    · have hidx : idxZ l x = -1 := by
        obtain ⟨h1, h2, h3⟩ := idx_neg l x
        have : x ∉ l := by
          intro hm
          obtain ⟨j, hj⟩ := List.getElem?_of_mem hm
          have hjl := (List.getElem?_eq_some_iff.1 hj).1
          exact hne j (by have := HN.out; omega) hj
        have := h1.2 this
        omega
      have hz := HZ.out.trans hidx
      subst hz
      clear hne hidx
      go_wp2
      go_ret
      exact ⟨rfl, rfl⟩

def memB (l : List ByteArray) (x : List Nat) : Bool := l.any fun y => decide (x = bl y)
theorem mem_idx (l : List ByteArray) (x : ByteArray) : decide (0 ≤ idxZ l x) = memB l (bl x) := by
  induction l with
  | nil => rfl
  | cons y r ih =>
    have e2 : memB (y :: r) (bl x) = (decide (bl x = bl y) || memB r (bl x)) := rfl
    rw [e2, ← ih]
    by_cases h : y = x
    · have e1 : idxZ (y :: r) x = 0 := by simp [idxZ, h]
      rw [e1, h]
      simp
    · have hb : ¬ bl x = bl y := fun e => h (bl_inj e).symm
      have e1 : idxZ (y :: r) x = if idxZ r x < 0 then -1 else idxZ r x + 1 := by simp [idxZ, h]
      rw [e1, decide_eq_false hb, Bool.false_or]
      by_cases h0 : idxZ r x < 0
      · rw [if_pos h0, decide_eq_false (by omega), decide_eq_false (by omega)]
      · rw [if_neg h0, decide_eq_true (by omega), decide_eq_true (by omega)]

set_option maxHeartbeats 1000000 in
theorem contains_any (w : World) (v : Value) (l : List ByteArray) (x : ByteArray) (h : Strs w v l) (hl : l.length ≤ 100) :
    Calls Tryz.prog 184 #[v, .string x] w fun e w' => e = .returned (.bool (memB l (bl x))) ∧ w' = w := by
  have hi := index_any w v l x h hl
  obtain ⟨g, rfl, hb⟩ := h
  rw [← mem_idx]
  generalize idxZ l x = z at *
  go_enter Tryz.func184, Tryz.ntmps184
  go_wp2_with fail
  refine hi.mono ?_
  rintro e w1 ⟨rfl, rfl⟩
  go_wp2
  go_ret
  exact ⟨rfl, rfl⟩

def sBool : ByteArray := ⟨#[98, 111, 111, 108]⟩
def sInt : ByteArray := ⟨#[105, 110, 116]⟩
def sUint : ByteArray := ⟨#[117, 105, 110, 116]⟩
def sText : ByteArray := ⟨#[116, 101, 120, 116]⟩
def sBytes : ByteArray := ⟨#[98, 121, 116, 101, 115]⟩
def sStruct : ByteArray := ⟨#[115, 116, 114, 117, 99, 116]⟩
def sEnum : ByteArray := ⟨#[101, 110, 117, 109]⟩
def sService : ByteArray := ⟨#[115, 101, 114, 118, 105, 99, 101]⟩
def sOnce : ByteArray := ⟨#[111, 110, 99, 101]⟩
def sRead : ByteArray := ⟨#[114, 101, 97, 100]⟩

theorem bl_iff (s t : ByteArray) : bl s = bl t ↔ s = t := ⟨bl_inj, fun h => by rw [h]⟩

theorem plainWords_any (w : World) : Calls Tryz.prog 116 #[] w fun e w' => ∃ v, e = .returned v ∧ Strs w' v [sBool, sInt, sUint, sText, sBytes] ∧ Below w.heap.size w w' := by
  go_enter Tryz.func116, Tryz.ntmps116
  go_wp2
  go_ret
  exact ⟨_, rfl, ⟨_, rfl, heap_alloc_new w _⟩, (Below.refl _ w).alloc (Nat.le_refl _) _⟩

theorem plain_idx (x : ByteArray) : 1 + idxZ [sBool, sInt, sUint, sText, sBytes] x = (Pl.plainK (bl x) : Int) := by
  have e1 : bl x = Pl.wBool ↔ sBool = x := by rw [show Pl.wBool = bl sBool from rfl, bl_iff]; exact eq_comm
  have e2 : bl x = Pl.wInt ↔ sInt = x := by rw [show Pl.wInt = bl sInt from rfl, bl_iff]; exact eq_comm
  have e3 : bl x = Pl.wUint ↔ sUint = x := by rw [show Pl.wUint = bl sUint from rfl, bl_iff]; exact eq_comm
  have e4 : bl x = Pl.wText ↔ sText = x := by rw [show Pl.wText = bl sText from rfl, bl_iff]; exact eq_comm
  have e5 : bl x = Pl.wBytes ↔ sBytes = x := by rw [show Pl.wBytes = bl sBytes from rfl, bl_iff]; exact eq_comm
  simp only [idxZ, Pl.plainK, e1, e2, e3, e4, e5]
  by_cases h1 : sBool = x
  · simp [h1]
  by_cases h2 : sInt = x
  · simp [h1, h2]
  by_cases h3 : sUint = x
  · simp [h1, h2, h3]
  by_cases h4 : sText = x
  · simp [h1, h2, h3, h4]
  by_cases h5 : sBytes = x
  · simp [h1, h2, h3, h4, h5]
  simp [h1, h2, h3, h4, h5]

set_option maxHeartbeats 1000000 in
theorem plainKind_any (x : ByteArray) (w : World) : Calls Tryz.prog 169 #[.string x] w fun e w' => e = .returned (.int .i64 (Pl.plainK (bl x) : Int)) ∧ Below w.heap.size w w' := by
  have hp := plain_idx x
  have hr := idx_neg [sBool, sInt, sUint, sText, sBytes] x
  have hi := fun w v h => index_any w v [sBool, sInt, sUint, sText, sBytes] x h (by decide)
  rw [← hp]
  generalize idxZ [sBool, sInt, sUint, sText, sBytes] x = z at *
  obtain ⟨_, h2, h3⟩ := hr
  simp only [List.length_cons, List.length_nil] at h3
  go_enter Tryz.func169, Tryz.ntmps169
  go_wp2_with fail
  refine (plainWords_any w).mono ?_
  rintro e w1 ⟨v, rfl, hS, hb⟩
  obtain ⟨g, hv, _⟩ := id hS
  have hii := hi w1 v hS
  rw [hv] at hii ⊢
  go_wp2_with fail
  refine hii.mono ?_
  rintro e w2 ⟨rfl, rfl⟩
  go_wp2
  go_ret
  refine ⟨?_, hb⟩
  rw [hp]
  rfl

theorem gram_mem (x : List Nat) : memB [sStruct, sEnum, sService, sOnce, sRead] x = Pl.isGram x := by
  simp only [memB, List.any_cons, List.any_nil, Pl.isGram, Bool.or_false, Bool.or_assoc]
  rfl

set_option maxHeartbeats 1000000 in
theorem isGrammar_any (x : ByteArray) (w : World) : Calls Tryz.prog 170 #[.string x] w fun e w' => e = .returned (.bool (Pl.isGram (bl x))) ∧ Below w.heap.size w w' := by
  have hi := fun w v h => contains_any w v [sStruct, sEnum, sService, sOnce, sRead] x h (by decide)
  simp only [gram_mem] at hi
  go_enter Tryz.func170, Tryz.ntmps170
  go_wp2_with fail
  refine (hi _ _ ⟨w.heap.size, rfl, heap_alloc_new w _⟩).mono ?_
  rintro e w2 ⟨rfl, rfl⟩
  go_wp2
  go_ret
  exact ⟨rfl, (Below.refl _ w).alloc (Nat.le_refl _) _⟩
end Go.Proofs.YtmiohekmpjiloaaGreatDoor

namespace Go.Proofs.YtmiohekmpjiloaaGreatDoor
open Go.RowKit
theorem below_alloc (w : World) (o : Obj) : Below w.heap.size w (w.alloc o) := (Below.refl _ w).alloc (Nat.le_refl _) o
theorem below_next {a b c : World} (h : Below a.heap.size a b) (k : Below b.heap.size b c) : Below a.heap.size a c := h.trans (k.mono h.size)

set_option maxHeartbeats 2000000 in
set_option maxRecDepth 4000 in
theorem isName_any (t : T3) (w : World) : Calls Tryz.prog 152 #[tokV t] w fun e w' => e = .returned (.bool (Pl.nameT (kt3 t))) ∧ Below w.heap.size w w' := by
  obtain ⟨k, x, ln⟩ := t
  unfold tokV kt3 Pl.nameT
  simp only
  have hpk := fun w => plainKind_any x w
  have hgr := fun w => isGrammar_any x w
  by_cases hk : k = 1
  · subst hk
    simp only [decide_true, Bool.true_and]
    by_cases hp : Pl.plainK (bl x) = 0
    · simp only [hp, decide_true, Bool.true_and] at hpk ⊢
      generalize Pl.isGram (bl x) = b at *
      go_enter Tryz.func152, Tryz.ntmps152
      go_wp2_with fail
      refine (hpk _).mono ?_
      rintro e w1 ⟨rfl, hb1⟩
      have hB := below_next (below_alloc w _) hb1
      have hc := (Bx.new w [.int .i64 1, .string x, .int .i64 (ln : Int)] 183).below hb1
      have hc1 := hc.cell 1 rfl
      go_wp2_with fail
      refine (hgr _).mono ?_
      rintro e w2 ⟨rfl, hb2⟩
      go_wp2
      go_ret
      exact ⟨rfl, below_next hB hb2⟩
    · have hpi : ((Pl.plainK (bl x) : Int) == 0) = false := by simp; omega
      rw [decide_eq_false hp, Bool.false_and]
      generalize Pl.plainK (bl x) = z at *
      go_enter Tryz.func152, Tryz.ntmps152
      go_wp2_with fail
      refine (hpk _).mono ?_
      rintro e w1 ⟨rfl, hb1⟩
      have hB := below_next (below_alloc w _) hb1
      go_wp2
      go_ret
      exact ⟨rfl, hB⟩
  · have hki : ((k : Int) == 1) = false := by simp; omega
    rw [decide_eq_false hk, Bool.false_and, Bool.false_and]
    go_enter Tryz.func152, Tryz.ntmps152
    go_wp2
    go_ret
    exact ⟨rfl, below_alloc w _⟩

end Go.Proofs.YtmiohekmpjiloaaGreatDoor

