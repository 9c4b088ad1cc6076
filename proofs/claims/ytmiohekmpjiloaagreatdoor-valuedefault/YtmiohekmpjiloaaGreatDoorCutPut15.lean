/- strings.Builder within a writing: copyCheck, WriteString. strings.Builder within a writing: String. The text of declarations, and its tokens. What is read may be: declarations out of tokens are such ys have a text; the text of a schema. A schema of any make, on lists: its text, or the first error on the way. parse: need, put, mayName, putName. -/
import Derived.Test.YtmiohekmpjiloaaGreatDoorCutPut14
import Derived.Lib.Builder
import Derived.Lib.AppendStr
import Derived.Lib.UnsafeStr
import Derived.Lib.Strings
import Derived.Laws.Externs
import Derived.Test.YtmiohekmpjiloaaGreatDoorCutPut13
namespace Go.Proofs.YtmiohekmpjiloaaGreatDoor
open Go.RowKit
set_option maxRecDepth 20000

theorem Tryz.sizeB : (Tryz.prog.info? 146).map (·.size) = some 2 := by kernel_rfl
theorem Tryz.liesB : liesAt Tryz.prog Tryz.prog.depth 148 (2 / Tryz.prog.cellsOf 148) 0 146 1 = true := by kernel_rfl

set_option maxHeartbeats 1000000 in
theorem bchk_used (b : Nat) (w : World) (h0 : w.cell? ⟨b, 0, none⟩ = some (.pointer (some ⟨b, 0, none⟩))) :
    Calls Tryz.prog 186 #[.pointer (some ⟨b, 0, none⟩)] w fun e w' => e = .returned (.tuple #[]) ∧ w' = w := by
  obtain ⟨j, hj, _⟩ := Option.map_eq_some_iff.1 Tryz.sizeB
  go_enter Tryz.func186, Tryz.ntmps186
  go_wp2
  rw [Lib.run_neq_ptr_same w _ Tryz.underlying144 hj]
  go_wp2
  go_end0
  exact ⟨rfl, rfl⟩

set_option maxHeartbeats 1000000 in
theorem bchk_fresh (b : Nat) (w : World) (h0 : w.cell? ⟨b, 0, none⟩ = some (.pointer none)) (hsh : w.shape? b = some (148, 2)) (hfz : w.frozen? ⟨b, 0, none⟩ = false) :
    Calls Tryz.prog 186 #[.pointer (some ⟨b, 0, none⟩)] w fun e w' => e = .returned (.tuple #[]) ∧ w' = w.setCell ⟨b, 0, none⟩ (.pointer (some ⟨b, 0, none⟩)) := by
  obtain ⟨j, hj, hjs⟩ := Option.map_eq_some_iff.1 Tryz.sizeB
  go_enter Tryz.func186, Tryz.ntmps186
  go_wp2
  rw [Lib.run_to_unsafe w ⟨b, 0, none⟩ Tryz.underlying144 Tryz.underlying230 hj (by rw [hjs]; decide) hsh (Nat.zero_lt_succ 1)]
  simp only [Result.andThen]
  rw [Oper.upon_value]
  go_wp2
  rw [run_callFunc_extern Tryz.func194 (by kernel_rfl) (by kernel_rfl) (by kernel_rfl) (e := Extern.AbiNoEscape.same) (by kernel_rfl)]
  rw [Lib.run_noEscape]
  simp only [Result.andThen]
  rw [Oper.upon_value]
  go_wp2
  rw [Lib.run_from_unsafe w ⟨b, 0, none⟩ Tryz.underlying230 Tryz.underlying144 hj hsh Tryz.liesB]
  simp only [Result.andThen]
  rw [Oper.upon_value]
  go_wp2
  go_end0
  exact ⟨rfl, rfl⟩

/-- What writing turns: the writing itself, and rows of octets of its own. -/
def Xw (b B : Nat) (g : Nat) (T : TypeId) : Prop := (g = b ∧ T = 148) ∨ (B ≤ g ∧ T = 5)

def octs (l : List Nat) : List Value := l.map fun c : Nat => .int .u8 (c : Int)
theorem octs_bl (s : ByteArray) : Lib.strCells s = octs (bl s) := by
  unfold Lib.strCells octs bl
  rw [List.map_map]
  rfl
theorem octs_length (l : List Nat) : (octs l).length = l.length := by simp [octs]
theorem octs_append (a b : List Nat) : octs (a ++ b) = octs a ++ octs b := by simp [octs]

/-- A writing in block b that holds a text. -/
def Bld (b B : Nat) (acc : List Nat) (w : World) : Prop := Lib.IsBuilder 148 5 B b (octs acc) w ∧ ∀ c ∈ acc, c < 256
theorem bl_lt (s : ByteArray) : ∀ c ∈ bl s, c < 256 := by
  intro c hc
  obtain ⟨x, _, rfl⟩ := List.mem_map.1 hc
  exact x.toNat_lt
theorem bl_of (l : List Nat) (h : ∀ c ∈ l, c < 256) : ∃ x : List UInt8, x.map UInt8.toNat = l := by
  induction l with
  | nil => exact ⟨[], rfl⟩
  | cons c l ih =>
    obtain ⟨x, hx⟩ := ih (fun d hd => h d (by simp [hd]))
    refine ⟨UInt8.ofNat c :: x, ?_⟩
    have := h c (by simp)
    rw [List.map_cons, hx, UInt8.toNat_ofNat', Nat.mod_eq_of_lt this]

theorem bchk (b B : Nat) (bs : List Value) (w : World) (h : Lib.IsBuilder 148 5 B b bs w) :
    Calls Tryz.prog 186 #[.pointer (some ⟨b, 0, none⟩)] w fun e w' => e = .returned (.tuple #[]) ∧ Lib.BuilderAt 148 5 B b (.pointer (some ⟨b, 0, none⟩)) bs w' ∧ Ch (Xw b B) w w' := by
  rcases h with h | h
  · refine (bchk_fresh b w h.cell0 h.shape h.frozen0).mono ?_
    rintro e w' ⟨rfl, rfl⟩
    obtain ⟨_, v, hb, _⟩ := id h
    exact ⟨rfl, h.used _, Ch.set hb (.inl ⟨rfl, rfl⟩) _⟩
  · refine (bchk_used b w h.cell0).mono ?_
    rintro e w' ⟨rfl, rfl⟩
    exact ⟨rfl, h, Ch.refl _ _⟩

theorem Tryz.byteInfo : (Tryz.prog.info? 5).map (fun i => (i.zero, i.size, i.bytes)) = some (some (.int .u8 0), 1, 1) := by kernel_rfl

set_option maxHeartbeats 2000000 in
theorem bwrite (b B : Nat) (acc : List Nat) (s : ByteArray) (w : World) (h : Bld b B acc w) (hlen : acc.length + s.size ≤ 140737488355328) (hBw : B ≤ w.heap.size) :
    Calls Tryz.prog 178 #[.pointer (some ⟨b, 0, none⟩), .string s] w fun e w' => e = .returned (.tuple #[.int .i64 s.size, .nilIface]) ∧ Bld b B (acc ++ bl s) w' ∧ Ch (Xw b B) w w' := by
  obtain ⟨i0, hi, hz⟩ := Option.map_eq_some_iff.1 Tryz.byteInfo
  obtain ⟨hz0, hz1, hz2⟩ : i0.zero = some (.int .u8 0) ∧ i0.size = 1 ∧ i0.bytes = 1 := by
    simp only [Prod.mk.injEq] at hz
    exact hz
  have hck := bchk b B (octs acc) w h.1
  have HL := hid h.2
  clear h
  go_enter Tryz.func178, Tryz.ntmps178
  go_wp2_with (go_at_call 186; refine hck.mono ?_)
  rintro e w1 ⟨rfl, h1, hb1⟩
  obtain ⟨hB, v, hbk, hown, hne⟩ := h1
  have c0 : w1.cell? ⟨b, 0, none⟩ = some (.pointer (some ⟨b, 0, none⟩)) := by rw [Lib.cell_of_heap hbk]; rfl
  have c1 : w1.cell? ⟨b, 1, none⟩ = some v := by rw [Lib.cell_of_heap hbk]; rfl
  rw [octs_length] at hown
  go_wp2_with (at_builtin; refine Lib.wpList_append_own_string _ rfl _ _ 134 9 rfl B 5 i0 Tryz.underlying134 Tryz.underlying9 hi hz0 hz1 hz2 _ _ _ rfl hown s rfl ?c3 ?c4 ?c5 ?_)
  case c3 => unfold maxLen; omega
  case c4 => omega
  case c5 => have := hb1.size; omega
  intro v' w2 hown' hgrow _
  have hb2 : w2.heap[b]? = some (.cells #[.pointer (some ⟨b, 0, none⟩), v] 148 (0, 0)) := by
    rw [hgrow.block b (lt_of_some hbk) (fun e => hne e.symm)]
    exact hbk
  have d0 : w2.cell? ⟨b, 0, none⟩ = some (.pointer (some ⟨b, 0, none⟩)) := by rw [Lib.cell_of_heap hb2]; rfl
  have d1 : w2.cell? ⟨b, 1, none⟩ = some v := by rw [Lib.cell_of_heap hb2]; rfl
  have f1 : w2.frozen? ⟨b, 1, none⟩ = false := Lib.frozen_of_heap hb2 1
  obtain ⟨ao, n', cap, rfl⟩ : ∃ ao n' cap, v' = .slice ao n' cap := by
    rcases hown'.2 with ⟨hv, _⟩ | ⟨g, cap, cur, hv, _⟩
    · exact ⟨_, _, _, hv⟩
    · exact ⟨_, _, _, hv⟩
  have HO := hid hown'
  have HG := hid hgrow
  have HH := hid hown
  have HC := hid hb1
  clear hown' hgrow hown hb1 hck
  go_wp2
  go_ret2
  have hown2 := HO.out
  rw [octs_bl, ← octs_append, show acc.length + s.size = (octs (acc ++ bl s)).length by rw [octs_length, List.length_append, bl_length]] at hown2
  refine ⟨rfl, ⟨.inr (Lib.BuilderAt.put hB hb2 hown2 (by decide)), fun c hc => ?_⟩, ?_⟩
  · rcases List.mem_append.1 hc with hc | hc
    · exact HL.out c hc
    · exact bl_lt s c hc
  exact (grown_ch HH.out HC.out HG.out (fun k hk => .inr ⟨hk, rfl⟩)).trans (Ch.set hb2 (.inl ⟨rfl, rfl⟩) _)
end Go.Proofs.YtmiohekmpjiloaaGreatDoor

namespace Go.Proofs.YtmiohekmpjiloaaGreatDoor
open Go.RowKit
set_option maxRecDepth 20000

theorem octs_bytes (x : List UInt8) : octs (x.map UInt8.toNat) = Lib.byteCells x := by
  unfold octs Lib.byteCells
  rw [List.map_map]
  rfl
theorem Tryz.cellsByte : Tryz.prog.cellsOf 5 = 1 := by kernel_rfl

set_option maxHeartbeats 1000000 in
theorem bstr_some (b B : Nat) (l : List UInt8) (w : World) (h : Lib.IsBuilder 148 5 B b (Lib.byteCells l) w) (h0 : l ≠ []) :
    Calls Tryz.prog 97 #[.pointer (some ⟨b, 0, none⟩)] w fun e w' => e = .returned (.string ⟨l.toArray⟩) ∧ Below B w w' := by
  obtain ⟨p, hB, v, hbk, hown, hne⟩ : ∃ p, Lib.BuilderAt 148 5 B b p (Lib.byteCells l) w := by
    rcases h with h | h
    · exact ⟨_, h⟩
    · exact ⟨_, h⟩
  have hl0 : l.length ≠ 0 := by simpa using h0
  rw [Lib.byteCells_length] at hown
  obtain ⟨g, cap, cur, rfl, hbg, hg, hnc, hcm, hcs, htake⟩ : ∃ g cap cur, v = .slice (some ⟨g, 0, none⟩) l.length cap ∧ B ≤ g ∧ w.heap[g]? = some (.cells cur 5 (0, 0)) ∧ l.length ≤ cap ∧ cap ≤ maxLen ∧ cur.size = cap * 1 ∧ cur.toList.take (l.length * 1) = Lib.byteCells l := by
    rcases hown.2 with ⟨_, hz⟩ | ⟨g, cap, cur, hv, r⟩
    · exact absurd hz hl0
    · exact ⟨g, cap, cur, hv, r⟩
  have c1 : w.drew.cell? ⟨b, 1, none⟩ = some (.slice (some ⟨g, 0, none⟩) l.length cap) := by
    have : w.drew.heap[b]? = some (.cells #[p, .slice (some ⟨g, 0, none⟩) l.length cap] 148 (0, 0)) := hbk
    rw [Lib.cell_of_heap this]; rfl
  have hSD : (Builtin.unsafeSliceData_ #[134] 189 #[.slice (some ⟨g, 0, none⟩) l.length cap]).run Tryz.prog w.drew = .ok (.pointer (some ⟨g, 0, none⟩)) w.drew :=
    Lib.run_unsafeSliceData_row _ _ _ _ _ _ (by omega)
  have hUS : (Builtin.unsafeString_ #[189, 3] 9 #[.pointer (some ⟨g, 0, none⟩), .int .i64 l.length]).run Tryz.prog w.drew = .ok (.string ⟨l.toArray⟩) (w.drew.freeze ⟨g, 0, none⟩ l.length) := by
    refine Lib.run_unsafeString_row w.drew 189 3 9 5 Tryz.underlying189 Tryz.cellsByte g cur.size (by have hg' : w.drew.heap[g]? = some (.cells cur 5 (0, 0)) := hg; simp [World.shape?, hg']) l h0 (by omega) (by unfold maxLen at hcm; omega) ?_
    intro j x hx
    have := hown.cells (g := g) rfl j (.int .u8 x.toNat) (by simp [Lib.byteCells, hx])
    exact this
  clear hown htake hne
  go_enter Tryz.func97, Tryz.ntmps97
  go_wp2
  go_region
  all_goals (go_wp2; go_ret; exact ⟨rfl, Lib.below_freeze (Below.drew (Below.refl B w)) (p := ⟨g, 0, none⟩) hbg _⟩)

theorem bunsafe_none (W : World) (q : Option Addr) : (Builtin.unsafeString_ #[189, 3] 9 #[.pointer q, .int .i64 0]).run Tryz.prog W = .ok (.string .empty) W :=
  Lib.run_unsafeString_none W _ _ _ q

set_option maxHeartbeats 1000000 in
theorem bstr_nil (B b : Nat) (p : Value) (w : World) (hbk : w.heap[b]? = some (.cells #[p, .slice none 0 0] 148 (0, 0))) :
    Calls Tryz.prog 97 #[.pointer (some ⟨b, 0, none⟩)] w fun e w' => e = .returned (.string ⟨#[]⟩) ∧ Below B w w' := by
  have hUS := bunsafe_none
  have c1 : w.drew.cell? ⟨b, 1, none⟩ = some (.slice none 0 0) := by
    have : w.drew.heap[b]? = some (.cells #[p, .slice none 0 0] 148 (0, 0)) := hbk
    rw [Lib.cell_of_heap this]; rfl
  have hSD : (Builtin.unsafeSliceData_ #[134] 189 #[.slice none 0 0]).run Tryz.prog w.drew = .ok (.pointer none) w.drew := rfl
  go_enter Tryz.func97, Tryz.ntmps97
  go_wp2
  go_region
  all_goals (go_wp2; go_ret; exact ⟨rfl, Below.drew (Below.refl B w)⟩)

set_option maxHeartbeats 1000000 in
theorem bstr_noroom (B b g : Nat) (p : Value) (cur : Array Value) (w : World) (hBw : B ≤ w.heap.size) (hbk : w.heap[b]? = some (.cells #[p, .slice (some ⟨g, 0, none⟩) 0 0] 148 (0, 0))) (hg : w.heap[g]? = some (.cells cur 5 (0, 0))) :
    Calls Tryz.prog 97 #[.pointer (some ⟨b, 0, none⟩)] w fun e w' => e = .returned (.string ⟨#[]⟩) ∧ Below B w w' := by
  have hUS := bunsafe_none
  have hlt : b < w.heap.size := lt_of_some hbk
  have c1 : w.drew.cell? ⟨b, 1, none⟩ = some (.slice (some ⟨g, 0, none⟩) 0 0) := by
    have : w.drew.heap[b]? = some (.cells #[p, .slice (some ⟨g, 0, none⟩) 0 0] 148 (0, 0)) := hbk
    rw [Lib.cell_of_heap this]; rfl
  have hSD : (Builtin.unsafeSliceData_ #[134] 189 #[.slice (some ⟨g, 0, none⟩) 0 0]).run Tryz.prog w.drew = .ok (.pointer (some ⟨w.drew.heap.size, 0, none⟩)) (w.drew.alloc (.view ⟨g, 0, none⟩ 5)) :=
    Lib.run_unsafeSliceData_zero w.drew _ _ 5 Tryz.underlying189 ⟨g, 0, none⟩ 0 (5, cur.size) (by have hg' : w.drew.heap[g]? = some (.cells cur 5 (0, 0)) := hg; simp [World.shape?, hg'])
  have c2 : (w.drew.alloc (.view ⟨g, 0, none⟩ 5)).cell? ⟨b, 1, none⟩ = some (.slice (some ⟨g, 0, none⟩) 0 0) := by
    have : (w.drew.alloc (.view ⟨g, 0, none⟩ 5)).heap[b]? = _ := (Lib.alloc_old w.drew _ b hlt).trans hbk
    rw [Lib.cell_of_heap this]; rfl
  have c3 : (w.alloc (.view ⟨g, 0, none⟩ 5)).drew.cell? ⟨b, 1, none⟩ = some (.slice (some ⟨g, 0, none⟩) 0 0) := c2
  have c0 : w.cell? ⟨b, 1, none⟩ = some (.slice (some ⟨g, 0, none⟩) 0 0) := c1
  go_enter Tryz.func97, Tryz.ntmps97
  go_wp2
  go_region
  all_goals (go_wp2; go_ret; exact ⟨rfl, (Below.drew (Below.refl B w)).alloc hBw _⟩)

set_option maxHeartbeats 1000000 in
theorem bstr_room (B b g cap : Nat) (p : Value) (w : World) (hc0 : cap ≠ 0) (hbk : w.heap[b]? = some (.cells #[p, .slice (some ⟨g, 0, none⟩) 0 cap] 148 (0, 0))) :
    Calls Tryz.prog 97 #[.pointer (some ⟨b, 0, none⟩)] w fun e w' => e = .returned (.string ⟨#[]⟩) ∧ Below B w w' := by
  have hUS := bunsafe_none
  have c1 : w.drew.cell? ⟨b, 1, none⟩ = some (.slice (some ⟨g, 0, none⟩) 0 cap) := by
    have : w.drew.heap[b]? = some (.cells #[p, .slice (some ⟨g, 0, none⟩) 0 cap] 148 (0, 0)) := hbk
    rw [Lib.cell_of_heap this]; rfl
  have hSD : (Builtin.unsafeSliceData_ #[134] 189 #[.slice (some ⟨g, 0, none⟩) 0 cap]).run Tryz.prog w.drew = .ok (.pointer (some ⟨g, 0, none⟩)) w.drew :=
    Lib.run_unsafeSliceData_row _ _ _ _ _ _ hc0
  clear hc0
  go_enter Tryz.func97, Tryz.ntmps97
  go_wp2
  go_region
  all_goals (go_wp2; go_ret; exact ⟨rfl, Below.drew (Below.refl B w)⟩)

/-- A writing's text. -/
theorem bstring (b B : Nat) (acc : List Nat) (w : World) (h : Bld b B acc w) (hBw : B ≤ w.heap.size) :
    Calls Tryz.prog 97 #[.pointer (some ⟨b, 0, none⟩)] w fun e w' => ∃ s, e = .returned (.string s) ∧ bl s = acc ∧ Below B w w' := by
  obtain ⟨x, rfl⟩ := bl_of acc h.2
  have h1 := h.1
  rw [octs_bytes] at h1
  cases x with
  | nil =>
    obtain ⟨p, hB, v, hbk, hown, hne⟩ : ∃ p, Lib.BuilderAt 148 5 B b p [] w := by
      rcases h1 with h | h
      · exact ⟨_, h⟩
      · exact ⟨_, h⟩
    have H : Calls Tryz.prog 97 #[.pointer (some ⟨b, 0, none⟩)] w fun e w' => e = .returned (.string ⟨#[]⟩) ∧ Below B w w' := by
      rcases hown.2 with ⟨rfl, _⟩ | ⟨g, cap, cur, rfl, hbg, hg, _, _, _, _⟩
      · exact bstr_nil B b p w hbk
      · by_cases hc0 : cap = 0
        · subst hc0
          exact bstr_noroom B b g p cur w hBw hbk hg
        · exact bstr_room B b g cap p w hc0 hbk
    refine H.mono ?_
    rintro e w' ⟨rfl, hb⟩
    exact ⟨_, rfl, rfl, hb⟩
  | cons y r =>
    refine (bstr_some b B (y :: r) w h1 (by simp)).mono ?_
    rintro e w' ⟨rfl, hb⟩
    exact ⟨_, rfl, rfl, hb⟩
end Go.Proofs.YtmiohekmpjiloaaGreatDoor

namespace Go.Proofs.YtmiohekmpjiloaaGreatDoor.Pl

/-- A piece of a text, and its tokens, whatever stands behind it. -/
def Lx (x : List Nat) (ks : List Kt) : Prop := ∀ ln, ∃ ln' ts, ts.map kt = ks ∧ ∀ b, tok (x ++ b) ln = preT ts (tok b ln')

theorem Lx.nil : Lx [] [] := fun ln => ⟨ln, [], rfl, fun b => by rw [List.nil_append, preT_nil]⟩
theorem preT_preT (a b : List Tok) (x : List Tok × Nat × Int) : preT a (preT b x) = preT (a ++ b) x := by
  unfold preT
  by_cases h : x.2.2 = 0
  · simp [h]
  · simp [h]
theorem Lx.append {x y : List Nat} {k l : List Kt} (h1 : Lx x k) (h2 : Lx y l) : Lx (x ++ y) (k ++ l) := by
  intro ln
  obtain ⟨ln1, t1, e1, p1⟩ := h1 ln
  obtain ⟨ln2, t2, e2, p2⟩ := h2 ln1
  exact ⟨ln2, t1 ++ t2, by rw [List.map_append, e1, e2], fun b => by rw [List.append_assoc, p1, p2, preT_preT]⟩
theorem Lx.sign (c : Nat) (h : isSign c = true) : Lx [c] [(3, [c])] := fun ln => ⟨ln, [⟨3, [c], ln⟩], rfl, fun b => by
  have h1 := tok_sign c b ln h
  have h2 := preT_pre [] ⟨3, [c], ln⟩ (tok b ln)
  rw [preT_nil] at h2
  rw [← h2]
  exact h1⟩
theorem Lx.blank (c : Nat) (h : isBlank c = true) : Lx [c] [] := fun ln => ⟨ln, [], rfl, fun b => by
  rw [preT_nil]
  exact tok_blank c b ln h⟩
theorem Lx.nl : Lx [10] [] := fun ln => ⟨ln + 1, [], rfl, fun b => by
  rw [preT_nil]
  exact tok_nl b ln⟩

/-- A word or a number, and what ends it. -/
theorem Lx.word (k : Nat) (x : List Nat) (h : okKt (k, x)) (hk : k ≠ 3) (c : Nat) (hc : isPart c = false) {l : List Kt} (hl : Lx [c] l) : Lx (x ++ [c]) ((k, x) :: l) := by
  intro ln
  obtain ⟨ln', ts, e, p⟩ := hl ln
  rcases h with ⟨h1, _⟩ | ⟨h1, h2, h3⟩
  · exact absurd h1 hk
  · simp only at h1 h2 h3
    refine ⟨ln', ⟨k, x, ln⟩ :: ts, by rw [List.map_cons, e]; rfl, fun b => ?_⟩
    cases x with
    | nil => exact absurd rfl h1
    | cons d r =>
      obtain ⟨q1, q2⟩ := takeWhile_sep (d :: r) c b h2 hc
      have e1 : d :: r ++ [c] ++ b = d :: (r ++ c :: b) := by simp
      have e2 : d :: (r ++ c :: b) = d :: r ++ c :: b := rfl
      rw [e1, tok_part _ _ _ (h2 d (by simp)), e2, q1, q2, h3]
      have hp := p b
      rw [List.cons_append, List.nil_append] at hp
      rw [if_pos rfl, hp, preT_pre]

theorem Lx.name (n : List Nat) (h : okName n) (c : Nat) (hc : isPart c = false) {l : List Kt} (hl : Lx [c] l) : Lx (n ++ [c]) ((1, n) :: l) := Lx.word 1 n h.1 (by decide) c hc hl

theorem word_ok (x : List Nat) (h1 : x ≠ []) (h2 : ∀ c ∈ x, isPart c = true) (h3 : wordE x = (1, 0)) : okKt (1, x) := .inr ⟨h1, h2, h3⟩
theorem plainW_ok (k : Nat) : okKt (1, plainW k) := by
  unfold plainW
  split
  · exact word_ok _ (by decide) (by decide) (by decide)
  · split
    · exact word_ok _ (by decide) (by decide) (by decide)
    · split
      · exact word_ok _ (by decide) (by decide) (by decide)
      · split <;> exact word_ok _ (by decide) (by decide) (by decide)

/-- A type, and a sign behind it. -/
theorem Lx.type (t : Ty) : okTy t → ∀ c, isSign c = true → Lx (tyX t ++ [c]) (tyK t ++ [(3, [c])]) := by
  induction t with
  | plain k =>
    intro _ c hc
    exact Lx.word 1 _ (plainW_ok k) (by decide) c (by cases h : isPart c with
      | false => rfl
      | true => have := (part_not c h).2.2.2; rw [hc] at this; cases this) (Lx.sign c hc)
  | named n =>
    intro h c hc
    exact Lx.name n h c (by cases h : isPart c with
      | false => rfl
      | true => have := (part_not c h).2.2.2; rw [hc] at this; cases this) (Lx.sign c hc)
  | list t ih =>
    intro h c hc
    have h1 := (Lx.sign 91 (by decide)).append ((ih h 93 (by decide)).append (Lx.sign c hc))
    have e1 : tyX (.list t) ++ [c] = [91] ++ (tyX t ++ [93] ++ [c]) := by simp [tyX]
    have e2 : tyK (.list t) ++ [(3, [c])] = [(3, [91])] ++ (tyK t ++ [(3, [93])] ++ [(3, [c])]) := by simp [tyK]
    rw [e1, e2]
    exact h1
  | opt t ih =>
    intro h c hc
    have h1 := (Lx.sign 63 (by decide)).append (ih h c hc)
    have e1 : tyX (.opt t) ++ [c] = [63] ++ (tyX t ++ [c]) := by simp [tyX]
    have e2 : tyK (.opt t) ++ [(3, [c])] = [(3, [63])] ++ (tyK t ++ [(3, [c])]) := by simp [tyK]
    rw [e1, e2]
    exact h1

def fldX (f : Fld) : List Nat := [9] ++ (dec f.num ++ [32]) ++ (f.name ++ [58]) ++ [32] ++ (tyX f.ty ++ [59]) ++ [10]
def casX (c : Cas) : List Nat := [9] ++ (dec c.num ++ [32]) ++ (c.name ++ [59]) ++ [10]
def mthX (m : Mth) : List Nat := [9] ++ ((if m.once then wOnce else wRead) ++ [32]) ++ (m.name ++ [40]) ++ (tyX m.arg ++ [41]) ++ [32] ++ (tyX m.res ++ [59]) ++ [10]
def bodyX (w name : List Nat) (ps : List (List Nat)) : List Nat := (w ++ [32]) ++ (name ++ [32]) ++ [123] ++ [10] ++ ps.flatten ++ [125] ++ [10]
def declX : Decl → List Nat
  | .st n l => bodyX wStruct n (l.map fldX)
  | .en n l => bodyX wEnum n (l.map casX)
  | .sv n l => bodyX wService n (l.map mthX)

theorem Lx.cast {x : List Nat} {k l : List Kt} (h : Lx x k) (e : k = l) : Lx x l := e ▸ h
theorem Lx.fld (f : Fld) (h : okFld f) : Lx (fldX f) (fldK f) :=
  ((((((Lx.blank 9 rfl).append (Lx.word 2 _ (dec_ok f.num h.1).1 (by decide) 32 rfl (Lx.blank 32 rfl))).append (Lx.name f.name h.2.1 58 rfl (Lx.sign 58 rfl))).append (Lx.blank 32 rfl)).append (Lx.type f.ty h.2.2.1 59 rfl)).append Lx.nl).cast (by simp [fldK])
theorem Lx.cas (f : Cas) (h : okCas f) : Lx (casX f) (casK f) :=
  ((((Lx.blank 9 rfl).append (Lx.word 2 _ (dec_ok f.num h.1).1 (by decide) 32 rfl (Lx.blank 32 rfl))).append (Lx.name f.name h.2 59 rfl (Lx.sign 59 rfl))).append Lx.nl).cast (by simp [casK])
theorem once_ok (b : Bool) : okKt (1, if b then wOnce else wRead) := by cases b <;> exact word_ok _ (by decide) (by decide) (by decide)
theorem Lx.mth (f : Mth) (h : okMth f) : Lx (mthX f) (mthK f) :=
  (((((((Lx.blank 9 rfl).append (Lx.word 1 _ (once_ok f.once) (by decide) 32 rfl (Lx.blank 32 rfl))).append (Lx.name f.name h.1 40 rfl (Lx.sign 40 rfl))).append (Lx.type f.arg h.2.1 41 rfl)).append (Lx.blank 32 rfl)).append (Lx.type f.res h.2.2.2.1 59 rfl)).append Lx.nl).cast (by simp [mthK])

theorem Lx.flat {α : Type} (X : α → List Nat) (K : α → List Kt) (l : List α) (h : ∀ a ∈ l, Lx (X a) (K a)) : Lx (l.map X).flatten (l.map K).flatten := by
  induction l with
  | nil => exact Lx.nil
  | cons a l ih => exact (h a (by simp)).append (ih fun b hb => h b (by simp [hb]))
theorem Lx.body (w n : List Nat) (hw : okKt (1, w)) (hn : okName n) (xs : List (List Nat)) (ks : List (List Kt)) (h : Lx xs.flatten ks.flatten) : Lx (bodyX w n xs) (bodyK w n ks) :=
  (((((((Lx.word 1 w hw (by decide) 32 rfl (Lx.blank 32 rfl)).append (Lx.name n hn 32 rfl (Lx.blank 32 rfl))).append (Lx.sign 123 rfl)).append Lx.nl).append h).append (Lx.sign 125 rfl)).append Lx.nl).cast (by simp [bodyK])
theorem Lx.decl (d : Decl) (h : okDecl d) : Lx (declX d) (declK d) := by
  cases d with
  | st n l => exact Lx.body wStruct n (word_ok _ (by decide) (by decide) (by decide)) h.1 _ _ (Lx.flat _ _ l fun a ha => Lx.fld a (h.2.2 a ha))
  | en n l => exact Lx.body wEnum n (word_ok _ (by decide) (by decide) (by decide)) h.1 _ _ (Lx.flat _ _ l fun a ha => Lx.cas a (h.2.2 a ha))
  | sv n l => exact Lx.body wService n (word_ok _ (by decide) (by decide) (by decide)) h.1 _ _ (Lx.flat _ _ l fun a ha => Lx.mth a (h.2.2 a ha))

end Go.Proofs.YtmiohekmpjiloaaGreatDoor.Pl

namespace Go.Proofs.YtmiohekmpjiloaaGreatDoor.Pl

/-- What P tells hys Q, and what it leaves are tokens that may be. -/
def Gd {α : Type} (Q : α → Prop) (P : List Kt → Res α) : Prop := ∀ l a r, (∀ x ∈ l, okKt x) → P l = .ok a r → Q a ∧ ∀ x ∈ r, okKt x
theorem Gd.bind {α β : Type} {Q : α → Prop} {R : β → Prop} {P : List Kt → Res α} {F : α → List Kt → Res β} (h : Gd Q P) (k : ∀ a, Q a → Gd R (F a)) : Gd R (fun l => (P l).bind F) := by
  intro l b r hl he
  cases hP : P l with
  | ok a r1 =>
    simp only [hP, Res.bind] at he
    obtain ⟨h1, h2⟩ := h l a r1 hl hP
    exact k a h1 r1 b r h2 he
  | bad r1 e => simp only [hP, Res.bind] at he; cases he
theorem Gd.pure {α : Type} {Q : α → Prop} (a : α) (h : Q a) : Gd Q (fun r => .ok a r) := by
  intro l b r hl he
  cases he
  exact ⟨h, hl⟩
theorem Gd.take (p : Kt → Bool) : Gd (fun t => okKt t ∧ p t = true) (takeP p) := by
  intro l t r hl he
  cases l with
  | nil => cases he
  | cons x l =>
    simp only [takeP] at he
    split at he
    · rename_i hp
      cases he
      exact ⟨⟨hl _ (by simp), hp⟩, fun y hy => hl y (by simp [hy])⟩
    · cases he
theorem Gd.ite {α : Type} {Q : α → Prop} {b : Prop} [Decidable b] {P1 P2 : List Kt → Res α} (h1 : b → Gd Q P1) (h2 : ¬ b → Gd Q P2) : Gd Q (fun l => if b then P1 l else P2 l) := by
  by_cases hb : b
  · simp only [if_pos hb]; exact h1 hb
  · simp only [if_neg hb]; exact h2 hb
theorem name_ok {t : Kt} (h : okKt t) (hn : nameT t = true) : okName t.2 := by
  have h1 : t.1 = 1 := by
    simp only [nameT, Bool.and_eq_true, decide_eq_true_eq] at hn
    exact hn.1.1
  have e : t = (1, t.2) := by rw [← h1]
  rw [e] at h hn
  exact ⟨h, hn⟩
theorem plainK_le (x : List Nat) : plainK x ≤ 5 := by
  unfold plainK
  repeat' split
  all_goals omega
theorem Gd.type (d : Nat) : Gd (fun t => okTy t ∧ tyD t ≤ d) (typeP d) := by
  induction d with
  | zero =>
    intro l t r hl he
    cases hP : takeP begT l with
    | ok a r1 => simp only [typeP, hP, Res.bind] at he; cases he
    | bad r1 e => simp only [typeP, hP, Res.bind] at he; cases he
  | succ d ih =>
    have h1 : Gd (fun t => okTy t ∧ tyD t ≤ d + 1) (fun l => (takeP begT l).bind fun t r =>
      if t.2 = [91] then (typeP d r).bind fun x r1 => (takeP (isT [93]) r1).bind fun _ r2 => .ok (Ty.list x) r2
      else if t.2 = [63] then (typeP d r).bind fun x r1 => .ok (Ty.opt x) r1
      else if nameT t then .ok (Ty.named t.2) r
      else .ok (Ty.plain (plainK t.2)) r) := by
      refine (Gd.take _).bind fun t ht => Gd.ite (fun _ => ih.bind fun x hx => (Gd.take _).bind fun _ _ => Gd.pure _ ⟨hx.1, Nat.succ_le_succ hx.2⟩) fun h91 => Gd.ite (fun _ => ih.bind fun x hx => Gd.pure _ ⟨hx.1, Nat.succ_le_succ hx.2⟩) fun h63 => Gd.ite (fun hn => Gd.pure _ ⟨name_ok ht.1 hn, Nat.succ_le_succ (Nat.zero_le _)⟩) fun hn => Gd.pure _ ⟨⟨?_, plainK_le _⟩, Nat.succ_le_succ (Nat.zero_le _)⟩
      have hb := ht.2
      simp only [begT, h91, h63, decide_false, Bool.false_or, Bool.and_eq_true, decide_eq_true_eq] at hb
      simp only [nameT, hb.1, hb.2, decide_true, Bool.true_and, Bool.and_true, decide_eq_true_eq] at hn
      omega
    exact h1
theorem val_lt (x : List Nat) (h : ∀ c ∈ x, isDigit c = true) : valN x < 10 ^ x.length := by
  suffices H : ∀ (x : List Nat) (a : Nat), (∀ c ∈ x, isDigit c = true) → x.foldl (fun a c => a * 10 + (c - 48)) a < (a + 1) * 10 ^ x.length by
    have := H x 0 h
    simpa [valN] using this
  intro x
  induction x with
  | nil => intro a _; simp
  | cons c x ih =>
    intro a hx
    have hc := hx c (by simp)
    simp only [isDigit, Bool.and_eq_true, decide_eq_true_eq] at hc
    have := ih (a * 10 + (c - 48)) (fun d hd => hx d (by simp [hd]))
    rw [List.foldl_cons, List.length_cons, Nat.pow_succ]
    refine Nat.lt_of_lt_of_le this ?_
    have e : (a + 1) * (10 ^ x.length * 10) = ((a + 1) * 10) * 10 ^ x.length := by rw [Nat.mul_comm (10 ^ x.length) 10, Nat.mul_assoc]
    rw [e]
    exact Nat.mul_le_mul_right _ (by omega)
theorem num_le {t : Kt} (h : okKt t) (hn : numT t = true) : valN t.2 ≤ 999999999 := by
  obtain ⟨k, x⟩ := t
  simp only [numT, decide_eq_true_eq] at hn
  subst hn
  rcases h with ⟨h1, _⟩ | ⟨h1, h2, h3⟩
  · cases h1
  · simp only at h1 h2 h3
    cases x with
    | nil => exact absurd rfl h1
    | cons c r =>
      simp only [wordE] at h3
      split at h3
      · split at h3 <;> simp at h3
      · split at h3
        · simp at h3
        · split at h3
          · simp at h3
          · rename_i hd
            split at h3
            · simp at h3
            · rename_i hl
              have hd' : ∀ d ∈ c :: r, isDigit d = true := by
                simp only [Bool.not_eq_true', Bool.not_eq_false] at hd
                exact List.all_eq_true.1 hd
              have h5 := val_lt (c :: r) hd'
              have h6 : (c :: r).length ≤ 9 := by
                rcases Nat.lt_or_ge 9 (c :: r).length with h | h
                · exact absurd (.inl h) hl
                · exact h
              have h7 : 10 ^ (c :: r).length ≤ 10 ^ 9 := Nat.pow_le_pow_right (by omega) h6
              simp only at h5 ⊢
              omega
theorem Gd.field (t : Kt) (h : okKt t) (hn : numT t = true) : Gd okFld (fieldP t) :=
  (Gd.take _).bind fun _ h1 => (Gd.take _).bind fun _ _ => (Gd.type 8).bind fun _ hx => (Gd.take _).bind fun _ _ => Gd.pure _ ⟨num_le h hn, name_ok h1.1 h1.2, hx.1, hx.2⟩
theorem Gd.case (t : Kt) (h : okKt t) (hn : numT t = true) : Gd okCas (caseP t) :=
  (Gd.take _).bind fun _ h1 => (Gd.take _).bind fun _ _ => Gd.pure _ ⟨num_le h hn, name_ok h1.1 h1.2⟩
theorem Gd.method (t : Kt) : Gd okMth (methodP t) :=
  (Gd.take _).bind fun _ h1 => (Gd.take _).bind fun _ _ => (Gd.type 8).bind fun _ hx => (Gd.take _).bind fun _ _ => (Gd.type 8).bind fun _ hy => (Gd.take _).bind fun _ _ => Gd.pure _ ⟨name_ok h1.1 h1.2, hx.1, hx.2, hy.1, hy.2⟩
theorem Gd.parts {α : Type} {Q : α → Prop} (beg : Kt → Bool) (part : Kt → List Kt → Res α) (h : ∀ t, okKt t → beg t = true → Gd Q (part t)) (k : Nat) : Gd (fun ys => ys.length ≤ k ∧ ∀ a ∈ ys, Q a) (partsP beg part k) := by
  induction k with
  | zero =>
    intro l a r hl he
    cases l with
    | nil => cases he
    | cons t l =>
      simp only [partsP] at he
      split at he
      · cases he
        exact ⟨⟨Nat.le_refl _, fun _ h => by cases h⟩, fun x hx => hl x (by simp [hx])⟩
      · split at he <;> cases he
  | succ k ih =>
    intro l a r hl he
    cases l with
    | nil => cases he
    | cons t l =>
      simp only [partsP] at he
      split at he
      · cases he
        exact ⟨⟨Nat.zero_le _, fun _ h => by cases h⟩, fun x hx => hl x (by simp [hx])⟩
      · split at he
        · rename_i hb
          have h1 : Gd (fun ys => ys.length ≤ k + 1 ∧ ∀ a ∈ ys, Q a) (fun r => (part t r).bind fun a r1 => (partsP beg part k r1).bind fun ys r2 => .ok (a :: ys) r2) :=
            (h t (hl t (by simp)) hb).bind fun a ha => ih.bind fun ys hys => Gd.pure _ ⟨Nat.succ_le_succ hys.1, fun b hb => by
              rcases List.mem_cons.1 hb with rfl | hb
              · exact ha
              · exact hys.2 b hb⟩
          exact h1 l a r (fun x hx => hl x (by simp [hx])) he
        · cases he
theorem Gd.body {α : Type} {Q : α → Prop} (beg : Kt → Bool) (part : Kt → List Kt → Res α) (h : ∀ t, okKt t → beg t = true → Gd Q (part t)) : Gd (fun x => okName x.1 ∧ x.2.length ≤ 32 ∧ ∀ a ∈ x.2, Q a) (bodyP beg part) :=
  (Gd.take _).bind fun _ h1 => (Gd.take _).bind fun _ _ => (Gd.parts beg part h 32).bind fun _ hys => Gd.pure _ ⟨name_ok h1.1 h1.2, hys.1, hys.2⟩
theorem Gd.decl (t : Kt) : Gd okDecl (declP t) := by
  unfold declP
  exact Gd.ite (fun _ => (Gd.body _ _ Gd.field).bind fun x hx => Gd.pure _ hx) fun _ => Gd.ite (fun _ => (Gd.body _ _ Gd.case).bind fun x hx => Gd.pure _ hx) fun _ => (Gd.body _ _ (fun t _ _ => Gd.method t)).bind fun x hx => Gd.pure _ hx
theorem Gd.decls (k : Nat) : Gd (fun ds => ds.length ≤ k ∧ ∀ d ∈ ds, okDecl d) (declsP k) := by
  induction k with
  | zero =>
    intro l a r hl he
    cases l with
    | nil => cases he; exact ⟨⟨Nat.le_refl _, fun _ h => by cases h⟩, hl⟩
    | cons t l =>
      simp only [declsP] at he
      split at he <;> cases he
  | succ k ih =>
    intro l a r hl he
    cases l with
    | nil => cases he; exact ⟨⟨Nat.zero_le _, fun _ h => by cases h⟩, hl⟩
    | cons t l =>
      simp only [declsP] at he
      split at he
      · have h1 : Gd (fun ds => ds.length ≤ k + 1 ∧ ∀ d ∈ ds, okDecl d) (fun r => (declP t r).bind fun a r1 => (declsP k r1).bind fun ys r2 => .ok (a :: ys) r2) :=
          (Gd.decl t).bind fun a ha => ih.bind fun ys hys => Gd.pure _ ⟨Nat.succ_le_succ hys.1, fun b hb => by
            rcases List.mem_cons.1 hb with rfl | hb
            · exact ha
            · exact hys.2 b hb⟩
        exact h1 l a r (fun x hx => hl x (by simp [hx])) he
      · cases he
end Go.Proofs.YtmiohekmpjiloaaGreatDoor.Pl

namespace Go.Proofs.YtmiohekmpjiloaaGreatDoor.Pl

/-- A type of any make: kind, name, what it is of. -/
inductive GT where
  | node (k : Int) (n : List Nat) (os : List GT)
def GT.k : GT → Int
  | .node k _ _ => k
def GT.n : GT → List Nat
  | .node _ n _ => n
def GT.os : GT → List GT
  | .node _ _ os => os
def GT.holds (g : GT) : Bool := decide (g.k = 6) || decide (g.k = 7)

/-- How deep, counted no further than m. -/
def deepP : Nat → List GT → Nat
  | 0, _ => 0
  | m + 1, l => l.foldl (fun d g => if d < m + 1 then max d (1 + (if g.holds then deepP m g.os else 0)) else d) 0

/-- Which name may be. -/
def mayN (n : List Nat) : Bool := decide (nextP n = (1, n.length, 0)) && nameT (1, n)
theorem mayN_ok (n : List Nat) : mayN n = true ↔ okName n := by
  unfold mayN okName okKt
  constructor
  · intro h
    simp only [Bool.and_eq_true, decide_eq_true_eq] at h
    exact ⟨next_ok n 1 0 h.1, h.2⟩
  · rintro ⟨h1, h2⟩
    have := ok_next _ h1
    simp only at this
    simp [this, h2]

def shapedP : Nat → GT → Bool
  | 0, _ => false
  | d + 1, g => if g.holds then decide (g.n = []) && (match g.os with | [x] => shapedP d x | _ => false)
      else if g.k = 8 then decide (g.os.length = 0) && mayN g.n
      else decide (1 ≤ g.k) && decide (g.k ≤ 5) && decide (g.n = []) && decide (g.os.length = 0)

/-- Shape's answer. -/
def shapeP (g : GT) : Nat := if 8 < deepP 100 [g] then 42 else if shapedP 8 g then 0 else 41

def emb : Ty → GT
  | .plain k => .node k [] []
  | .list t => .node 6 [] [emb t]
  | .opt t => .node 7 [] [emb t]
  | .named n => .node 8 n []

theorem deep_one (m : Nat) (g : GT) : deepP (m + 1) [g] = 1 + (if g.holds then deepP m g.os else 0) := by
  show (if 0 < m + 1 then max 0 (1 + (if g.holds then deepP m g.os else 0)) else 0) = _
  rw [if_pos (by omega), Nat.zero_max]
theorem shaped_emb (t : Ty) : ∀ d, okTy t → tyD t ≤ d → shapedP d (emb t) = true := by
  induction t with
  | plain k =>
    intro d h hd
    cases d with
    | zero => simp [tyD] at hd
    | succ d =>
      have h1 := h.1
      have h2 := h.2
      have e6 : ¬ ((k : Int) = 6) := by omega
      have e7 : ¬ ((k : Int) = 7) := by omega
      have e8 : ¬ ((k : Int) = 8) := by omega
      have e1 : (1 : Int) ≤ k := by omega
      have e5 : (k : Int) ≤ 5 := by omega
      simp [shapedP, emb, GT.holds, GT.k, GT.n, GT.os, e6, e7, e8, e1, e5]
  | list t ih =>
    intro d h hd
    cases d with
    | zero => simp [tyD] at hd
    | succ d =>
      simp only [tyD] at hd
      simp [shapedP, emb, GT.holds, GT.k, GT.n, GT.os, ih d h (by omega)]
  | opt t ih =>
    intro d h hd
    cases d with
    | zero => simp [tyD] at hd
    | succ d =>
      simp only [tyD] at hd
      simp [shapedP, emb, GT.holds, GT.k, GT.n, GT.os, ih d h (by omega)]
  | named n =>
    intro d h hd
    cases d with
    | zero => simp [tyD] at hd
    | succ d =>
      have := (mayN_ok n).2 h
      simp [shapedP, emb, GT.holds, GT.k, GT.n, GT.os, this]
theorem deep_emb (t : Ty) : ∀ m, tyD t ≤ m → okTy t → deepP m [emb t] = tyD t := by
  induction t with
  | plain k =>
    intro m hm h
    cases m with
    | zero => simp [tyD] at hm
    | succ m =>
      have h2 := h.2
      have e6 : ¬ ((k : Int) = 6) := by omega
      have e7 : ¬ ((k : Int) = 7) := by omega
      rw [deep_one]
      simp [emb, GT.holds, GT.k, tyD, e6, e7]
  | list t ih =>
    intro m hm h
    cases m with
    | zero => simp [tyD] at hm
    | succ m =>
      simp only [tyD] at hm
      rw [deep_one]
      simp [emb, GT.holds, GT.k, GT.os, tyD, ih m (by omega) h]
      omega
  | opt t ih =>
    intro m hm h
    cases m with
    | zero => simp [tyD] at hm
    | succ m =>
      simp only [tyD] at hm
      rw [deep_one]
      simp [emb, GT.holds, GT.k, GT.os, tyD, ih m (by omega) h]
      omega
  | named n =>
    intro m hm h
    cases m with
    | zero => simp [tyD] at hm
    | succ m =>
      rw [deep_one]
      simp [emb, GT.holds, GT.k, tyD]
theorem shape_emb (t : Ty) (h : okTy t) (hd : tyD t ≤ 8) : shapeP (emb t) = 0 := by
  unfold shapeP
  rw [deep_emb t 100 (by omega) h, if_neg (by omega), shaped_emb t 8 h hd]
  rfl
theorem emb_of : ∀ d g, shapedP d g = true → ∃ t, g = emb t ∧ okTy t ∧ tyD t ≤ d := by
  intro d
  induction d with
  | zero => intro g h; simp [shapedP] at h
  | succ d ih =>
    intro g h
    obtain ⟨k, n, os⟩ := g
    by_cases hh : (GT.node k n os).holds = true
    · simp only [shapedP, hh, if_true, Bool.and_eq_true, GT.n, GT.os] at h
      obtain ⟨h0, h2⟩ := h
      obtain rfl : n = [] := of_decide_eq_true h0
      match os, h2 with
      | [x], h2 =>
        obtain ⟨t, rfl, h3, h4⟩ := ih x h2
        simp only [GT.holds, GT.k, Bool.or_eq_true] at hh
        rcases hh with hk | hk
        · obtain rfl := of_decide_eq_true hk
          exact ⟨.list t, rfl, h3, Nat.succ_le_succ h4⟩
        · obtain rfl := of_decide_eq_true hk
          exact ⟨.opt t, rfl, h3, Nat.succ_le_succ h4⟩
    · simp only [shapedP, hh, if_false, GT.n, GT.os, GT.k, Bool.false_eq_true] at h
      by_cases h8 : k = 8
      · subst h8
        simp only [if_true, Bool.and_eq_true, decide_eq_true_eq, List.length_eq_zero_iff] at h
        obtain ⟨rfl, h2⟩ := h
        exact ⟨.named n, rfl, (mayN_ok n).1 h2, Nat.succ_le_succ (Nat.zero_le _)⟩
      · have h : (decide (1 ≤ k) && decide (k ≤ 5) && decide (n = []) && decide (os.length = 0)) = true := by
          rw [← h]
          exact (if_neg h8).symm
        simp only [Bool.and_eq_true] at h
        obtain ⟨⟨⟨h1, h2⟩, h3⟩, h4⟩ := h
        obtain rfl : n = [] := of_decide_eq_true h3
        obtain rfl : os = [] := List.length_eq_zero_iff.1 (of_decide_eq_true h4)
        have h1 := of_decide_eq_true h1
        have h2 := of_decide_eq_true h2
        refine ⟨.plain k.toNat, ?_, ⟨by omega, by omega⟩, Nat.succ_le_succ (Nat.zero_le _)⟩
        simp only [emb]
        rw [show ((k.toNat : Nat) : Int) = k by omega]
theorem shape_of (g : GT) (h : shapeP g = 0) : ∃ t, g = emb t ∧ okTy t ∧ tyD t ≤ 8 := by
  unfold shapeP at h
  split at h
  · omega
  · split at h
    · rename_i hs
      exact emb_of 8 g hs
    · omega

/-- A text on its way, or the error that ends it. -/
inductive Wr where
  | ok (x : List Nat)
  | bad (e : Nat)
def Wr.app : Wr → Wr → Wr
  | .ok x, .ok y => .ok (x ++ y)
  | .ok _, .bad e => .bad e
  | .bad e, _ => .bad e
def Wr.all : List Wr → Wr
  | [] => .ok []
  | a :: l => a.app (Wr.all l)
theorem app_ok_iff {a b : Wr} {z : List Nat} : a.app b = .ok z ↔ ∃ x y, a = .ok x ∧ b = .ok y ∧ z = x ++ y := by
  cases a <;> cases b <;> simp [Wr.app]
  exact eq_comm
theorem ok_app (x y : List Nat) : (Wr.ok x).app (.ok y) = .ok (x ++ y) := rfl
theorem app_assoc (a b c : Wr) : (a.app b).app c = a.app (b.app c) := by
  cases a <;> cases b <;> cases c <;> simp [Wr.app]
theorem all_append (a b : List Wr) : Wr.all (a ++ b) = (Wr.all a).app (Wr.all b) := by
  induction a with
  | nil => cases h : Wr.all b <;> simp [Wr.all, Wr.app, h]
  | cons x a ih => simp [Wr.all, ih, app_assoc]
theorem all_ok {α : Type} (f : α → Wr) (g : α → List Nat) (l : List α) (h : ∀ a ∈ l, f a = .ok (g a)) : Wr.all (l.map f) = .ok (l.map g).flatten := by
  induction l with
  | nil => rfl
  | cons a l ih =>
    rw [List.map_cons, Wr.all, h a (by simp), ih fun b hb => h b (by simp [hb])]
    simp [Wr.app]
theorem all_inv (l : List Wr) (z : List Nat) (h : Wr.all l = .ok z) : ∀ a ∈ l, ∃ x, a = .ok x := by
  induction l generalizing z with
  | nil => intro a ha; cases ha
  | cons b l ih =>
    intro a ha
    obtain ⟨x, y, h1, h2, _⟩ := app_ok_iff.1 h
    rcases List.mem_cons.1 ha with rfl | ha
    · exact ⟨x, h1⟩
    · exact ih y h2 a ha

structure GF where
  name : List Nat
  num : Int
  ty : GT
structure GC where
  name : List Nat
  num : Int
structure GM where
  name : List Nat
  once : Bool
  arg : GT
  res : GT

def nameW (n : List Nat) : Wr := if mayN n then .ok n else .bad 31
def numW (i : Int) : Wr := if 0 ≤ i ∧ i ≤ 999999999 then .ok (dec i.toNat) else .bad 4
/-- A type's text, where it hys its shape. -/
def spellP : Nat → GT → List Nat
  | 0, _ => []
  | d + 1, g => if g.k = 6 then 91 :: ((g.os.head?.map (spellP d)).getD [] ++ [93]) else if g.k = 7 then 63 :: (g.os.head?.map (spellP d)).getD [] else if g.k = 8 then g.n else plainW g.k.toNat
def tyW (g : GT) : Wr := if shapeP g = 0 then .ok (spellP 8 g) else .bad (shapeP g)
def gfW (f : GF) : Wr := (((numW f.num).app (.ok [32])).app (nameW f.name)).app (.ok [58, 32]) |>.app (tyW f.ty)
def gcW (f : GC) : Wr := ((numW f.num).app (.ok [32])).app (nameW f.name)
def gmW (f : GM) : Wr := ((((Wr.ok (if f.once then wOnce ++ [32] else wRead ++ [32])).app (nameW f.name)).app (.ok [40])).app (tyW f.arg)).app (.ok [41, 32]) |>.app (tyW f.res)
def partW (p : Wr) : Wr := ((Wr.ok [9]).app p).app (.ok [59, 10])
def bodyW (kw name : List Nat) (ps : List Wr) : Wr :=
  if 32 < ps.length then .bad 3 else ((((Wr.ok (kw ++ [32])).app (nameW name)).app (.ok [32, 123, 10])).app (Wr.all (ps.map partW))).app (.ok [125, 10])
def schW (a : List (List Nat × List GF)) (b : List (List Nat × List GC)) (c : List (List Nat × List GM)) : Wr :=
  if 64 < a.length + b.length + c.length then .bad 3 else
  ((Wr.all (a.map fun x => bodyW wStruct x.1 (x.2.map gfW))).app (Wr.all (b.map fun x => bodyW wEnum x.1 (x.2.map gcW)))).app (Wr.all (c.map fun x => bodyW wService x.1 (x.2.map gmW)))

theorem spell_emb (t : Ty) : ∀ d, tyD t ≤ d → okTy t → spellP d (emb t) = tyX t := by
  induction t with
  | plain k =>
    intro d hd h
    cases d with
    | zero => simp [tyD] at hd
    | succ d =>
      have h2 := h.2
      have e6 : ¬ ((k : Int) = 6) := by omega
      have e7 : ¬ ((k : Int) = 7) := by omega
      have e8 : ¬ ((k : Int) = 8) := by omega
      simp [spellP, emb, GT.k, tyX, e6, e7, e8]
  | list t ih =>
    intro d hd h
    cases d with
    | zero => simp [tyD] at hd
    | succ d =>
      simp only [tyD] at hd
      simp [spellP, emb, GT.k, GT.os, tyX, ih d (by omega) h]
  | opt t ih =>
    intro d hd h
    cases d with
    | zero => simp [tyD] at hd
    | succ d =>
      simp only [tyD] at hd
      simp [spellP, emb, GT.k, GT.os, tyX, ih d (by omega) h]
  | named n =>
    intro d hd h
    cases d with
    | zero => simp [tyD] at hd
    | succ d => simp [spellP, emb, GT.k, GT.n, tyX]

def embF (f : Fld) : GF := ⟨f.name, f.num, emb f.ty⟩
def embC (f : Cas) : GC := ⟨f.name, f.num⟩
def embM (f : Mth) : GM := ⟨f.name, f.once, emb f.arg, emb f.res⟩

theorem tyW_emb (t : Ty) (h : okTy t) (hd : tyD t ≤ 8) : tyW (emb t) = .ok (tyX t) := by
  unfold tyW
  rw [if_pos (shape_emb t h hd), spell_emb t 8 hd h]
theorem tyW_of (g : GT) (x : List Nat) (h : tyW g = .ok x) : ∃ t, g = emb t ∧ okTy t ∧ tyD t ≤ 8 ∧ x = tyX t := by
  by_cases hs : shapeP g = 0
  · obtain ⟨t, rfl, h1, h2⟩ := shape_of g hs
    rw [tyW_emb t h1 h2] at h
    cases h
    exact ⟨t, rfl, h1, h2, rfl⟩
  · unfold tyW at h
    rw [if_neg hs] at h
    cases h
theorem nameW_ok (n : List Nat) (h : okName n) : nameW n = .ok n := by
  unfold nameW
  rw [if_pos ((mayN_ok n).2 h)]
theorem nameW_of (n x : List Nat) (h : nameW n = .ok x) : okName n ∧ x = n := by
  unfold nameW at h
  split at h
  · rename_i hm
    cases h
    exact ⟨(mayN_ok n).1 hm, rfl⟩
  · cases h
theorem numW_ok (n : Nat) (h : n ≤ 999999999) : numW (n : Int) = .ok (dec n) := by
  unfold numW
  rw [if_pos ⟨by omega, by omega⟩]
  simp
theorem numW_of (i : Int) (x : List Nat) (h : numW i = .ok x) : ∃ n : Nat, i = n ∧ n ≤ 999999999 ∧ x = dec n := by
  unfold numW at h
  split at h
  · rename_i hm
    cases h
    exact ⟨i.toNat, by omega, by omega, rfl⟩
  · cases h

theorem partW_fld (f : Fld) (h : okFld f) : partW (gfW (embF f)) = .ok (fldX f) := by
  unfold partW gfW embF
  simp only [numW_ok f.num h.1, nameW_ok f.name h.2.1, tyW_emb f.ty h.2.2.1 h.2.2.2, ok_app]
  simp [fldX]
theorem partW_cas (f : Cas) (h : okCas f) : partW (gcW (embC f)) = .ok (casX f) := by
  unfold partW gcW embC
  simp only [numW_ok f.num h.1, nameW_ok f.name h.2, ok_app]
  simp [casX]
theorem partW_mth (f : Mth) (h : okMth f) : partW (gmW (embM f)) = .ok (mthX f) := by
  unfold partW gmW embM
  simp only [nameW_ok f.name h.1, tyW_emb f.arg h.2.1 h.2.2.1, tyW_emb f.res h.2.2.2.1 h.2.2.2.2, ok_app]
  cases ho : f.once <;> simp [mthX, ho]
theorem partW_of {p : Wr} {x : List Nat} (h : partW p = .ok x) : ∃ y, p = .ok y := by
  cases p with
  | ok y => exact ⟨y, rfl⟩
  | bad e => simp [partW, Wr.app] at h
theorem gfW_of (g : GF) (x : List Nat) (h : gfW g = .ok x) : ∃ f, g = embF f ∧ okFld f := by
  obtain ⟨a, b, h1, h2, _⟩ := app_ok_iff.1 h
  obtain ⟨t, ht, ht1, ht2, _⟩ := tyW_of _ _ h2
  obtain ⟨a1, b1, h3, _, _⟩ := app_ok_iff.1 h1
  obtain ⟨a2, b2, h4, h5, _⟩ := app_ok_iff.1 h3
  obtain ⟨a3, b3, h6, _, _⟩ := app_ok_iff.1 h4
  obtain ⟨n, hn, hn1, _⟩ := numW_of _ _ h6
  obtain ⟨q1, _⟩ := nameW_of _ _ h5
  refine ⟨⟨n, g.name, t⟩, ?_, hn1, q1, ht1, ht2⟩
  cases g
  simp_all [embF]
theorem gcW_of (g : GC) (x : List Nat) (h : gcW g = .ok x) : ∃ f, g = embC f ∧ okCas f := by
  obtain ⟨a2, b2, h4, h5, _⟩ := app_ok_iff.1 h
  obtain ⟨a3, b3, h6, _, _⟩ := app_ok_iff.1 h4
  obtain ⟨n, hn, hn1, _⟩ := numW_of _ _ h6
  obtain ⟨q1, _⟩ := nameW_of _ _ h5
  refine ⟨⟨n, g.name⟩, ?_, hn1, q1⟩
  cases g
  simp_all [embC]
theorem gmW_of (g : GM) (x : List Nat) (h : gmW g = .ok x) : ∃ f, g = embM f ∧ okMth f := by
  obtain ⟨a, b, h1, h2, _⟩ := app_ok_iff.1 h
  obtain ⟨t, ht, ht1, ht2, _⟩ := tyW_of _ _ h2
  obtain ⟨a1, b1, h3, _, _⟩ := app_ok_iff.1 h1
  obtain ⟨a2, b2, h4, h5, _⟩ := app_ok_iff.1 h3
  obtain ⟨u, hu, hu1, hu2, _⟩ := tyW_of _ _ h5
  obtain ⟨a3, b3, h6, _, _⟩ := app_ok_iff.1 h4
  obtain ⟨a4, b4, _, h7, _⟩ := app_ok_iff.1 h6
  obtain ⟨q1, _⟩ := nameW_of _ _ h7
  refine ⟨⟨g.once, g.name, u, t⟩, ?_, q1, hu1, hu2, ht1, ht2⟩
  cases g
  simp_all [embM]

theorem bodyW_ok {α β : Type} (kw n : List Nat) (hn : okName n) (l : List α) (E : α → β) (W : β → Wr) (X : α → List Nat) (hl : l.length ≤ 32) (h : ∀ a ∈ l, partW (W (E a)) = .ok (X a)) : bodyW kw n ((l.map E).map W) = .ok (bodyX kw n (l.map X)) := by
  unfold bodyW
  rw [if_neg (by simp; omega), List.map_map, List.map_map, all_ok ((partW ∘ W) ∘ E) X l h, nameW_ok n hn]
  simp [Wr.app, bodyX]
theorem bodyW_of {α β : Type} (kw n : List Nat) (l : List β) (E : α → β) (W : β → Wr) (Q : α → Prop) (hW : ∀ g x, W g = .ok x → ∃ f, g = E f ∧ Q f) (x : List Nat) (h : bodyW kw n (l.map W) = .ok x) : okName n ∧ ∃ ys : List α, l = ys.map E ∧ ys.length ≤ 32 ∧ ∀ a ∈ ys, Q a := by
  unfold bodyW at h
  split at h
  · cases h
  · rename_i hlen
    obtain ⟨a, b, h1, _, _⟩ := app_ok_iff.1 h
    obtain ⟨a1, b1, h2, h3, _⟩ := app_ok_iff.1 h1
    obtain ⟨a2, b2, h4, _, _⟩ := app_ok_iff.1 h2
    obtain ⟨a3, b3, _, h5, _⟩ := app_ok_iff.1 h4
    refine ⟨(nameW_of _ _ h5).1, ?_⟩
    have hall : ∀ g ∈ l, ∃ f, g = E f ∧ Q f := by
      intro g hg
      obtain ⟨y, hy⟩ := all_inv _ _ h3 (partW (W g)) (List.mem_map_of_mem (List.mem_map_of_mem hg))
      obtain ⟨z, hz⟩ := partW_of hy
      exact hW g z hz
    have hlen' : l.length ≤ 32 := by simp at hlen; omega
    clear h h1 h2 h3 h4 h5 hlen
    induction l with
    | nil => exact ⟨[], rfl, Nat.zero_le _, fun _ h => by cases h⟩
    | cons g l ih =>
      obtain ⟨f, hf, hQ⟩ := hall g (by simp)
      obtain ⟨ys, e1, e2, e3⟩ := ih (fun g hg => hall g (by simp [hg])) (by simp at hlen'; omega)
      refine ⟨f :: ys, by rw [hf, e1]; rfl, by rw [e1] at hlen'; simpa using hlen', fun a ha => ?_⟩
      rcases List.mem_cons.1 ha with rfl | ha
      · exact hQ
      · exact e3 a ha

def embSt (x : List Nat × List Fld) : List Nat × List GF := (x.1, x.2.map embF)
def embEn (x : List Nat × List Cas) : List Nat × List GC := (x.1, x.2.map embC)
def embSv (x : List Nat × List Mth) : List Nat × List GM := (x.1, x.2.map embM)
def mkSt (x : List Nat × List Fld) : Decl := .st x.1 x.2
def mkEn (x : List Nat × List Cas) : Decl := .en x.1 x.2
def mkSv (x : List Nat × List Mth) : Decl := .sv x.1 x.2

/-- Declarations in the order in which they are printed. -/
def inOrder (a : List (List Nat × List Fld)) (b : List (List Nat × List Cas)) (c : List (List Nat × List Mth)) : List Decl := a.map mkSt ++ b.map mkEn ++ c.map mkSv

theorem schW_ok (a : List (List Nat × List Fld)) (b : List (List Nat × List Cas)) (c : List (List Nat × List Mth)) (h : ∀ d ∈ inOrder a b c, okDecl d) (hl : a.length + b.length + c.length ≤ 64) :
    schW (a.map embSt) (b.map embEn) (c.map embSv) = .ok ((inOrder a b c).map declX).flatten := by
  unfold schW
  rw [if_neg (by simp; omega), List.map_map, List.map_map, List.map_map]
  rw [all_ok _ (fun x => declX (mkSt x)) a fun x hx => by
    have := h (mkSt x) (List.mem_append_left _ (List.mem_append_left _ (List.mem_map_of_mem hx)))
    exact bodyW_ok wStruct x.1 this.1 x.2 embF gfW fldX this.2.1 fun f hf => partW_fld f (this.2.2 f hf)]
  rw [all_ok _ (fun x => declX (mkEn x)) b fun x hx => by
    have := h (mkEn x) (List.mem_append_left _ (List.mem_append_right _ (List.mem_map_of_mem hx)))
    exact bodyW_ok wEnum x.1 this.1 x.2 embC gcW casX this.2.1 fun f hf => partW_cas f (this.2.2 f hf)]
  rw [all_ok _ (fun x => declX (mkSv x)) c fun x hx => by
    have := h (mkSv x) (List.mem_append_right _ (List.mem_map_of_mem hx))
    exact bodyW_ok wService x.1 this.1 x.2 embM gmW mthX this.2.1 fun f hf => partW_mth f (this.2.2 f hf)]
  simp [Wr.app, inOrder, Function.comp_def]

theorem of_all {α β : Type} (E : α → β) (Q : α → Prop) (l : List β) (h : ∀ g ∈ l, ∃ f, g = E f ∧ Q f) : ∃ ys : List α, l = ys.map E ∧ ∀ a ∈ ys, Q a := by
  induction l with
  | nil => exact ⟨[], rfl, fun _ h => by cases h⟩
  | cons g l ih =>
    obtain ⟨f, hf, hQ⟩ := h g (by simp)
    obtain ⟨ys, e1, e3⟩ := ih (fun g hg => h g (by simp [hg]))
    refine ⟨f :: ys, by rw [hf, e1]; rfl, fun a ha => ?_⟩
    rcases List.mem_cons.1 ha with rfl | ha
    · exact hQ
    · exact e3 a ha

/-- A schema that hys a text is one of declarations that may be. -/
theorem schW_of (a : List (List Nat × List GF)) (b : List (List Nat × List GC)) (c : List (List Nat × List GM)) (x : List Nat) (h : schW a b c = .ok x) :
    ∃ a' b' c', a = a'.map embSt ∧ b = b'.map embEn ∧ c = c'.map embSv ∧ (∀ d ∈ inOrder a' b' c', okDecl d) ∧ a'.length + b'.length + c'.length ≤ 64 ∧ x = ((inOrder a' b' c').map declX).flatten := by
  have h0 := h
  unfold schW at h
  split at h
  · cases h
  · rename_i hlen
    obtain ⟨z1, z2, h1, h2, _⟩ := app_ok_iff.1 h
    obtain ⟨z3, z4, h3, h4, _⟩ := app_ok_iff.1 h1
    obtain ⟨a', ea, qa⟩ := of_all embSt (fun x => okDecl (mkSt x)) a fun g hg => by
      obtain ⟨y, hy⟩ := all_inv _ _ h3 _ (List.mem_map_of_mem hg)
      obtain ⟨q1, ys, q2, q3, q4⟩ := bodyW_of wStruct g.1 g.2 embF gfW okFld gfW_of y hy
      exact ⟨(g.1, ys), by unfold embSt; rw [← q2], q1, q3, q4⟩
    obtain ⟨b', eb, qb⟩ := of_all embEn (fun x => okDecl (mkEn x)) b fun g hg => by
      obtain ⟨y, hy⟩ := all_inv _ _ h4 _ (List.mem_map_of_mem hg)
      obtain ⟨q1, ys, q2, q3, q4⟩ := bodyW_of wEnum g.1 g.2 embC gcW okCas gcW_of y hy
      exact ⟨(g.1, ys), by unfold embEn; rw [← q2], q1, q3, q4⟩
    obtain ⟨c', ec, qc⟩ := of_all embSv (fun x => okDecl (mkSv x)) c fun g hg => by
      obtain ⟨y, hy⟩ := all_inv _ _ h2 _ (List.mem_map_of_mem hg)
      obtain ⟨q1, ys, q2, q3, q4⟩ := bodyW_of wService g.1 g.2 embM gmW okMth gmW_of y hy
      exact ⟨(g.1, ys), by unfold embSv; rw [← q2], q1, q3, q4⟩
    have hl : a'.length + b'.length + c'.length ≤ 64 := by
      rw [ea, eb, ec] at hlen
      simp at hlen
      omega
    have hd : ∀ d ∈ inOrder a' b' c', okDecl d := by
      intro d hd
      simp only [inOrder, List.mem_append, List.mem_map] at hd
      rcases hd with (⟨y, hy, rfl⟩ | ⟨y, hy, rfl⟩) | ⟨y, hy, rfl⟩
      · exact qa y hy
      · exact qb y hy
      · exact qc y hy
    refine ⟨a', b', c', ea, eb, ec, hd, hl, ?_⟩
    rw [ea, eb, ec, schW_ok a' b' c' hd hl] at h0
    cases h0
    rfl

/-- A text of at most K octets. -/
def Small (K : Nat) (r : Wr) : Prop := ∀ x, r = .ok x → x.length ≤ K
theorem Small.ok (x : List Nat) (K : Nat) (h : x.length ≤ K) : Small K (.ok x) := by
  intro y hy
  cases hy
  exact h
theorem Small.app {a b : Nat} {r s : Wr} (h : Small a r) (k : Small b s) : Small (a + b) (r.app s) := by
  intro z hz
  obtain ⟨x, y, h1, h2, rfl⟩ := app_ok_iff.1 hz
  have := h x h1
  have := k y h2
  simp
  omega
theorem Small.mono {a b : Nat} {r : Wr} (h : Small a r) (hab : a ≤ b) : Small b r := fun x hx => Nat.le_trans (h x hx) hab
theorem Small.all {K : Nat} (l : List Wr) (h : ∀ r ∈ l, Small K r) : Small (K * l.length) (Wr.all l) := by
  induction l with
  | nil => exact Small.ok _ _ (Nat.zero_le _)
  | cons r l ih =>
    have := (h r (by simp)).app (ih fun s hs => h s (by simp [hs]))
    rw [List.length_cons, Nat.mul_succ, Nat.add_comm]
    exact this
theorem name_len {n : List Nat} (h : okName n) : n.length ≤ 32 := (ok_kind _ h.1).2.2.2
theorem ty_len (t : Ty) (h : okTy t) : (tyX t).length ≤ 32 + 2 * tyD t := by
  induction t with
  | plain k =>
    have h1 : (plainW k).length ≤ 5 := by
      unfold plainW
      repeat' split
      all_goals decide
    simp only [tyX]
    omega
  | list t ih =>
    have := ih h
    simp [tyX, tyD]
    omega
  | opt t ih =>
    have := ih h
    simp [tyX, tyD]
    omega
  | named n =>
    have := name_len h
    simp [tyX, tyD]
    omega
theorem Small.name (n : List Nat) : Small 32 (nameW n) := by
  intro x hx
  obtain ⟨h1, rfl⟩ := nameW_of _ _ hx
  exact name_len h1
theorem Small.num (i : Int) : Small 9 (numW i) := by
  intro x hx
  obtain ⟨n, _, h, rfl⟩ := numW_of _ _ hx
  exact decS_len 20 n 9 (by omega) (by omega)
theorem Small.ty (g : GT) : Small 48 (tyW g) := by
  intro x hx
  obtain ⟨t, _, h1, h2, rfl⟩ := tyW_of _ _ hx
  have := ty_len t h1
  omega
theorem Small.gf (f : GF) : Small 92 (gfW f) := ((((Small.num _).app (Small.ok _ 1 (by decide))).app (Small.name _)).app (Small.ok _ 2 (by decide))).app (Small.ty _)
theorem Small.gc (f : GC) : Small 92 (gcW f) := (((Small.num _).app (Small.ok _ 1 (by decide))).app (Small.name _)).mono (by decide)
theorem Small.gm (f : GM) : Small 150 (gmW f) := ((((((Small.ok _ 5 (by cases f.once <;> decide)).app (Small.name _)).app (Small.ok _ 1 (by decide))).app (Small.ty _)).app (Small.ok _ 2 (by decide))).app (Small.ty _)).mono (by decide)
theorem Small.part {r : Wr} (h : Small 150 r) : Small 153 (partW r) := ((Small.ok _ 1 (by decide)).app h).app (Small.ok _ 2 (by decide))
theorem Small.parts (l : List Wr) (h : ∀ r ∈ l, Small 150 r) : Small (153 * l.length) (Wr.all (l.map partW)) := by
  have := Small.all (l.map partW) (K := 153) (fun r hr => by
    obtain ⟨s, hs, rfl⟩ := List.mem_map.1 hr
    exact (h s hs).part)
  rwa [List.length_map] at this
theorem Small.body (kw n : List Nat) (hk : kw.length ≤ 10) (l : List Wr) (h : ∀ r ∈ l, Small 150 r) : Small 5000 (bodyW kw n l) := by
  unfold bodyW
  split
  · intro x hx; cases hx
  · rename_i hl
    refine (((((Small.ok _ 11 (by simp; omega)).app (Small.name n)).app (Small.ok _ 3 (by decide))).app (Small.parts l h)).app (Small.ok _ 2 (by decide))).mono ?_
    omega
end Go.Proofs.YtmiohekmpjiloaaGreatDoor.Pl

namespace Go.Proofs.YtmiohekmpjiloaaGreatDoor
open Go.RowKit
set_option maxRecDepth 20000

theorem Bld.base {b B : Nat} {acc : List Nat} {w : World} (h : Bld b B acc w) : B ≤ w.heap.size ∧ B ≤ b ∧ b < w.heap.size := by
  rcases h.1 with h | h
  · exact ⟨Nat.le_trans h.1 (Nat.le_of_lt h.lt), h.1, h.lt⟩
  · exact ⟨Nat.le_trans h.1 (Nat.le_of_lt h.lt), h.1, h.lt⟩
theorem Bat.ch {X : Nat → TypeId → Prop} {b B : Nat} {p : Value} {bs : List Value} {w w' : World} (h : Lib.BuilderAt 148 5 B b p bs w) (hc : Ch X w w') (h1 : ¬ X b 148) (h2 : ∀ g, B ≤ g → ¬ X g 5) : Lib.BuilderAt 148 5 B b p bs w' := by
  obtain ⟨hB, v, hb, ho, hn⟩ := h
  refine ⟨hB, v, hc.block b _ hb (fun _ _ _ e => by cases e; exact h1), own_ch ho hc (fun k hk => ?_), hn⟩
  obtain ⟨hb, cur, hq⟩ := own_block ho hk
  exact h2 k hb
theorem Bld.ch {X : Nat → TypeId → Prop} {b B : Nat} {acc : List Nat} {w w' : World} (h : Bld b B acc w) (hc : Ch X w w') (h1 : ¬ X b 148) (h2 : ∀ g, B ≤ g → ¬ X g 5) : Bld b B acc w' :=
  ⟨h.1.imp (fun h => Bat.ch h hc h1 h2) (fun h => Bat.ch h hc h1 h2), h.2⟩
theorem Bld.below {b B : Nat} {acc : List Nat} {w w' : World} (h : Bld b B acc w) (hb : Below w.heap.size w w') : Bld b B acc w' :=
  h.ch (X := fun _ _ => False) (Ch.below hb) (fun h => h) (fun _ _ h => h)

/-- A piece is written, or the error. -/
def WrR (b B : Nat) (acc : List Nat) (w0 : World) (r : Pl.Wr) (e : Ending) (w' : World) : Prop :=
  match r with
  | .ok x => e = .returned (.tuple #[]) ∧ Bld b B (acc ++ x) w' ∧ Ch (Xw b B) w0 w'
  | .bad er => e = .panicked (fault 0 er) ∧ Ch (Xw b B) w0 w'

set_option maxHeartbeats 1000000 in
theorem pneed_true (e : Int) (w : World) : Calls Tryz.prog 131 #[.bool true, .int .i64 e] w fun r w' => r = .returned (.tuple #[]) ∧ w' = w := by
  go_enter Tryz.func131, Tryz.ntmps131
  go_wp2
  go_end0
  exact ⟨rfl, rfl⟩
set_option maxHeartbeats 1000000 in
theorem pneed_false (e : Int) (w : World) : Calls Tryz.prog 131 #[.bool false, .int .i64 e] w fun r w' => r = .panicked (fault 0 e) ∧ w' = w := by
  go_enter Tryz.func131, Tryz.ntmps131
  go_wp2
  exact ⟨rfl, rfl, rfl⟩

theorem flat_take (l : List ByteArray) (k : Nat) (x : ByteArray) (h : l[k]? = some x) : ((l.take (k + 1)).map bl).flatten = ((l.take k).map bl).flatten ++ bl x := by
  rw [List.take_add_one, h]
  simp
theorem Strs.ch {X : Nat → TypeId → Prop} {w w' : World} {v : Value} {l : List ByteArray} (h : Strs w v l) (hc : Ch X w w') (hX : ∀ g, ¬ X g 9) : Strs w' v l := by
  obtain ⟨g, h1, h2⟩ := h
  exact ⟨g, h1, h2.ch hc (hX g)⟩

set_option maxHeartbeats 2000000 in
theorem wput_any (b B : Nat) (acc : List Nat) (v : Value) (l : List ByteArray) (w : World) (hS : Strs w v l) (h : Bld b B acc w) (hl : l.length ≤ 100) (hlen : ∀ k, k ≤ l.length → acc.length + ((l.take k).map bl).flatten.length ≤ 140737488355328) :
    Calls Tryz.prog 163 #[.pointer (some ⟨b, 0, none⟩), v] w fun e w' => e = .returned (.tuple #[]) ∧ Bld b B (acc ++ (l.map bl).flatten) w' ∧ Ch (Xw b B) w w' := by
  obtain ⟨M, hM⟩ : ∃ M, M = l.length := ⟨_, rfl⟩
  have HS := hid hS
  have HL := hid hlen
  have HB := hid h
  obtain ⟨g, rfl, _⟩ := hS
  rw [← hM] at hl ⊢
  have HM : Hid (M = l.length) := hM
  clear hlen h hM
  go_enter Tryz.func163, Tryz.ntmps163
  go_wp2_with fail
  go_loopw [8] (fun i wr => ∃ k : Nat, k ≤ M ∧ i = .int .i64 k ∧ Bld b B (acc ++ ((l.take k).map bl).flatten) wr ∧ Ch (Xw b B) w wr) (fun i _ => M - (intOf i).toNat)
  case atStart => exact ⟨0, Nat.zero_le _, rfl, by simpa using HB.out, Ch.refl _ _⟩
  case round =>
    obtain ⟨k, hk, rfl, hb, hc⟩ := hrel
    by_cases hlt : k < M
    · obtain ⟨x, hx⟩ : ∃ x, l[k]? = some x := ⟨l[k]'(by rw [← HM.out]; exact hlt), by simp⟩
      obtain ⟨g', e1, hbx⟩ := HS.out.ch hc (fun g h => by rcases h with h | h <;> (have := h.2; revert this; decide))
      cases e1
      have hcell := hbx.cell k (str_at l k x hx)
      have hgl := hbx.lt
      have hw := bwrite b B _ x wr hb (by
        have := HL.out (k + 1) (by rw [← HM.out]; omega)
        rw [flat_take l k x hx] at this
        simp only [List.length_append, bl_length] at this ⊢
        omega) hb.base.1
      have HX := hid hx
      have HC := hid hc
      clear hx hc hbx hb
      go_wp2_with fail
      refine hw.mono ?_
      rintro e w1 ⟨rfl, hb1, hc1⟩
      have HB1 := hid hb1
      have HC1 := hid hc1
      clear hb1 hc1 hw
      go_wp2
      refine ⟨⟨k + 1, by omega, by go_num, ?_, HC.out.trans HC1.out⟩, by simp [intOf]; omega⟩
      rw [flat_take l k x HX.out, ← List.append_assoc]
      exact HB1.out
    · have hke : k = M := by omega
      subst hke
      have HB1 := hid hb
      have HC1 := hid hc
      clear hb hc
      go_wp2
      go_end0
      refine ⟨rfl, ?_, HC1.out⟩
      have := HB1.out
      rwa [HM.out, List.take_length] at this

/-- One text, as a call lays it. -/
theorem wput_one (b B : Nat) (acc : List Nat) (s : ByteArray) (w : World) (h : Bld b B acc w) (hlen : acc.length + s.size ≤ 140737488355328) :
    Calls Tryz.prog 163 #[.pointer (some ⟨b, 0, none⟩), .slice (some ⟨w.heap.size, 0, none⟩) 1 1] (w.alloc (.cells #[.string s] 9)) fun e w' => e = .returned (.tuple #[]) ∧ Bld b B (acc ++ bl s) w' ∧ Ch (Xw b B) w w' := by
  have h1 := wput_any b B acc (.slice (some ⟨w.heap.size, 0, none⟩) 1 1) [s] _ ⟨w.heap.size, rfl, Bx.new w [.string s] 9⟩ (h.below (below_alloc w _)) (by simp) (fun k hk => by
    match k with
    | 0 => simp; omega
    | 1 => simp [bl_length]; omega
    | k + 2 => simp at hk)
  refine h1.mono ?_
  rintro e w' ⟨rfl, h2, h3⟩
  refine ⟨rfl, ?_, (Ch.below (below_alloc w _)).trans h3⟩
  simpa using h2
theorem wput_two (b B : Nat) (acc : List Nat) (s t : ByteArray) (w : World) (h : Bld b B acc w) (hlen : acc.length + (s.size + t.size) ≤ 140737488355328) :
    Calls Tryz.prog 163 #[.pointer (some ⟨b, 0, none⟩), .slice (some ⟨w.heap.size, 0, none⟩) 2 2] (w.alloc (.cells #[.string s, .string t] 9)) fun e w' => e = .returned (.tuple #[]) ∧ Bld b B (acc ++ (bl s ++ bl t)) w' ∧ Ch (Xw b B) w w' := by
  have h1 := wput_any b B acc (.slice (some ⟨w.heap.size, 0, none⟩) 2 2) [s, t] _ ⟨w.heap.size, rfl, Bx.new w [.string s, .string t] 9⟩ (h.below (below_alloc w _)) (by simp) (fun k hk => by
    match k with
    | 0 => simp; omega
    | 1 => simp [bl_length]; omega
    | 2 => simp [bl_length]; omega
    | k + 3 => simp at hk)
  refine h1.mono ?_
  rintro e w' ⟨rfl, h2, h3⟩
  refine ⟨rfl, ?_, (Ch.below (below_alloc w _)).trans h3⟩
  simpa using h2

theorem just_may (x : ByteArray) : (decide (checkZ (1, x, 1) = 0) && Pl.nameT (1, bl x)) = Pl.mayN (bl x) := by
  unfold Pl.mayN
  have : (checkZ (1, x, 1) = 0) ↔ Pl.nextP (bl x) = (1, (bl x).length, 0) := by
    unfold checkZ just
    simp only
    rw [if_neg (by omega)]
    obtain ⟨a, m, e⟩ := Pl.nextP (bl x)
    simp only [Prod.mk.injEq, bl_length]
    by_cases h1 : e = 0 <;> by_cases h2 : a = 1 <;> by_cases h3 : m = x.size <;> simp [h1, h2, h3] <;> omega
  by_cases h : checkZ (1, x, 1) = 0
  · rw [decide_eq_true h, decide_eq_true (this.1 h)]
  · rw [decide_eq_false h, decide_eq_false (fun h' => h (this.2 h'))]

set_option maxHeartbeats 2000000 in
theorem mayName_any (x : ByteArray) (hx : x.size ≤ maxLen) (w : World) : Calls Tryz.prog 115 #[.string x] w fun e w' => e = .returned (.bool (Pl.mayN (bl x))) ∧ Below w.heap.size w w' := by
  rw [← just_may]
  have hck := fun w => check_any (1, x, 1) hx w
  have hnm := fun w => isName_any (1, x, 1) w
  simp only [tokV, kt3] at hck hnm
  generalize checkZ (1, x, 1) = Z at *
  generalize Pl.nameT (1, bl x) = Y at *
  by_cases hZ : Z = 0
  · subst hZ
    simp only [decide_true, Bool.true_and]
    go_enter Tryz.func115, Tryz.ntmps115
    go_wp2_with fail
    refine (hck _).mono ?_
    rintro e w1 ⟨rfl, hb1⟩
    have hB := below_next (below_alloc w _) hb1
    have hc := (Bx.new w [.int .i64 1, .string x, .int .i64 1] 183).below hb1
    have c0 := hc.cell 0 rfl
    have c1 := hc.cell 1 rfl
    have c2 := hc.cell 2 rfl
    go_wp2_with fail
    refine (hnm _).mono ?_
    rintro e w2 ⟨rfl, hb2⟩
    go_wp2
    go_ret
    exact ⟨rfl, below_next hB hb2⟩
  · have hq : (Z == 0) = false := by simp [hZ]
    rw [decide_eq_false hZ, Bool.false_and]
    go_enter Tryz.func115, Tryz.ntmps115
    go_wp2_with fail
    refine (hck _).mono ?_
    rintro e w1 ⟨rfl, hb1⟩
    have hB := below_next (below_alloc w _) hb1
    go_wp2
    go_ret
    exact ⟨rfl, hB⟩

set_option maxHeartbeats 2000000 in
theorem wputName_any (b B : Nat) (acc : List Nat) (x : ByteArray) (hx : x.size ≤ maxLen) (w : World) (h : Bld b B acc w) (hlen : acc.length ≤ 1000000000) :
    Calls Tryz.prog 164 #[.pointer (some ⟨b, 0, none⟩), .string x] w (WrR b B acc w (Pl.nameW (bl x))) := by
  have hm := mayName_any x hx w
  unfold Pl.nameW
  cases hb : Pl.mayN (bl x) with
  | true =>
    rw [hb] at hm
    have hsz : x.size ≤ 32 := by
      have := Pl.name_len ((Pl.mayN_ok _).1 hb)
      rwa [bl_length] at this
    rw [if_pos rfl]
    clear hb
    go_enter Tryz.func164, Tryz.ntmps164
    go_wp2_with fail
    refine hm.mono ?_
    rintro e w1 ⟨rfl, hb1⟩
    have h1 := h.below hb1
    clear hm h
    go_wp2_with fail
    refine (pneed_true 31 _).mono ?_
    rintro e w2 ⟨rfl, hq2⟩
    subst w2
    have hp := wput_one b B acc x w1 h1 (by omega)
    go_wp2_with fail
    refine hp.mono ?_
    rintro e w3 ⟨rfl, h3, hc3⟩
    have HC := hid ((Ch.below hb1).trans hc3)
    have HB := hid h3
    clear hp hc3 h3
    go_wp2
    go_end0
    exact ⟨rfl, HB.out, HC.out⟩
  | false =>
    rw [hb] at hm
    rw [if_neg (by simp)]
    clear hb
    go_enter Tryz.func164, Tryz.ntmps164
    go_wp2_with fail
    refine hm.mono ?_
    rintro e w1 ⟨rfl, hb1⟩
    clear hm h
    go_wp2_with fail
    refine (pneed_false 31 _).mono ?_
    rintro e w2 ⟨rfl, hq2⟩
    subst w2
    exact ⟨rfl, rfl, Ch.below hb1⟩
end Go.Proofs.YtmiohekmpjiloaaGreatDoor

