/- strconv.Itoa's contract, laid over this program. parse: the table of powers; putNumber. parse: the parts of a declaration are gathered. parse: the parts of a declaration are gathered. parse: the parts of a declaration are gathered. parse: a declaration is read. parse: a struct is read. parse: a enum is read. parse: a service is read. parse: all declarations are read. -/
import Derived.Shelf.LaysM
import Derived.Shelf.Strconv.Itoa3
import Derived.Test.YtmiohekmpjiloaaGreatDoorProg
import Derived.Test.YtmiohekmpjiloaaGreatDoorCutPut15
import Derived.Test.YtmiohekmpjiloaaGreatDoorCutPut14
namespace Go.Proofs
open Go.Shelf
def Tryz.laysM171_ren : Go.Shelf.Ren := ⟨fun | 171 => 179 | 243 => 187 | 246 => 195 | 283 => 201 | 284 => 202 | 285 => 203 | 286 => 204 | 129 => 207 | 317 => 206 | 318 => 208 | 319 => 209 | 320 => 210 | 337 => 212 | 338 => 213 | n => n, fun | 3 => 3 | 9 => 9 | 2 => 2 | 4 => 4 | 171 => 235 | 0 => 0 | 53 => 30 | 37 => 134 | 5 => 5 | 173 => 238 | 212 => 241 | 51 => 242 | 20 => 20 | 213 => 243 | 46 => 244 | 232 => 247 | 233 => 248 | n => n, fun | 17 => 1 | 18 => 2 | 19 => 3 | n => n⟩
theorem Tryz.laysM171 : Go.Proofs.LaysM.n171 Tryz.prog Tryz.laysM171_ren := {
  mixed := by kernel_rfl
  f129 := Tryz.func207.trans (congrArg some (by kernel_rfl))
  f171 := Tryz.func179.trans (congrArg some (by kernel_rfl))
  f243 := Tryz.func187.trans (congrArg some (by kernel_rfl))
  f246 := Tryz.func195.trans (congrArg some (by kernel_rfl))
  f283 := Tryz.func201.trans (congrArg some (by kernel_rfl))
  f284 := Tryz.func202.trans (congrArg some (by kernel_rfl))
  f285 := Tryz.func203.trans (congrArg some (by kernel_rfl))
  f286 := Tryz.func204.trans (congrArg some (by kernel_rfl))
  f317 := Tryz.func206.trans (congrArg some (by kernel_rfl))
  f318 := Tryz.func208.trans (congrArg some (by kernel_rfl))
  f319 := Tryz.func209.trans (congrArg some (by kernel_rfl))
  f320 := Tryz.func210.trans (congrArg some (by kernel_rfl))
  f337 := Tryz.func212.trans (congrArg some (by kernel_rfl))
  f338 := Tryz.func213.trans (congrArg some (by kernel_rfl))
  t0 := Tryz.underlying0
  a0 := Tryz.isAgg0
  z0 := Tryz.sizeOf0
  v0 := Tryz.zeroValue0
  t2 := Tryz.underlying2
  a2 := Tryz.isAgg2
  z2 := Tryz.sizeOf2
  v2 := Tryz.zeroValue2
  t3 := Tryz.underlying3
  a3 := Tryz.isAgg3
  z3 := Tryz.sizeOf3
  v3 := Tryz.zeroValue3
  t4 := Tryz.underlying4
  a4 := Tryz.isAgg4
  z4 := Tryz.sizeOf4
  v4 := Tryz.zeroValue4
  t5 := Tryz.underlying5
  a5 := Tryz.isAgg5
  z5 := Tryz.sizeOf5
  v5 := Tryz.zeroValue5
  t9 := Tryz.underlying9
  a9 := Tryz.isAgg9
  z9 := Tryz.sizeOf9
  v9 := Tryz.zeroValue9
  t20 := Tryz.underlying20
  a20 := Tryz.isAgg20
  z20 := Tryz.sizeOf20
  v20 := Tryz.zeroValue20
  t37 := Tryz.underlying134
  a37 := Tryz.isAgg134
  z37 := Tryz.sizeOf134
  v37 := Tryz.zeroValue134
  t46 := Tryz.underlying244
  a46 := Tryz.isAgg244
  z46 := Tryz.sizeOf244
  v46 := Tryz.zeroValue244
  t51 := Tryz.underlying242
  a51 := Tryz.isAgg242
  z51 := Tryz.sizeOf242
  v51 := Tryz.zeroValue242
  t53 := Tryz.underlying30
  a53 := Tryz.isAgg30
  z53 := Tryz.sizeOf30
  v53 := Tryz.zeroValue30
  t171 := Tryz.underlying235
  a171 := Tryz.isAgg235
  z171 := Tryz.sizeOf235
  v171 := Tryz.zeroValue235
  t173 := Tryz.underlying238
  a173 := Tryz.isAgg238
  z173 := Tryz.sizeOf238
  v173 := Tryz.zeroValue238
  t212 := Tryz.underlying241
  a212 := Tryz.isAgg241
  z212 := Tryz.sizeOf241
  v212 := Tryz.zeroValue241
  t213 := Tryz.underlying243
  a213 := Tryz.isAgg243
  z213 := Tryz.sizeOf243
  t232 := Tryz.underlying247
  a232 := Tryz.isAgg247
  z232 := Tryz.sizeOf247
  v232 := Tryz.zeroValue247
  t233 := Tryz.underlying248
  a233 := Tryz.isAgg248
  z233 := Tryz.sizeOf248
  v233 := Tryz.zeroValue248
  g17 := by kernel_rfl
  g18 := by kernel_rfl
  g19 := by kernel_rfl
  i0 := by kernel_rfl
  i2 := by kernel_rfl
  i3 := by kernel_rfl
  i4 := by kernel_rfl
  i5 := by kernel_rfl
  i9 := by kernel_rfl
  i20 := by kernel_rfl
  i37 := by kernel_rfl
  i46 := by kernel_rfl
  i51 := by kernel_rfl
  i53 := by kernel_rfl
  i171 := by kernel_rfl
  i173 := by kernel_rfl
  i212 := by kernel_rfl
  i232 := by kernel_rfl
  i233 := by kernel_rfl
  m17 := by kernel_rfl
  m18 := by kernel_rfl
  m19 := by kernel_rfl }
open Go.RowKit Go.Sort Go.Lib in
theorem Tryz.strconv_Itoa (n : Int) (h0 : -9223372036854775808 ≤ n) (h1 : n ≤ 9223372036854775807) (w : World) (htab : Lib.TabIs Tryz.prog w "internal/strconv.uint64pow10" .u64 Lib.pow10Tab) :
    Calls Tryz.prog 179 #[.int .i64 n] w fun e w' => e = .returned (.string ⟨(Lib.itoa n).toArray⟩) ∧ ∃ k os, w' = grow (w.drewN k) os := Any.strconv_Itoa Tryz.laysM171 n h0 h1 w htab
end Go.Proofs

namespace Go.Proofs.YtmiohekmpjiloaaGreatDoor
open Go.RowKit
set_option maxRecDepth 20000

/-- The table of powers lies as it was laid, below B. -/
def Tab (B : Nat) (w : World) : Prop := Lib.TabIs Tryz.prog w "internal/strconv.uint64pow10" .u64 Lib.pow10Tab ∧ ∀ g, Tryz.prog.globalNamed "internal/strconv.uint64pow10" = some g → g < B
theorem Tab.ch {X : Nat → TypeId → Prop} {B : Nat} {w w' : World} (h : Tab B w) (hc : Ch X w w') (hX : ∀ g T, g < B → ¬ X g T) : Tab B w' := by
  refine ⟨?_, h.2⟩
  have h1 := h.1
  unfold Lib.TabIs World.var? at h1 ⊢
  cases hg : Tryz.prog.globalNamed "internal/strconv.uint64pow10" with
  | none => rw [hg] at h1; cases h1
  | some g =>
    rw [hg] at h1
    simp only [Option.bind_some] at h1 ⊢
    have hlt := h.2 g hg
    cases ho : w.heap[g]? with
    | none => rw [ho] at h1; cases h1
    | some o =>
      rw [hc.block g o ho (fun cs T r _ hx => hX g T hlt hx)]
      rw [ho] at h1
      exact h1
theorem Tab.below {B : Nat} {w w' : World} (h : Tab B w) (hb : Below w.heap.size w w') : Tab B w' := h.ch (X := fun _ _ => False) (Ch.below hb) (fun _ _ _ h => h)
theorem Tab.wr {b B : Nat} {w w' : World} (h : Tab B w) (hc : Ch (Xw b B) w w') (hB : B ≤ b) : Tab B w' := h.ch hc (fun g T hg hx => by
  rcases hx with hx | hx
  · omega
  · omega)

theorem below_grow (w : World) (k : Nat) (os : Array Obj) : Below w.heap.size w (Sort.grow (w.drewN k) os) := by
  refine ⟨rfl, rfl, rfl, ?_, fun j hj => ?_⟩
  · simp [Sort.grow]
  · exact Array.getElem?_append_left hj

theorem dec_digits (f : Nat) : ∀ n, n < 10 ^ (f + 1) → (Lib.decDigits n).map UInt8.toNat = Pl.decS (f + 1) n := by
  induction f with
  | zero =>
    intro n h
    have hn : n < 10 := by simpa using h
    rw [Lib.decDigits]
    unfold Pl.decS
    rw [dif_pos hn, if_pos hn]
    simp
    omega
  | succ f ih =>
    intro n h
    rw [Lib.decDigits]
    unfold Pl.decS
    by_cases hn : n < 10
    · rw [dif_pos hn, if_pos hn]
      simp
      omega
    · rw [dif_neg hn, if_neg hn, List.map_append, ih (n / 10) (by rw [Nat.pow_succ] at h; omega)]
      simp
      omega

theorem itoa_any (n : Nat) (hn : n ≤ 999999999) (B : Nat) (w : World) (ht : Tab B w) : Calls Tryz.prog 179 #[.int .i64 (n : Int)] w fun e w' => ∃ s, e = .returned (.string s) ∧ bl s = Pl.dec n ∧ Below w.heap.size w w' := by
  refine (Tryz.strconv_Itoa (n : Int) (by omega) (by omega) w ht.1).mono ?_
  rintro e w' ⟨rfl, k, os, rfl⟩
  refine ⟨_, rfl, ?_, below_grow w k os⟩
  rw [Lib.itoa_nonneg]
  exact dec_digits 19 n (by omega)

set_option maxHeartbeats 2000000 in
theorem wputNumber_any (b B : Nat) (acc : List Nat) (n : Int) (w : World) (h : Bld b B acc w) (ht : Tab B w) (hlen : acc.length ≤ 1000000000) :
    Calls Tryz.prog 165 #[.pointer (some ⟨b, 0, none⟩), .int .i64 n] w (WrR b B acc w (Pl.numW n)) := by
  unfold Pl.numW
  by_cases h0 : 0 ≤ n
  · by_cases h9 : n ≤ 999999999
    · rw [if_pos ⟨h0, h9⟩]
      obtain ⟨k, rfl⟩ : ∃ k : Nat, n = k := ⟨n.toNat, by omega⟩
      have hi := itoa_any k (by omega) B w ht
      rw [show ((k : Int)).toNat = k by omega]
      have hsz := Pl.decS_len 20 k 9 (by omega) (by omega)
      have hs : (Pl.dec k).length ≤ 9 := hsz
      clear hsz
      generalize Pl.dec k = D at *
      go_enter Tryz.func165, Tryz.ntmps165
      go_wp2_with fail
      refine (pneed_true 4 _).mono ?_
      rintro e w2 ⟨rfl, hq2⟩
      subst w2
      go_wp2_with fail
      refine hi.mono ?_
      rintro e w1 ⟨s, rfl, rfl, hb1⟩
      have h1 := h.below hb1
      rw [bl_length] at hs
      have hp := wput_one b B acc s w1 h1 (by omega)
      clear hi h
      go_wp2_with fail
      refine hp.mono ?_
      rintro e w3 ⟨rfl, h3, hc3⟩
      have HC := hid ((Ch.below hb1).trans hc3)
      have HB := hid h3
      clear hp hc3 h3
      go_wp2
      go_end0
      exact ⟨rfl, HB.out, HC.out⟩
    · rw [if_neg (fun h => h9 h.2)]
      go_enter Tryz.func165, Tryz.ntmps165
      go_wp2_with fail
      refine (pneed_false 4 _).mono ?_
      rintro e w2 ⟨rfl, hq2⟩
      subst w2
      exact ⟨rfl, rfl, Ch.refl _ _⟩
  · rw [if_neg (fun h => h0 h.1)]
    go_enter Tryz.func165, Tryz.ntmps165
    go_wp2_with fail
    refine (pneed_false 4 _).mono ?_
    rintro e w2 ⟨rfl, hq2⟩
    subst w2
    exact ⟨rfl, rfl, Ch.refl _ _⟩
end Go.Proofs.YtmiohekmpjiloaaGreatDoor

namespace Go.Proofs.YtmiohekmpjiloaaGreatDoor
open Go.RowKit
theorem Tryz.info61 : (Tryz.prog.info? 61).map (fun i => (i.zero, i.size, i.bytes)) = some (some (.agg #[.string ⟨#[]⟩, .int .i64 0, .int .i64 0, .string ⟨#[]⟩, .slice none 0 0]), 5, 72) := by kernel_rfl

end Go.Proofs.YtmiohekmpjiloaaGreatDoor

namespace Go.Proofs.YtmiohekmpjiloaaGreatDoor
open Go.RowKit
set_option maxRecDepth 20000

theorem Tryz.info101 : (Tryz.prog.info? 101).map (fun i => (i.zero, i.size, i.bytes)) = some (some (.agg #[.string ⟨#[]⟩, .int .i64 0]), 2, 24) := by kernel_rfl

end Go.Proofs.YtmiohekmpjiloaaGreatDoor

namespace Go.Proofs.YtmiohekmpjiloaaGreatDoor
open Go.RowKit
set_option maxRecDepth 20000

theorem Tryz.info122 : (Tryz.prog.info? 122).map (fun i => (i.zero, i.size, i.bytes)) = some (some (.agg #[.string ⟨#[]⟩, .bool false, .int .i64 0, .string ⟨#[]⟩, .slice none 0 0, .int .i64 0, .string ⟨#[]⟩, .slice none 0 0]), 8, 120) := by kernel_rfl

end Go.Proofs.YtmiohekmpjiloaaGreatDoor

namespace Go.Proofs.YtmiohekmpjiloaaGreatDoor
open Go.RowKit
set_option maxRecDepth 20000

/-- The declarations' cells: name, parts. -/
def SctR (B : Nat) (x : List Nat × List Pl.Fld) (c : List Value) (w : World) : Prop := ∃ s ad m cp, c = [.string s, .slice ad m cp] ∧ bl s = x.1 ∧ Rows 61 5 (FldR B) B w (.slice ad m cp) x.2
def EnmR (B : Nat) (x : List Nat × List Pl.Cas) (c : List Value) (w : World) : Prop := ∃ s ad m cp, c = [.string s, .slice ad m cp] ∧ bl s = x.1 ∧ Rows 101 2 CasR B w (.slice ad m cp) x.2
def SvcR (B : Nat) (x : List Nat × List Pl.Mth) (c : List Value) (w : World) : Prop := ∃ s ad m cp, c = [.string s, .slice ad m cp] ∧ bl s = x.1 ∧ Rows 122 8 (MthR B) B w (.slice ad m cp) x.2

theorem Rows.mono {α : Type} {T : TypeId} {m : Nat} {R R' : α → List Value → World → Prop} {B B' : Nat} {w : World} {v : Value} {xs : List α} (h : Rows T m R B w v xs) (hB : B' ≤ B) (hR : ∀ a c, R a c w → R' a c w) : Rows T m R' B' w v xs := by
  obtain ⟨ps, h1, h2, h3⟩ := h
  refine ⟨ps, h1, fun p hp => ⟨hR _ _ (h2 p hp).1, (h2 p hp).2⟩, h3.1, ?_⟩
  rcases h3.2 with h0 | ⟨g, cap, cur, e, hb, hr⟩
  · exact .inl h0
  · exact .inr ⟨g, cap, cur, e, Nat.le_trans hB hb, hr⟩
theorem FldR.mono {B B' : Nat} (hB : B' ≤ B) {w : World} (f : Pl.Fld) (c : List Value) (h : FldR B f c w) : FldR B' f c w := by
  obtain ⟨s, k, sn, ad, m, cp, h1, h2, h3⟩ := h
  exact ⟨s, k, sn, ad, m, cp, h1, h2, TyC.mono hB _ _ _ _ h3⟩
theorem MthR.mono {B B' : Nat} (hB : B' ≤ B) {w : World} (f : Pl.Mth) (c : List Value) (h : MthR B f c w) : MthR B' f c w := by
  obtain ⟨s, k, sn, ad, m, cp, k', sn', ad', m', cp', h1, h2, h3, h4⟩ := h
  exact ⟨s, k, sn, ad, m, cp, k', sn', ad', m', cp', h1, h2, TyC.mono hB _ _ _ _ h3, TyC.mono hB _ _ _ _ h4⟩
end Go.Proofs.YtmiohekmpjiloaaGreatDoor

namespace Go.Proofs.YtmiohekmpjiloaaGreatDoor
open Go.RowKit
set_option maxRecDepth 20000

theorem Tryz.info59 : (Tryz.prog.info? 59).map (fun i => (i.zero, i.size, i.bytes)) = some (some (.agg #[.string ⟨#[]⟩, .slice none 0 0]), 2, 40) := by kernel_rfl

end Go.Proofs.YtmiohekmpjiloaaGreatDoor

namespace Go.Proofs.YtmiohekmpjiloaaGreatDoor
open Go.RowKit
set_option maxRecDepth 20000

theorem Tryz.info83 : (Tryz.prog.info? 83).map (fun i => (i.zero, i.size, i.bytes)) = some (some (.agg #[.string ⟨#[]⟩, .slice none 0 0]), 2, 40) := by kernel_rfl

end Go.Proofs.YtmiohekmpjiloaaGreatDoor

namespace Go.Proofs.YtmiohekmpjiloaaGreatDoor
open Go.RowKit
theorem run_bslice {P : Program} {w w' : World} {o : Oper} {a : Act} {T : TypeId} {len : Nat} {parts : Array (Nat × Operand)} {v : Value} (hop : o.op = .buildSlice T len parts) (hr : (Instr.buildSlice T len (parts.map fun (i, x) => (i, a.eval x))).run P w = .ok v w') : (execOp a.eval o).run P w = .ok (.value v) w' := by
  simp [execOp, hop, hr]
theorem Tryz.info86 : (Tryz.prog.info? 86).map (fun i => (i.zero, i.size, i.bytes)) = some (some (.agg #[.string ⟨#[]⟩, .slice none 0 0]), 2, 40) := by kernel_rfl

end Go.Proofs.YtmiohekmpjiloaaGreatDoor

namespace Go.Proofs.YtmiohekmpjiloaaGreatDoor
open Go.RowKit
set_option maxRecDepth 20000

def stOf (ds : List Pl.Decl) : List (List Nat × List Pl.Fld) := ds.filterMap fun d => match d with | .st n l => some (n, l) | _ => none
def enOf (ds : List Pl.Decl) : List (List Nat × List Pl.Cas) := ds.filterMap fun d => match d with | .en n l => some (n, l) | _ => none
def svOf (ds : List Pl.Decl) : List (List Nat × List Pl.Mth) := ds.filterMap fun d => match d with | .sv n l => some (n, l) | _ => none

end Go.Proofs.YtmiohekmpjiloaaGreatDoor

