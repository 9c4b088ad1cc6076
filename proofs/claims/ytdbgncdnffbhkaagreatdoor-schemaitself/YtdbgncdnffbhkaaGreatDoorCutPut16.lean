/- strconv.Itoa's contract, laid over this program. parse: the table of powers; putNumber. parse: the parts of a declaration are gathered. parse: the parts of a declaration are gathered. parse: the parts of a declaration are gathered. parse: a declaration is read. parse: a struct is read. parse: a enum is read. parse: a service is read. parse: all declarations are read. -/
import Derived.Shelf.LaysM
import Derived.Shelf.Strconv.Itoa3
import Derived.Test.YtdbgncdnffbhkaaGreatDoorProg
import Derived.Test.YtdbgncdnffbhkaaGreatDoorCutPut15
import Derived.Test.YtdbgncdnffbhkaaGreatDoorCutPut14
namespace Go.Proofs
open Go.Shelf
def Tryz.laysM171_ren : Go.Shelf.Ren := ⟨fun | 171 => 187 | 243 => 199 | 246 => 209 | 283 => 212 | 284 => 213 | 285 => 214 | 286 => 215 | 129 => 217 | 317 => 216 | 318 => 218 | 319 => 219 | 320 => 220 | 337 => 221 | 338 => 222 | n => n, fun | 3 => 3 | 9 => 9 | 2 => 2 | 4 => 4 | 171 => 244 | 0 => 0 | 53 => 245 | 37 => 128 | 5 => 5 | 173 => 248 | 212 => 251 | 51 => 252 | 20 => 20 | 213 => 253 | 46 => 254 | 232 => 257 | 233 => 258 | n => n, fun | 17 => 1 | 18 => 2 | 19 => 3 | n => n⟩
theorem Tryz.laysM171 : Go.Proofs.LaysM.n171 Tryz.prog Tryz.laysM171_ren := {
  mixed := by kernel_rfl
  f129 := Tryz.func217.trans (congrArg some (by kernel_rfl))
  f171 := Tryz.func187.trans (congrArg some (by kernel_rfl))
  f243 := Tryz.func199.trans (congrArg some (by kernel_rfl))
  f246 := Tryz.func209.trans (congrArg some (by kernel_rfl))
  f283 := Tryz.func212.trans (congrArg some (by kernel_rfl))
  f284 := Tryz.func213.trans (congrArg some (by kernel_rfl))
  f285 := Tryz.func214.trans (congrArg some (by kernel_rfl))
  f286 := Tryz.func215.trans (congrArg some (by kernel_rfl))
  f317 := Tryz.func216.trans (congrArg some (by kernel_rfl))
  f318 := Tryz.func218.trans (congrArg some (by kernel_rfl))
  f319 := Tryz.func219.trans (congrArg some (by kernel_rfl))
  f320 := Tryz.func220.trans (congrArg some (by kernel_rfl))
  f337 := Tryz.func221.trans (congrArg some (by kernel_rfl))
  f338 := Tryz.func222.trans (congrArg some (by kernel_rfl))
  t0 := Tryz.underlying0
  a0 := Tryz.isAgg0
  z0 := Tryz.sizeOf0
  v0 := Tryz.zeroValue0
  t2 := Tryz.underlying2
  a2 := Tryz.isAgg2
  z2 := Tryz.sizeOf2
  v2 := Tryz.zeroValue2
  t3 := Tryz.underlying3
  a3 := Tryz.isAgg3
  z3 := Tryz.sizeOf3
  v3 := Tryz.zeroValue3
  t4 := Tryz.underlying4
  a4 := Tryz.isAgg4
  z4 := Tryz.sizeOf4
  v4 := Tryz.zeroValue4
  t5 := Tryz.underlying5
  a5 := Tryz.isAgg5
  z5 := Tryz.sizeOf5
  v5 := Tryz.zeroValue5
  t9 := Tryz.underlying9
  a9 := Tryz.isAgg9
  z9 := Tryz.sizeOf9
  v9 := Tryz.zeroValue9
  t20 := Tryz.underlying20
  a20 := Tryz.isAgg20
  z20 := Tryz.sizeOf20
  v20 := Tryz.zeroValue20
  t37 := Tryz.underlying128
  a37 := Tryz.isAgg128
  z37 := Tryz.sizeOf128
  v37 := Tryz.zeroValue128
  t46 := Tryz.underlying254
  a46 := Tryz.isAgg254
  z46 := Tryz.sizeOf254
  v46 := Tryz.zeroValue254
  t51 := Tryz.underlying252
  a51 := Tryz.isAgg252
  z51 := Tryz.sizeOf252
  v51 := Tryz.zeroValue252
  t53 := Tryz.underlying245
  a53 := Tryz.isAgg245
  z53 := Tryz.sizeOf245
  v53 := Tryz.zeroValue245
  t171 := Tryz.underlying244
  a171 := Tryz.isAgg244
  z171 := Tryz.sizeOf244
  v171 := Tryz.zeroValue244
  t173 := Tryz.underlying248
  a173 := Tryz.isAgg248
  z173 := Tryz.sizeOf248
  v173 := Tryz.zeroValue248
  t212 := Tryz.underlying251
  a212 := Tryz.isAgg251
  z212 := Tryz.sizeOf251
  v212 := Tryz.zeroValue251
  t213 := Tryz.underlying253
  a213 := Tryz.isAgg253
  z213 := Tryz.sizeOf253
  t232 := Tryz.underlying257
  a232 := Tryz.isAgg257
  z232 := Tryz.sizeOf257
  v232 := Tryz.zeroValue257
  t233 := Tryz.underlying258
  a233 := Tryz.isAgg258
  z233 := Tryz.sizeOf258
  v233 := Tryz.zeroValue258
  g17 := by kernel_rfl
  g18 := by kernel_rfl
  g19 := by kernel_rfl
  i0 := by kernel_rfl
  i2 := by kernel_rfl
  i3 := by kernel_rfl
  i4 := by kernel_rfl
  i5 := by kernel_rfl
  i9 := by kernel_rfl
  i20 := by kernel_rfl
  i37 := by kernel_rfl
  i46 := by kernel_rfl
  i51 := by kernel_rfl
  i53 := by kernel_rfl
  i171 := by kernel_rfl
  i173 := by kernel_rfl
  i212 := by kernel_rfl
  i232 := by kernel_rfl
  i233 := by kernel_rfl
  m17 := by kernel_rfl
  m18 := by kernel_rfl
  m19 := by kernel_rfl }
open Go.RowKit Go.Sort Go.Lib in
theorem Tryz.strconv_Itoa (n : Int) (h0 : -9223372036854775808 ≤ n) (h1 : n ≤ 9223372036854775807) (w : World) (htab : Lib.TabIs Tryz.prog w "internal/strconv.uint64pow10" .u64 Lib.pow10Tab) :
    Calls Tryz.prog 187 #[.int .i64 n] w fun e w' => e = .returned (.string ⟨(Lib.itoa n).toArray⟩) ∧ ∃ k os, w' = grow (w.drewN k) os := Any.strconv_Itoa Tryz.laysM171 n h0 h1 w htab
end Go.Proofs

namespace Go.Proofs.YtdbgncdnffbhkaaGreatDoor
open Go.RowKit
set_option maxRecDepth 20000

/-- The table of powers lies as it was laid, below B. -/
def Tab (B : Nat) (w : World) : Prop := Lib.TabIs Tryz.prog w "internal/strconv.uint64pow10" .u64 Lib.pow10Tab ∧ ∀ g, Tryz.prog.globalNamed "internal/strconv.uint64pow10" = some g → g < B
theorem Tab.ch {X : Nat → TypeId → Prop} {B : Nat} {w w' : World} (h : Tab B w) (hc : Ch X w w') (hX : ∀ g T, g < B → ¬ X g T) : Tab B w' := by
  refine ⟨?_, h.2⟩
  have h1 := h.1
  unfold Lib.TabIs World.var? at h1 ⊢
  cases hg : Tryz.prog.globalNamed "internal/strconv.uint64pow10" with
  | none => rw [hg] at h1; cases h1
  | some g =>
    rw [hg] at h1
    simp only [Option.bind_some] at h1 ⊢
    have hlt := h.2 g hg
    cases ho : w.heap[g]? with
    | none => rw [ho] at h1; cases h1
    | some o =>
      rw [hc.block g o ho (fun cs T r _ hx => hX g T hlt hx)]
      rw [ho] at h1
      exact h1
theorem Tab.below {B : Nat} {w w' : World} (h : Tab B w) (hb : Below w.heap.size w w') : Tab B w' := h.ch (X := fun _ _ => False) (Ch.below hb) (fun _ _ _ h => h)
theorem Tab.wr {b B : Nat} {w w' : World} (h : Tab B w) (hc : Ch (Xw b B) w w') (hB : B ≤ b) : Tab B w' := h.ch hc (fun g T hg hx => by
  rcases hx with hx | hx
  · omega
  · omega)

theorem below_grow (w : World) (k : Nat) (os : Array Obj) : Below w.heap.size w (Sort.grow (w.drewN k) os) := by
  refine ⟨rfl, rfl, rfl, ?_, fun j hj => ?_⟩
  · simp [Sort.grow]
  · exact Array.getElem?_append_left hj

theorem dec_digits (f : Nat) : ∀ n, n < 10 ^ (f + 1) → (Lib.decDigits n).map UInt8.toNat = Pl.decS (f + 1) n := by
  induction f with
  | zero =>
    intro n h
    have hn : n < 10 := by simpa using h
    rw [Lib.decDigits]
    unfold Pl.decS
    rw [dif_pos hn, if_pos hn]
    simp
    omega
  | succ f ih =>
    intro n h
    rw [Lib.decDigits]
    unfold Pl.decS
    by_cases hn : n < 10
    · rw [dif_pos hn, if_pos hn]
      simp
      omega
    · rw [dif_neg hn, if_neg hn, List.map_append, ih (n / 10) (by rw [Nat.pow_succ] at h; omega)]
      simp
      omega

theorem itoa_any (n : Nat) (hn : n ≤ 999999999) (B : Nat) (w : World) (ht : Tab B w) : Calls Tryz.prog 187 #[.int .i64 (n : Int)] w fun e w' => ∃ s, e = .returned (.string s) ∧ bl s = Pl.dec n ∧ Below w.heap.size w w' := by
  refine (Tryz.strconv_Itoa (n : Int) (by omega) (by omega) w ht.1).mono ?_
  rintro e w' ⟨rfl, k, os, rfl⟩
  refine ⟨_, rfl, ?_, below_grow w k os⟩
  rw [Lib.itoa_nonneg]
  exact dec_digits 19 n (by omega)

set_option maxHeartbeats 2000000 in
theorem wputNumber_any (b B : Nat) (acc : List Nat) (n : Int) (w : World) (h : Bld b B acc w) (ht : Tab B w) (hlen : acc.length ≤ 1000000000) :
    Calls Tryz.prog 159 #[.pointer (some ⟨b, 0, none⟩), .int .i64 n] w (WrR b B acc w (Pl.numW n)) := by
  unfold Pl.numW
  by_cases h0 : 0 ≤ n
  · by_cases h9 : n ≤ 999999999
    · rw [if_pos ⟨h0, h9⟩]
      obtain ⟨k, rfl⟩ : ∃ k : Nat, n = k := ⟨n.toNat, by omega⟩
      have hi := itoa_any k (by omega) B w ht
      rw [show ((k : Int)).toNat = k by omega]
      have hsz := Pl.decS_len 20 k 9 (by omega) (by omega)
      have hs : (Pl.dec k).length ≤ 9 := hsz
      clear hsz
      generalize Pl.dec k = D at *
      go_enter Tryz.func159, Tryz.ntmps159
      go_wp2_with fail
      refine (pneed_true 4 _).mono ?_
      rintro e w2 ⟨rfl, hq2⟩
      subst w2
      go_wp2_with fail
      refine hi.mono ?_
      rintro e w1 ⟨s, rfl, rfl, hb1⟩
      have h1 := h.below hb1
      rw [bl_length] at hs
      have hp := wput_one b B acc s w1 h1 (by omega)
      clear hi h
      go_wp2_with fail
      refine hp.mono ?_
      rintro e w3 ⟨rfl, h3, hc3⟩
      have HC := hid ((Ch.below hb1).trans hc3)
      have HB := hid h3
      clear hp hc3 h3
      go_wp2
      go_end0
      exact ⟨rfl, HB.out, HC.out⟩
    · rw [if_neg (fun h => h9 h.2)]
      go_enter Tryz.func159, Tryz.ntmps159
      go_wp2_with fail
      refine (pneed_false 4 _).mono ?_
      rintro e w2 ⟨rfl, hq2⟩
      subst w2
      exact ⟨rfl, rfl, Ch.refl _ _⟩
  · rw [if_neg (fun h => h0 h.1)]
    go_enter Tryz.func159, Tryz.ntmps159
    go_wp2_with fail
    refine (pneed_false 4 _).mono ?_
    rintro e w2 ⟨rfl, hq2⟩
    subst w2
    exact ⟨rfl, rfl, Ch.refl _ _⟩
end Go.Proofs.YtdbgncdnffbhkaaGreatDoor

namespace Go.Proofs.YtdbgncdnffbhkaaGreatDoor
open Go.RowKit
set_option maxRecDepth 20000

/-- The place, and what has been made since n1. -/
def Xq (n n1 : Nat) (g : Nat) (T : TypeId) : Prop := Xp n g T ∨ (n1 ≤ g ∧ Xs g T)
theorem Xq.ty {n n1 B : Nat} : ∀ g, B ≤ g → ¬ Xq n n1 g 34 := by
  rintro g _ (h | h)
  · exact Xp.ty g (Nat.zero_le _) h
  · have := h.2
    revert this
    unfold Xs
    decide
theorem Xq.ptr {n n1 : Nat} (g : Nat) : ¬ Xq n n1 g 208 := by
  rintro (h | h)
  · have := h.2
    revert this
    decide
  · have := h.2
    revert this
    unfold Xs
    decide

/-- One part more has been gathered. -/
theorem gather_end {α : Type} {T bT : TypeId} {m n n1 sb rb i5 : Nat} {sv : Value} {rest : List Value} {R : α → List Value → World → Prop} {W w1 w5 w6 : World} {nm : ByteArray} {v u : Value} {ps : List (α × List Value)} {c : List Value} {o : Obj} (a5 : α)
    (hst : ∀ w w', Ch (Xq n n1) w w' → ∀ a c, R a c w → R a c w') (hT : Xs 0 T) (hT1 : T ≠ 170) (hT2 : T ≠ bT) (hbT : Xs 0 bT) (hn1 : n < n1) (hs1 : n1 ≤ sb)
    (hb1 : Below W.heap.size W w1) (hC15 : Ch (Xp n) w1 w5) (hown5 : w5.ownsRow n1 T m v ps.length (ps.flatMap Prod.snd)) (hgr : (w5.alloc o).grownBy w6 v.ownBlock) (hown6 : w6.ownsRow n1 T m u (ps.length + 1) (ps.flatMap Prod.snd ++ c))
    (hBs6 : Bx w6 sb [.string nm, v] bT) (hBr5 : Bx w5 rb [.pointer (some ⟨n, 0, none⟩)] 208) (hP5 : Pos n sv rest w5 i5) (hRP : ∀ p ∈ ps, R p.1 p.2 w1 ∧ p.2.length = m) (hnew : R a5 c w5) (hc : c.length = m) :
    (Bx (w6.setCell ⟨sb, 1, none⟩ u) sb [.string nm, u] bT ∧ Rows T m R n1 (w6.setCell ⟨sb, 1, none⟩ u) u (ps.map Prod.fst ++ [a5]) ∧ Bx (w6.setCell ⟨sb, 1, none⟩ u) rb [.pointer (some ⟨n, 0, none⟩)] 208) ∧ Pos n sv rest (w6.setCell ⟨sb, 1, none⟩ u) i5 ∧ Ch (Xq n n1) W (w6.setCell ⟨sb, 1, none⟩ u) := by
  have hX : ∀ k, n1 ≤ k → Xq n n1 k T := fun k hk => .inr ⟨hk, hT⟩
  have hownA := own_ch (X := Xp n) hown5 (Ch.alloc w5 o) (fun k _ hx => hT1 hx.2)
  have hC56 : Ch (Xq n n1) w5 w6 := grown_ch hownA (Ch.alloc w5 o) hgr hX
  have hCs : Ch (fun g T' => g = sb ∧ T' = bT) w6 (w6.setCell ⟨sb, 1, none⟩ u) := Ch.set hBs6 ⟨rfl, rfl⟩ u
  have hCs' : Ch (Xq n n1) w6 (w6.setCell ⟨sb, 1, none⟩ u) := hCs.mono (fun g T' h => .inr ⟨by rw [h.1]; exact hs1, by rw [h.2]; exact hbT⟩)
  have hC16 : Ch (Xq n n1) w1 w6 := (hC15.mono (fun _ _ h => .inl h)).trans hC56
  have hPA : Bx (w5.alloc o) n _ _ := Bx.alloc hP5 o
  have hP6 : Pos n sv rest w6 i5 := (hgr.block n (by have := hP5.facts.2.2.2; simp; omega) (fun e => by
    obtain ⟨_, cur, hq⟩ := own_block hownA e.symm
    rw [hPA] at hq
    simp at hq
    exact hT1 hq.2.symm)).trans hPA
  refine ⟨⟨hBs6.set 1 u, ?_, (hBr5.ch hC56 (Xq.ptr _)).ch hCs' (Xq.ptr _)⟩, hP6.other (by omega) u, ((Ch.below hb1).trans hC16).trans hCs'⟩
  exact (Rows.more hRP (hst _ _ hC16) a5 c (hst _ _ hC56 _ _ hnew) hc hown6).ch hCs (hst _ _ hCs') (fun k _ hx => hT2 hx.2)

theorem Tryz.info83 : (Tryz.prog.info? 83).map (fun i => (i.zero, i.size, i.bytes)) = some (some (.agg #[.string ⟨#[]⟩, .int .i64 0, .int .i64 0, .string ⟨#[]⟩, .slice none 0 0]), 5, 72) := by kernel_rfl

/-- What is gathered of a declaration, in its box. -/
def InvF (n n1 sb rb : Nat) (nm : ByteArray) (xs : List Pl.Fld) (W : World) : Prop := ∃ fv, Bx W sb [.string nm, fv] 60 ∧ Rows 83 5 (FldR n1) n1 W fv xs ∧ Bx W rb [.pointer (some ⟨n, 0, none⟩)] 208

set_option maxHeartbeats 16000000 in
set_option maxRecDepth 4000 in
theorem restF (n n1 sb rb : Nat) (nm : ByteArray) (hn1 : n < n1) (hs1 : n1 ≤ sb) (hr1 : n1 ≤ rb) (sv : Value) (l : List T3) (rest : List Value) (hl : 0 < l.length) (hbig : l.length ≤ 1000000) (hG : GoodT l) (W : World) (i : Nat) (h : Pos n sv rest W i) (hS : TSeg W sv (l.map toZ)) (hi : i ≤ l.length) (hsn : ∀ g, sv.ownBlock = some g → g ≠ n) (t : T3) (ht : t ∈ l) (hk : t.1 = 2) (xs : List Pl.Fld) (hx : xs.length < 32) (hI : InvF n n1 sb rb nm xs W) :
    Calls Tryz.prog 178 #[tokV t, .pointer (some ⟨sb, 0, none⟩), .pointer (some ⟨rb, 0, none⟩)] W (RunsX (Xq n n1) l n sv rest W (Pl.fieldP (kt3 t) ((l.drop i).map kt3)) (fun a w' => InvF n n1 sb rb nm (xs ++ [a]) w')) := by
  obtain ⟨fv, hBs, hRo, hBr⟩ := hI
  have hb1 := below_alloc W (.cells #[.int .i64 (t.1 : Int), .string t.2.1, .int .i64 (t.2.2 : Int)] 165)
  have hBX1 := Bx.new W [.int .i64 (t.1 : Int), .string t.2.1, .int .i64 (t.2.2 : Int)] 165
  have hBs1 := hBs.below hb1
  have hBr1 := hBr.below hb1
  have hP1 := h.below hb1
  have hltn := h.facts.2.2.2
  have hltr := hBr.lt
  have hlts := hBs.lt
  obtain ⟨bX, hbX⟩ : ∃ g, g = W.heap.size := ⟨_, rfl⟩
  have htk : ∀ W2, Below (W.alloc (.cells #[.int .i64 (t.1 : Int), .string t.2.1, .int .i64 (t.2.2 : Int)] 165)).heap.size (W.alloc (.cells #[.int .i64 (t.1 : Int), .string t.2.1, .int .i64 (t.2.2 : Int)] 165)) W2 → Calls Tryz.prog 179 #[.pointer (some ⟨n, 0, none⟩), tokV t] W2 (Runs l n sv rest W2 (Pl.fieldP (kt3 t) ((l.drop i).map kt3)) (FldV W2.heap.size)) := fun W2 hb => pfield_any n sv l rest hl hbig hG W2 i (hP1.below hb) (hS.below (below_next hb1 hb)) hi hsn t ht hk
  generalize Pl.fieldP (kt3 t) ((l.drop i).map kt3) = RES at *
  obtain ⟨adf, cpf, hfv⟩ := hRo.shape
  unfold tokV at htk ⊢
  clear hG hsn ht hS hBs hBr hk
  go_enter Tryz.func178, Tryz.ntmps178
  go_wp2_with fail
  rw [← hbX] at hBX1 ⊢
  have hnX : bX ≠ n := by omega
  have hrX : rb ≠ bX := by omega
  have hsX : sb ≠ bX := by omega
  change Bx (W.alloc (.cells #[.int .i64 (t.1 : Int), .string t.2.1, .int .i64 (t.2.2 : Int)] 165)) _ _ _ at hBX1
  generalize (W.alloc (.cells #[.int .i64 (t.1 : Int), .string t.2.1, .int .i64 (t.2.2 : Int)] 165)) = w1 at *
  have HbX := hid hbX
  clear hbX
  cases RES with
  | bad r er =>
    refine wp_region_drawn2 (pred := fun jx v _ => match jx with | 0 => v = .pointer (some ⟨sb, 1, none⟩) | 1 => v = fv | 2 => v = .pointer (some ⟨n, 0, none⟩) | 3 => v = .pointer (some ⟨n, 0, none⟩) | 4 => v = .pointer (some ⟨n, 0, none⟩) | 5 => v = tokV t | 6 => False | 7 => False | 8 => False | 9 => v = .pointer (some ⟨sb, 1, none⟩) | 10 => True | _ => True) (R := fun Wx => Below w1.heap.size w1 Wx) (by kernel_rfl) (by kernel_rfl) (by kernel_rfl) (fun _ _ _ _ h _ => h) (Below.refl _ _).drew ?step ?done
    case step =>
      intro ix o ho A Wx hsz hdf hfr hdep hR
      rcases ix with _ | _ | _ | _ | _ | _ | _ | _ | _ | _ | _ | ix
      · injection ho with ho
        subst ho
        have e1 : A.eval (.tmp 1) = .pointer (some ⟨sb, 0, none⟩) := (hfr 1 (noDst_spec (by kernel_rfl))).trans rfl
        exact gOp_fld (v := .pointer (some ⟨sb, 1, none⟩)) rfl (wanted_plain rfl) rfl e1 (by go_simp) ⟨_, rfl, rfl, Below.refl _ _, hR⟩
      · injection ho with ho
        subst ho
        have e4 : A.eval (.tmp 4) = .pointer (some ⟨sb, 1, none⟩) := hdep ⟨0, .data⟩ (by simp) rfl _ _ rfl rfl
        have z1 := (hBs1.below hR).cell 1 rfl
        exact gOp_ld (v := fv) rfl (wanted_plain rfl) rfl e4 (by go_simp) ⟨_, rfl, rfl, Below.refl _ _, hR⟩
      · injection ho with ho
        subst ho
        have e2 : A.eval (.tmp 2) = .pointer (some ⟨rb, 0, none⟩) := (hfr 2 (noDst_spec (by kernel_rfl))).trans rfl
        have z1 := (hBr1.below hR).cell 0 rfl
        exact gOp_ld (v := .pointer (some ⟨n, 0, none⟩)) rfl (wanted_plain rfl) rfl e2 (by go_simp) ⟨_, rfl, rfl, Below.refl _ _, hR⟩
      · injection ho with ho
        subst ho
        have e6 : A.eval (.tmp 6) = .pointer (some ⟨n, 0, none⟩) := hdep ⟨2, .data⟩ (by simp) rfl _ _ rfl rfl
        exact gOp_nil rfl (wanted_plain rfl) rfl e6 ⟨_, rfl, rfl, Below.refl _ _, hR⟩
      · injection ho with ho
        subst ho
        have e7 : A.eval (.tmp 7) = .pointer (some ⟨n, 0, none⟩) := hdep ⟨3, .data⟩ (by simp) rfl _ _ rfl rfl
        exact gOp_fld (v := .pointer (some ⟨n, 0, none⟩)) rfl (wanted_plain rfl) rfl e7 (by go_simp) ⟨_, rfl, rfl, Below.refl _ _, hR⟩
      · injection ho with ho
        subst ho
        have e3 : A.eval (.tmp 3) = .pointer (some ⟨bX, 0, none⟩) := (hfr 3 (noDst_spec (by kernel_rfl))).trans rfl
        have z0 := (hBX1.below hR).cell 0 rfl
        have z1 := (hBX1.below hR).cell 1 rfl
        have z2 := (hBX1.below hR).cell 2 rfl
        exact gOp_ld (v := tokV t) rfl (wanted_plain rfl) rfl e3 (by unfold tokV; go_simp) ⟨_, rfl, rfl, Below.refl _ _, hR⟩
      · injection ho with ho
        subst ho
        have e8 : A.eval (.tmp 8) = .pointer (some ⟨n, 0, none⟩) := hdep ⟨4, .data⟩ (by simp) rfl _ _ rfl rfl
        have e9 : A.eval (.tmp 9) = tokV t := hdep ⟨5, .data⟩ (by simp) rfl _ _ rfl rfl
        refine gOp_dies rfl (wanted_plain rfl) 179 #[.pointer (some ⟨n, 0, none⟩), tokV t] (run_call _ (fun _ _ => rfl) _ _ rfl _ (by simp [e8, e9])) ?_
        refine (htk Wx hR).mono ?_
        rintro e w5 ⟨i5, rfl, hi5, hr5, hC5⟩
        exact ⟨_, rfl, hdf, i5, rfl, hi5, hr5, (Ch.below (below_next hb1 hR)).trans (hC5.mono (fun _ _ h => .inl h))⟩
      · injection ho with ho
        subst ho
        exact (hdep ⟨6, .data⟩ (by simp) rfl _ _ rfl rfl).elim
      · injection ho with ho
        subst ho
        exact (hdep ⟨7, .data⟩ (by simp) rfl _ _ rfl rfl).elim
      · injection ho with ho
        subst ho
        have e1 : A.eval (.tmp 1) = .pointer (some ⟨sb, 0, none⟩) := (hfr 1 (noDst_spec (by kernel_rfl))).trans rfl
        exact gOp_fld (v := .pointer (some ⟨sb, 1, none⟩)) rfl (wanted_plain rfl) rfl e1 (by go_simp) ⟨_, rfl, rfl, Below.refl _ _, hR⟩
      · injection ho with ho
        subst ho
        exact (hdep ⟨8, .data⟩ (by simp) rfl _ _ rfl rfl).elim
      · simp at ho
    case done =>
      intro A Wx _ _ _ hcome _
      exact (hcome 6 _ _ rfl rfl).elim
  | ok a5 r5 =>
    have hbD : Below w1.heap.size w1 w1.drew := (Below.refl _ _).drew
    have htk1 := htk _ hbD
    have hRo1 := hRo.ch (X := Xp n) (Ch.below hb1) (fun a c => FldR.ch (X := Xp n) (Ch.below hb1) (fun g hg => Xp.ty g hg) a c) (fun k _ hx => by have := hx.2; revert this; decide)
    obtain ⟨ps, hps, hRp, hown1⟩ := hRo1
    have hpl : xs.length = ps.length := by rw [← hps, List.length_map]
    have hp32 : ps.length < 32 := by omega
    rw [hpl] at hfv
    subst hfv
    have HPS := hid hps
    have HRP := hid hRp
    have Hb1 := hid hb1
    have hn1w : n1 ≤ w1.heap.size := by have := hb1.size; have := hBs1.lt; omega
    have z1 := hBs1.cell 1 rfl
    have z2 := hBr1.cell 0 rfl
    have z3 := hBX1.cell 0 rfl
    have z4 := hBX1.cell 1 rfl
    have z5 := hBX1.cell 2 rfl
    have hsn1 : sb ≠ n := by omega
    have hrn1 : rb ≠ n := by omega
    obtain ⟨i0, hi0, hz0, hz1, hz2⟩ := info_parts Tryz.info83
    clear htk hps hRp hpl hRo hx hb1
    go_region_law (first
      | (refine step_call2p (v := .pointer (some ⟨n, 0, none⟩)) (u := .agg #[.int .i64 (t.1 : Int), .string t.2.1, .int .i64 (t.2.2 : Int)]) (o := { dst := some 10, op := .call { callee := .value (.func 179), args := #[.tmp 8, .tmp 9], argTypes := #[168, 165] }, type := _, pos := _, after := _, guard := none }) 179 (fun _ _ => rfl) rfl 8 9 _ rfl (by simp [Act.put]) (by simp [Act.put]) ?_; refine htk1.mono ?_; rintro e w5 ⟨v5, i5, rfl, hi5, hr5, hP5, hV5, hC5⟩; obtain ⟨s5, k5, sn5, ad5, m5, cp5, hvv5, hnm5, hty5⟩ := hV5.flat; subst hvv5; refine ⟨_, rfl, ?_⟩; have hC15 := Ch.trans (X := Xp n) (Ch.below hbD) hC5; have hBs5 := hBs1.ch hC15 (fun hx => hsn1 hx.1); have hBr5 := hBr1.ch hC15 (fun hx => hrn1 hx.1); have hown5 := own_ch hown1 hC15 (fun k _ hx => by have := hx.2; revert this; decide); have y1 := hBs5.cell 1 rfl; have y2 := hBs5.frozen; have hls5 := hBs5.lt; have hn5 := hC15.size)
      | (refine step_append_lies (o := { dst := some 12, op := .call { callee := .builtin .append, args := #[.tmp 5, .tmp 11], argTypes := #[58, 58] }, type := _, pos := _, after := _, guard := none }) _ rfl (.tmp 5) (.tmp 11) 58 rfl n1 83 i0 _ 5 72 Tryz.underlying58 hi0 hz0 hz1 hz2 rfl (by decide) (.slice adf ps.length cpf) ps.length (ps.flatMap Prod.snd) rfl (own_ch (X := Xp n) hown5 (Ch.alloc _ _) (fun k _ hx => by have := hx.2; revert this; decide)) ⟨w5.heap.size, 0, none⟩ 1 1 [.string s5, .int .i64 (a5.num : Int), .int .i64 k5, .string sn5, .slice ad5 m5 cp5] rfl rfl (World.news_of_block (heap_alloc_new w5 _)) (fun u hu => by simp at hu; rcases hu with rfl | rfl | rfl | rfl | rfl <;> rfl) (by decide) (by unfold maxLen; omega) (by omega) (by simp; omega) _ rfl ?_; intro g cap w6 hown6 hgr6 hat6 hlt6; have hBsA := hBs5.alloc (.cells #[.string s5, .int .i64 (a5.num : Int), .int .i64 k5, .string sn5, .slice ad5 m5 cp5] 83); have hBs6 : Bx w6 sb [.string nm, .slice adf ps.length cpf] 60 := (hgr6.block sb (by simp; omega) (fun e => by obtain ⟨_, cur, hq⟩ := own_block hown5 e.symm; rw [hBs5] at hq; simp at hq)).trans hBsA; have x1 := hBs6.cell 1 rfl; have x2 := hBs6.frozen))
    all_goals
      go_wp2
      go_end0
      obtain ⟨⟨e1, e2, e3⟩, e4, e5⟩ := gather_end (R := FldR n1) (c := [.string s5, .int .i64 (a5.num : Int), .int .i64 k5, .string sn5, .slice ad5 m5 cp5]) a5 (fun w w' hc a c h => FldR.ch hc Xq.ty a c h) (by simp [Xs]) (by decide) (by decide) (by simp [Xs]) hn1 hs1 Hb1.out hC15 hown5 hgr6 hown6 hBs6 hBr5 hP5 HRP.out ⟨s5, k5, sn5, ad5, m5, cp5, rfl, hnm5, TyC.mono (by have := hbD.size; omega) _ _ _ _ hty5⟩ rfl
      rw [HPS.out] at e2
      exact ⟨i5, rfl, hi5, hr5, e4, ⟨_, e1, e2, e3⟩, e5⟩
end Go.Proofs.YtdbgncdnffbhkaaGreatDoor

namespace Go.Proofs.YtdbgncdnffbhkaaGreatDoor
open Go.RowKit
set_option maxRecDepth 20000

theorem Tryz.info86 : (Tryz.prog.info? 86).map (fun i => (i.zero, i.size, i.bytes)) = some (some (.agg #[.string ⟨#[]⟩, .int .i64 0]), 2, 24) := by kernel_rfl

/-- What is gathered of a declaration, in its box. -/
def InvC (n n1 sb rb : Nat) (nm : ByteArray) (xs : List Pl.Cas) (W : World) : Prop := ∃ fv, Bx W sb [.string nm, fv] 64 ∧ Rows 86 2 (CasR) n1 W fv xs ∧ Bx W rb [.pointer (some ⟨n, 0, none⟩)] 208

set_option maxHeartbeats 16000000 in
set_option maxRecDepth 4000 in
theorem restC (n n1 sb rb : Nat) (nm : ByteArray) (hn1 : n < n1) (hs1 : n1 ≤ sb) (hr1 : n1 ≤ rb) (sv : Value) (l : List T3) (rest : List Value) (hl : 0 < l.length) (hbig : l.length ≤ 1000000) (hG : GoodT l) (W : World) (i : Nat) (h : Pos n sv rest W i) (hS : TSeg W sv (l.map toZ)) (hi : i ≤ l.length) (hsn : ∀ g, sv.ownBlock = some g → g ≠ n) (t : T3) (ht : t ∈ l) (hk : t.1 = 2) (xs : List Pl.Cas) (hx : xs.length < 32) (hI : InvC n n1 sb rb nm xs W) :
    Calls Tryz.prog 180 #[tokV t, .pointer (some ⟨sb, 0, none⟩), .pointer (some ⟨rb, 0, none⟩)] W (RunsX (Xq n n1) l n sv rest W (Pl.caseP (kt3 t) ((l.drop i).map kt3)) (fun a w' => InvC n n1 sb rb nm (xs ++ [a]) w')) := by
  obtain ⟨fv, hBs, hRo, hBr⟩ := hI
  have hb1 := below_alloc W (.cells #[.int .i64 (t.1 : Int), .string t.2.1, .int .i64 (t.2.2 : Int)] 165)
  have hBX1 := Bx.new W [.int .i64 (t.1 : Int), .string t.2.1, .int .i64 (t.2.2 : Int)] 165
  have hBs1 := hBs.below hb1
  have hBr1 := hBr.below hb1
  have hP1 := h.below hb1
  have hltn := h.facts.2.2.2
  have hltr := hBr.lt
  have hlts := hBs.lt
  obtain ⟨bX, hbX⟩ : ∃ g, g = W.heap.size := ⟨_, rfl⟩
  have htk : ∀ W2, Below (W.alloc (.cells #[.int .i64 (t.1 : Int), .string t.2.1, .int .i64 (t.2.2 : Int)] 165)).heap.size (W.alloc (.cells #[.int .i64 (t.1 : Int), .string t.2.1, .int .i64 (t.2.2 : Int)] 165)) W2 → Calls Tryz.prog 181 #[.pointer (some ⟨n, 0, none⟩), tokV t] W2 (Runs l n sv rest W2 (Pl.caseP (kt3 t) ((l.drop i).map kt3)) CasV) := fun W2 hb => pcase_any n sv l rest hl hbig hG W2 i (hP1.below hb) (hS.below (below_next hb1 hb)) hi hsn t ht hk
  generalize Pl.caseP (kt3 t) ((l.drop i).map kt3) = RES at *
  obtain ⟨adf, cpf, hfv⟩ := hRo.shape
  unfold tokV at htk ⊢
  clear hG hsn ht hS hBs hBr hk
  go_enter Tryz.func180, Tryz.ntmps180
  go_wp2_with fail
  rw [← hbX] at hBX1 ⊢
  have hnX : bX ≠ n := by omega
  have hrX : rb ≠ bX := by omega
  have hsX : sb ≠ bX := by omega
  change Bx (W.alloc (.cells #[.int .i64 (t.1 : Int), .string t.2.1, .int .i64 (t.2.2 : Int)] 165)) _ _ _ at hBX1
  generalize (W.alloc (.cells #[.int .i64 (t.1 : Int), .string t.2.1, .int .i64 (t.2.2 : Int)] 165)) = w1 at *
  have HbX := hid hbX
  clear hbX
  cases RES with
  | bad r er =>
    refine wp_region_drawn2 (pred := fun jx v _ => match jx with | 0 => v = .pointer (some ⟨sb, 1, none⟩) | 1 => v = fv | 2 => v = .pointer (some ⟨n, 0, none⟩) | 3 => v = .pointer (some ⟨n, 0, none⟩) | 4 => v = .pointer (some ⟨n, 0, none⟩) | 5 => v = tokV t | 6 => False | 7 => False | 8 => False | 9 => v = .pointer (some ⟨sb, 1, none⟩) | 10 => True | _ => True) (R := fun Wx => Below w1.heap.size w1 Wx) (by kernel_rfl) (by kernel_rfl) (by kernel_rfl) (fun _ _ _ _ h _ => h) (Below.refl _ _).drew ?step ?done
    case step =>
      intro ix o ho A Wx hsz hdf hfr hdep hR
      rcases ix with _ | _ | _ | _ | _ | _ | _ | _ | _ | _ | _ | ix
      · injection ho with ho
        subst ho
        have e1 : A.eval (.tmp 1) = .pointer (some ⟨sb, 0, none⟩) := (hfr 1 (noDst_spec (by kernel_rfl))).trans rfl
        exact gOp_fld (v := .pointer (some ⟨sb, 1, none⟩)) rfl (wanted_plain rfl) rfl e1 (by go_simp) ⟨_, rfl, rfl, Below.refl _ _, hR⟩
      · injection ho with ho
        subst ho
        have e4 : A.eval (.tmp 4) = .pointer (some ⟨sb, 1, none⟩) := hdep ⟨0, .data⟩ (by simp) rfl _ _ rfl rfl
        have z1 := (hBs1.below hR).cell 1 rfl
        exact gOp_ld (v := fv) rfl (wanted_plain rfl) rfl e4 (by go_simp) ⟨_, rfl, rfl, Below.refl _ _, hR⟩
      · injection ho with ho
        subst ho
        have e2 : A.eval (.tmp 2) = .pointer (some ⟨rb, 0, none⟩) := (hfr 2 (noDst_spec (by kernel_rfl))).trans rfl
        have z1 := (hBr1.below hR).cell 0 rfl
        exact gOp_ld (v := .pointer (some ⟨n, 0, none⟩)) rfl (wanted_plain rfl) rfl e2 (by go_simp) ⟨_, rfl, rfl, Below.refl _ _, hR⟩
      · injection ho with ho
        subst ho
        have e6 : A.eval (.tmp 6) = .pointer (some ⟨n, 0, none⟩) := hdep ⟨2, .data⟩ (by simp) rfl _ _ rfl rfl
        exact gOp_nil rfl (wanted_plain rfl) rfl e6 ⟨_, rfl, rfl, Below.refl _ _, hR⟩
      · injection ho with ho
        subst ho
        have e7 : A.eval (.tmp 7) = .pointer (some ⟨n, 0, none⟩) := hdep ⟨3, .data⟩ (by simp) rfl _ _ rfl rfl
        exact gOp_fld (v := .pointer (some ⟨n, 0, none⟩)) rfl (wanted_plain rfl) rfl e7 (by go_simp) ⟨_, rfl, rfl, Below.refl _ _, hR⟩
      · injection ho with ho
        subst ho
        have e3 : A.eval (.tmp 3) = .pointer (some ⟨bX, 0, none⟩) := (hfr 3 (noDst_spec (by kernel_rfl))).trans rfl
        have z0 := (hBX1.below hR).cell 0 rfl
        have z1 := (hBX1.below hR).cell 1 rfl
        have z2 := (hBX1.below hR).cell 2 rfl
        exact gOp_ld (v := tokV t) rfl (wanted_plain rfl) rfl e3 (by unfold tokV; go_simp) ⟨_, rfl, rfl, Below.refl _ _, hR⟩
      · injection ho with ho
        subst ho
        have e8 : A.eval (.tmp 8) = .pointer (some ⟨n, 0, none⟩) := hdep ⟨4, .data⟩ (by simp) rfl _ _ rfl rfl
        have e9 : A.eval (.tmp 9) = tokV t := hdep ⟨5, .data⟩ (by simp) rfl _ _ rfl rfl
        refine gOp_dies rfl (wanted_plain rfl) 181 #[.pointer (some ⟨n, 0, none⟩), tokV t] (run_call _ (fun _ _ => rfl) _ _ rfl _ (by simp [e8, e9])) ?_
        refine (htk Wx hR).mono ?_
        rintro e w5 ⟨i5, rfl, hi5, hr5, hC5⟩
        exact ⟨_, rfl, hdf, i5, rfl, hi5, hr5, (Ch.below (below_next hb1 hR)).trans (hC5.mono (fun _ _ h => .inl h))⟩
      · injection ho with ho
        subst ho
        exact (hdep ⟨6, .data⟩ (by simp) rfl _ _ rfl rfl).elim
      · injection ho with ho
        subst ho
        exact (hdep ⟨7, .data⟩ (by simp) rfl _ _ rfl rfl).elim
      · injection ho with ho
        subst ho
        have e1 : A.eval (.tmp 1) = .pointer (some ⟨sb, 0, none⟩) := (hfr 1 (noDst_spec (by kernel_rfl))).trans rfl
        exact gOp_fld (v := .pointer (some ⟨sb, 1, none⟩)) rfl (wanted_plain rfl) rfl e1 (by go_simp) ⟨_, rfl, rfl, Below.refl _ _, hR⟩
      · injection ho with ho
        subst ho
        exact (hdep ⟨8, .data⟩ (by simp) rfl _ _ rfl rfl).elim
      · simp at ho
    case done =>
      intro A Wx _ _ _ hcome _
      exact (hcome 6 _ _ rfl rfl).elim
  | ok a5 r5 =>
    have hbD : Below w1.heap.size w1 w1.drew := (Below.refl _ _).drew
    have htk1 := htk _ hbD
    have hRo1 := hRo.ch (X := Xp n) (Ch.below hb1) (fun _ _ h => h) (fun k _ hx => by have := hx.2; revert this; decide)
    obtain ⟨ps, hps, hRp, hown1⟩ := hRo1
    have hpl : xs.length = ps.length := by rw [← hps, List.length_map]
    have hp32 : ps.length < 32 := by omega
    rw [hpl] at hfv
    subst hfv
    have HPS := hid hps
    have HRP := hid hRp
    have Hb1 := hid hb1
    have hn1w : n1 ≤ w1.heap.size := by have := hb1.size; have := hBs1.lt; omega
    have z1 := hBs1.cell 1 rfl
    have z2 := hBr1.cell 0 rfl
    have z3 := hBX1.cell 0 rfl
    have z4 := hBX1.cell 1 rfl
    have z5 := hBX1.cell 2 rfl
    have hsn1 : sb ≠ n := by omega
    have hrn1 : rb ≠ n := by omega
    obtain ⟨i0, hi0, hz0, hz1, hz2⟩ := info_parts Tryz.info86
    clear htk hps hRp hpl hRo hx hb1
    go_region_law (first
      | (refine step_call2p (v := .pointer (some ⟨n, 0, none⟩)) (u := .agg #[.int .i64 (t.1 : Int), .string t.2.1, .int .i64 (t.2.2 : Int)]) (o := { dst := some 10, op := .call { callee := .value (.func 181), args := #[.tmp 8, .tmp 9], argTypes := #[168, 165] }, type := _, pos := _, after := _, guard := none }) 181 (fun _ _ => rfl) rfl 8 9 _ rfl (by simp [Act.put]) (by simp [Act.put]) ?_; refine htk1.mono ?_; rintro e w5 ⟨v5, i5, rfl, hi5, hr5, hP5, hV5, hC5⟩; obtain ⟨s5, hvv5, hnm5⟩ := hV5.flat; subst hvv5; refine ⟨_, rfl, ?_⟩; have hC15 := Ch.trans (X := Xp n) (Ch.below hbD) hC5; have hBs5 := hBs1.ch hC15 (fun hx => hsn1 hx.1); have hBr5 := hBr1.ch hC15 (fun hx => hrn1 hx.1); have hown5 := own_ch hown1 hC15 (fun k _ hx => by have := hx.2; revert this; decide); have y1 := hBs5.cell 1 rfl; have y2 := hBs5.frozen; have hls5 := hBs5.lt; have hn5 := hC15.size)
      | (refine step_append_lies (o := { dst := some 12, op := .call { callee := .builtin .append, args := #[.tmp 5, .tmp 11], argTypes := #[62, 62] }, type := _, pos := _, after := _, guard := none }) _ rfl (.tmp 5) (.tmp 11) 62 rfl n1 86 i0 _ 2 24 Tryz.underlying62 hi0 hz0 hz1 hz2 rfl (by decide) (.slice adf ps.length cpf) ps.length (ps.flatMap Prod.snd) rfl (own_ch (X := Xp n) hown5 (Ch.alloc _ _) (fun k _ hx => by have := hx.2; revert this; decide)) ⟨w5.heap.size, 0, none⟩ 1 1 [.string s5, .int .i64 (a5.num : Int)] rfl rfl (World.news_of_block (heap_alloc_new w5 _)) (fun u hu => by simp at hu; rcases hu with rfl | rfl <;> rfl) (by decide) (by unfold maxLen; omega) (by omega) (by simp; omega) _ rfl ?_; intro g cap w6 hown6 hgr6 hat6 hlt6; have hBsA := hBs5.alloc (.cells #[.string s5, .int .i64 (a5.num : Int)] 86); have hBs6 : Bx w6 sb [.string nm, .slice adf ps.length cpf] 64 := (hgr6.block sb (by simp; omega) (fun e => by obtain ⟨_, cur, hq⟩ := own_block hown5 e.symm; rw [hBs5] at hq; simp at hq)).trans hBsA; have x1 := hBs6.cell 1 rfl; have x2 := hBs6.frozen))
    all_goals
      go_wp2
      go_end0
      obtain ⟨⟨e1, e2, e3⟩, e4, e5⟩ := gather_end (R := CasR) (c := [.string s5, .int .i64 (a5.num : Int)]) a5 (fun _ _ _ _ _ h => h) (by simp [Xs]) (by decide) (by decide) (by simp [Xs]) hn1 hs1 Hb1.out hC15 hown5 hgr6 hown6 hBs6 hBr5 hP5 HRP.out ⟨s5, rfl, hnm5⟩ rfl
      rw [HPS.out] at e2
      exact ⟨i5, rfl, hi5, hr5, e4, ⟨_, e1, e2, e3⟩, e5⟩
end Go.Proofs.YtdbgncdnffbhkaaGreatDoor

namespace Go.Proofs.YtdbgncdnffbhkaaGreatDoor
open Go.RowKit
set_option maxRecDepth 20000

theorem Tryz.info36 : (Tryz.prog.info? 36).map (fun i => (i.zero, i.size, i.bytes)) = some (some (.agg #[.string ⟨#[]⟩, .bool false, .int .i64 0, .string ⟨#[]⟩, .slice none 0 0, .int .i64 0, .string ⟨#[]⟩, .slice none 0 0]), 8, 120) := by kernel_rfl

/-- What is gathered of a declaration, in its box. -/
def InvM (n n1 sb rb : Nat) (nm : ByteArray) (xs : List Pl.Mth) (W : World) : Prop := ∃ fv, Bx W sb [.string nm, fv] 67 ∧ Rows 36 8 (MthR n1) n1 W fv xs ∧ Bx W rb [.pointer (some ⟨n, 0, none⟩)] 208

set_option maxHeartbeats 16000000 in
set_option maxRecDepth 4000 in
theorem restM (n n1 sb rb : Nat) (nm : ByteArray) (hn1 : n < n1) (hs1 : n1 ≤ sb) (hr1 : n1 ≤ rb) (sv : Value) (l : List T3) (rest : List Value) (hl : 0 < l.length) (hbig : l.length ≤ 1000000) (hG : GoodT l) (W : World) (i : Nat) (h : Pos n sv rest W i) (hS : TSeg W sv (l.map toZ)) (hi : i ≤ l.length) (hsn : ∀ g, sv.ownBlock = some g → g ≠ n) (t : T3) (ht : t ∈ l) (xs : List Pl.Mth) (hx : xs.length < 32) (hI : InvM n n1 sb rb nm xs W) :
    Calls Tryz.prog 182 #[tokV t, .pointer (some ⟨sb, 0, none⟩), .pointer (some ⟨rb, 0, none⟩)] W (RunsX (Xq n n1) l n sv rest W (Pl.methodP (kt3 t) ((l.drop i).map kt3)) (fun a w' => InvM n n1 sb rb nm (xs ++ [a]) w')) := by
  obtain ⟨fv, hBs, hRo, hBr⟩ := hI
  have hb1 := below_alloc W (.cells #[.int .i64 (t.1 : Int), .string t.2.1, .int .i64 (t.2.2 : Int)] 165)
  have hBX1 := Bx.new W [.int .i64 (t.1 : Int), .string t.2.1, .int .i64 (t.2.2 : Int)] 165
  have hBs1 := hBs.below hb1
  have hBr1 := hBr.below hb1
  have hP1 := h.below hb1
  have hltn := h.facts.2.2.2
  have hltr := hBr.lt
  have hlts := hBs.lt
  obtain ⟨bX, hbX⟩ : ∃ g, g = W.heap.size := ⟨_, rfl⟩
  have htk : ∀ W2, Below (W.alloc (.cells #[.int .i64 (t.1 : Int), .string t.2.1, .int .i64 (t.2.2 : Int)] 165)).heap.size (W.alloc (.cells #[.int .i64 (t.1 : Int), .string t.2.1, .int .i64 (t.2.2 : Int)] 165)) W2 → Calls Tryz.prog 183 #[.pointer (some ⟨n, 0, none⟩), tokV t] W2 (Runs l n sv rest W2 (Pl.methodP (kt3 t) ((l.drop i).map kt3)) (MthV W2.heap.size)) := fun W2 hb => pmethod_any n sv l rest hl hbig hG W2 i (hP1.below hb) (hS.below (below_next hb1 hb)) hi hsn t ht
  generalize Pl.methodP (kt3 t) ((l.drop i).map kt3) = RES at *
  obtain ⟨adf, cpf, hfv⟩ := hRo.shape
  unfold tokV at htk ⊢
  clear hG hsn ht hS hBs hBr
  go_enter Tryz.func182, Tryz.ntmps182
  go_wp2_with fail
  rw [← hbX] at hBX1 ⊢
  have hnX : bX ≠ n := by omega
  have hrX : rb ≠ bX := by omega
  have hsX : sb ≠ bX := by omega
  change Bx (W.alloc (.cells #[.int .i64 (t.1 : Int), .string t.2.1, .int .i64 (t.2.2 : Int)] 165)) _ _ _ at hBX1
  generalize (W.alloc (.cells #[.int .i64 (t.1 : Int), .string t.2.1, .int .i64 (t.2.2 : Int)] 165)) = w1 at *
  have HbX := hid hbX
  clear hbX
  cases RES with
  | bad r er =>
    refine wp_region_drawn2 (pred := fun jx v _ => match jx with | 0 => v = .pointer (some ⟨sb, 1, none⟩) | 1 => v = fv | 2 => v = .pointer (some ⟨n, 0, none⟩) | 3 => v = .pointer (some ⟨n, 0, none⟩) | 4 => v = .pointer (some ⟨n, 0, none⟩) | 5 => v = tokV t | 6 => False | 7 => False | 8 => False | 9 => v = .pointer (some ⟨sb, 1, none⟩) | 10 => True | _ => True) (R := fun Wx => Below w1.heap.size w1 Wx) (by kernel_rfl) (by kernel_rfl) (by kernel_rfl) (fun _ _ _ _ h _ => h) (Below.refl _ _).drew ?step ?done
    case step =>
      intro ix o ho A Wx hsz hdf hfr hdep hR
      rcases ix with _ | _ | _ | _ | _ | _ | _ | _ | _ | _ | _ | ix
      · injection ho with ho
        subst ho
        have e1 : A.eval (.tmp 1) = .pointer (some ⟨sb, 0, none⟩) := (hfr 1 (noDst_spec (by kernel_rfl))).trans rfl
        exact gOp_fld (v := .pointer (some ⟨sb, 1, none⟩)) rfl (wanted_plain rfl) rfl e1 (by go_simp) ⟨_, rfl, rfl, Below.refl _ _, hR⟩
      · injection ho with ho
        subst ho
        have e4 : A.eval (.tmp 4) = .pointer (some ⟨sb, 1, none⟩) := hdep ⟨0, .data⟩ (by simp) rfl _ _ rfl rfl
        have z1 := (hBs1.below hR).cell 1 rfl
        exact gOp_ld (v := fv) rfl (wanted_plain rfl) rfl e4 (by go_simp) ⟨_, rfl, rfl, Below.refl _ _, hR⟩
      · injection ho with ho
        subst ho
        have e2 : A.eval (.tmp 2) = .pointer (some ⟨rb, 0, none⟩) := (hfr 2 (noDst_spec (by kernel_rfl))).trans rfl
        have z1 := (hBr1.below hR).cell 0 rfl
        exact gOp_ld (v := .pointer (some ⟨n, 0, none⟩)) rfl (wanted_plain rfl) rfl e2 (by go_simp) ⟨_, rfl, rfl, Below.refl _ _, hR⟩
      · injection ho with ho
        subst ho
        have e6 : A.eval (.tmp 6) = .pointer (some ⟨n, 0, none⟩) := hdep ⟨2, .data⟩ (by simp) rfl _ _ rfl rfl
        exact gOp_nil rfl (wanted_plain rfl) rfl e6 ⟨_, rfl, rfl, Below.refl _ _, hR⟩
      · injection ho with ho
        subst ho
        have e7 : A.eval (.tmp 7) = .pointer (some ⟨n, 0, none⟩) := hdep ⟨3, .data⟩ (by simp) rfl _ _ rfl rfl
        exact gOp_fld (v := .pointer (some ⟨n, 0, none⟩)) rfl (wanted_plain rfl) rfl e7 (by go_simp) ⟨_, rfl, rfl, Below.refl _ _, hR⟩
      · injection ho with ho
        subst ho
        have e3 : A.eval (.tmp 3) = .pointer (some ⟨bX, 0, none⟩) := (hfr 3 (noDst_spec (by kernel_rfl))).trans rfl
        have z0 := (hBX1.below hR).cell 0 rfl
        have z1 := (hBX1.below hR).cell 1 rfl
        have z2 := (hBX1.below hR).cell 2 rfl
        exact gOp_ld (v := tokV t) rfl (wanted_plain rfl) rfl e3 (by unfold tokV; go_simp) ⟨_, rfl, rfl, Below.refl _ _, hR⟩
      · injection ho with ho
        subst ho
        have e8 : A.eval (.tmp 8) = .pointer (some ⟨n, 0, none⟩) := hdep ⟨4, .data⟩ (by simp) rfl _ _ rfl rfl
        have e9 : A.eval (.tmp 9) = tokV t := hdep ⟨5, .data⟩ (by simp) rfl _ _ rfl rfl
        refine gOp_dies rfl (wanted_plain rfl) 183 #[.pointer (some ⟨n, 0, none⟩), tokV t] (run_call _ (fun _ _ => rfl) _ _ rfl _ (by simp [e8, e9])) ?_
        refine (htk Wx hR).mono ?_
        rintro e w5 ⟨i5, rfl, hi5, hr5, hC5⟩
        exact ⟨_, rfl, hdf, i5, rfl, hi5, hr5, (Ch.below (below_next hb1 hR)).trans (hC5.mono (fun _ _ h => .inl h))⟩
      · injection ho with ho
        subst ho
        exact (hdep ⟨6, .data⟩ (by simp) rfl _ _ rfl rfl).elim
      · injection ho with ho
        subst ho
        exact (hdep ⟨7, .data⟩ (by simp) rfl _ _ rfl rfl).elim
      · injection ho with ho
        subst ho
        have e1 : A.eval (.tmp 1) = .pointer (some ⟨sb, 0, none⟩) := (hfr 1 (noDst_spec (by kernel_rfl))).trans rfl
        exact gOp_fld (v := .pointer (some ⟨sb, 1, none⟩)) rfl (wanted_plain rfl) rfl e1 (by go_simp) ⟨_, rfl, rfl, Below.refl _ _, hR⟩
      · injection ho with ho
        subst ho
        exact (hdep ⟨8, .data⟩ (by simp) rfl _ _ rfl rfl).elim
      · simp at ho
    case done =>
      intro A Wx _ _ _ hcome _
      exact (hcome 6 _ _ rfl rfl).elim
  | ok a5 r5 =>
    have hbD : Below w1.heap.size w1 w1.drew := (Below.refl _ _).drew
    have htk1 := htk _ hbD
    have hRo1 := hRo.ch (X := Xp n) (Ch.below hb1) (fun a c => MthR.ch (X := Xp n) (Ch.below hb1) (fun g hg => Xp.ty g hg) a c) (fun k _ hx => by have := hx.2; revert this; decide)
    obtain ⟨ps, hps, hRp, hown1⟩ := hRo1
    have hpl : xs.length = ps.length := by rw [← hps, List.length_map]
    have hp32 : ps.length < 32 := by omega
    rw [hpl] at hfv
    subst hfv
    have HPS := hid hps
    have HRP := hid hRp
    have Hb1 := hid hb1
    have hn1w : n1 ≤ w1.heap.size := by have := hb1.size; have := hBs1.lt; omega
    have z1 := hBs1.cell 1 rfl
    have z2 := hBr1.cell 0 rfl
    have z3 := hBX1.cell 0 rfl
    have z4 := hBX1.cell 1 rfl
    have z5 := hBX1.cell 2 rfl
    have hsn1 : sb ≠ n := by omega
    have hrn1 : rb ≠ n := by omega
    obtain ⟨i0, hi0, hz0, hz1, hz2⟩ := info_parts Tryz.info36
    clear htk hps hRp hpl hRo hx hb1
    go_region_law (first
      | (refine step_call2p (v := .pointer (some ⟨n, 0, none⟩)) (u := .agg #[.int .i64 (t.1 : Int), .string t.2.1, .int .i64 (t.2.2 : Int)]) (o := { dst := some 10, op := .call { callee := .value (.func 183), args := #[.tmp 8, .tmp 9], argTypes := #[168, 165] }, type := _, pos := _, after := _, guard := none }) 183 (fun _ _ => rfl) rfl 8 9 _ rfl (by simp [Act.put]) (by simp [Act.put]) ?_; refine htk1.mono ?_; rintro e w5 ⟨v5, i5, rfl, hi5, hr5, hP5, hV5, hC5⟩; obtain ⟨s5, k5, sn5, ad5, m5, cp5, k6, sn6, ad6, m6, cp6, hvv5, hnm5, hty5, htz5⟩ := hV5.flat; subst hvv5; refine ⟨_, rfl, ?_⟩; have hC15 := Ch.trans (X := Xp n) (Ch.below hbD) hC5; have hBs5 := hBs1.ch hC15 (fun hx => hsn1 hx.1); have hBr5 := hBr1.ch hC15 (fun hx => hrn1 hx.1); have hown5 := own_ch hown1 hC15 (fun k _ hx => by have := hx.2; revert this; decide); have y1 := hBs5.cell 1 rfl; have y2 := hBs5.frozen; have hls5 := hBs5.lt; have hn5 := hC15.size)
      | (refine step_append_lies (o := { dst := some 12, op := .call { callee := .builtin .append, args := #[.tmp 5, .tmp 11], argTypes := #[65, 65] }, type := _, pos := _, after := _, guard := none }) _ rfl (.tmp 5) (.tmp 11) 65 rfl n1 36 i0 _ 8 120 Tryz.underlying65 hi0 hz0 hz1 hz2 rfl (by decide) (.slice adf ps.length cpf) ps.length (ps.flatMap Prod.snd) rfl (own_ch (X := Xp n) hown5 (Ch.alloc _ _) (fun k _ hx => by have := hx.2; revert this; decide)) ⟨w5.heap.size, 0, none⟩ 1 1 [.string s5, .bool a5.once, .int .i64 k5, .string sn5, .slice ad5 m5 cp5, .int .i64 k6, .string sn6, .slice ad6 m6 cp6] rfl rfl (World.news_of_block (heap_alloc_new w5 _)) (fun u hu => by simp at hu; rcases hu with rfl | rfl | rfl | rfl | rfl | rfl | rfl | rfl <;> rfl) (by decide) (by unfold maxLen; omega) (by omega) (by simp; omega) _ rfl ?_; intro g cap w6 hown6 hgr6 hat6 hlt6; have hBsA := hBs5.alloc (.cells #[.string s5, .bool a5.once, .int .i64 k5, .string sn5, .slice ad5 m5 cp5, .int .i64 k6, .string sn6, .slice ad6 m6 cp6] 36); have hBs6 : Bx w6 sb [.string nm, .slice adf ps.length cpf] 67 := (hgr6.block sb (by simp; omega) (fun e => by obtain ⟨_, cur, hq⟩ := own_block hown5 e.symm; rw [hBs5] at hq; simp at hq)).trans hBsA; have x1 := hBs6.cell 1 rfl; have x2 := hBs6.frozen))
    all_goals
      go_wp2
      go_end0
      obtain ⟨⟨e1, e2, e3⟩, e4, e5⟩ := gather_end (R := MthR n1) (c := [.string s5, .bool a5.once, .int .i64 k5, .string sn5, .slice ad5 m5 cp5, .int .i64 k6, .string sn6, .slice ad6 m6 cp6]) a5 (fun w w' hc a c h => MthR.ch hc Xq.ty a c h) (by simp [Xs]) (by decide) (by decide) (by simp [Xs]) hn1 hs1 Hb1.out hC15 hown5 hgr6 hown6 hBs6 hBr5 hP5 HRP.out ⟨s5, k5, sn5, ad5, m5, cp5, k6, sn6, ad6, m6, cp6, rfl, hnm5, TyC.mono (by have := hbD.size; omega) _ _ _ _ hty5, TyC.mono (by have := hbD.size; omega) _ _ _ _ htz5⟩ rfl
      rw [HPS.out] at e2
      exact ⟨i5, rfl, hi5, hr5, e4, ⟨_, e1, e2, e3⟩, e5⟩
end Go.Proofs.YtdbgncdnffbhkaaGreatDoor

namespace Go.Proofs.YtdbgncdnffbhkaaGreatDoor
open Go.RowKit
set_option maxRecDepth 20000

theorem bind_assoc {α β γ : Type} (x : Pl.Res α) (f : α → List Pl.Kt → Pl.Res β) (g : β → List Pl.Kt → Pl.Res γ) : (x.bind f).bind g = x.bind fun a r => (f a r).bind g := by cases x <;> rfl

/-- The declarations' cells: name, parts. -/
def SctR (B : Nat) (x : List Nat × List Pl.Fld) (c : List Value) (w : World) : Prop := ∃ s ad m cp, c = [.string s, .slice ad m cp] ∧ bl s = x.1 ∧ Rows 83 5 (FldR B) B w (.slice ad m cp) x.2
def EnmR (B : Nat) (x : List Nat × List Pl.Cas) (c : List Value) (w : World) : Prop := ∃ s ad m cp, c = [.string s, .slice ad m cp] ∧ bl s = x.1 ∧ Rows 86 2 CasR B w (.slice ad m cp) x.2
def SvcR (B : Nat) (x : List Nat × List Pl.Mth) (c : List Value) (w : World) : Prop := ∃ s ad m cp, c = [.string s, .slice ad m cp] ∧ bl s = x.1 ∧ Rows 36 8 (MthR B) B w (.slice ad m cp) x.2

/-- The place, and a row of declarations from B on. -/
def Xt (n B : Nat) (Tr : TypeId) (g : Nat) (T : TypeId) : Prop := Xp n g T ∨ (B ≤ g ∧ T = Tr)
def isTr (Tr : TypeId) : Prop := Tr = 60 ∨ Tr = 64 ∨ Tr = 67
theorem Xt.not {n B : Nat} {Tr : TypeId} {g : Nat} {T : TypeId} (h1 : T ≠ 170) (h2 : T ≠ Tr) : ¬ Xt n B Tr g T := by
  rintro (h | h)
  · exact h1 h.2
  · exact h2 h.2
theorem tr_not {Tr : TypeId} (h : isTr Tr) : 34 ≠ Tr ∧ 83 ≠ Tr ∧ 86 ≠ Tr ∧ 36 ≠ Tr := by
  rcases h with rfl | rfl | rfl <;> decide

theorem SctR.ch {n B : Nat} {Tr : TypeId} (hT : isTr Tr) {w w' : World} (hc : Ch (Xt n B Tr) w w') (x : List Nat × List Pl.Fld) (c : List Value) (h : SctR B x c w) : SctR B x c w' := by
  obtain ⟨s, ad, m, cp, h1, h2, h3⟩ := h
  obtain ⟨t1, t2, t3, t4⟩ := tr_not hT
  exact ⟨s, ad, m, cp, h1, h2, h3.ch hc (fun a c h => FldR.ch hc (fun g _ => Xt.not (by decide) t1) a c h) (fun k _ => Xt.not (by decide) t2)⟩
theorem EnmR.ch {n B : Nat} {Tr : TypeId} (hT : isTr Tr) {w w' : World} (hc : Ch (Xt n B Tr) w w') (x : List Nat × List Pl.Cas) (c : List Value) (h : EnmR B x c w) : EnmR B x c w' := by
  obtain ⟨s, ad, m, cp, h1, h2, h3⟩ := h
  obtain ⟨t1, t2, t3, t4⟩ := tr_not hT
  exact ⟨s, ad, m, cp, h1, h2, h3.ch hc (fun a c h => h) (fun k _ => Xt.not (by decide) t3)⟩
theorem SvcR.ch {n B : Nat} {Tr : TypeId} (hT : isTr Tr) {w w' : World} (hc : Ch (Xt n B Tr) w w') (x : List Nat × List Pl.Mth) (c : List Value) (h : SvcR B x c w) : SvcR B x c w' := by
  obtain ⟨s, ad, m, cp, h1, h2, h3⟩ := h
  obtain ⟨t1, t2, t3, t4⟩ := tr_not hT
  exact ⟨s, ad, m, cp, h1, h2, h3.ch hc (fun a c h => MthR.ch hc (fun g _ => Xt.not (by decide) t1) a c h) (fun k _ => Xt.not (by decide) t4)⟩

theorem Rows.mono {α : Type} {T : TypeId} {m : Nat} {R R' : α → List Value → World → Prop} {B B' : Nat} {w : World} {v : Value} {xs : List α} (h : Rows T m R B w v xs) (hB : B' ≤ B) (hR : ∀ a c, R a c w → R' a c w) : Rows T m R' B' w v xs := by
  obtain ⟨ps, h1, h2, h3⟩ := h
  refine ⟨ps, h1, fun p hp => ⟨hR _ _ (h2 p hp).1, (h2 p hp).2⟩, h3.1, ?_⟩
  rcases h3.2 with h0 | ⟨g, cap, cur, e, hb, hr⟩
  · exact .inl h0
  · exact .inr ⟨g, cap, cur, e, Nat.le_trans hB hb, hr⟩
theorem FldR.mono {B B' : Nat} (hB : B' ≤ B) {w : World} (f : Pl.Fld) (c : List Value) (h : FldR B f c w) : FldR B' f c w := by
  obtain ⟨s, k, sn, ad, m, cp, h1, h2, h3⟩ := h
  exact ⟨s, k, sn, ad, m, cp, h1, h2, TyC.mono hB _ _ _ _ h3⟩
theorem MthR.mono {B B' : Nat} (hB : B' ≤ B) {w : World} (f : Pl.Mth) (c : List Value) (h : MthR B f c w) : MthR B' f c w := by
  obtain ⟨s, k, sn, ad, m, cp, k', sn', ad', m', cp', h1, h2, h3, h4⟩ := h
  exact ⟨s, k, sn, ad, m, cp, k', sn', ad', m', cp', h1, h2, TyC.mono hB _ _ _ _ h3, TyC.mono hB _ _ _ _ h4⟩
theorem Ch.old {n : Nat} {w w' : World} (h : Ch (Xq n w.heap.size) w w') : Ch (Xp n) w w' :=
  ⟨h.os, h.tape, h.output, h.size, fun g o ho hn => h.block g o ho (fun cs T r e hx => by
    rcases hx with hx | hx
    · exact hn cs T r e hx
    · have := lt_of_some ho
      omega)⟩

theorem InvF.keep {n n1 sb rb : Nat} {nm : ByteArray} (hs : sb ≠ n) (xs : List Pl.Fld) (W W' : World) (h : InvF n n1 sb rb nm xs W) (hc : Ch (Xp n) W W') : InvF n n1 sb rb nm xs W' := by
  obtain ⟨fv, h1, h2, h3⟩ := h
  exact ⟨fv, h1.ch hc (fun hx => hs hx.1), h2.ch hc (fun a c h => FldR.ch hc (fun g hg => Xp.ty g hg) a c h) (fun k _ hx => by have := hx.2; revert this; decide), h3.ch hc (fun hx => by have := hx.2; revert this; decide)⟩
theorem InvC.keep {n n1 sb rb : Nat} {nm : ByteArray} (hs : sb ≠ n) (xs : List Pl.Cas) (W W' : World) (h : InvC n n1 sb rb nm xs W) (hc : Ch (Xp n) W W') : InvC n n1 sb rb nm xs W' := by
  obtain ⟨fv, h1, h2, h3⟩ := h
  exact ⟨fv, h1.ch hc (fun hx => hs hx.1), h2.ch hc (fun a c h => h) (fun k _ hx => by have := hx.2; revert this; decide), h3.ch hc (fun hx => by have := hx.2; revert this; decide)⟩
theorem InvM.keep {n n1 sb rb : Nat} {nm : ByteArray} (hs : sb ≠ n) (xs : List Pl.Mth) (W W' : World) (h : InvM n n1 sb rb nm xs W) (hc : Ch (Xp n) W W') : InvM n n1 sb rb nm xs W' := by
  obtain ⟨fv, h1, h2, h3⟩ := h
  exact ⟨fv, h1.ch hc (fun hx => hs hx.1), h2.ch hc (fun a c h => MthR.ch hc (fun g hg => Xp.ty g hg) a c h) (fun k _ hx => by have := hx.2; revert this; decide), h3.ch hc (fun hx => by have := hx.2; revert this; decide)⟩

/-- A declaration is read: it stands in its row, or the fault. -/
def ReadD {α : Type} (n B : Nat) (Tr : TypeId) (l : List T3) (sv : Value) (mk : Value → List Value) (R : α → List Value → World → Prop) (xs : List α) (W : World) (res : Pl.Res α) (e : Ending) (w' : World) : Prop :=
  match res with
  | .ok a r => ∃ i' u', e = .returned (.tuple #[]) ∧ i' ≤ l.length ∧ r = (l.drop i').map kt3 ∧ Pos n sv (mk u') w' i' ∧ Rows Tr 2 R B w' u' (xs ++ [a]) ∧ Ch (Xt n B Tr) W w'
  | .bad r er => ∃ i', e = .panicked (fault (lineAt l i') er) ∧ i' ≤ l.length ∧ r = (l.drop i').map kt3 ∧ Ch (Xt n B Tr) W w'

/-- One declaration more stands in its row, and the reading knows it: rest is what lies behind the place, k the cell that is written. -/
theorem decl_end {α : Type} {Tr : TypeId} {n B i5 k : Nat} {sv v u : Value} {rest rest' : List Value} {R : α → List Value → World → Prop} {W w5 wA w6 : World} {ps : List (α × List Value)} {c : List Value} (a5 : α) (hTr : isTr Tr)
    (hst : ∀ w w', Ch (Xt n B Tr) w w' → ∀ a c, R a c w → R a c w') (hC5 : Ch (Xp n) W w5) (hRP : ∀ p ∈ ps, R p.1 p.2 W ∧ p.2.length = 2) (hown5 : w5.ownsRow B Tr 2 v ps.length (ps.flatMap Prod.snd)) (hbA : Below w5.heap.size w5 wA) (hgr : wA.grownBy w6 v.ownBlock) (hown6 : w6.ownsRow B Tr 2 u (ps.length + 1) (ps.flatMap Prod.snd ++ c))
    (hP6 : Pos n sv rest w6 i5) (hr : (sv :: .int .i64 (i5 : Int) :: rest).set k u = sv :: .int .i64 (i5 : Int) :: rest') (hnew : R a5 c w5) (hc : c.length = 2) :
    Pos n sv rest' (w6.setCell ⟨n, k, none⟩ u) i5 ∧ Rows Tr 2 R B (w6.setCell ⟨n, k, none⟩ u) u (ps.map Prod.fst ++ [a5]) ∧ Ch (Xt n B Tr) W (w6.setCell ⟨n, k, none⟩ u) := by
  have hT1 : Tr ≠ 170 := by rcases hTr with rfl | rfl | rfl <;> decide
  have hownA := own_ch (X := Xp n) hown5 (Ch.below hbA) (fun k _ hx => hT1 hx.2)
  have hC56 : Ch (Xt n B Tr) w5 w6 := grown_ch hownA (Ch.below hbA) hgr (fun k hk => .inr ⟨hk, rfl⟩)
  have hC5' : Ch (Xt n B Tr) W w5 := hC5.mono (fun _ _ h => .inl h)
  have hCs : Ch (Xp n) w6 (w6.setCell ⟨n, k, none⟩ u) := Ch.set hP6 ⟨rfl, rfl⟩ u
  have hCs' : Ch (Xt n B Tr) w6 (w6.setCell ⟨n, k, none⟩ u) := hCs.mono (fun _ _ h => .inl h)
  refine ⟨?_, ?_, (hC5'.trans hC56).trans hCs'⟩
  · have := Bx.set hP6 k u
    rw [hr] at this
    exact this
  · exact (Rows.more hRP (hst _ _ (hC5'.trans hC56)) a5 c (hst _ _ hC56 _ _ hnew) hc hown6).ch hCs (hst _ _ hCs') (fun k _ hx => hT1 hx.2)
end Go.Proofs.YtdbgncdnffbhkaaGreatDoor

namespace Go.Proofs.YtdbgncdnffbhkaaGreatDoor
open Go.RowKit
set_option maxRecDepth 20000

theorem Tryz.info60 : (Tryz.prog.info? 60).map (fun i => (i.zero, i.size, i.bytes)) = some (some (.agg #[.string ⟨#[]⟩, .slice none 0 0]), 2, 40) := by kernel_rfl

set_option maxHeartbeats 16000000 in
set_option maxRecDepth 4000 in
theorem readF (B n : Nat) (sv : Value) (l : List T3) (s1 s2 s3 : Value) (hl : 0 < l.length) (hbig : l.length ≤ 1000000) (hG : GoodT l) (W : World) (i : Nat) (h : Pos n sv [s1, s2, s3] W i) (hS : TSeg W sv (l.map toZ)) (hi : i ≤ l.length) (hBn : B ≤ n) (hsB : ∀ g, sv.ownBlock = some g → g < B) (xs : List (List Nat × List Pl.Fld)) (hx : xs.length < 100) (hRo : Rows 60 2 (SctR B) B W s1 xs) :
    Calls Tryz.prog 147 #[.pointer (some ⟨n, 0, none⟩)] W (ReadD n B 60 l sv (fun u' => [u', s2, s3]) (SctR B) xs W (Pl.bodyP Pl.numT Pl.fieldP ((l.drop i).map kt3))) := by
  have hpure : Pl.bodyP Pl.numT Pl.fieldP ((l.drop i).map kt3) = (Pl.takeP Pl.nameT ((l.drop i).map kt3)).bind fun nn r => ((Pl.takeP (Pl.isT [123]) r).bind fun _ r => Pl.partsP Pl.numT Pl.fieldP 32 r).bind fun xs r => .ok (nn.2, xs) r := by
    unfold Pl.bodyP
    congr 1
    funext nn r
    rw [bind_assoc]
  rw [hpure]
  generalize hRES : ((Pl.takeP Pl.nameT ((l.drop i).map kt3)).bind fun nn r => ((Pl.takeP (Pl.isT [123]) r).bind fun _ r => Pl.partsP Pl.numT Pl.fieldP 32 r).bind fun xs r => Pl.Res.ok (nn.2, xs) r) = RES
  have HR := hid hRES
  have HS := hid hS
  have HG := hid hG
  obtain ⟨n1, hn1⟩ : ∃ n1, n1 = W.heap.size := ⟨_, rfl⟩
  have hlt : n < W.heap.size := h.facts.2.2.2
  have HNN : Hid (n < n1) := by rw [hn1]; exact hlt
  have HN : Hid (∀ g, sv.ownBlock = some g → g ≠ n) := fun g hg => by have := hsB g hg; omega
  have HNq : Hid (∀ g, sv.ownBlock = some g → ∀ T, ¬ Xq n n1 g T) := fun g hg T hq => by
    have := hsB g hg
    rcases hq with hq | hq
    · have := hq.1
      omega
    · have := HNN.out
      omega
  have hmf : ∀ (fn : Fn) (first cap : Array Value) (w : World), (Instr.makeFunc fn first cap).run Tryz.prog w = .ok (.func fn first cap) w := fun _ _ _ _ => rfl
  clear hRES hpure hG
  go_enter Tryz.func147, Tryz.ntmps147
  go_wp2_with fail
  have hb1 := below_alloc W (.cells #[.pointer (some ⟨n, 0, none⟩)] 208)
  have hBr1 := Bx.new W [.pointer (some ⟨n, 0, none⟩)] 208
  obtain ⟨rb, hrb⟩ : ∃ rb, rb = W.heap.size := ⟨_, rfl⟩
  rw [← hrb] at hBr1 ⊢
  have HRB : Hid (n1 ≤ rb) := by rw [hn1, hrb]; exact Nat.le_refl _
  have hnr : rb ≠ n := by omega
  have hP1 := h.below hb1
  have hC1 : Ch (Xp n) W _ := Ch.below hb1
  change Bx (W.alloc (.cells #[.pointer (some ⟨n, 0, none⟩)] 208)) _ _ _ at hBr1
  generalize (W.alloc (.cells #[.pointer (some ⟨n, 0, none⟩)] 208)) = w1 at *
  have htn := ptakeName_any n sv l [s1, s2, s3] w1 i hP1 (HS.out.pos hC1 HN.out) hl hbig hi HG.out
  have Hn1 := hid hn1
  clear hrb hb1 hP1 hS h hn1
  have HX1 := HR.out
  clear HR
  refine htn.mono ?_
  clear htn
  generalize Pl.takeP Pl.nameT ((l.drop i).map kt3) = R1 at *
  cases R1 with
  | bad r er =>
    rintro e wz ⟨iz, rfl, hiz, hrz, hCz⟩
    subst HX1
    exact ⟨rfl, iz, rfl, hiz, hrz, (hC1.trans hCz).mono (fun _ _ h => .inl h)⟩
  | ok kk1 r1 =>
    simp only [ok_bind] at HX1
    rintro e w2 ⟨v2, i3, rfl, hi3, rfl, hP2, ⟨nm, rfl, hnm⟩, hc2⟩
    have HR := hid HX1
    have Hnm := hid hnm
    clear HX1 hnm
    have hC2 := hC1.trans hc2
    have hBr2 := hBr1.ch hc2 (fun hx => hnr hx.1)
    clear hC1 hc2 hBr1
    have y0 := (hBr2.alloc (.cells #[.string nm, .slice none 0 0] 60)).cell 0 rfl
    have hb4 := below_alloc w2 (.cells #[.string nm, .slice none 0 0] 60)
    have hBs4 := Bx.new w2 [.string nm, .slice none 0 0] 60
    obtain ⟨sb, hsb⟩ : ∃ sb, sb = w2.heap.size := ⟨_, rfl⟩
    have hlr2 := hBr2.lt
    have hw2 := hC2.size
    have hPl2 := hP2.facts.2.2.2
    have hsbn : sb ≠ n := by omega
    have HSB : Hid (n1 ≤ sb) := by rw [Hn1.out, hsb]; exact hw2
    rw [← hsb] at hBs4
    have hP4 := hP2.below hb4
    have hBr4 := hBr2.below hb4
    have hCq4 : Ch (Xq n n1) W _ := (hC2.bel hb4).mono (fun _ _ h => .inl h)
    have hI4 : InvF n n1 sb rb nm [] _ := ⟨_, hBs4, Rows.nil _ _ _ _ _, hBr4⟩
    have hpp := pparts_any (Xq n n1) n sv l [s1, s2, s3] hl hbig _ i3 hP4 (HS.out.ch hCq4 HNq.out) hi3 (fun _ _ h => .inl h) (fun g T h => h.elim (fun h => Xp.s g T h) (fun h => h.2)) HNq.out Pl.numT _ (fits_number _) Pl.fieldP (InvF n n1 sb rb nm) hI4 (fun xs W W' h hc => InvF.keep hsbn xs W W' h hc) 178 #[.pointer (some ⟨sb, 0, none⟩), .pointer (some ⟨rb, 0, none⟩)] (fun _ _ => rfl)
      (fun xs W j t hC hI hP hj ht hbt hx => restF n n1 sb rb nm HNN.out HSB.out HRB.out sv l [s1, s2, s3] hl hbig HG.out W j hP (HS.out.ch (hCq4.trans hC) HNq.out) hj HN.out t ht (of_decide_eq_true hbt) xs hx hI)
    go_wp2_with fail
    rw [← hsb]
    clear hsb
    refine hpp.mono ?_
    clear hpp
    have HX4 := HR.out
    clear HR
    generalize ((Pl.takeP (Pl.isT [123]) ((l.drop i3).map kt3)).bind fun _ r => Pl.partsP Pl.numT Pl.fieldP 32 r) = R4 at *
    cases R4 with
    | bad r er =>
      rintro e wz ⟨iz, rfl, hiz, hrz, hCz⟩
      subst HX4
      have hCC : Ch (Xp n) W wz := by have := hCq4.trans hCz; rw [Hn1.out] at this; exact this.old
      exact ⟨rfl, iz, rfl, hiz, hrz, hCC.mono (fun _ _ h => .inl h)⟩
    | ok fl r =>
      rintro e w5 ⟨i5, rfl, hi5, rfl, hP5, ⟨fv, hBs5, hRf5, hBr5⟩, hC45⟩
      simp only [ok_bind] at HX4
      have HR5 := hid HX4
      have hC5 : Ch (Xp n) W w5 := by have := hCq4.trans hC45; rw [Hn1.out] at this; exact this.old
      obtain ⟨ps, hps, hRp, hown⟩ := hRo
      have hown5 := own_ch hown hC5 (fun k _ hx => by have := hx.2; revert this; decide)
      obtain ⟨adf, cpf, rfl⟩ := hRf5.shape
      have hpl : xs.length = ps.length := by rw [← hps, List.length_map]
      have hp100 : ps.length < 100 := by omega
      obtain ⟨ad1, cp1, hs1⟩ : ∃ ad cp, s1 = .slice ad ps.length cp := by
        rcases hown.2 with ⟨rfl, h0⟩ | ⟨g, cap, cur, rfl, _⟩
        · exact ⟨none, 0, by rw [h0]⟩
        · exact ⟨_, _, rfl⟩
      have HPS := hid hps
      have HRP := hid hRp
      have HRF := hid hRf5
      have hBw : B ≤ w5.heap.size := by have := hP5.facts.2.2.2; omega
      have y1 := hBr5.cell 0 rfl
      have y2 := hBs5.cell 0 rfl
      have y3 := hBs5.cell 1 rfl
      have c2 := Bx.cell hP5 2 rfl
      have c3 := Bx.cell hP5 3 rfl
      have c4 := Bx.cell hP5 4 rfl
      have cf := Bx.frozen hP5
      have hln5 := hP5.facts.2.2.2
      have hltr5 := hBr5.lt
      have hlts5 := hBs5.lt
      obtain ⟨i0, hi0, hz0, hz1, hz2⟩ := info_parts Tryz.info60
      subst hs1
      clear HX4 hps hRp hpl hown hRf5 hx
      generalize fl.length = fln at *
      go_wp2_with fail
      go_region_law (first
        | (refine step_append_lies (o := { dst := some 21, op := .call { callee := .builtin .append, args := #[.tmp 18, .tmp 20], argTypes := #[22, 22] }, type := _, pos := _, after := _, guard := none }) _ rfl (.tmp 18) (.tmp 20) 22 rfl B 60 i0 _ 2 40 Tryz.underlying22 hi0 hz0 hz1 hz2 rfl (by decide) (.slice ad1 ps.length cp1) ps.length (ps.flatMap Prod.snd) rfl (own_ch (X := Xp n) hown5 (Ch.bel (Ch.alloc _ _) (Below.refl _ _).drew) (fun k _ hx => by have := hx.2; revert this; decide)) ⟨w5.heap.size, 0, none⟩ 1 1 [.string nm, .slice adf fln cpf] rfl rfl (World.news_of_block (heap_alloc_new w5 _)) (fun u hu => by simp at hu; rcases hu with rfl | rfl <;> rfl) (by decide) (by unfold maxLen; omega) (by omega) (by simp; omega) _ rfl ?_; intro g cap w6 hown6 hgr6 hat6 hlt6; have hP6 : Pos n sv [.slice ad1 ps.length cp1, s2, s3] w6 i5 := (hgr6.block n (by simp; omega) (fun e => by obtain ⟨_, cur, hq⟩ := own_block hown5 e.symm; rw [show w5.heap[n]? = _ from hP5] at hq; simp at hq)).trans (Bx.alloc hP5 _); have hBr6 : Bx w6 rb [.pointer (some ⟨n, 0, none⟩)] 208 := (hgr6.block rb (by simp; omega) (fun e => by obtain ⟨_, cur, hq⟩ := own_block hown5 e.symm; rw [show w5.heap[rb]? = _ from hBr5] at hq; simp at hq)).trans (Bx.alloc hBr5 _); have x5 := hBr6.cell 0 rfl; have x2 := Bx.cell hP6 2 rfl; have x3 := Bx.cell hP6 3 rfl; have x4 := Bx.cell hP6 4 rfl; have xf := Bx.frozen hP6))
      all_goals
        go_wp2
        go_end0
        rw [← HR5.out]
        obtain ⟨d1, d2, d3⟩ := decl_end (R := SctR B) (rest' := [.slice (some ⟨g, 0, none⟩) (ps.length + 1) cap, s2, s3]) (c := [.string nm, .slice adf fln cpf]) (k := 2) (kk1.2, fl) (.inl rfl) (fun w w' hc a c h => SctR.ch (.inl rfl) hc a c h) hC5 HRP.out hown5 (below_alloc w5 _).drew hgr6 hown6 hP6 rfl ⟨nm, adf, fln, cpf, rfl, Hnm.out, HRF.out.mono (by have := Hn1.out; have := HNN.out; omega) (fun a c h => FldR.mono (by have := Hn1.out; have := HNN.out; omega) a c h)⟩ rfl
        rw [HPS.out] at d2
        exact ⟨i5, _, rfl, hi5, rfl, d1, d2, d3⟩

end Go.Proofs.YtdbgncdnffbhkaaGreatDoor

namespace Go.Proofs.YtdbgncdnffbhkaaGreatDoor
open Go.RowKit
set_option maxRecDepth 20000

theorem Tryz.info64 : (Tryz.prog.info? 64).map (fun i => (i.zero, i.size, i.bytes)) = some (some (.agg #[.string ⟨#[]⟩, .slice none 0 0]), 2, 40) := by kernel_rfl

set_option maxHeartbeats 16000000 in
set_option maxRecDepth 4000 in
theorem readC (B n : Nat) (sv : Value) (l : List T3) (s1 s2 s3 : Value) (hl : 0 < l.length) (hbig : l.length ≤ 1000000) (hG : GoodT l) (W : World) (i : Nat) (h : Pos n sv [s1, s2, s3] W i) (hS : TSeg W sv (l.map toZ)) (hi : i ≤ l.length) (hBn : B ≤ n) (hsB : ∀ g, sv.ownBlock = some g → g < B) (xs : List (List Nat × List Pl.Cas)) (hx : xs.length < 100) (hRo : Rows 64 2 (EnmR B) B W s2 xs) :
    Calls Tryz.prog 148 #[.pointer (some ⟨n, 0, none⟩)] W (ReadD n B 64 l sv (fun u' => [s1, u', s3]) (EnmR B) xs W (Pl.bodyP Pl.numT Pl.caseP ((l.drop i).map kt3))) := by
  have hpure : Pl.bodyP Pl.numT Pl.caseP ((l.drop i).map kt3) = (Pl.takeP Pl.nameT ((l.drop i).map kt3)).bind fun nn r => ((Pl.takeP (Pl.isT [123]) r).bind fun _ r => Pl.partsP Pl.numT Pl.caseP 32 r).bind fun xs r => .ok (nn.2, xs) r := by
    unfold Pl.bodyP
    congr 1
    funext nn r
    rw [bind_assoc]
  rw [hpure]
  generalize hRES : ((Pl.takeP Pl.nameT ((l.drop i).map kt3)).bind fun nn r => ((Pl.takeP (Pl.isT [123]) r).bind fun _ r => Pl.partsP Pl.numT Pl.caseP 32 r).bind fun xs r => Pl.Res.ok (nn.2, xs) r) = RES
  have HR := hid hRES
  have HS := hid hS
  have HG := hid hG
  obtain ⟨n1, hn1⟩ : ∃ n1, n1 = W.heap.size := ⟨_, rfl⟩
  have hlt : n < W.heap.size := h.facts.2.2.2
  have HNN : Hid (n < n1) := by rw [hn1]; exact hlt
  have HN : Hid (∀ g, sv.ownBlock = some g → g ≠ n) := fun g hg => by have := hsB g hg; omega
  have HNq : Hid (∀ g, sv.ownBlock = some g → ∀ T, ¬ Xq n n1 g T) := fun g hg T hq => by
    have := hsB g hg
    rcases hq with hq | hq
    · have := hq.1
      omega
    · have := HNN.out
      omega
  have hmf : ∀ (fn : Fn) (first cap : Array Value) (w : World), (Instr.makeFunc fn first cap).run Tryz.prog w = .ok (.func fn first cap) w := fun _ _ _ _ => rfl
  clear hRES hpure hG
  go_enter Tryz.func148, Tryz.ntmps148
  go_wp2_with fail
  have hb1 := below_alloc W (.cells #[.pointer (some ⟨n, 0, none⟩)] 208)
  have hBr1 := Bx.new W [.pointer (some ⟨n, 0, none⟩)] 208
  obtain ⟨rb, hrb⟩ : ∃ rb, rb = W.heap.size := ⟨_, rfl⟩
  rw [← hrb] at hBr1 ⊢
  have HRB : Hid (n1 ≤ rb) := by rw [hn1, hrb]; exact Nat.le_refl _
  have hnr : rb ≠ n := by omega
  have hP1 := h.below hb1
  have hC1 : Ch (Xp n) W _ := Ch.below hb1
  change Bx (W.alloc (.cells #[.pointer (some ⟨n, 0, none⟩)] 208)) _ _ _ at hBr1
  generalize (W.alloc (.cells #[.pointer (some ⟨n, 0, none⟩)] 208)) = w1 at *
  have htn := ptakeName_any n sv l [s1, s2, s3] w1 i hP1 (HS.out.pos hC1 HN.out) hl hbig hi HG.out
  have Hn1 := hid hn1
  clear hrb hb1 hP1 hS h hn1
  have HX1 := HR.out
  clear HR
  refine htn.mono ?_
  clear htn
  generalize Pl.takeP Pl.nameT ((l.drop i).map kt3) = R1 at *
  cases R1 with
  | bad r er =>
    rintro e wz ⟨iz, rfl, hiz, hrz, hCz⟩
    subst HX1
    exact ⟨rfl, iz, rfl, hiz, hrz, (hC1.trans hCz).mono (fun _ _ h => .inl h)⟩
  | ok kk1 r1 =>
    simp only [ok_bind] at HX1
    rintro e w2 ⟨v2, i3, rfl, hi3, rfl, hP2, ⟨nm, rfl, hnm⟩, hc2⟩
    have HR := hid HX1
    have Hnm := hid hnm
    clear HX1 hnm
    have hC2 := hC1.trans hc2
    have hBr2 := hBr1.ch hc2 (fun hx => hnr hx.1)
    clear hC1 hc2 hBr1
    have y0 := (hBr2.alloc (.cells #[.string nm, .slice none 0 0] 64)).cell 0 rfl
    have hb4 := below_alloc w2 (.cells #[.string nm, .slice none 0 0] 64)
    have hBs4 := Bx.new w2 [.string nm, .slice none 0 0] 64
    obtain ⟨sb, hsb⟩ : ∃ sb, sb = w2.heap.size := ⟨_, rfl⟩
    have hlr2 := hBr2.lt
    have hw2 := hC2.size
    have hPl2 := hP2.facts.2.2.2
    have hsbn : sb ≠ n := by omega
    have HSB : Hid (n1 ≤ sb) := by rw [Hn1.out, hsb]; exact hw2
    rw [← hsb] at hBs4
    have hP4 := hP2.below hb4
    have hBr4 := hBr2.below hb4
    have hCq4 : Ch (Xq n n1) W _ := (hC2.bel hb4).mono (fun _ _ h => .inl h)
    have hI4 : InvC n n1 sb rb nm [] _ := ⟨_, hBs4, Rows.nil _ _ _ _ _, hBr4⟩
    have hpp := pparts_any (Xq n n1) n sv l [s1, s2, s3] hl hbig _ i3 hP4 (HS.out.ch hCq4 HNq.out) hi3 (fun _ _ h => .inl h) (fun g T h => h.elim (fun h => Xp.s g T h) (fun h => h.2)) HNq.out Pl.numT _ (fits_number _) Pl.caseP (InvC n n1 sb rb nm) hI4 (fun xs W W' h hc => InvC.keep hsbn xs W W' h hc) 180 #[.pointer (some ⟨sb, 0, none⟩), .pointer (some ⟨rb, 0, none⟩)] (fun _ _ => rfl)
      (fun xs W j t hC hI hP hj ht hbt hx => restC n n1 sb rb nm HNN.out HSB.out HRB.out sv l [s1, s2, s3] hl hbig HG.out W j hP (HS.out.ch (hCq4.trans hC) HNq.out) hj HN.out t ht (of_decide_eq_true hbt) xs hx hI)
    go_wp2_with fail
    rw [← hsb]
    clear hsb
    refine hpp.mono ?_
    clear hpp
    have HX4 := HR.out
    clear HR
    generalize ((Pl.takeP (Pl.isT [123]) ((l.drop i3).map kt3)).bind fun _ r => Pl.partsP Pl.numT Pl.caseP 32 r) = R4 at *
    cases R4 with
    | bad r er =>
      rintro e wz ⟨iz, rfl, hiz, hrz, hCz⟩
      subst HX4
      have hCC : Ch (Xp n) W wz := by have := hCq4.trans hCz; rw [Hn1.out] at this; exact this.old
      exact ⟨rfl, iz, rfl, hiz, hrz, hCC.mono (fun _ _ h => .inl h)⟩
    | ok fl r =>
      rintro e w5 ⟨i5, rfl, hi5, rfl, hP5, ⟨fv, hBs5, hRf5, hBr5⟩, hC45⟩
      simp only [ok_bind] at HX4
      have HR5 := hid HX4
      have hC5 : Ch (Xp n) W w5 := by have := hCq4.trans hC45; rw [Hn1.out] at this; exact this.old
      obtain ⟨ps, hps, hRp, hown⟩ := hRo
      have hown5 := own_ch hown hC5 (fun k _ hx => by have := hx.2; revert this; decide)
      obtain ⟨adf, cpf, rfl⟩ := hRf5.shape
      have hpl : xs.length = ps.length := by rw [← hps, List.length_map]
      have hp100 : ps.length < 100 := by omega
      obtain ⟨ad1, cp1, hs1⟩ : ∃ ad cp, s2 = .slice ad ps.length cp := by
        rcases hown.2 with ⟨rfl, h0⟩ | ⟨g, cap, cur, rfl, _⟩
        · exact ⟨none, 0, by rw [h0]⟩
        · exact ⟨_, _, rfl⟩
      have HPS := hid hps
      have HRP := hid hRp
      have HRF := hid hRf5
      have hBw : B ≤ w5.heap.size := by have := hP5.facts.2.2.2; omega
      have y1 := hBr5.cell 0 rfl
      have y2 := hBs5.cell 0 rfl
      have y3 := hBs5.cell 1 rfl
      have c2 := Bx.cell hP5 2 rfl
      have c3 := Bx.cell hP5 3 rfl
      have c4 := Bx.cell hP5 4 rfl
      have cf := Bx.frozen hP5
      have hln5 := hP5.facts.2.2.2
      have hltr5 := hBr5.lt
      have hlts5 := hBs5.lt
      obtain ⟨i0, hi0, hz0, hz1, hz2⟩ := info_parts Tryz.info64
      subst hs1
      clear HX4 hps hRp hpl hown hRf5 hx
      generalize fl.length = fln at *
      go_wp2_with fail
      go_region_law (first
        | (refine step_append_lies (o := { dst := some 21, op := .call { callee := .builtin .append, args := #[.tmp 18, .tmp 20], argTypes := #[23, 23] }, type := _, pos := _, after := _, guard := none }) _ rfl (.tmp 18) (.tmp 20) 23 rfl B 64 i0 _ 2 40 Tryz.underlying23 hi0 hz0 hz1 hz2 rfl (by decide) (.slice ad1 ps.length cp1) ps.length (ps.flatMap Prod.snd) rfl (own_ch (X := Xp n) hown5 (Ch.bel (Ch.alloc _ _) (Below.refl _ _).drew) (fun k _ hx => by have := hx.2; revert this; decide)) ⟨w5.heap.size, 0, none⟩ 1 1 [.string nm, .slice adf fln cpf] rfl rfl (World.news_of_block (heap_alloc_new w5 _)) (fun u hu => by simp at hu; rcases hu with rfl | rfl <;> rfl) (by decide) (by unfold maxLen; omega) (by omega) (by simp; omega) _ rfl ?_; intro g cap w6 hown6 hgr6 hat6 hlt6; have hP6 : Pos n sv [s1, .slice ad1 ps.length cp1, s3] w6 i5 := (hgr6.block n (by simp; omega) (fun e => by obtain ⟨_, cur, hq⟩ := own_block hown5 e.symm; rw [show w5.heap[n]? = _ from hP5] at hq; simp at hq)).trans (Bx.alloc hP5 _); have hBr6 : Bx w6 rb [.pointer (some ⟨n, 0, none⟩)] 208 := (hgr6.block rb (by simp; omega) (fun e => by obtain ⟨_, cur, hq⟩ := own_block hown5 e.symm; rw [show w5.heap[rb]? = _ from hBr5] at hq; simp at hq)).trans (Bx.alloc hBr5 _); have x5 := hBr6.cell 0 rfl; have x2 := Bx.cell hP6 2 rfl; have x3 := Bx.cell hP6 3 rfl; have x4 := Bx.cell hP6 4 rfl; have xf := Bx.frozen hP6))
      all_goals
        go_wp2
        go_end0
        rw [← HR5.out]
        obtain ⟨d1, d2, d3⟩ := decl_end (R := EnmR B) (rest' := [s1, .slice (some ⟨g, 0, none⟩) (ps.length + 1) cap, s3]) (c := [.string nm, .slice adf fln cpf]) (k := 3) (kk1.2, fl) (.inr (.inl rfl)) (fun w w' hc a c h => EnmR.ch (.inr (.inl rfl)) hc a c h) hC5 HRP.out hown5 (below_alloc w5 _).drew hgr6 hown6 hP6 rfl ⟨nm, adf, fln, cpf, rfl, Hnm.out, HRF.out.mono (by have := Hn1.out; have := HNN.out; omega) (fun a c h => h)⟩ rfl
        rw [HPS.out] at d2
        exact ⟨i5, _, rfl, hi5, rfl, d1, d2, d3⟩

end Go.Proofs.YtdbgncdnffbhkaaGreatDoor

namespace Go.Proofs.YtdbgncdnffbhkaaGreatDoor
open Go.RowKit
set_option maxRecDepth 20000

theorem onr_fits {w : World} {fv : Value} (h : FitsT w fv (fun t => memB [sOnce, sRead] t.2)) : FitsT w fv Pl.onrT := by
  have e : (fun t : Pl.Kt => memB [sOnce, sRead] t.2) = Pl.onrT := by
    funext t
    simp only [memB, List.any_cons, List.any_nil, Bool.or_false, Pl.onrT]
    rfl
  rw [← e]
  exact h
theorem run_bslice {P : Program} {w w' : World} {o : Oper} {a : Act} {T : TypeId} {len : Nat} {parts : Array (Nat × Operand)} {v : Value} (hop : o.op = .buildSlice T len parts) (hr : (Instr.buildSlice T len (parts.map fun (i, x) => (i, a.eval x))).run P w = .ok v w') : (execOp a.eval o).run P w = .ok (.value v) w' := by
  simp [execOp, hop, hr]
theorem run_mkf {P : Program} {w : World} {o : Oper} {a : Act} {fn : Fn} {first cap : Array Operand} {vs : Array Value} (hop : o.op = .makeFunc fn first cap) (hs : (first.map a.eval, cap.map a.eval) = (#[], vs)) : (execOp a.eval o).run P w = .ok (.value (.func fn #[] vs)) w := by
  simp only [Prod.mk.injEq] at hs
  simp only [execOp, hop, hs.1, hs.2]
  rfl
theorem step_call3p {P : Program} {w : World} {ops : Array Oper} {o : Oper} {a : Act} {K : Act → World → Prop} {Q : Exit → Act → World → Prop} {E : Prop} {v u z : Value} (f : Nat) (eg : ∀ args w, (callFunc f args).run P w = .ok (.enter f args) w) (hg : o.guard = none) (s t q : Nat) (ts : Array TypeId) (hop : o.op = .call { callee := .value (.func f), args := #[.tmp s, .tmp t, .tmp q], argTypes := ts }) (hs : a.tmps.getD s undef = v) (ht : a.tmps.getD t undef = u) (hq : a.tmps.getD q undef = z)
    (h : Calls P f #[v, u, z] w fun e w' => ∃ x, e = .returned x ∧ K (a.put o.dst x) w') : if Region.wanted o (yielded ops a.tmps) = true then Oper.wp P o a w K Q else E := by
  have hw : Region.wanted o (yielded ops a.tmps) = true := by simp [Region.wanted, hg]
  rw [if_pos hw]
  unfold Oper.wp
  have hs' : a.eval (.tmp s) = v := hs
  have ht' : a.eval (.tmp t) = u := ht
  have hq' : a.eval (.tmp q) = z := hq
  have hrun : (execOp a.eval o).run P w = .ok (.enter f #[v, u, z]) w := by
    simp [execOp, hop, hs', ht', hq', resolve, invoke, show a.eval (.func f) = .func (.func f) #[] #[] from rfl, Deferred.ofValue, eg]
  rw [hrun]
  refine h.mono ?_
  rintro e w' ⟨x, rfl, hk⟩
  exact hk

theorem Tryz.info67 : (Tryz.prog.info? 67).map (fun i => (i.zero, i.size, i.bytes)) = some (some (.agg #[.string ⟨#[]⟩, .slice none 0 0]), 2, 40) := by kernel_rfl

set_option maxHeartbeats 16000000 in
set_option maxRecDepth 4000 in
theorem readM (B n : Nat) (sv : Value) (l : List T3) (s1 s2 s3 : Value) (hl : 0 < l.length) (hbig : l.length ≤ 1000000) (hG : GoodT l) (W : World) (i : Nat) (h : Pos n sv [s1, s2, s3] W i) (hS : TSeg W sv (l.map toZ)) (hi : i ≤ l.length) (hBn : B ≤ n) (hsB : ∀ g, sv.ownBlock = some g → g < B) (xs : List (List Nat × List Pl.Mth)) (hx : xs.length < 100) (hRo : Rows 67 2 (SvcR B) B W s3 xs) :
    Calls Tryz.prog 149 #[.pointer (some ⟨n, 0, none⟩)] W (ReadD n B 67 l sv (fun u' => [s1, s2, u']) (SvcR B) xs W (Pl.bodyP Pl.onrT Pl.methodP ((l.drop i).map kt3))) := by
  have hpure : Pl.bodyP Pl.onrT Pl.methodP ((l.drop i).map kt3) = (Pl.takeP Pl.nameT ((l.drop i).map kt3)).bind fun nn r => ((Pl.takeP (Pl.isT [123]) r).bind fun _ r => Pl.partsP Pl.onrT Pl.methodP 32 r).bind fun xs r => .ok (nn.2, xs) r := by
    unfold Pl.bodyP
    congr 1
    funext nn r
    rw [bind_assoc]
  rw [hpure]
  generalize hRES : ((Pl.takeP Pl.nameT ((l.drop i).map kt3)).bind fun nn r => ((Pl.takeP (Pl.isT [123]) r).bind fun _ r => Pl.partsP Pl.onrT Pl.methodP 32 r).bind fun xs r => Pl.Res.ok (nn.2, xs) r) = RES
  have HR := hid hRES
  have HS := hid hS
  have HG := hid hG
  obtain ⟨n1, hn1⟩ : ∃ n1, n1 = W.heap.size := ⟨_, rfl⟩
  have hlt : n < W.heap.size := h.facts.2.2.2
  have HNN : Hid (n < n1) := by rw [hn1]; exact hlt
  have HN : Hid (∀ g, sv.ownBlock = some g → g ≠ n) := fun g hg => by have := hsB g hg; omega
  have HNq : Hid (∀ g, sv.ownBlock = some g → ∀ T, ¬ Xq n n1 g T) := fun g hg T hq => by
    have := hsB g hg
    rcases hq with hq | hq
    · have := hq.1
      omega
    · have := HNN.out
      omega
  have hmf : ∀ (fn : Fn) (first cap : Array Value) (w : World), (Instr.makeFunc fn first cap).run Tryz.prog w = .ok (.func fn first cap) w := fun _ _ _ _ => rfl
  clear hRES hpure hG
  go_enter Tryz.func149, Tryz.ntmps149
  go_wp2_with fail
  have hb1 := below_alloc W (.cells #[.pointer (some ⟨n, 0, none⟩)] 208)
  have hBr1 := Bx.new W [.pointer (some ⟨n, 0, none⟩)] 208
  obtain ⟨rb, hrb⟩ : ∃ rb, rb = W.heap.size := ⟨_, rfl⟩
  rw [← hrb] at hBr1 ⊢
  have HRB : Hid (n1 ≤ rb) := by rw [hn1, hrb]; exact Nat.le_refl _
  have hnr : rb ≠ n := by omega
  have hP1 := h.below hb1
  have hC1 : Ch (Xp n) W _ := Ch.below hb1
  change Bx (W.alloc (.cells #[.pointer (some ⟨n, 0, none⟩)] 208)) _ _ _ at hBr1
  generalize (W.alloc (.cells #[.pointer (some ⟨n, 0, none⟩)] 208)) = w1 at *
  have htn := ptakeName_any n sv l [s1, s2, s3] w1 i hP1 (HS.out.pos hC1 HN.out) hl hbig hi HG.out
  have Hn1 := hid hn1
  clear hrb hb1 hP1 hS h hn1
  have HX1 := HR.out
  clear HR
  refine htn.mono ?_
  clear htn
  generalize Pl.takeP Pl.nameT ((l.drop i).map kt3) = R1 at *
  cases R1 with
  | bad r er =>
    rintro e wz ⟨iz, rfl, hiz, hrz, hCz⟩
    subst HX1
    exact ⟨rfl, iz, rfl, hiz, hrz, (hC1.trans hCz).mono (fun _ _ h => .inl h)⟩
  | ok kk1 r1 =>
    simp only [ok_bind] at HX1
    rintro e w2 ⟨v2, i3, rfl, hi3, rfl, hP2, ⟨nm, rfl, hnm⟩, hc2⟩
    have HR := hid HX1
    have Hnm := hid hnm
    clear HX1 hnm
    have hC2 := hC1.trans hc2
    have hBr2 := hBr1.ch hc2 (fun hx => hnr hx.1)
    clear hC1 hc2 hBr1
    have y0 := (hBr2.alloc (.cells #[.string nm, .slice none 0 0] 67)).cell 0 rfl
    have hb4 := below_alloc w2 (.cells #[.string nm, .slice none 0 0] 67)
    have hBs4 := Bx.new w2 [.string nm, .slice none 0 0] 67
    obtain ⟨sb, hsb⟩ : ∃ sb, sb = w2.heap.size := ⟨_, rfl⟩
    have hlr2 := hBr2.lt
    have hw2 := hC2.size
    have hPl2 := hP2.facts.2.2.2
    have hsbn : sb ≠ n := by omega
    have HSB : Hid (n1 ≤ sb) := by rw [Hn1.out, hsb]; exact hw2
    rw [← hsb] at hBs4
    have hP4 := hP2.below hb4
    have hBr4 := hBr2.below hb4
    have hCq4 : Ch (Xq n n1) W _ := (hC2.bel hb4).mono (fun _ _ h => .inl h)
    have hI4 : InvM n n1 sb rb nm [] _ := ⟨_, hBs4, Rows.nil _ _ _ _ _, hBr4⟩
    have hBr4' := hBr4
    go_wp2_with fail
    rw [← hsb]
    clear hsb y0
    generalize w2.alloc (.cells #[.string nm, .slice none 0 0] 67) = w4 at *
    have hpp : ∀ W4, Below w4.heap.size w4 W4 → ∀ bv, FitsT W4 bv Pl.onrT → Calls Tryz.prog 176 #[.pointer (some ⟨n, 0, none⟩), bv, .func (.func 182) #[] #[.pointer (some ⟨sb, 0, none⟩), .pointer (some ⟨rb, 0, none⟩)]] W4 (RunsX (Xq n n1) l n sv [s1, s2, s3] W4 ((Pl.takeP (Pl.isT [123]) ((l.drop i3).map kt3)).bind fun _ r => Pl.partsP Pl.onrT Pl.methodP 32 r) (InvM n n1 sb rb nm)) := fun W4 hb bv hF => pparts_any (Xq n n1) n sv l [s1, s2, s3] hl hbig W4 i3 (hP4.below hb) (HS.out.ch (hCq4.bel hb) HNq.out) hi3 (fun _ _ h => .inl h) (fun g T h => h.elim (fun h => Xp.s g T h) (fun h => h.2)) HNq.out Pl.onrT bv hF Pl.methodP (InvM n n1 sb rb nm) (InvM.keep hsbn _ _ _ hI4 (Ch.below hb)) (fun xs W W' h hc => InvM.keep hsbn xs W W' h hc) 182 #[.pointer (some ⟨sb, 0, none⟩), .pointer (some ⟨rb, 0, none⟩)] (fun _ _ => rfl)
      (fun xs W j t hC hI hP hj ht hbt hx => restM n n1 sb rb nm HNN.out HSB.out HRB.out sv l [s1, s2, s3] hl hbig HG.out W j hP (HS.out.ch ((hCq4.bel hb).trans hC) HNq.out) hj HN.out t ht xs hx hI)
    have HX4 := HR.out
    clear HR
    generalize ((Pl.takeP (Pl.isT [123]) ((l.drop i3).map kt3)).bind fun _ r => Pl.partsP Pl.onrT Pl.methodP 32 r) = R4 at *
    cases R4 with
    | bad r er =>
      subst HX4
      refine wp_region_drawn2 (pred := fun jx v w => match jx with | 0 => v = .pointer (some ⟨n, 0, none⟩) | 1 => v = .pointer (some ⟨n, 0, none⟩) | 2 => v = .pointer (some ⟨n, 0, none⟩) | 3 => Strs w v [sOnce, sRead] | 4 => FitsT w v Pl.onrT | 5 => v = .func (.func 182) #[] #[.pointer (some ⟨sb, 0, none⟩), .pointer (some ⟨rb, 0, none⟩)] | 6 => False | _ => True) (R := fun Wx => Below w4.heap.size w4 Wx) (by kernel_rfl) (by kernel_rfl) (by kernel_rfl) ?mono (Below.refl _ _).drew ?step ?done
      case mono =>
        intro jx v Wx Wy hp hb
        rcases jx with _ | _ | _ | _ | _ | _ | _ | jx
        · exact hp
        · exact hp
        · exact hp
        · exact Strs.below hp hb
        · exact FitsT.ch hp (Ch.below hb)
        · exact hp
        · exact hp
        · exact hp
      case step =>
        intro ix o ho A Wx hsz hdf hfr hdep hR
        rcases ix with _ | _ | _ | _ | _ | _ | _ | ix
        · injection ho with ho
          subst ho
          have e1 : A.eval (.tmp 1) = .pointer (some ⟨rb, 0, none⟩) := (hfr 1 (noDst_spec (by kernel_rfl))).trans rfl
          have z0 := (hBr4.below hR).cell 0 rfl
          exact gOp_ld (v := .pointer (some ⟨n, 0, none⟩)) rfl (wanted_plain rfl) rfl e1 (by go_simp) ⟨_, rfl, rfl, Below.refl _ _, hR⟩
        · injection ho with ho
          subst ho
          have e8 : A.eval (.tmp 8) = .pointer (some ⟨n, 0, none⟩) := hdep ⟨0, .data⟩ (by simp) rfl _ _ rfl rfl
          exact gOp_nil rfl (wanted_plain rfl) rfl e8 ⟨_, rfl, rfl, Below.refl _ _, hR⟩
        · injection ho with ho
          subst ho
          have e9 : A.eval (.tmp 9) = .pointer (some ⟨n, 0, none⟩) := hdep ⟨1, .data⟩ (by simp) rfl _ _ rfl rfl
          exact gOp_fld (v := .pointer (some ⟨n, 0, none⟩)) rfl (wanted_plain rfl) rfl e9 (by go_simp) ⟨_, rfl, rfl, Below.refl _ _, hR⟩
        · injection ho with ho
          subst ho
          exact gOp_ok (v := .slice (some ⟨Wx.heap.size, 0, none⟩) 2 2) rfl (wanted_plain rfl) (w' := Wx.alloc (.cells #[.string ⟨#[111, 110, 99, 101]⟩, .string ⟨#[114, 101, 97, 100]⟩] 9)) (run_bslice rfl (by go_simp)) ⟨_, rfl, ⟨_, rfl, heap_alloc_new Wx _⟩, below_alloc Wx _, hR.trans ((below_alloc Wx _).mono hR.size)⟩
        · injection ho with ho
          subst ho
          have hst3 : Strs Wx _ [sOnce, sRead] := hdep ⟨3, .data⟩ (by simp) rfl _ _ rfl rfl
          refine gOp_enter rfl (wanted_plain rfl) 146 #[A.tmps.getD 11 undef] (run_call _ (fun _ _ => rfl) _ _ rfl _ (by simp [Act.eval])) ?_
          refine (poneOf_any _ [sOnce, sRead] (by decide) Wx hst3).mono ?_
          rintro e w' ⟨fv, rfl, hF, hb⟩
          exact ⟨_, rfl, _, rfl, onr_fits hF, hb, hR.trans (hb.mono hR.size)⟩
        · injection ho with ho
          subst ho
          have e2 : A.eval (.tmp 2) = .pointer (some ⟨sb, 0, none⟩) := (hfr 2 (noDst_spec (by kernel_rfl))).trans rfl
          have e1 : A.eval (.tmp 1) = .pointer (some ⟨rb, 0, none⟩) := (hfr 1 (noDst_spec (by kernel_rfl))).trans rfl
          exact gOp_ok (v := .func (.func 182) #[] #[.pointer (some ⟨sb, 0, none⟩), .pointer (some ⟨rb, 0, none⟩)]) rfl (wanted_plain rfl) (run_mkf rfl (by simp [e2, e1])) ⟨_, rfl, rfl, Below.refl _ _, hR⟩
        · injection ho with ho
          subst ho
          have e10 : A.eval (.tmp 10) = .pointer (some ⟨n, 0, none⟩) := hdep ⟨2, .data⟩ (by simp) rfl _ _ rfl rfl
          have e13 : A.eval (.tmp 13) = .func (.func 182) #[] #[.pointer (some ⟨sb, 0, none⟩), .pointer (some ⟨rb, 0, none⟩)] := hdep ⟨5, .data⟩ (by simp) rfl _ _ rfl rfl
          have hf4 : FitsT Wx _ Pl.onrT := hdep ⟨4, .data⟩ (by simp) rfl _ _ rfl rfl
          refine gOp_dies rfl (wanted_plain rfl) 176 #[.pointer (some ⟨n, 0, none⟩), _, .func (.func 182) #[] #[.pointer (some ⟨sb, 0, none⟩), .pointer (some ⟨rb, 0, none⟩)]] (run_call _ (fun _ _ => rfl) _ _ rfl _ (by simp [e10, e13]; rfl)) ?_
          refine (hpp Wx hR _ hf4).mono ?_
          rintro e wz ⟨iz, rfl, hiz, hrz, hCz⟩
          have hCC : Ch (Xp n) W wz := by have := hCq4.trans ((Ch.below hR).trans hCz); rw [Hn1.out] at this; exact this.old
          exact ⟨_, rfl, hdf, iz, rfl, hiz, hrz, hCC.mono (fun _ _ h => .inl h)⟩
        · simp at ho
      case done =>
        intro A Wx _ _ _ hcome _
        exact (hcome 6 _ _ rfl rfl).elim
    | ok fl r =>
      have y0 := hBr4.cell 0 rfl
      have hlr4 := hBr4.lt
      have hcq4 := hCq4
      have hbo : Below w4.heap.size w4 (w4.alloc (.cells #[.string ⟨#[111, 110, 99, 101]⟩, .string ⟨#[114, 101, 97, 100]⟩] 9)).drew := (below_alloc w4 _).drew
      have hst3 : Strs (w4.alloc (.cells #[.string ⟨#[111, 110, 99, 101]⟩, .string ⟨#[114, 101, 97, 100]⟩] 9)).drew (.slice (some ⟨w4.heap.size, 0, none⟩) 2 2) [sOnce, sRead] := ⟨_, rfl, (Bx.new w4 [.string sOnce, .string sRead] 9).below (Below.refl _ _).drew⟩
      have hpo := poneOf_any _ [sOnce, sRead] (by decide) _ hst3
      go_upto_region 2 with fail
      go_cut [14] (fun v wx => v = .tuple #[] ∧ ∃ i5, i5 ≤ l.length ∧ r = (l.drop i5).map kt3 ∧ Pos n sv [s1, s2, s3] wx i5 ∧ InvM n n1 sb rb nm fl wx ∧ Ch (Xq n n1) W wx)
      case first =>
        go_region_law (first
          | (refine step_call1p (v := .slice (some ⟨w4.heap.size, 0, none⟩) 2 2) (o := { dst := some 12, op := .call { callee := .value (.func 146), args := #[.tmp 11], argTypes := #[140] }, type := _, pos := _, after := _, guard := none }) 146 (fun _ _ => rfl) rfl 11 _ rfl (by simp [Act.put]) ?_; refine hpo.mono ?_; rintro e w5 ⟨fv5, rfl, hF5, hb5⟩; obtain ⟨fk5, cap5, hfv5, -⟩ := id hF5; subst hfv5; refine .inl ⟨_, rfl, ?_⟩; have hbo5 := below_next hbo hb5; have hpp5 := hpp _ hbo5 _ (onr_fits hF5); have y5 := (hBr4.below hbo5).cell 0 rfl)
          | (refine step_call3p (v := .pointer (some ⟨n, 0, none⟩)) (u := .func (.func fk5) #[] cap5) (z := .func (.func 182) #[] #[.pointer (some ⟨sb, 0, none⟩), .pointer (some ⟨rb, 0, none⟩)]) (o := { dst := some 14, op := .call { callee := .value (.func 176), args := #[.tmp 10, .tmp 12, .tmp 13], argTypes := #[168, 210, 226] }, type := _, pos := _, after := _, guard := none }) 176 (fun _ _ => rfl) rfl 10 12 13 _ rfl (by simp [Act.put]) (by simp [Act.put]) (by simp [Act.put]) ?_; refine hpp5.mono ?_; rintro e w6 ⟨i5, rfl, hi5, hr5, hP5, hI5, hC45⟩; refine ⟨_, rfl, ?_⟩))
        all_goals
          go_wp2
          go_meet
          exact ⟨rfl, i5, hi5, hr5, hP5, hI5, hcq4.trans ((Ch.below hbo5).trans hC45)⟩
      case rest =>
        obtain ⟨rfl, i5, hi5, rfl, hP5, ⟨fv, hBs5, hRf5, hBr5⟩, hCq5⟩ := hcut
        generalize wc = w5 at *
        simp only [ok_bind] at HX4
        have HR5 := hid HX4
        have hC5 : Ch (Xp n) W w5 := by have := hCq5; rw [Hn1.out] at this; exact this.old
        obtain ⟨ps, hps, hRp, hown⟩ := hRo
        have hown5 := own_ch hown hC5 (fun k _ hx => by have := hx.2; revert this; decide)
        obtain ⟨adf, cpf, rfl⟩ := hRf5.shape
        have hpl : xs.length = ps.length := by rw [← hps, List.length_map]
        have hp100 : ps.length < 100 := by omega
        obtain ⟨ad1, cp1, hs1⟩ : ∃ ad cp, s3 = .slice ad ps.length cp := by
          rcases hown.2 with ⟨rfl, h0⟩ | ⟨g, cap, cur, rfl, _⟩
          · exact ⟨none, 0, by rw [h0]⟩
          · exact ⟨_, _, rfl⟩
        have HPS := hid hps
        have HRP := hid hRp
        have HRF := hid hRf5
        have hBw : B ≤ w5.heap.size := by have := hP5.facts.2.2.2; omega
        have y1 := hBr5.cell 0 rfl
        have y2 := hBs5.cell 0 rfl
        have y3 := hBs5.cell 1 rfl
        have c2 := Bx.cell hP5 2 rfl
        have c3 := Bx.cell hP5 3 rfl
        have c4 := Bx.cell hP5 4 rfl
        have cf := Bx.frozen hP5
        have hln5 := hP5.facts.2.2.2
        have hltr5 := hBr5.lt
        have hlts5 := hBs5.lt
        obtain ⟨i0, hi0, hz0, hz1, hz2⟩ := info_parts Tryz.info67
        subst hs1
        clear HX4 hpp hpo hst3 y0 hbo hcq4 hps hRp hpl hown hRf5 hx
        generalize fl.length = fln at *
        go_wp2_with fail
        go_region_law (first
          | (refine step_append_lies (o := { dst := some 23, op := .call { callee := .builtin .append, args := #[.tmp 20, .tmp 22], argTypes := #[24, 24] }, type := _, pos := _, after := _, guard := none }) _ rfl (.tmp 20) (.tmp 22) 24 rfl B 67 i0 _ 2 40 Tryz.underlying24 hi0 hz0 hz1 hz2 rfl (by decide) (.slice ad1 ps.length cp1) ps.length (ps.flatMap Prod.snd) rfl (own_ch (X := Xp n) hown5 (Ch.bel (Ch.alloc _ _) (Below.refl _ _).drew) (fun k _ hx => by have := hx.2; revert this; decide)) ⟨w5.heap.size, 0, none⟩ 1 1 [.string nm, .slice adf fln cpf] rfl rfl (World.news_of_block (heap_alloc_new w5 _)) (fun u hu => by simp at hu; rcases hu with rfl | rfl <;> rfl) (by decide) (by unfold maxLen; omega) (by omega) (by simp; omega) _ rfl ?_; intro g cap w6 hown6 hgr6 hat6 hlt6; have hP6 : Pos n sv [s1, s2, .slice ad1 ps.length cp1] w6 i5 := (hgr6.block n (by simp; omega) (fun e => by obtain ⟨_, cur, hq⟩ := own_block hown5 e.symm; rw [show w5.heap[n]? = _ from hP5] at hq; simp at hq)).trans (Bx.alloc hP5 _); have hBr6 : Bx w6 rb [.pointer (some ⟨n, 0, none⟩)] 208 := (hgr6.block rb (by simp; omega) (fun e => by obtain ⟨_, cur, hq⟩ := own_block hown5 e.symm; rw [show w5.heap[rb]? = _ from hBr5] at hq; simp at hq)).trans (Bx.alloc hBr5 _); have x5 := hBr6.cell 0 rfl; have x2 := Bx.cell hP6 2 rfl; have x3 := Bx.cell hP6 3 rfl; have x4 := Bx.cell hP6 4 rfl; have xf := Bx.frozen hP6))
        all_goals
          go_wp2
          go_end0
          rw [← HR5.out]
          obtain ⟨d1, d2, d3⟩ := decl_end (R := SvcR B) (rest' := [s1, s2, .slice (some ⟨g, 0, none⟩) (ps.length + 1) cap]) (c := [.string nm, .slice adf fln cpf]) (k := 4) (kk1.2, fl) (.inr (.inr rfl)) (fun w w' hc a c h => SvcR.ch (.inr (.inr rfl)) hc a c h) hC5 HRP.out hown5 (below_alloc w5 _).drew hgr6 hown6 hP6 rfl ⟨nm, adf, fln, cpf, rfl, Hnm.out, HRF.out.mono (by have := Hn1.out; have := HNN.out; omega) (fun a c h => MthR.mono (by have := Hn1.out; have := HNN.out; omega) a c h)⟩ rfl
          rw [HPS.out] at d2
          exact ⟨i5, _, rfl, hi5, rfl, d1, d2, d3⟩

end Go.Proofs.YtdbgncdnffbhkaaGreatDoor

namespace Go.Proofs.YtdbgncdnffbhkaaGreatDoor
open Go.RowKit
set_option maxRecDepth 20000

def stOf (ds : List Pl.Decl) : List (List Nat × List Pl.Fld) := ds.filterMap fun d => match d with | .st n l => some (n, l) | _ => none
def enOf (ds : List Pl.Decl) : List (List Nat × List Pl.Cas) := ds.filterMap fun d => match d with | .en n l => some (n, l) | _ => none
def svOf (ds : List Pl.Decl) : List (List Nat × List Pl.Mth) := ds.filterMap fun d => match d with | .sv n l => some (n, l) | _ => none

/-- What parse turns from B on. -/
def Xa (B : Nat) (g : Nat) (T : TypeId) : Prop := B ≤ g ∧ Xs g T
theorem Xt.a {n B : Nat} {Tr : TypeId} (hBn : B ≤ n) (hT : isTr Tr) (g : Nat) (T : TypeId) (h : Xt n B Tr g T) : Xa B g T := by
  rcases h with h | h
  · exact ⟨by rw [h.1]; exact hBn, .inl h.2⟩
  · refine ⟨h.1, ?_⟩
    rw [h.2]
    rcases hT with rfl | rfl | rfl
    · exact .inr (.inl rfl)
    · exact .inr (.inr (.inl rfl))
    · exact .inr (.inr (.inr (.inl rfl)))

/-- The schema on its way: the place, and the three rows. -/
def SchI (B n : Nat) (sv : Value) (ds : List Pl.Decl) (W : World) (i : Nat) : Prop := ∃ s1 s2 s3, Pos n sv [s1, s2, s3] W i ∧ Rows 60 2 (SctR B) B W s1 (stOf ds) ∧ Rows 64 2 (EnmR B) B W s2 (enOf ds) ∧ Rows 67 2 (SvcR B) B W s3 (svOf ds)

def ReadA (B n : Nat) (sv : Value) (l : List T3) (W : World) (res : Pl.Res (List Pl.Decl)) (e : Ending) (w' : World) : Prop :=
  match res with
  | .ok ds r => ∃ i', e = .returned (.tuple #[]) ∧ i' ≤ l.length ∧ r = (l.drop i').map kt3 ∧ SchI B n sv ds w' i' ∧ Ch (Xa B) W w'
  | .bad r er => ∃ i', e = .panicked (fault (lineAt l i') er) ∧ i' ≤ l.length ∧ r = (l.drop i').map kt3 ∧ Ch (Xa B) W w'

theorem decls_step (m : Nat) (hm : m ≤ 64) (x : List Pl.Kt) (h : x ≠ []) :
    Pl.declsP (64 - m) x = (moreP Pl.decT m 64 x).bind fun t r => (Pl.declP t r).bind fun a r1 => preR [a] (Pl.declsP (64 - (m + 1)) r1) := by
  cases x with
  | nil => exact absurd rfl h
  | cons t r =>
    by_cases hb : Pl.decT t = true
    · by_cases h32 : m = 64
      · subst h32
        simp [Pl.declsP, moreP, Pl.takeP, hb, Pl.Res.bind]
      · obtain ⟨k, hk⟩ : ∃ k, 64 - m = k + 1 := ⟨63 - m, by omega⟩
        have hk2 : 64 - (m + 1) = k := by omega
        rw [hk, hk2]
        simp only [Pl.declsP, moreP, Pl.takeP, if_pos hb, ok_bind, if_neg h32]
        rfl
    · have hq : moreP Pl.decT m 64 (t :: r) = .bad (t :: r) 33 := by simp [moreP, Pl.takeP, hb, Pl.Res.bind]
      rw [hq]
      cases (64 - m) <;> simp [Pl.declsP, hb, Pl.Res.bind]

theorem dec_fits {w : World} {fv : Value} (h : FitsT w fv (fun t => memB [sStruct, sEnum, sService] t.2)) : FitsT w fv Pl.decT := by
  have e : (fun t : Pl.Kt => memB [sStruct, sEnum, sService] t.2) = Pl.decT := by
    funext t
    simp only [memB, List.any_cons, List.any_nil, Bool.or_false, Pl.decT, Bool.or_assoc]
    rfl
  rw [← e]
  exact h

theorem step_callGp {P : Program} {w : World} {ops : Array Oper} {o : Oper} {a : Act} {K : Act → World → Prop} {Q : Exit → Act → World → Prop} {E : Prop} (f : Nat) (eg : ∀ args w, (callFunc f args).run P w = .ok (.enter f args) w) (hg : o.guard = none) (args : Array Operand) (ts : Array TypeId) (hop : o.op = .call { callee := .value (.func f), args := args, argTypes := ts }) (vs : Array Value) (hvs : args.map a.eval = vs)
    (h : Calls P f vs w fun e w' => ∃ x, e = .returned x ∧ K (a.put o.dst x) w') : if Region.wanted o (yielded ops a.tmps) = true then Oper.wp P o a w K Q else E := by
  have hw : Region.wanted o (yielded ops a.tmps) = true := by simp [Region.wanted, hg]
  rw [if_pos hw]
  unfold Oper.wp
  rw [run_call f eg args ts hop vs hvs]
  refine h.mono ?_
  rintro e w' ⟨x, rfl, hk⟩
  exact hk

theorem st_app (ds : List Pl.Decl) (d : Pl.Decl) : stOf (ds ++ [d]) = stOf ds ++ stOf [d] := List.filterMap_append
theorem en_app (ds : List Pl.Decl) (d : Pl.Decl) : enOf (ds ++ [d]) = enOf ds ++ enOf [d] := List.filterMap_append
theorem sv_app (ds : List Pl.Decl) (d : Pl.Decl) : svOf (ds ++ [d]) = svOf ds ++ svOf [d] := List.filterMap_append
theorem st_len (ds : List Pl.Decl) : (stOf ds).length ≤ ds.length := List.length_filterMap_le _ _
theorem en_len (ds : List Pl.Decl) : (enOf ds).length ≤ ds.length := List.length_filterMap_le _ _
theorem sv_len (ds : List Pl.Decl) : (svOf ds).length ≤ ds.length := List.length_filterMap_le _ _

theorem sct_keep {n B : Nat} {w w' : World} {v : Value} {xs : List (List Nat × List Pl.Fld)} (hc : Ch (Xp n) w w') (h : Rows 60 2 (SctR B) B w v xs) : Rows 60 2 (SctR B) B w' v xs :=
  h.ch hc (fun a c h => SctR.ch (n := n) (Tr := 60) (.inl rfl) (hc.mono (fun _ _ h => .inl h)) a c h) (fun k _ hx => by have := hx.2; revert this; decide)
theorem enm_keep {n B : Nat} {w w' : World} {v : Value} {xs : List (List Nat × List Pl.Cas)} (hc : Ch (Xp n) w w') (h : Rows 64 2 (EnmR B) B w v xs) : Rows 64 2 (EnmR B) B w' v xs :=
  h.ch hc (fun a c h => EnmR.ch (n := n) (Tr := 60) (.inl rfl) (hc.mono (fun _ _ h => .inl h)) a c h) (fun k _ hx => by have := hx.2; revert this; decide)
theorem svc_keep {n B : Nat} {w w' : World} {v : Value} {xs : List (List Nat × List Pl.Mth)} (hc : Ch (Xp n) w w') (h : Rows 67 2 (SvcR B) B w v xs) : Rows 67 2 (SvcR B) B w' v xs :=
  h.ch hc (fun a c h => SvcR.ch (n := n) (Tr := 60) (.inl rfl) (hc.mono (fun _ _ h => .inl h)) a c h) (fun k _ hx => by have := hx.2; revert this; decide)
theorem sct_keepT {n B : Nat} {Tr : TypeId} {w w' : World} {v : Value} {xs : List (List Nat × List Pl.Fld)} (hT : 60 ≠ Tr) (hi : isTr Tr) (hc : Ch (Xt n B Tr) w w') (h : Rows 60 2 (SctR B) B w v xs) : Rows 60 2 (SctR B) B w' v xs :=
  h.ch hc (fun a c h => SctR.ch hi hc a c h) (fun k _ => Xt.not (by decide) hT)
theorem enm_keepT {n B : Nat} {Tr : TypeId} {w w' : World} {v : Value} {xs : List (List Nat × List Pl.Cas)} (hT : 64 ≠ Tr) (hi : isTr Tr) (hc : Ch (Xt n B Tr) w w') (h : Rows 64 2 (EnmR B) B w v xs) : Rows 64 2 (EnmR B) B w' v xs :=
  h.ch hc (fun a c h => EnmR.ch hi hc a c h) (fun k _ => Xt.not (by decide) hT)
theorem svc_keepT {n B : Nat} {Tr : TypeId} {w w' : World} {v : Value} {xs : List (List Nat × List Pl.Mth)} (hT : 67 ≠ Tr) (hi : isTr Tr) (hc : Ch (Xt n B Tr) w w') (h : Rows 67 2 (SvcR B) B w v xs) : Rows 67 2 (SvcR B) B w' v xs :=
  h.ch hc (fun a c h => SvcR.ch hi hc a c h) (fun k _ => Xt.not (by decide) hT)

set_option maxHeartbeats 16000000 in
set_option maxRecDepth 4000 in
theorem readAll_any (B n : Nat) (sv : Value) (l : List T3) (hbig : l.length ≤ 1000000) (hG : GoodT l) (W : World) (h : SchI B n sv [] W 0) (hS : TSeg W sv (l.map toZ)) (hBn : B ≤ n) (hsB : 0 < l.length → ∀ g, sv.ownBlock = some g → g < B) :
    Calls Tryz.prog 97 #[.pointer (some ⟨n, 0, none⟩)] W (ReadA B n sv l W (Pl.declsP 64 (l.map kt3))) := by
  generalize hRES : Pl.declsP 64 (l.map kt3) = RES
  have HR := hid hRES
  have HS := hid hS
  have HG := hid hG
  have HXp : Hid (∀ g T, Xp n g T → Xa B g T) := fun g T h => ⟨by rw [h.1]; exact hBn, .inl h.2⟩
  have HSB := hid hsB
  have HI := hid h
  clear hRES hG hS hsB h
  go_enter Tryz.func97, Tryz.ntmps97
  go_wp2_with fail
  go_loopw [2] (fun v wr => ∃ (ds : List Pl.Decl) (j : Nat), v = .int .i64 (ds.length : Int) ∧ ds.length ≤ 64 ∧ j ≤ l.length ∧ preR ds (Pl.declsP (64 - ds.length) ((l.drop j).map kt3)) = RES ∧ SchI B n sv ds wr j ∧ Ch (Xa B) W wr) (fun v _ => 65 - (intOf v).toNat)
  case atStart =>
    refine ⟨[], 0, rfl, by simp, Nat.zero_le _, ?_, HI.out, Ch.refl _ _⟩
    rw [← HR.out]
    simp only [List.length_nil, Nat.sub_zero, List.drop_zero]
    generalize Pl.declsP 64 (l.map kt3) = R
    cases R <;> rfl
  case round =>
    obtain ⟨ds, j, rfl, hds, hj, hT, hI, hC⟩ := hrel
    have HT := hid hT
    obtain ⟨s1, s2, s3, hP, hR1, hR2, hR3⟩ := hI
    obtain ⟨a0, cp0, hsv, -⟩ := id HS.out
    rw [List.length_map] at hsv
    have hov : ∀ Wx, Below wr.heap.size wr Wx → Calls Tryz.prog 144 #[.pointer (some ⟨n, 0, none⟩)] Wx fun e w' => e = .returned (.bool (decide (j = l.length))) ∧ ∃ m, w' = Wx.drewN m := by
      intro Wx hb
      have hPx := hP.below hb
      rw [hsv] at hPx
      exact pover_any n _ l.length cp0 _ Wx j hPx
    have hov1 := hov wr (Below.refl _ _)
    clear hT hov HR HI
    have HSV := hid hsv
    clear hsv
    by_cases hend : j = l.length
    · rw [decide_eq_true hend] at hov1
      have hRe : preR ds (Pl.Res.ok [] []) = RES := by
        have := HT.out
        rw [List.drop_of_length_le (by omega)] at this
        simp only [List.map_nil] at this
        rw [← this]
        cases (64 - ds.length) <;> rfl
      have HRe : Hid (Pl.Res.ok ds ((l.drop j).map kt3) = RES) := by
        rw [← hRe, List.drop_of_length_le (by omega)]
        simp [preR, Pl.Res.bind, Hid]
      clear hRe HT hend
      go_wp2_with fail
      refine hov1.mono ?_
      rintro e w2 ⟨rfl, q, rfl⟩
      have hb := below_drewN (Below.refl wr.heap.size wr) q
      go_wp2
      go_end0
      rw [← HRe.out]
      have hcx : Ch (fun _ _ => False) wr (wr.drewN q) := Ch.below hb
      exact ⟨j, rfl, hj, rfl, ⟨s1, s2, s3, hP.below hb, hR1.ch hcx (fun a c h => SctR.ch (n := n) (Tr := 60) (.inl rfl) (hcx.mono (fun _ _ h => h.elim)) a c h) (fun k _ h => h), hR2.ch hcx (fun a c h => EnmR.ch (n := n) (Tr := 60) (.inl rfl) (hcx.mono (fun _ _ h => h.elim)) a c h) (fun k _ h => h), hR3.ch hcx (fun a c h => SvcR.ch (n := n) (Tr := 60) (.inl rfl) (hcx.mono (fun _ _ h => h.elim)) a c h) (fun k _ h => h)⟩, hC.bel hb⟩
    · rw [decide_eq_false hend] at hov1
      have hl : 0 < l.length := by omega
      have HsB := hid (HSB.out hl)
      have HNa : Hid (∀ g, sv.ownBlock = some g → ∀ T, ¬ Xa B g T) := fun g hg T hq => by
        have := HsB.out g hg
        have := hq.1
        omega
      have hne : (l.drop j).map kt3 ≠ [] := by
        intro he
        have := congrArg List.length he
        simp at this
        omega
      have hT2 := HT.out
      rw [decls_step ds.length hds _ hne] at hT2
      have HT2 := hid hT2
      clear hT2 HT hne hend
      go_wp2_with fail
      refine hov1.mono ?_
      rintro e w1 ⟨rfl, q, rfl⟩
      have hb1 := below_drewN (Below.refl wr.heap.size wr) q
      have hcx : Ch (fun _ _ => False) wr (wr.drewN q) := Ch.below hb1
      have hP1 := hP.below hb1
      have hC1 := hC.bel hb1
      have hR1' : Rows 60 2 (SctR B) B (wr.drewN q) s1 (stOf ds) := hR1.ch hcx (fun a c h => SctR.ch (n := n) (Tr := 60) (.inl rfl) (hcx.mono (fun _ _ h => h.elim)) a c h) (fun k _ h => h)
      have hR2' : Rows 64 2 (EnmR B) B (wr.drewN q) s2 (enOf ds) := hR2.ch hcx (fun a c h => EnmR.ch (n := n) (Tr := 60) (.inl rfl) (hcx.mono (fun _ _ h => h.elim)) a c h) (fun k _ h => h)
      have hR3' : Rows 67 2 (SvcR B) B (wr.drewN q) s3 (svOf ds) := hR3.ch hcx (fun a c h => SvcR.ch (n := n) (Tr := 60) (.inl rfl) (hcx.mono (fun _ _ h => h.elim)) a c h) (fun k _ h => h)
      clear hP hC hR1 hR2 hR3 hcx hb1 hov1
      generalize wr.drewN q = w1 at *
      have hmo : ∀ Wx, Below w1.heap.size w1 Wx → ∀ bv, FitsT Wx bv Pl.decT → Calls Tryz.prog 145 #[.pointer (some ⟨n, 0, none⟩), .int .i64 (ds.length : Int), .int .i64 ((64 : Nat) : Int), bv] Wx (Runs l n sv [s1, s2, s3] Wx (moreP Pl.decT ds.length 64 ((l.drop j).map kt3)) (fun k v _ => ∃ t, t ∈ l ∧ k = kt3 t ∧ v = tokV t)) := fun Wx hb bv hF => pmore_any n sv l [s1, s2, s3] Wx j (hP1.below hb) (HS.out.ch (hC1.bel hb) HNa.out) hl hbig hj bv _ hF ds.length 64
      have HX4 := HT2.out
      clear HT2
      go_wp2_with fail
      generalize hR4 : moreP Pl.decT ds.length 64 ((l.drop j).map kt3) = R4 at *
      cases R4 with
      | bad r er =>
        subst HX4
        refine wp_region_drawn2 (pred := fun jx v w => match jx with | 0 => v = .pointer (some ⟨n, 0, none⟩) | 1 => v = .pointer (some ⟨n, 0, none⟩) | 2 => v = .pointer (some ⟨n, 0, none⟩) | 3 => v = .int .i64 (ds.length : Int) | 4 => Strs w v [sStruct, sEnum, sService] | 5 => FitsT w v Pl.decT | 6 => False | 7 => False | _ => True) (R := fun Wx => Below w1.heap.size w1 Wx) (by kernel_rfl) (by kernel_rfl) (by kernel_rfl) ?mono (Below.refl _ _).drew ?step ?done
        case mono =>
          intro jx v Wx Wy hp hb
          rcases jx with _ | _ | _ | _ | _ | _ | _ | _ | jx
          · exact hp
          · exact hp
          · exact hp
          · exact hp
          · exact Strs.below hp hb
          · exact FitsT.ch hp (Ch.below hb)
          · exact hp
          · exact hp
          · exact hp
        case step =>
          intro ix o ho A Wx hsz hdf hfr hdep hR
          rcases ix with _ | _ | _ | _ | _ | _ | _ | _ | ix
          · injection ho with ho
            subst ho
            have e0 : A.eval (.tmp 0) = .pointer (some ⟨n, 0, none⟩) := (hfr 0 (noDst_spec (by kernel_rfl))).trans rfl
            exact gOp_mv rfl (wanted_plain rfl) (.inl rfl) e0 ⟨_, rfl, rfl, Below.refl _ _, hR⟩
          · injection ho with ho
            subst ho
            have e10 : A.eval (.tmp 10) = .pointer (some ⟨n, 0, none⟩) := hdep ⟨0, .data⟩ (by simp) rfl _ _ rfl rfl
            exact gOp_nil rfl (wanted_plain rfl) rfl e10 ⟨_, rfl, rfl, Below.refl _ _, hR⟩
          · injection ho with ho
            subst ho
            have e11 : A.eval (.tmp 11) = .pointer (some ⟨n, 0, none⟩) := hdep ⟨1, .data⟩ (by simp) rfl _ _ rfl rfl
            exact gOp_fld (v := .pointer (some ⟨n, 0, none⟩)) rfl (wanted_plain rfl) rfl e11 (by go_simp) ⟨_, rfl, rfl, Below.refl _ _, hR⟩
          · injection ho with ho
            subst ho
            have e2 : A.eval (.tmp 2) = .int .i64 (ds.length : Int) := (hfr 2 (noDst_spec (by kernel_rfl))).trans rfl
            exact gOp_mv rfl (wanted_plain rfl) (.inl rfl) e2 ⟨_, rfl, rfl, Below.refl _ _, hR⟩
          · injection ho with ho
            subst ho
            exact gOp_ok (v := .slice (some ⟨Wx.heap.size, 0, none⟩) 3 3) rfl (wanted_plain rfl) (w' := Wx.alloc (.cells #[.string ⟨#[115, 116, 114, 117, 99, 116]⟩, .string ⟨#[101, 110, 117, 109]⟩, .string ⟨#[115, 101, 114, 118, 105, 99, 101]⟩] 9)) (run_bslice rfl (by go_simp)) ⟨_, rfl, ⟨_, rfl, heap_alloc_new Wx _⟩, below_alloc Wx _, hR.trans ((below_alloc Wx _).mono hR.size)⟩
          · injection ho with ho
            subst ho
            have hst3 : Strs Wx _ [sStruct, sEnum, sService] := hdep ⟨4, .data⟩ (by simp) rfl _ _ rfl rfl
            refine gOp_enter rfl (wanted_plain rfl) 146 #[A.tmps.getD 14 undef] (run_call _ (fun _ _ => rfl) _ _ rfl _ (by simp [Act.eval])) ?_
            refine (poneOf_any _ [sStruct, sEnum, sService] (by decide) Wx hst3).mono ?_
            rintro e w' ⟨fv, rfl, hF, hb⟩
            exact ⟨_, rfl, _, rfl, dec_fits hF, hb, hR.trans (hb.mono hR.size)⟩
          · injection ho with ho
            subst ho
            have e12 : A.eval (.tmp 12) = .pointer (some ⟨n, 0, none⟩) := hdep ⟨2, .data⟩ (by simp) rfl _ _ rfl rfl
            have e13 : A.eval (.tmp 13) = .int .i64 (ds.length : Int) := hdep ⟨3, .data⟩ (by simp) rfl _ _ rfl rfl
            have hf4 : FitsT Wx _ Pl.decT := hdep ⟨5, .data⟩ (by simp) rfl _ _ rfl rfl
            refine gOp_dies rfl (wanted_plain rfl) 145 #[.pointer (some ⟨n, 0, none⟩), .int .i64 (ds.length : Int), .int .i64 ((64 : Nat) : Int), _] (run_call _ (fun _ _ => rfl) _ _ rfl _ (by simp [e12, e13]; exact ⟨rfl, rfl⟩)) ?_
            refine (hmo Wx hR _ hf4).mono ?_
            rintro e wz ⟨iz, rfl, hiz, hrz, hCz⟩
            exact ⟨_, rfl, hdf, iz, rfl, hiz, hrz, hC1.trans ((Ch.below hR).trans (hCz.mono HXp.out))⟩
          · injection ho with ho
            subst ho
            exact (hdep ⟨6, .data⟩ (by simp) rfl _ _ rfl rfl).elim
          · simp at ho
        case done =>
          intro A Wx _ _ _ hcome _
          exact (hcome 6 _ _ rfl rfl).elim
      | ok kk r =>
        obtain ⟨hdt, hmk⟩ := more_ok hR4
        simp only [ok_bind] at HX4
        have HX5 := hid HX4
        have hln1 := hP1.facts.2.2.2
        have hbo : Below w1.heap.size w1 (w1.alloc (.cells #[.string ⟨#[115, 116, 114, 117, 99, 116]⟩, .string ⟨#[101, 110, 117, 109]⟩, .string ⟨#[115, 101, 114, 118, 105, 99, 101]⟩] 9)).drew := (below_alloc w1 _).drew
        have hst3 : Strs (w1.alloc (.cells #[.string ⟨#[115, 116, 114, 117, 99, 116]⟩, .string ⟨#[101, 110, 117, 109]⟩, .string ⟨#[115, 101, 114, 118, 105, 99, 101]⟩] 9)).drew (.slice (some ⟨w1.heap.size, 0, none⟩) 3 3) [sStruct, sEnum, sService] := ⟨_, rfl, (Bx.new w1 [.string sStruct, .string sEnum, .string sService] 9).below (Below.refl _ _).drew⟩
        have hpo := poneOf_any _ [sStruct, sEnum, sService] (by decide) _ hst3
        have hft := run_text
        clear HX4 hR4
        go_upto_region 3 with fail
        go_cut [17] (fun v wx => ∃ (t : T3) (i5 : Nat), t ∈ l ∧ kk = kt3 t ∧ v = .string t.2.1 ∧ i5 ≤ l.length ∧ r = (l.drop i5).map kt3 ∧ Pos n sv [s1, s2, s3] wx i5 ∧ Ch (Xp n) w1 wx)
        case first =>
          go_region_law (first
            | (refine step_call1p (v := .slice (some ⟨w1.heap.size, 0, none⟩) 3 3) (o := { dst := some 15, op := .call { callee := .value (.func 146), args := #[.tmp 14], argTypes := #[140] }, type := _, pos := _, after := _, guard := none }) 146 (fun _ _ => rfl) rfl 14 _ rfl (by simp) ?_; refine hpo.mono ?_; rintro e w5 ⟨fv5, rfl, hF5, hb5⟩; obtain ⟨fk5, cap5, hfv5, -⟩ := id hF5; subst hfv5; refine .inl ⟨_, rfl, ?_⟩; have hbo5 := below_next hbo hb5; have hmo5 := hmo _ hbo5 _ (dec_fits hF5))
            | (refine step_callGp (o := { dst := some 16, op := .call { callee := .value (.func 145), args := #[.tmp 12, .tmp 13, .const (.int .i64 64), .tmp 15], argTypes := #[168, 3, 3, 210] }, type := _, pos := _, after := _, guard := none }) 145 (fun _ _ => rfl) rfl #[.tmp 12, .tmp 13, .const (.int .i64 64), .tmp 15] _ rfl #[.pointer (some ⟨n, 0, none⟩), .int .i64 (ds.length : Int), .int .i64 ((64 : Nat) : Int), .func (.func fk5) #[] cap5] (by simp [Act.eval]) ?_; refine hmo5.mono ?_; rintro e w6 ⟨v6, i5, rfl, hi5, hr5, hP5, ⟨t6, ht6, hk6, rfl⟩, hC6⟩; refine ⟨_, rfl, ?_⟩; unfold tokV))
          all_goals
            go_wp2
            go_meet
            exact ⟨t6, i5, ht6, hk6, rfl, hi5, hr5, hP5, (Ch.below hbo5).trans hC6⟩
        case rest =>
          obtain ⟨t, i5, htl, rfl, rfl, hi5, rfl, hP5, hc5⟩ := hcut
          generalize wc = w5 at *
          have hC5 : Ch (Xa B) W w5 := hC1.trans (hc5.mono HXp.out)
          have hQ1 := sct_keep hc5 hR1'
          have hQ2 := enm_keep hc5 hR2'
          have hQ3 := svc_keep hc5 hR3'
          clear hR1' hR2' hR3' hc5 hP1 hC1 hmo hbo hst3 hpo hft
          obtain ⟨k, x, ln⟩ := t
          have hkx : (kt3 (k, x, ln)).2 = bl x := rfl
          have HX9 := HX5.out
          unfold Pl.declP at HX9
          rw [hkx] at HX9
          simp only at ⊢
          by_cases h1 : bl x = Pl.wStruct
          · have hx : x = sStruct := bl_inj h1
            rw [if_pos h1, bind_assoc] at HX9
            simp only [ok_bind] at HX9
            clear HX5
            have HX5 := hid HX9
            clear HX9 hkx h1 hdt htl
            subst hx
            unfold sStruct
            have hrd := readF B n sv l s1 s2 s3 hl hbig HG.out w5 i5 hP5 (HS.out.ch hC5 HNa.out) hi5 hBn HsB.out (stOf ds) (by have := st_len ds; omega) hQ1
            clear hP5
            go_wp2_with fail
            refine hrd.mono ?_
            clear hrd
            have HX6 := HX5.out
            clear HX5
            generalize Pl.bodyP Pl.numT Pl.fieldP ((l.drop i5).map kt3) = R5 at *
            cases R5 with
            | bad r er =>
              rintro e wz ⟨iz, rfl, hiz, hrz, hCz⟩
              subst HX6
              exact ⟨rfl, iz, rfl, hiz, hrz, hC5.trans (hCz.mono (Xt.a hBn (.inl rfl)))⟩
            | ok a r =>
              rintro e w6 ⟨i6, u', rfl, hi6, rfl, hP6, hRn, hc6⟩
              simp only [ok_bind] at HX6
              rw [preR_preR] at HX6
              have HX7 := hid HX6
              have hC6 := hC5.trans (hc6.mono (Xt.a hBn (.inl rfl)))
              clear HX6
              go_wp2
              refine ⟨⟨ds ++ [Pl.Decl.st a.1 a.2], i6, ?_, ?_, hi6, ?_, ⟨u', s2, s3, hP6, ?_, ?_, ?_⟩, hC6⟩, ?_⟩
              · rw [List.length_append]
                go_num
              · rw [List.length_append]
                simp
                omega
              · rw [List.length_append]
                exact HX7.out
              · rw [st_app]
                exact hRn
              · rw [en_app, show enOf [Pl.Decl.st a.1 a.2] = [] from rfl, List.append_nil]
                exact (enm_keepT (Tr := 60) (by decide) (.inl rfl) hc6 hQ2)
              · rw [sv_app, show svOf [Pl.Decl.st a.1 a.2] = [] from rfl, List.append_nil]
                exact (svc_keepT (Tr := 60) (by decide) (.inl rfl) hc6 hQ3)
              · simp [intOf]
                omega
          · rw [if_neg h1] at HX9
            by_cases h2 : bl x = Pl.wEnum
            · have hx : x = sEnum := bl_inj h2
              rw [if_pos h2, bind_assoc] at HX9
              simp only [ok_bind] at HX9
              clear HX5
              have HX5 := hid HX9
              clear HX9 hkx h1 h2 hdt htl
              subst hx
              unfold sEnum
              have hrd := readC B n sv l s1 s2 s3 hl hbig HG.out w5 i5 hP5 (HS.out.ch hC5 HNa.out) hi5 hBn HsB.out (enOf ds) (by have := en_len ds; omega) hQ2
              clear hP5
              go_wp2_with fail
              refine hrd.mono ?_
              clear hrd
              have HX6 := HX5.out
              clear HX5
              generalize Pl.bodyP Pl.numT Pl.caseP ((l.drop i5).map kt3) = R5 at *
              cases R5 with
              | bad r er =>
                rintro e wz ⟨iz, rfl, hiz, hrz, hCz⟩
                subst HX6
                exact ⟨rfl, iz, rfl, hiz, hrz, hC5.trans (hCz.mono (Xt.a hBn (.inr (.inl rfl))))⟩
              | ok a r =>
                rintro e w6 ⟨i6, u', rfl, hi6, rfl, hP6, hRn, hc6⟩
                simp only [ok_bind] at HX6
                rw [preR_preR] at HX6
                have HX7 := hid HX6
                have hC6 := hC5.trans (hc6.mono (Xt.a hBn (.inr (.inl rfl))))
                clear HX6
                go_wp2
                refine ⟨⟨ds ++ [Pl.Decl.en a.1 a.2], i6, ?_, ?_, hi6, ?_, ⟨s1, u', s3, hP6, ?_, ?_, ?_⟩, hC6⟩, ?_⟩
                · rw [List.length_append]
                  go_num
                · rw [List.length_append]
                  simp
                  omega
                · rw [List.length_append]
                  exact HX7.out
                · rw [st_app, show stOf [Pl.Decl.en a.1 a.2] = [] from rfl, List.append_nil]
                  exact (sct_keepT (Tr := 64) (by decide) (.inr (.inl rfl)) hc6 hQ1)
                · rw [en_app]
                  exact hRn
                · rw [sv_app, show svOf [Pl.Decl.en a.1 a.2] = [] from rfl, List.append_nil]
                  exact (svc_keepT (Tr := 64) (by decide) (.inr (.inl rfl)) hc6 hQ3)
                · simp [intOf]
                  omega
            · have h3 : bl x = Pl.wService := by
                simp only [Pl.decT, hkx, Bool.or_eq_true, decide_eq_true_eq] at hdt
                rcases hdt with (h | h) | h
                · exact absurd h h1
                · exact absurd h h2
                · exact h
              have hx : x = sService := bl_inj h3
              rw [if_neg h2, bind_assoc] at HX9
              simp only [ok_bind] at HX9
              clear HX5
              have HX5 := hid HX9
              clear HX9 hkx h1 h2 h3 hdt htl
              subst hx
              unfold sService
              have hrd := readM B n sv l s1 s2 s3 hl hbig HG.out w5 i5 hP5 (HS.out.ch hC5 HNa.out) hi5 hBn HsB.out (svOf ds) (by have := sv_len ds; omega) hQ3
              clear hP5
              go_wp2_with fail
              refine hrd.mono ?_
              clear hrd
              have HX6 := HX5.out
              clear HX5
              generalize Pl.bodyP Pl.onrT Pl.methodP ((l.drop i5).map kt3) = R5 at *
              cases R5 with
              | bad r er =>
                rintro e wz ⟨iz, rfl, hiz, hrz, hCz⟩
                subst HX6
                exact ⟨rfl, iz, rfl, hiz, hrz, hC5.trans (hCz.mono (Xt.a hBn (.inr (.inr rfl))))⟩
              | ok a r =>
                rintro e w6 ⟨i6, u', rfl, hi6, rfl, hP6, hRn, hc6⟩
                simp only [ok_bind] at HX6
                rw [preR_preR] at HX6
                have HX7 := hid HX6
                have hC6 := hC5.trans (hc6.mono (Xt.a hBn (.inr (.inr rfl))))
                clear HX6
                go_wp2
                refine ⟨⟨ds ++ [Pl.Decl.sv a.1 a.2], i6, ?_, ?_, hi6, ?_, ⟨s1, s2, u', hP6, ?_, ?_, ?_⟩, hC6⟩, ?_⟩
                · rw [List.length_append]
                  go_num
                · rw [List.length_append]
                  simp
                  omega
                · rw [List.length_append]
                  exact HX7.out
                · rw [st_app, show stOf [Pl.Decl.sv a.1 a.2] = [] from rfl, List.append_nil]
                  exact (sct_keepT (Tr := 67) (by decide) (.inr (.inr rfl)) hc6 hQ1)
                · rw [en_app, show enOf [Pl.Decl.sv a.1 a.2] = [] from rfl, List.append_nil]
                  exact (enm_keepT (Tr := 67) (by decide) (.inr (.inr rfl)) hc6 hQ2)
                · rw [sv_app]
                  exact hRn
                · simp [intOf]
                  omega
end Go.Proofs.YtdbgncdnffbhkaaGreatDoor

