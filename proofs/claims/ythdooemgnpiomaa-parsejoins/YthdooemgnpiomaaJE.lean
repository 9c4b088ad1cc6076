/- ParseJoins: rows put behind rows; what two texts declare, and both of them; the walk. -/
import Derived.Test.YthdooemgnpiomaaRD
import Derived.Test.YthdooemgnpiomaaSG
import Derived.Laws.AppendOwnNone
import Derived.Deep.RegionLaw
namespace Go.Proofs.Ythdooemgnpiomaa
open Go.RowKit

/-- A row of the call's own, and another row behind it. -/
theorem run_append_rows {α : Type} {t ty T : TypeId} {m bytes B Bs : Nat} {R : α → List Value → World → Prop} {w : World} {v u : Value} {xs ys : List α} (i : TypeInfo) (z : Value) (ht : Try.prog.underlying t = some (.slice T)) (hi : Try.prog.info? T = some i) (hz : i.zero = some z) (hsize : i.size = m) (hby : i.bytes = bytes) (hzs : z.cells.size = m) (hsz : 0 < m)
    (hone : ∀ a c, R a c w → ∀ x ∈ c, x.oneCell' = true) (hst : ∀ w', Ch (fun g T' => B ≤ g ∧ T' = T) w w' → ∀ a c, R a c w → R a c w') (hv : Rows T m R B w v xs) (hu : Rows T m R Bs w u ys) (hlen : (xs.length + ys.length) * bytes ≤ 1000000) (hml : xs.length + ys.length ≤ 1000000) (hB : B ≤ w.heap.size) :
    ∃ v' w', (Builtin.append_ #[t, t] ty #[v, u]).run Try.prog w = .ok v' w' ∧ Rows T m R B w' v' (xs ++ ys) ∧ Ch (fun g T' => B ≤ g ∧ T' = T) w w' := by
  obtain ⟨ps, rfl, p2, p3⟩ := hv
  obtain ⟨qs, rfl, q2, q3⟩ := hu
  rw [List.length_map, List.length_map] at hlen hml
  rcases q3.2 with ⟨rfl, h0⟩ | ⟨g, cap, cur, rfl, hb, hg, hle, hm, hs, htk⟩
  · have hq : qs = [] := List.length_eq_zero_iff.1 h0
    subst hq
    refine ⟨v, w, run_append_owned_none (P := Try.prog) (w := w) B t ty T i m ht hi v ps.length _ p3, ?_, Ch.refl _ _⟩
    simp only [List.map_nil, List.append_nil]
    exact ⟨ps, rfl, p2, p3⟩
  · have hnews : ∀ j x, (qs.flatMap Prod.snd)[j]? = some x → w.cell? ((⟨g, 0, none⟩ : Addr).add j) = some x := by
      intro j x hx
      have hj := (List.getElem?_eq_some_iff.1 hx).1
      rw [q3.1] at hj
      rw [← htk, List.getElem?_take_of_lt hj] at hx
      exact World.news_of_block hg j x hx
    obtain ⟨v', w', hr, ho, hgr, -⟩ := run_append_own (P := Try.prog) w B t ty T i z m bytes ht hi hz hsize hby hzs hsz v ps.length _ p3 ⟨g, 0, none⟩ qs.length cap (qs.flatMap Prod.snd) q3.1 hnews (fun x hx => by
      obtain ⟨p, hp, hxp⟩ := List.mem_flatMap.1 hx
      exact hone p.1 p.2 (q2 p hp).1 x hxp) (by unfold maxLen; omega) (by omega) hB
    have hc : Ch (fun g T' => B ≤ g ∧ T' = T) w w' := grown_ch p3 (Ch.refl _ _) hgr (fun k hk => ⟨hk, rfl⟩)
    refine ⟨v', w', hr, ⟨ps ++ qs, by simp, fun p hp => ?_, by simpa using ho⟩, hc⟩
    rcases List.mem_append.1 hp with hp | hp
    · exact ⟨hst _ hc _ _ (p2 p hp).1, (p2 p hp).2⟩
    · exact ⟨hst _ hc _ _ (q2 p hp).1, (q2 p hp).2⟩

theorem step_append_rows {α : Type} {ops : Array Oper} {o : Oper} {a : Act} {K : Act → World → Prop} {Q : Exit → Act → World → Prop} {E : Prop} {t T : TypeId} {m bytes B Bs : Nat} {R : α → List Value → World → Prop} {v u : Value} {xs ys : List α} (w : World) (hgd : o.guard = none) (s x : Operand) (ho : o.op = .call { callee := .builtin .append, args := #[s, x], argTypes := #[t, t] }) (hs : a.eval s = v) (hx : a.eval x = u)
    (i : TypeInfo) (z : Value) (ht : Try.prog.underlying t = some (.slice T)) (hi : Try.prog.info? T = some i) (hz : i.zero = some z) (hsize : i.size = m) (hby : i.bytes = bytes) (hzs : z.cells.size = m) (hsz : 0 < m)
    (hone : ∀ a c, R a c w → ∀ x ∈ c, x.oneCell' = true) (hst : ∀ w', Ch (fun g T' => B ≤ g ∧ T' = T) w w' → ∀ a c, R a c w → R a c w') (hv : Rows T m R B w v xs) (hu : Rows T m R Bs w u ys) (hlen : (xs.length + ys.length) * bytes ≤ 1000000) (hml : xs.length + ys.length ≤ 1000000) (hB : B ≤ w.heap.size)
    (h : ∀ v' w', Rows T m R B w' v' (xs ++ ys) → Ch (fun g T' => B ≤ g ∧ T' = T) w w' → K (a.put o.dst v') w') :
    if Region.wanted o (yielded ops a.tmps) = true then Oper.wp Try.prog o a w K Q else E := by
  have hw : Region.wanted o (yielded ops a.tmps) = true := by simp [Region.wanted, hgd]
  rw [if_pos hw]
  obtain ⟨v', w', hr, r1, r2⟩ := run_append_rows (ty := o.type) i z ht hi hz hsize hby hzs hsz hone hst hv hu hlen hml hB
  unfold Oper.wp
  simp [execOp, ho, resolve, invoke, builtin, hs, hx, hr, Result.andThen]
  exact h v' w' r1 r2

theorem SctR.one {B : Nat} {w : World} (a : List Nat × List Pl.Fld) (c : List Value) (h : SctR B a c w) : ∀ x ∈ c, x.oneCell' = true := by
  obtain ⟨s, ad, m, cp, rfl, _⟩ := h
  intro x hx
  simp at hx
  rcases hx with rfl | rfl <;> rfl
theorem EnmR.one {B : Nat} {w : World} (a : List Nat × List Pl.Cas) (c : List Value) (h : EnmR B a c w) : ∀ x ∈ c, x.oneCell' = true := by
  obtain ⟨s, ad, m, cp, rfl, _⟩ := h
  intro x hx
  simp at hx
  rcases hx with rfl | rfl <;> rfl
theorem SvcR.one {B : Nat} {w : World} (a : List Nat × List Pl.Mth) (c : List Value) (h : SvcR B a c w) : ∀ x ∈ c, x.oneCell' = true := by
  obtain ⟨s, ad, m, cp, rfl, _⟩ := h
  intro x hx
  simp at hx
  rcases hx with rfl | rfl <;> rfl

/-- A text that declares ds. -/
def TOk (s : ByteArray) (ds : List Pl.Decl) : Prop := (tokA s).2.2 = 0 ∧ Pl.declsP 64 ((tokA s).1.map Pl.kt) = .ok ds []
/-- A text that declares nothing, and the error. -/
def TBad (s : ByteArray) (er : Int) : Prop := (tokA s).2.2 = er ∨ ∃ r e, (tokA s).2.2 = 0 ∧ Pl.declsP 64 ((tokA s).1.map Pl.kt) = .bad r e ∧ er = (e : Int)

theorem text_out (s : ByteArray) (w : World) : Calls Try.prog 10 #[.string s] w fun e w' =>
    (∃ ln er, er ≠ 0 ∧ TBad s er ∧ e = .returned (.tuple #[.agg #[.slice none 0 0, .slice none 0 0, .slice none 0 0], .int .i64 ln, .int .i64 er]) ∧ Below w.heap.size w w') ∨
    (∃ ds s1 s2 s3, TOk s ds ∧ e = .returned (.tuple #[.agg #[s1, s2, s3], .int .i64 0, .int .i64 0]) ∧ SchV w.heap.size ds s1 s2 s3 w' ∧ Below w.heap.size w w') := by
  refine (text_any s w).mono ?_
  rintro e w' (⟨h1, rfl, hb⟩ | ⟨h1, tl, hm, hp⟩)
  · exact .inl ⟨_, _, h1, .inl rfl, rfl, hb⟩
  · cases hR : Pl.declsP 64 ((tokA s).1.map Pl.kt) with
    | ok ds r =>
      rw [hR] at hp
      obtain ⟨s1, s2, s3, rfl, hV, hb⟩ := hp
      have hr := Pl.decls_end 64 _ _ _ hR
      subst hr
      exact .inr ⟨ds, s1, s2, s3, ⟨h1, hR⟩, rfl, hV, hb⟩
    | bad r er =>
      rw [hR] at hp
      obtain ⟨i', _, _, rfl, hb⟩ := hp
      have hne := NZ.decls 64 _ _ _ hR
      exact .inl ⟨_, _, by simpa using hne, .inr ⟨r, er, h1, hR, rfl⟩, rfl, hb⟩

theorem ok_size {s : ByteArray} {ds : List Pl.Decl} (h : TOk s ds) : s.size ≤ 65536 := by
  have := h.1
  unfold tokA at this
  split at this
  · simp at this
  · omega

theorem ok_len {s : ByteArray} {ds : List Pl.Decl} (h : TOk s ds) : ds.length ≤ 64 := by
  have hl : ∀ (k : Nat) l ds r, Pl.declsP k l = .ok ds r → ds.length ≤ k := by
    intro k
    induction k with
    | zero =>
      intro l ds r h
      cases l with
      | nil => cases h; simp
      | cons t l => simp only [Pl.declsP] at h; split at h <;> cases h
    | succ k ih =>
      intro l ds r h
      cases l with
      | nil => cases h; simp
      | cons t l =>
        obtain ⟨a, xs, c, u, r1, _, rfl, _, _, _, _, h3⟩ := Pl.decls_cons k t l ds r h
        have := ih _ _ _ h3
        simp
        omega
  exact hl 64 _ _ _ h.2

/-- Both texts, one behind the other. -/
theorem join_out (a b c : ByteArray) (da db : List Pl.Decl) (ha : TOk a da) (hb : TOk b db) (hc : bl c = bl a ++ 10 :: bl b) : (∀ er, TBad c er → er ≠ 0 → er = 3 ∨ 60000 < a.size + b.size) ∧ (∀ ds, TOk c ds → ds = da ++ db) := by
  have hsa := ok_size ha
  have hsb := ok_size hb
  have hcs : c.size = a.size + b.size + 1 := by
    have := congrArg List.length hc
    rw [List.length_append, List.length_cons, bl_length, bl_length, bl_length] at this
    omega
  have ta : tokA a = Pl.tok (bl a) 1 := by unfold tokA; rw [if_neg (by omega)]
  have tb : tokA b = Pl.tok (bl b) 1 := by unfold tokA; rw [if_neg (by omega)]
  obtain ⟨ha1, ha2⟩ := ha
  obtain ⟨hb1, hb2⟩ := hb
  rw [ta] at ha1 ha2
  rw [tb] at hb1 hb2
  by_cases hbig : 65536 < c.size
  · have tc : tokA c = ([], 0, 5) := by unfold tokA; rw [if_pos hbig]
    refine ⟨fun er h he => .inr (by omega), fun ds h => ?_⟩
    have := h.1
    rw [tc] at this
    simp at this
  · have tc : tokA c = Pl.tok (bl c) 1 := by unfold tokA; rw [if_neg hbig]
    obtain ⟨j1, j2⟩ := Pl.toks_join (bl a) (bl b) ha1 hb1
    rw [← hc, ← tc] at j1 j2
    have hd := Pl.decls_join _ _ da db ha2 hb2
    rw [← j2] at hd
    refine ⟨fun er h he => ?_, fun ds h => ?_⟩
    · rcases h with h | ⟨r, e, _, h, rfl⟩
      · rw [j1] at h
        exact absurd h.symm he
      · rcases hd with hd | ⟨q, hd⟩
        · rw [hd] at h
          cases h
        · rw [hd] at h
          simp only [Pl.Res.bad.injEq] at h
          rw [← h.2]
          exact .inl rfl
    · rcases hd with hd | ⟨q, hd⟩
      · have := h.2
        rw [hd] at this
        simp only [Pl.Res.ok.injEq] at this
        exact this.1.symm
      · have := h.2
        rw [hd] at this
        cases this

theorem bl_append (s t : ByteArray) : bl (s ++ t) = bl s ++ bl t := by
  unfold bl
  rw [← List.map_append]
  simp

theorem text_some (s : ByteArray) (w : World) : Calls Try.prog 10 #[.string s] w fun e w' => ∃ a1 n1 c1 a2 n2 c2 a3 n3 c3 ln er, e = .returned (.tuple #[.agg #[.slice a1 n1 c1, .slice a2 n2 c2, .slice a3 n3 c3], .int .i64 ln, .int .i64 er]) ∧ Below w.heap.size w w' := by
  refine (text_out s w).mono ?_
  rintro e w' (⟨ln', er', _, _, rfl, hb4⟩ | ⟨db, t1, t2, t3, _, rfl, hV, hb4⟩)
  · exact ⟨_, _, _, _, _, _, _, _, _, _, _, rfl, hb4⟩
  · obtain ⟨a1, c1, a2, c2, a3, c3, rfl, rfl, rfl⟩ := hV.shape
    exact ⟨_, _, _, _, _, _, _, _, _, _, _, rfl, hb4⟩

theorem st_both (a b : List Pl.Decl) : stOf (a ++ b) = stOf a ++ stOf b := List.filterMap_append ..
theorem en_both (a b : List Pl.Decl) : enOf (a ++ b) = enOf a ++ enOf b := List.filterMap_append ..
theorem sv_both (a b : List Pl.Decl) : svOf (a ++ b) = svOf a ++ svOf b := List.filterMap_append ..

/-- The change of a box that holds a schema. -/
def Xw (_ : Nat) (T : TypeId) : Prop := T = 30
theorem rows1_ch {B B' : Nat} {w w' : World} (hc : Ch Xw w w') {v : Value} {xs} (h : Rows 43 2 (SctR B) B' w v xs) : Rows 43 2 (SctR B) B' w' v xs := by
  refine h.ch hc ?_ (fun k _ (hx : _ = _) => by revert hx; decide)
  rintro a c ⟨s, ad, m, cp, e1, e2, e3⟩
  exact ⟨s, ad, m, cp, e1, e2, e3.ch hc (fun a c h => FldR.ch hc (fun g _ (hx : _ = _) => by revert hx; decide) a c h) (fun k _ (hx : _ = _) => by revert hx; decide)⟩
theorem rows2_ch {B B' : Nat} {w w' : World} (hc : Ch Xw w w') {v : Value} {xs} (h : Rows 68 2 (EnmR B) B' w v xs) : Rows 68 2 (EnmR B) B' w' v xs := by
  refine h.ch hc ?_ (fun k _ (hx : _ = _) => by revert hx; decide)
  rintro a c ⟨s, ad, m, cp, e1, e2, e3⟩
  exact ⟨s, ad, m, cp, e1, e2, e3.ch hc (fun a c h => h) (fun k _ (hx : _ = _) => by revert hx; decide)⟩
theorem rows3_ch {B B' : Nat} {w w' : World} (hc : Ch Xw w w') {v : Value} {xs} (h : Rows 73 2 (SvcR B) B' w v xs) : Rows 73 2 (SvcR B) B' w' v xs := by
  refine h.ch hc ?_ (fun k _ (hx : _ = _) => by revert hx; decide)
  rintro a c ⟨s, ad, m, cp, e1, e2, e3⟩
  exact ⟨s, ad, m, cp, e1, e2, e3.ch hc (fun a c h => MthR.ch hc (fun g _ (hx : _ = _) => by revert hx; decide) a c h) (fun k _ (hx : _ = _) => by revert hx; decide)⟩
theorem schv_ch {B : Nat} {ds : List Pl.Decl} {s1 s2 s3 : Value} {w w' : World} (hc : Ch Xw w w') (h : SchV B ds s1 s2 s3 w) : SchV B ds s1 s2 s3 w' := ⟨rows1_ch hc h.1, rows2_ch hc h.2.1, rows3_ch hc h.2.2⟩
theorem app_below {N : Nat} {T : TypeId} {w w' : World} (h : Ch (fun g T' => N ≤ g ∧ T' = T) w w') (hN : N ≤ w.heap.size) : Below N w w' :=
  ⟨h.os, h.tape, h.output, h.size, fun k hk => by
    have ho : w.heap[k]? = some (w.heap[k]'(by omega)) := by simp
    rw [ho]
    exact h.block k _ ho (fun cs T r _ hx => by have := hx.1; omega)⟩
theorem app_xt {N B n : Nat} {T : TypeId} {w w' : World} (h : Ch (fun g T' => N ≤ g ∧ T' = T) w w') (hN : B ≤ N) : Ch (Xt n B T) w w' :=
  h.mono (fun _ _ hx => .inr ⟨Nat.le_trans hN hx.1, hx.2⟩)

/-- The boxes of both schemas, of the third, and of the one that is put together. -/
def Four (w : World) (da db : List Pl.Decl) (xb yb zb wb : Nat) (x1 x2 x3 y1 y2 y3 z1 z2 z3 v1 v2 v3 : Value) (W : World) : Prop :=
  (Bx W xb [x1, x2, x3] 30 ∧ Bx W yb [y1, y2, y3] 30 ∧ Bx W zb [z1, z2, z3] 30 ∧ Bx W wb [v1, v2, v3] 30) ∧
  (SchV w.heap.size da x1 x2 x3 W ∧ SchV w.heap.size db y1 y2 y3 W ∧ SchV w.heap.size (da ++ db) z1 z2 z3 W) ∧ Below w.heap.size w W

theorem Four.chX {W W' : World} {wb k : Nat} {cs : List Value} (hB : Bx W wb cs 30) (hb : Below W.heap.size W W') (u : Value) : Ch Xw W (W'.setCell ⟨wb, k, none⟩ u) :=
  (Ch.below hb).trans (Ch.set (hB.below hb) rfl u)
theorem Four.next {w : World} {da db : List Pl.Decl} {xb yb zb wb : Nat} {x1 x2 x3 y1 y2 y3 z1 z2 z3 v1 v2 v3 : Value} {W W' : World} (h : Four w da db xb yb zb wb x1 x2 x3 y1 y2 y3 z1 z2 z3 v1 v2 v3 W) (hb : Below W.heap.size W W') (hx : xb ≠ wb) (hy : yb ≠ wb) (hz : zb ≠ wb) (hw : w.heap.size ≤ wb) (k : Nat) (u : Value) {a b c : Value} (hs : [v1, v2, v3].set k u = [a, b, c]) :
    Four w da db xb yb zb wb x1 x2 x3 y1 y2 y3 z1 z2 z3 a b c (W'.setCell ⟨wb, k, none⟩ u) := by
  obtain ⟨⟨h1, h2, h3, h4⟩, ⟨g1, g2, g3⟩, hB⟩ := h
  have hc := Four.chX (k := k) h4 hb u
  refine ⟨⟨(h1.below hb).other hx u, (h2.below hb).other hy u, (h3.below hb).other hz u, ?_⟩, ⟨schv_ch hc g1, schv_ch hc g2, schv_ch hc g3⟩, (below_next hB hb).setCell hw u⟩
  have := (h4.below hb).set k u
  rw [hs] at this
  exact this

set_option maxHeartbeats 16000000 in
set_option maxRecDepth 4000 in
theorem join_walk (a b : ByteArray) (w : World) : Calls Try.prog 4 #[.string a, .string b] w fun e w' => e = .returned (.bool true) ∧ Below w.heap.size w w' := by
  go_enter Try.func4, Try.ntmps4
  go_wp2_with fail
  refine (alive_any w).mono ?_
  rintro e w1 ⟨rfl, hb1⟩
  go_wp2_with fail
  refine (text_out a w1).mono ?_
  rintro e w2 (⟨ln, er, hne, hB, rfl, hb2⟩ | ⟨da, s1, s2, s3, hO, rfl, hV, hb2⟩)
  · have hb12 := below_next hb1 hb2
    have hb3 := below_alloc w2 (.cells #[.slice none 0 0, .slice none 0 0, .slice none 0 0] 30)
    have hb13 := below_next hb12 hb3
    have hX3 := Bx.new w2 [.slice none 0 0, .slice none 0 0, .slice none 0 0] 30
    have hne' : (er == 0) = false := by simp [hne]
    clear hB hb1 hb2 hb12
    go_wp2_with fail
    refine (text_some b _).mono ?_
    rintro e w4 ⟨u1, i1, o1, u2, i2, o2, u3, i3, o3, ln', er', rfl, hb4⟩
    have hX4 := hX3.below hb4
    have hb14 := below_next hb13 hb4
    have y0 := hX4.cell 0 rfl
    have hlx := hX4.lt
    clear hX3 hb3 hb13
    go_wp2_with (go_at_call 9; refine (num_any _ _).mono ?_; rintro e w9 ⟨rfl, rfl⟩)
    go_ret
    exact ⟨rfl, below_next hb14 (below_alloc _ _)⟩
  · have hb12 := below_next hb1 hb2
    obtain ⟨a1, c1, a2, c2, a3, c3, rfl, rfl, rfl⟩ := hV.shape
    have hV := hV.mono hb1.size
    have hl := ok_len hO
    have hd1 := st_len da
    have hd2 := en_len da
    have hd3 := sv_len da
    have HV := hid hV
    have HO := hid hO
    generalize hm1 : (stOf da).length = m1 at *
    generalize hm2 : (enOf da).length = m2 at *
    generalize hm3 : (svOf da).length = m3 at *
    have HM1 := hid hm1
    have HM2 := hid hm2
    have HM3 := hid hm3
    clear hV hO hb1 hb2 hm1 hm2 hm3
    have hb3 := below_alloc w2 (.cells #[.slice a1 m1 c1, .slice a2 m2 c2, .slice a3 m3 c3] 30)
    have hb13 := below_next hb12 hb3
    have hX3 := Bx.new w2 [.slice a1 m1 c1, .slice a2 m2 c2, .slice a3 m3 c3] 30
    have HV3 := hid (HV.out.below hb3)
    clear HV hb12 hb3
    go_wp2_with fail
    refine (text_out b _).mono ?_
    rintro e w4 (⟨ln', er', hne, hB, rfl, hb4⟩ | ⟨db, t1, t2, t3, hO', rfl, hV', hb4⟩)
    · have hX4 := hX3.below hb4
      have hb14 := below_next hb13 hb4
      have y0 := hX4.cell 0 rfl
      have hlx := hX4.lt
      have hne' : (er' == 0) = false := by simp [hne]
      clear hX3 hb13 hB
      by_cases hz : m1 = 0
      · subst hz
        go_wp2_with (go_at_call 9; refine (num_any _ _).mono ?_; rintro e w9 ⟨rfl, rfl⟩)
        go_ret
        exact ⟨rfl, below_next hb14 (below_alloc _ _)⟩
      · have hz' : ((m1 : Int) == 0) = false := by simp; omega
        go_wp2_with (go_at_call 9; refine (num_any _ _).mono ?_; rintro e w9 ⟨rfl, rfl⟩)
        go_ret
        exact ⟨rfl, below_next hb14 (below_alloc _ _)⟩
    · obtain ⟨a4, c4, a5, c5, a6, c6, rfl, rfl, rfl⟩ := hV'.shape
      have hV' := hV'.mono hb13.size
      have hl' := ok_len hO'
      have hd1' := st_len db
      have hd2' := en_len db
      have hd3' := sv_len db
      have HV' := hid hV'
      have HO' := hid hO'
      generalize hn1 : (stOf db).length = n1 at *
      generalize hn2 : (enOf db).length = n2 at *
      generalize hn3 : (svOf db).length = n3 at *
      have HN1 := hid hn1
      have HN2 := hid hn2
      have HN3 := hid hn3
      have hX4 := hX3.below hb4
      have HV4 := hid (HV3.out.below hb4)
      have hb14 := below_next hb13 hb4
      have hb5 := below_alloc w4 (.cells #[.slice a4 n1 c4, .slice a5 n2 c5, .slice a6 n3 c6] 30)
      have hb15 := below_next hb14 hb5
      have hX5 := hX4.below hb5
      have hY5 := Bx.new w4 [.slice a4 n1 c4, .slice a5 n2 c5, .slice a6 n3 c6] 30
      have HV5 := hid (HV4.out.below hb5)
      have HV5' := hid (HV'.out.below hb5)
      have hsa := ok_size HO.out
      have hsb := ok_size HO'.out
      clear hV' hO' hn1 hn2 hn3 hX3 HV3 hX4 HV4 HV' hb13 hb14 hb5 hb4
      go_wp2_with (go_at_call 9; refine (num_any _ _).mono ?_; rintro e w9 ⟨rfl, rfl⟩)
      refine (text_out _ _).mono ?_
      obtain ⟨c, hc⟩ : ∃ c : ByteArray, c = a ++ ⟨#[10]⟩ ++ b := ⟨_, rfl⟩
      have hcb : bl c = bl a ++ 10 :: bl b := by
        rw [hc, bl_append, bl_append, List.append_assoc]
        rfl
      have hj := join_out a b c da db HO.out HO'.out hcb
      rw [← hc]
      rintro e w6 (⟨ln', er', hne, hB, rfl, hb6⟩ | ⟨ds, z1, z2, z3, hOz, rfl, hVz, hb6⟩)
      · have hor := hj.1 er' hB hne
        have hne' : (er' == 0) = false := by simp [hne]
        have hb16 := below_next hb15 hb6
        clear hc hcb hj hB HV5 HV5'
        by_cases h3 : er' = 3
        · subst h3
          go_wp2_with (go_at_call 9; refine (num_any _ _).mono ?_; rintro e w9 ⟨rfl, rfl⟩)
          go_ret
          exact ⟨rfl, below_next hb16 (below_alloc _ _)⟩
        · have h3' : (er' == 3) = false := by simp [h3]
          have hbig : (60000 : Int) < (a.size : Int) + b.size := by rcases hor with h | h <;> omega
          clear hor
          go_wp2_with (go_at_call 9; refine (num_any _ _).mono ?_; rintro e w9 ⟨rfl, rfl⟩)
          go_ret
          exact ⟨rfl, below_next hb16 (below_alloc _ _)⟩
      · obtain rfl := hj.2 ds hOz
        obtain ⟨a7, c7, a8, c8, a9, c9, rfl, rfl, rfl⟩ := hVz.shape
        have hVz := hVz.mono hb15.size
        have hb16 := below_next hb15 hb6
        have hX6 := hX5.below hb6
        have hY6 := hY5.below hb6
        have HV6 := hid (HV5.out.below hb6)
        have HV6' := hid (HV5'.out.below hb6)
        have HVz := hid hVz
        generalize (stOf (da ++ db)).length = k1 at *
        generalize (enOf (da ++ db)).length = k2 at *
        generalize (svOf (da ++ db)).length = k3 at *
        have hb7 := below_next (below_alloc w6 (.cells #[.slice a7 k1 c7, .slice a8 k2 c8, .slice a9 k3 c9] 30)) (below_alloc _ (.cells #[.slice none 0 0, .slice none 0 0, .slice none 0 0] 30))
        have hF7 : Four w da db w2.heap.size w4.heap.size w6.heap.size (w6.heap.size + 1) _ _ _ _ _ _ _ _ _ (.slice none 0 0) (.slice none 0 0) (.slice none 0 0) _ := ⟨⟨hX6.below hb7, hY6.below hb7, (Bx.new w6 [.slice a7 k1 c7, .slice a8 k2 c8, .slice a9 k3 c9] 30).alloc (.cells #[.slice none 0 0, .slice none 0 0, .slice none 0 0] 30), Bx.newAt (by simp) [.slice none 0 0, .slice none 0 0, .slice none 0 0] 30⟩, ⟨HV6.out.below hb7, HV6'.out.below hb7, HVz.out.below hb7⟩, below_next hb16 hb7⟩
        have hxw := hX6.lt
        have hyw := hY6.lt
        have hww := hb16.size
        clear hc hcb hj hOz hVz hX5 hY5 hX6 hY6 HV5 HV5' HV6 HV6' HVz hb15 hb16 hb6 hb7 hV hV'
        go_wp2_with (go_at_call 9; refine (num_any _ _).mono ?_; rintro e w9 ⟨rfl, rfl⟩)
        generalize ((w6.alloc (.cells #[.slice a7 k1 c7, .slice a8 k2 c8, .slice a9 k3 c9] 30)).alloc (.cells #[.slice none 0 0, .slice none 0 0, .slice none 0 0] 30)) = W7 at *
        generalize w2.heap.size = xb at *
        generalize w4.heap.size = yb at *
        generalize w6.heap.size = zb at *
        clear hsa hsb HO HO'
        go_cut [] (fun wx => ∃ v1, Four w da db xb yb zb (zb + 1) (.slice a1 m1 c1) (.slice a2 m2 c2) (.slice a3 m3 c3) (.slice a4 n1 c4) (.slice a5 n2 c5) (.slice a6 n3 c6) (.slice a7 k1 c7) (.slice a8 k2 c8) (.slice a9 k3 c9) v1 (.slice none 0 0) (.slice none 0 0) wx ∧ Rows 43 2 (SctR w.heap.size) w.heap.size wx v1 (stOf da ++ stOf db))
        case first =>
          obtain ⟨i0, hi0, hz0, hz1, hz2⟩ := info_parts Try.info43
          have hF := hF7
          have hR0 := hF7.2.1.1.1
          have hS0 := hF7.2.1.2.1.1
          have x0 := hF7.1.1.cell 0 rfl
          have y0 := hF7.1.2.1.cell 0 rfl
          have v0 := hF7.1.2.2.2.cell 0 rfl
          have hxl := hF7.1.1.lt
          have hyl := hF7.1.2.1.lt
          have hvl := hF7.1.2.2.2.lt
          have hwl := hF7.2.2.size
          have hxn : xb ≠ zb + 1 := by omega
          have hyn : yb ≠ zb + 1 := by omega
          have e1 := HM1.out
          have e2 := HN1.out
          have hlen1 : (stOf da).length ≤ 64 := by omega
          have hlen2 : (stOf db).length ≤ 64 := by omega
          go_region_law (first
              | (refine step_append_rows (o := { dst := some 75, op := .call { callee := .builtin .append, args := #[.tmp 72, .tmp 74], argTypes := #[26, 26] }, type := _, pos := _, after := _, guard := none }) (R := SctR w.heap.size) (B := W7.heap.size) (Bs := w.heap.size) (v := .slice none 0 0) (u := (.slice a1 m1 c1)) (xs := []) (ys := stOf da) (m := 2) (bytes := 40) _ rfl (.tmp 72) (.tmp 74) rfl rfl rfl i0 _ Try.underlying26 hi0 hz0 hz1 hz2 rfl (by decide) (fun a c h => SctR.one a c h) (fun w' hc a c h => SctR.ch (n := 0) (.inl rfl) (app_xt hc hwl) a c h) (Rows.nil _ _ _ _ _) (hR0.below (Below.refl _ _).drew (fun a c h => SctR.ch (n := 0) (.inl rfl) (Ch.below (Below.refl _ _).drew) a c h)) (by simp; omega) (by simp; omega) (Nat.le_refl _) ?_; intro p1 wa hp1 hca; have hq1 : Below W7.heap.size W7 wa := (Below.refl _ _).drew.trans (app_below hca (Nat.le_refl _)); have ya := (hF.1.2.1.below hq1).cell 0 rfl)
              | (refine step_append_rows (o := { dst := some 78, op := .call { callee := .builtin .append, args := #[.tmp 75, .tmp 77], argTypes := #[26, 26] }, type := _, pos := _, after := _, guard := none }) (R := SctR w.heap.size) (B := W7.heap.size) (Bs := w.heap.size) (v := p1) (u := (.slice a4 n1 c4)) (xs := [] ++ stOf da) (ys := stOf db) (m := 2) (bytes := 40) _ rfl (.tmp 75) (.tmp 77) rfl rfl rfl i0 _ Try.underlying26 hi0 hz0 hz1 hz2 rfl (by decide) (fun a c h => SctR.one a c h) (fun w' hc a c h => SctR.ch (n := 0) (.inl rfl) (app_xt hc hwl) a c h) hp1 (hS0.below hq1 (fun a c h => SctR.ch (n := 0) (.inl rfl) (Ch.below hq1) a c h)) (by simp; omega) (by simp; omega) hq1.size ?_; intro p2 wd hp2 hcb; obtain ⟨pa, pc, hpe⟩ := hp2.shape; rw [List.nil_append] at hp2; rw [List.nil_append, List.length_append, e1, e2] at hpe; subst hpe; have hq2 : Below W7.heap.size W7 wd := hq1.trans (app_below hcb hq1.size); have vb := (hF.1.2.2.2.below hq2).cell 0 rfl; have vf := (hF.1.2.2.2.below hq2).frozen 0))
          all_goals
            go_wp2
            go_meet
            exact ⟨_, hF.next hq2 hxn hyn (by omega) (by omega) 0 _ rfl, rows1_ch (Ch.set (hF.1.2.2.2.below hq2) rfl _) (hp2.mono hwl (fun _ _ h => h))⟩
        case rest =>
          obtain ⟨v1, hF8, hr1⟩ := hcut
          obtain ⟨b1, d1, rfl⟩ := hr1.shape
          generalize wc = W8 at *
          generalize (stOf da ++ stOf db).length = j1 at *
          clear hF7
          go_wp2_with fail
          go_cut [] (fun wx => ∃ v2, Four w da db xb yb zb (zb + 1) (.slice a1 m1 c1) (.slice a2 m2 c2) (.slice a3 m3 c3) (.slice a4 n1 c4) (.slice a5 n2 c5) (.slice a6 n3 c6) (.slice a7 k1 c7) (.slice a8 k2 c8) (.slice a9 k3 c9) (.slice b1 j1 d1) v2 (.slice none 0 0) wx ∧ Rows 43 2 (SctR w.heap.size) w.heap.size wx (.slice b1 j1 d1) (stOf da ++ stOf db) ∧ Rows 68 2 (EnmR w.heap.size) w.heap.size wx v2 (enOf da ++ enOf db))
          case first =>
            obtain ⟨i0, hi0, hz0, hz1, hz2⟩ := info_parts Try.info68
            have hF := hF8
            have hR0 := hF8.2.1.1.2.1
            have hS0 := hF8.2.1.2.1.2.1
            have x0 := hF8.1.1.cell 1 rfl
            have y0 := hF8.1.2.1.cell 1 rfl
            have v0 := hF8.1.2.2.2.cell 1 rfl
            have hxl := hF8.1.1.lt
            have hyl := hF8.1.2.1.lt
            have hvl := hF8.1.2.2.2.lt
            have hwl := hF8.2.2.size
            have hxn : xb ≠ zb + 1 := by omega
            have hyn : yb ≠ zb + 1 := by omega
            have e1 := HM2.out
            have e2 := HN2.out
            have hlen1 : (enOf da).length ≤ 64 := by omega
            have hlen2 : (enOf db).length ≤ 64 := by omega
            go_region_law (first
                | (refine step_append_rows (o := { dst := some 84, op := .call { callee := .builtin .append, args := #[.tmp 81, .tmp 83], argTypes := #[27, 27] }, type := _, pos := _, after := _, guard := none }) (R := EnmR w.heap.size) (B := W8.heap.size) (Bs := w.heap.size) (v := .slice none 0 0) (u := (.slice a2 m2 c2)) (xs := []) (ys := enOf da) (m := 2) (bytes := 40) _ rfl (.tmp 81) (.tmp 83) rfl rfl rfl i0 _ Try.underlying27 hi0 hz0 hz1 hz2 rfl (by decide) (fun a c h => EnmR.one a c h) (fun w' hc a c h => EnmR.ch (n := 0) (.inr (.inl rfl)) (app_xt hc hwl) a c h) (Rows.nil _ _ _ _ _) (hR0.below (Below.refl _ _).drew (fun a c h => EnmR.ch (n := 0) (.inr (.inl rfl)) (Ch.below (Below.refl _ _).drew) a c h)) (by simp; omega) (by simp; omega) (Nat.le_refl _) ?_; intro p1 wa hp1 hca; have hq1 : Below W8.heap.size W8 wa := (Below.refl _ _).drew.trans (app_below hca (Nat.le_refl _)); have ya := (hF.1.2.1.below hq1).cell 1 rfl)
                | (refine step_append_rows (o := { dst := some 87, op := .call { callee := .builtin .append, args := #[.tmp 84, .tmp 86], argTypes := #[27, 27] }, type := _, pos := _, after := _, guard := none }) (R := EnmR w.heap.size) (B := W8.heap.size) (Bs := w.heap.size) (v := p1) (u := (.slice a5 n2 c5)) (xs := [] ++ enOf da) (ys := enOf db) (m := 2) (bytes := 40) _ rfl (.tmp 84) (.tmp 86) rfl rfl rfl i0 _ Try.underlying27 hi0 hz0 hz1 hz2 rfl (by decide) (fun a c h => EnmR.one a c h) (fun w' hc a c h => EnmR.ch (n := 0) (.inr (.inl rfl)) (app_xt hc hwl) a c h) hp1 (hS0.below hq1 (fun a c h => EnmR.ch (n := 0) (.inr (.inl rfl)) (Ch.below hq1) a c h)) (by simp; omega) (by simp; omega) hq1.size ?_; intro p2 wd hp2 hcb; obtain ⟨pa, pc, hpe⟩ := hp2.shape; rw [List.nil_append] at hp2; rw [List.nil_append, List.length_append, e1, e2] at hpe; subst hpe; have hq2 : Below W8.heap.size W8 wd := hq1.trans (app_below hcb hq1.size); have vb := (hF.1.2.2.2.below hq2).cell 1 rfl; have vf := (hF.1.2.2.2.below hq2).frozen 1))
            all_goals
              go_wp2
              go_meet
              exact ⟨_, hF.next hq2 hxn hyn (by omega) (by omega) 1 _ rfl, rows1_ch (Four.chX hF.1.2.2.2 hq2 _) hr1, rows2_ch (Ch.set (hF.1.2.2.2.below hq2) rfl _) (hp2.mono hwl (fun _ _ h => h))⟩
          case rest =>
            obtain ⟨v2, hF9, hr1, hr2⟩ := hcut
            obtain ⟨b2, d2, rfl⟩ := hr2.shape
            generalize wc = W9 at *
            generalize (enOf da ++ enOf db).length = j2 at *
            clear hF8
            go_wp2_with fail
            go_cut [] (fun wx => ∃ v3, Four w da db xb yb zb (zb + 1) (.slice a1 m1 c1) (.slice a2 m2 c2) (.slice a3 m3 c3) (.slice a4 n1 c4) (.slice a5 n2 c5) (.slice a6 n3 c6) (.slice a7 k1 c7) (.slice a8 k2 c8) (.slice a9 k3 c9) (.slice b1 j1 d1) (.slice b2 j2 d2) v3 wx ∧ Rows 43 2 (SctR w.heap.size) w.heap.size wx (.slice b1 j1 d1) (stOf da ++ stOf db) ∧ Rows 68 2 (EnmR w.heap.size) w.heap.size wx (.slice b2 j2 d2) (enOf da ++ enOf db) ∧ Rows 73 2 (SvcR w.heap.size) w.heap.size wx v3 (svOf da ++ svOf db))
            case first =>
              obtain ⟨i0, hi0, hz0, hz1, hz2⟩ := info_parts Try.info73
              have hF := hF9
              have hR0 := hF9.2.1.1.2.2
              have hS0 := hF9.2.1.2.1.2.2
              have x0 := hF9.1.1.cell 2 rfl
              have y0 := hF9.1.2.1.cell 2 rfl
              have v0 := hF9.1.2.2.2.cell 2 rfl
              have hxl := hF9.1.1.lt
              have hyl := hF9.1.2.1.lt
              have hvl := hF9.1.2.2.2.lt
              have hwl := hF9.2.2.size
              have hxn : xb ≠ zb + 1 := by omega
              have hyn : yb ≠ zb + 1 := by omega
              have e1 := HM3.out
              have e2 := HN3.out
              have hlen1 : (svOf da).length ≤ 64 := by omega
              have hlen2 : (svOf db).length ≤ 64 := by omega
              go_region_law (first
                  | (refine step_append_rows (o := { dst := some 93, op := .call { callee := .builtin .append, args := #[.tmp 90, .tmp 92], argTypes := #[28, 28] }, type := _, pos := _, after := _, guard := none }) (R := SvcR w.heap.size) (B := W9.heap.size) (Bs := w.heap.size) (v := .slice none 0 0) (u := (.slice a3 m3 c3)) (xs := []) (ys := svOf da) (m := 2) (bytes := 40) _ rfl (.tmp 90) (.tmp 92) rfl rfl rfl i0 _ Try.underlying28 hi0 hz0 hz1 hz2 rfl (by decide) (fun a c h => SvcR.one a c h) (fun w' hc a c h => SvcR.ch (n := 0) (.inr (.inr rfl)) (app_xt hc hwl) a c h) (Rows.nil _ _ _ _ _) (hR0.below (Below.refl _ _).drew (fun a c h => SvcR.ch (n := 0) (.inr (.inr rfl)) (Ch.below (Below.refl _ _).drew) a c h)) (by simp; omega) (by simp; omega) (Nat.le_refl _) ?_; intro p1 wa hp1 hca; have hq1 : Below W9.heap.size W9 wa := (Below.refl _ _).drew.trans (app_below hca (Nat.le_refl _)); have ya := (hF.1.2.1.below hq1).cell 2 rfl)
                  | (refine step_append_rows (o := { dst := some 96, op := .call { callee := .builtin .append, args := #[.tmp 93, .tmp 95], argTypes := #[28, 28] }, type := _, pos := _, after := _, guard := none }) (R := SvcR w.heap.size) (B := W9.heap.size) (Bs := w.heap.size) (v := p1) (u := (.slice a6 n3 c6)) (xs := [] ++ svOf da) (ys := svOf db) (m := 2) (bytes := 40) _ rfl (.tmp 93) (.tmp 95) rfl rfl rfl i0 _ Try.underlying28 hi0 hz0 hz1 hz2 rfl (by decide) (fun a c h => SvcR.one a c h) (fun w' hc a c h => SvcR.ch (n := 0) (.inr (.inr rfl)) (app_xt hc hwl) a c h) hp1 (hS0.below hq1 (fun a c h => SvcR.ch (n := 0) (.inr (.inr rfl)) (Ch.below hq1) a c h)) (by simp; omega) (by simp; omega) hq1.size ?_; intro p2 wd hp2 hcb; obtain ⟨pa, pc, hpe⟩ := hp2.shape; rw [List.nil_append] at hp2; rw [List.nil_append, List.length_append, e1, e2] at hpe; subst hpe; have hq2 : Below W9.heap.size W9 wd := hq1.trans (app_below hcb hq1.size); have vb := (hF.1.2.2.2.below hq2).cell 2 rfl; have vf := (hF.1.2.2.2.below hq2).frozen 2))
              all_goals
                go_wp2
                go_meet
                exact ⟨_, hF.next hq2 hxn hyn (by omega) (by omega) 2 _ rfl, rows1_ch (Four.chX hF.1.2.2.2 hq2 _) hr1, rows2_ch (Four.chX hF.1.2.2.2 hq2 _) hr2, rows3_ch (Ch.set (hF.1.2.2.2.below hq2) rfl _) (hp2.mono hwl (fun _ _ h => h))⟩
            case rest =>
              obtain ⟨v3, hF10, hr1, hr2, hr3⟩ := hcut
              obtain ⟨b3, d3, rfl⟩ := hr3.shape
              generalize wc = W10 at *
              generalize (svOf da ++ svOf db).length = j3 at *
              clear hF9
              have y0 := hF10.1.2.2.1.cell 0 rfl
              have y1 := hF10.1.2.2.1.cell 1 rfl
              have y2 := hF10.1.2.2.1.cell 2 rfl
              have v0 := hF10.1.2.2.2.cell 0 rfl
              have v1 := hF10.1.2.2.2.cell 1 rfl
              have v2 := hF10.1.2.2.2.cell 2 rfl
              have HZ := hid hF10.2.1.2.2
              have HW := hid (show SchV w.heap.size (da ++ db) _ _ _ W10 from ⟨by rw [st_both]; exact hr1, by rw [en_both]; exact hr2, by rw [sv_both]; exact hr3⟩)
              have hb10 := hF10.2.2
              clear hF10 hr1 hr2 hr3
              go_wp2_with fail
              refine (sameSchema_true _ _ _ _ _ _ _ _ _ _ HZ.out HW.out).mono ?_
              rintro e w11 ⟨rfl, hb11⟩
              go_wp2
              go_ret
              exact ⟨rfl, below_next hb10 hb11⟩
end Go.Proofs.Ythdooemgnpiomaa
