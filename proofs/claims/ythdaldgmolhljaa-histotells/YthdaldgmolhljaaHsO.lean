/- histo: a copy of counts; the law's own. -/
import Derived.Test.YthdaldgmolhljaaHsN
import Derived.Laws.AppendOwnNone
namespace Go.Proofs.Ythdaldgmolhljaa
open Go.RowKit
set_option linter.unusedVariables false
set_option maxRecDepth 20000

/-- append of numbers onto a row of the call's own. -/
theorem wpList_append_ints {ops : Array Oper} {rest : List Oper} {o : Oper} {a : Act} {Q : Exit → Act → World → Prop} (w : World) (hgd : o.guard = none) (s x : Operand)
    (ho : o.op = .call { callee := .builtin .append, args := #[s, x], argTypes := #[22, 22] }) (B : Nat) (v u : Value) (l m : List Int) (hs : a.eval s = v) (hown : w.ownsRow B 3 1 v l.length (i64s l)) (hx : a.eval x = u) (hu : Seg .i64 w u m)
    (hlen : l.length + m.length ≤ 17592186044416) (hB : B ≤ w.heap.size)
    (h : ∀ v' w', w'.ownsRow B 3 1 v' (l ++ m).length (i64s (l ++ m)) → Below B w w' → w.grownBy w' v.ownBlock → wpList Try.prog ops Q rest (a.put o.dst v') w') : wpList Try.prog ops Q (o :: rest) a w := by
  obtain ⟨i0, hi, hz0, hz1, hz2⟩ := info_parts Try.infoI
  obtain ⟨ao, cap, rfl, h1, h2, h3, h4⟩ := hu
  rcases ao with _ | y
  · obtain ⟨rfl, rfl⟩ := h3 rfl
    refine wpList_append_own_none hgd s x 22 ho B 3 i0 1 Try.underlying22 hi v l.length (i64s l) hs hown hx ?_
    refine h v w ?_ (Below.refl _ _) (grownBy_refl _ _)
    rw [List.append_nil]
    exact hown
  · refine wpList_append_own w hgd s x 22 ho B 3 i0 (.int .i64 0) 1 8 Try.underlying22 hi hz0 hz1 hz2 rfl (by decide) v l.length (i64s l) hs hown y m.length cap (i64s m) hx (by simp) (map_cells fun i hi => h4 y rfl i hi) map_one (by unfold maxLen; omega) (by omega) hB ?_
    intro v' w' ho' hg _
    refine h v' w' ?_ ((Below.refl _ _).grown hg hB (fun k hk => (hown.lt k hk).1)) hg
    rw [← List.map_append] at ho'
    rw [List.length_append]
    exact ho'

set_option maxHeartbeats 1000000 in
theorem copy_any (v : Value) (l : List Int) (w : World) (hs : Seg .i64 w v l) (hl : l.length ≤ 17592186044415) :
    Calls Try.prog 25 #[v] w fun e w' => ∃ v', e = .returned v' ∧ w'.ownsRow w.heap.size 3 1 v' l.length (i64s l) ∧ Below w.heap.size w w' := by
  have HS := hidD hs
  obtain ⟨a, cap, rfl, h1, h2, _, _⟩ := hs
  unfold maxLen at h2
  go_enter Try.func25, Try.ntmps25
  go_wp2_with (first | (at_builtin; refine wpList_append_ints _ rfl _ _ rfl w.heap.size (.slice none 0 0) (.slice a l.length cap) [] l rfl (World.ownsRow_nil _ _ _ _) rfl HS.out (by simp; omega) (Nat.le_refl _) ?_; intro v2 w6 hown' hB6 hgrow))
  go_ret
  exact ⟨_, rfl, hown', hB6⟩

theorem own_cg {W W' : World} {B b : Nat} {e : TypeId} {s : Nat} {v : Value} {k : Nat} {xs : List Value} (h : W.ownsRow B e s v k xs) (hc : Cg b W W') (hb : b < B) : W'.ownsRow B e s v k xs := by
  refine ⟨h.1, ?_⟩
  rcases h.2 with hn | ⟨g, cap, cur, rfl, hB, hgg, rest⟩
  · exact .inl hn
  · refine .inr ⟨g, cap, cur, rfl, hB, ?_, rest⟩
    rw [hc.block g (Array.getElem?_eq_some_iff.1 hgg).1 (by omega)]
    exact hgg
theorem own_lower {W : World} {B C : Nat} {e : TypeId} {s : Nat} {v : Value} {k : Nat} {xs : List Value} (h : W.ownsRow B e s v k xs) (hC : C ≤ B) : W.ownsRow C e s v k xs := by
  refine ⟨h.1, ?_⟩
  rcases h.2 with hn | ⟨g, cap, cur, rfl, hB, hgg, rest⟩
  · exact .inl hn
  · exact .inr ⟨g, cap, cur, rfl, by omega, hgg, rest⟩
set_option maxHeartbeats 4000000 in
/-- A histogram's own copy: a row whose block is none that was there. -/
theorem own_any (row : Value) (h : Hi.H) (w : World) (hs : Seg .i64 w row h.c) (hl : h.c.length ≤ 17592186044415) :
    Calls Try.prog 9 #[vH row h.t] w fun e w' => ∃ r, e = .returned (vH r h.t) ∧ Below w.heap.size w w' ∧ w'.ownsRow w.heap.size 3 1 r h.c.length (i64s h.c) := by
  obtain ⟨c, t⟩ := h
  dsimp only at hs hl ⊢
  obtain ⟨W0, hW0, X0, X1, HB, HS⟩ := two_boxes w (hL row t) (hL (.slice none 0 0) 0) 24 24
  have CC := hidD (fun (W : World) (b : Below w.heap.size w W) => copy_any row c W (hs.below b) hl)
  obtain ⟨N, hN⟩ : ∃ N, N = w.heap.size := ⟨_, rfl⟩
  rw [← hN] at X0 X1 HB HS CC ⊢
  replace X0 := hidD X0
  replace X1 := hidD X1
  replace HB := hidD HB
  replace HS := hidD HS
  simp only [hL] at hW0
  clear hs
  go_enter Try.func9, Try.ntmps9
  go_wp2_with fail
  rw [← hN, ← hW0]
  clear hW0 hN
  have p0 := X0.out.cell 0 rfl
  have p1 := X0.out.cell 1 rfl
  go_region_with (
    refine (CC.out W0.drew (belowD_drew HB.out)).mono ?_
    rintro e w5 ⟨v', rfl, o5, h5⟩
    obtain ⟨a5, k5, rfl, _⟩ := Seg.own o5
    have p5 := (Bo.below (w := W0.drew) (show Bo W0.drew N (hL row t) 24 from X0.out) h5).cell 1 rfl
    have Y5 := Bo.below (w := W0.drew) (show Bo W0.drew (N + 1) (hL (.slice none 0 0) 0) 24 from X1.out) h5
    have q0 := Y5.cell 0 rfl
    have q1 := Y5.cell 1 rfl
    have f0 := Y5.frozen 0
    have f1 := Y5.frozen 1
    have H5 := hidD h5
    have O5 := hidD o5
    have YY := hidD Y5
    clear h5 o5 Y5)
  all_goals (
    have hs2 := HS.out
    have S := hidD (put2_bo (.slice a5 c.length k5) (.int .i64 t) YY.out)
    have h5' : Below N w w5 := below_on (b := W0.drew) (belowD_drew HB.out) (by show N ≤ W0.heap.size; omega) H5.out
    have SB := hidD ((put2_cg w5 (N + 1) (.slice a5 c.length k5) (.int .i64 t)).below (B := N) (by omega) (by have := YY.out.lt; omega) h5')
    have SO := hidD (own_lower (own_cg O5.out (put2_cg w5 (N + 1) (.slice a5 c.length k5) (.int .i64 t)) (show N + 1 < W0.heap.size by omega)) (show N ≤ W0.heap.size by omega))
    clear h5' hs2
    go_wp2_with fail
    refine bodyPost_ret (ret_h1 rfl rfl S.out) rfl ?_
    exact ⟨_, rfl, SB.out, SO.out⟩)
end Go.Proofs.Ythdaldgmolhljaa
