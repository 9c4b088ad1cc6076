/- For all uint64 states, all ints n and all loads: what Spread tells of a copy of the loads is the reference's answer, also where the copy is spoilt behind the call (the law ChoiceOwn answers true): without a bound. -/
import Derived.Test.YtcpcnajifdicmaaRows
import Derived.BigQuiet
import Derived.Deep.QuietTactic
import Derived.WalkKit
import Derived.ProofKit
import Derived.OpenShut
import Derived.ShutString
import Derived.Test.YtcpcnajifdicmaaCB2
import Derived.Test.YtcpcnajifdicmaaOpenL
namespace Go.Proofs.Ytcpcnajifdicmaa.choiceOwn
open Go.ChangeShapes Go.WideShapes Go.ChangeAt Go.RowKit
open Go.ChangeMaps (open_string shut_string)
open Go.Sort Go.Shelf
set_option linter.unusedVariables false
set_option maxRecDepth 20000

theorem set2_kept {w : World} {n₀ g i j : Nat} {e : TypeId} {s : Nat} {v : Value} {k : Nat} {xs : List Value} (h : w.ownsRow n₀ e s v k xs) (hg : g < n₀) (p q : Value) : ((w.setCell ⟨g, i, none⟩ p).setCell ⟨g, j, none⟩ q).ownsRow n₀ e s v k xs := by
  refine h.kept (row := some g) ⟨rfl, rfl, rfl, by simp [World.setCell], fun b hb hne => ?_⟩ ?_
  · have : g ≠ b := fun e => hne (by rw [e])
    simp [World.setCell, Array.getElem?_modify, this]
  · cases hv : v.ownBlock with
    | none => exact .inl rfl
    | some b => exact .inr (fun e => by have := (h.lt b hv).1; cases e; omega)

theorem rowL_set (xs : List Rp.Pt) (m : Nat) (y : Rp.Pt) (h : m < xs.length) : rowL (xs.set m y) = ((rowL xs).set (m * 2) (.int .i64 y.1)).set (m * 2 + 1) (.int .i64 y.2) := by
  induction xs generalizing m with
  | nil => simp at h
  | cons x r ih =>
    match m with
    | 0 => rfl
    | m + 1 =>
      have := ih m (by simp at h; omega)
      rw [show (m + 1) * 2 = m * 2 + 2 by omega]
      show [Value.int .i64 x.1, .int .i64 x.2] ++ rowL (r.set m y) = _
      rw [this]
      rfl
set_option maxHeartbeats 8000000 in
theorem walk_v (v : Value) (l L : List Rp.Pt) (s : Nat) (n E : Int) (w : World) (hs : PSeg .i64 w v l) (hz : l.length ≤ 8796093022208)
    (C1 : ∀ (u : Value) (W : World), PSeg .i64 W u l → Calls Try.prog 16 #[.int .u64 s, .int .i64 n, u] W fun e w' => ∃ v', e = .returned (.tuple #[v', .int .i64 E]) ∧ w'.ownsRow W.heap.size 49 2 v' L.length (rowL L) ∧ Below W.heap.size W w')
    (C2 : ∀ W : World, PSeg .i64 W v l → Calls Try.prog 17 #[.int .u64 s, .int .i64 n, v] W fun e w' => ∃ v', e = .returned (.tuple #[v', .int .i64 E]) ∧ w'.ownsRow W.heap.size 49 2 v' L.length (rowL L) ∧ Below W.heap.size W w') :
    Calls Try.prog 8 #[.int .u64 s, .int .i64 n, v] w fun e w' => e = .returned (.bool true) ∧ Below w.heap.size w w' := by
  have ca := lalive_any w
  have HS := hidD hs
  have HC1 := hidD C1
  have HC2 := hidD C2
  have co := fun W (h : Below w.heap.size w W) => low_any v l W (hs.below h) hz
  obtain ⟨a, cap, rfl, q1, q2, _, _⟩ := hs
  unfold maxLen at q2
  clear C1 C2
  go_enter Try.func8, Try.ntmps8
  go_wp2_with fail
  with_reducible refine ca.mono ?_
  rintro e w1 ⟨rfl, b1⟩
  have co1 := co w1 b1
  clear ca co
  go_wp2_with fail
  with_reducible refine co1.mono ?_
  rintro e w2 ⟨vi, rfl, rowi, b2⟩
  have B2 := Below.step b1 b2
  have hwi := b1.size
  have c2 := HC1.out vi w2 (pseg_of_rowL rowi)
  obtain ⟨ai, ci, rfl⟩ : ∃ ai ci, vi = .slice ai l.length ci := by
    rcases rowi.2 with ⟨rfl, h0⟩ | ⟨gg, cc, cur, rfl, _⟩
    · exact ⟨none, 0, by rw [h0]⟩
    · exact ⟨_, _, rfl⟩
  clear co1 b2 HC1
  go_wp2_with fail
  with_reducible refine c2.mono ?_
  rintro e w3 ⟨vm, rfl, rowm, b3⟩
  have HI := hidD (lown_below rowi b3)
  have HM := hidD rowm
  have B3 := Below.step B2 b3
  have hb23 := B2.size
  have HLT := hidD rowi.lt
  obtain ⟨am, cm, rfl⟩ : ∃ am cm, vm = .slice am L.length cm := by
    rcases rowm.2 with ⟨rfl, h0⟩ | ⟨gg, cc, cur, rfl, _⟩
    · exact ⟨none, 0, by rw [h0]⟩
    · exact ⟨_, _, rfl⟩
  clear c2 b3 rowi rowm b1
  obtain ⟨N, hN⟩ : ∃ N, N = l.length := ⟨_, rfl⟩
  have HN := hidD hN
  rw [← hN] at q1 hz HI HLT HC2 ⊢
  have HLL := hidD hN
  clear hN
  go_wp2_with fail
  go_loopw [10] (fun i wr => ∃ k : Nat, k ≤ N ∧ i = .int .i64 k ∧ (∃ XS : List Rp.Pt, XS.length = N ∧ wr.ownsRow w1.heap.size 49 2 (.slice ai N ci) N (rowL XS)) ∧ wr.ownsRow w2.heap.size 49 2 (.slice am L.length cm) L.length (rowL L) ∧ Below w.heap.size w wr) (fun i _ => N - (intOf i).toNat)
  case atStart => exact ⟨0, Nat.zero_le _, rfl, ⟨l, HN.out.symm, HI.out⟩, HM.out, B3⟩
  case round =>
    clear HI HM B3
    obtain ⟨k, hk, rfl, ⟨XS, hX, hrow⟩, hm, hbl⟩ := hrel
    by_cases hlt : k < N
    · obtain ⟨gi, c', e1, z1, z2, z3⟩ := lrow_slice hrow (by omega)
      cases e1
      unfold maxLen at z2
      have hgi2 : gi < w2.heap.size := (HLT.out gi rfl).2
      obtain ⟨r1, r2⟩ := rowL_get XS k (by omega)
      have D0 : wr.cell? ⟨gi, k * 2, none⟩ = some (.int .i64 (XS.getD k (0, 0)).1) := by rw [hrow.cellAt (k * 2) (by omega), r1]
      have D1 : wr.cell? ⟨gi, k * 2 + 1, none⟩ = some (.int .i64 (XS.getD k (0, 0)).2) := by rw [hrow.cellAt (k * 2 + 1) (by omega), r2]
      have F0 := hrow.frozenAt (k * 2)
      have F1 := hrow.frozenAt (k * 2 + 1)
      have st1 := (hrow.stored (k * 2) (.int .i64 0)).1
      have st2 := (st1.stored (k * 2 + 1) (.int .i64 0)).1
      have e := rowL_set XS k (0, 0) (by omega)
      dsimp only at e
      rw [← e] at st2
      have HR2 := hidD st2
      have HX2 : Hid ((XS.set k (0, 0)).length = N) := hidD (by rw [List.length_set]; exact hX)
      have HM2 := hidD (set2_kept hm hgi2 (.int .i64 0) (.int .i64 0) (i := k * 2) (j := k * 2 + 1))
      have HB2 := hidD ((hbl.setCell (p := ⟨gi, k * 2, none⟩) (by show w.heap.size ≤ gi; omega) (.int .i64 0)).setCell (p := ⟨gi, k * 2 + 1, none⟩) (by show w.heap.size ≤ gi; omega) (.int .i64 0))
      have i1 : (k : Int) < (N : Int) := by omega
      clear st1 st2 e r1 r2 hrow hm hbl
      generalize XS.getD k (0, 0) = z at *
      generalize XS.set k (0, 0) = YS at *
      go_wp2
      exact ⟨⟨k + 1, by omega, by go_num, ⟨YS, HX2.out, HR2.out⟩, HM2.out, HB2.out⟩, by simp [intOf]; omega⟩
    · have c4 := HC2.out wr (by have := HS.out.below hbl; rw [← HLL.out] at this; exact this)
      have HM := hidD hm
      have HB := hidD hbl
      clear hrow hm hbl HC2
      go_wp2_with fail
      with_reducible refine c4.mono ?_
      rintro e w5 ⟨vk, rfl, rowk, b5⟩
      have hmk : PSeg .i64 w5 (.slice am L.length cm) L := (pseg_of_rowL HM.out).below b5
      have B5 := Below.step HB.out b5
      have c5 := lsame_true _ _ L w5 hmk (pseg_of_rowL rowk)
      clear c4 HM HB rowk hmk
      have hbe : (E == E) = true := by simp
      go_wp2_with (first | (go_at_call 19; with_reducible refine c5.mono ?_; rintro e w6 ⟨rfl, b6⟩) | (go_at_call 18; refine (num_any _ _).mono ?_; rintro e w7 ⟨rfl, rfl⟩))
      go_ret
      exact ⟨by first | rfl | simp, Below.step B5 b6⟩

theorem walk (s0 : Int) (hw0 : (Lit.int .u64 s0).wf = true) (n : Int) (hw1 : (Lit.int .i64 n).wf = true) (v : Value) (l : List Rp.Pt) {w : World} (hs : PSeg .i64 w v l) (ho : ∀ t ∈ l, (Lit.int .i64 t.2).wf = true) (hz : l.length ≤ 8796093022208) :
    Calls Try.prog 8 #[.int .u64 s0, .int .i64 n, v] w fun e w' => e = .returned (.bool true) ∧ Below w.heap.size w w' := by
  have hx := bounds_u64 hw0
  obtain ⟨s, rfl⟩ := Int.eq_ofNat_of_zero_le hx.1
  exact walk_v v l (Lo.spread s n l) s n (Lo.spreadE n l) w hs hz (fun u W hu => lspread_any s n u l W hu) (fun W hu => lrspread_any s n v l W hu)

set_option maxRecDepth 100000 in
theorem lifted (os : Os) (started : os.Started) (H : Type) (enc : TypeId × Value → H) :
    ReturnsInHanded {} Try.checked os 8 .any (Rows.choiceOwnSpec.pre6 enc Try.prog Try.f8 Rows.choiceOwnRow.domain false) (Rows.choiceOwnSpec.post enc Try.prog Try.f8 false true false false) := by
  refine returnsInHanded_of_change_sized (C := Try.checked) own started (by kernel_rfl) Try.func8
    (ChangeSpec.witness6 (enc := enc) (C := Try.checked) false ⟨#[], #[.int .u64 0, .int .i64 0, .slice none 0 0], []⟩ 8 (by kernel_rfl) (by kernel_rfl) (by kernel_rfl) (by kernel_rfl)) ?_
  intro W base args ds gs before hval0 hW hcnd hsz0 _
  have hval : ∀ (j : Nat) t v, Try.f8.params[j]? = some t → args[j]? = some v → Value.okWide Try.prog W .any base t v := hval0
  have hsz : (DataW.weightsEach Try.prog (Try.f8.params.toList ++ Rows.choiceOwnSpec.plain.varTypes Try.prog) (ds ++ gs)).all (· ≤ reachBytes) = true := hsz0
  have hW' := hW
  obtain ⟨p, q, hA0, hV, rfl, hfz, hnd⟩ := hW
  have hA : DataW.TrodAll enc Try.prog W 0 (fun _ => true) true Try.f8.params.toList args.toList ds p := hA0
  rw [Try.params8] at hA hval hsz
  obtain ⟨v0, vs0, d0, ds0, p0, q0, hargs, rfl, rfl, h0, r0⟩ := trodAll_cons hA
  obtain ⟨v1, vs1, d1, ds1, p1, q1, rfl, rfl, rfl, h1, r1⟩ := trodAll_cons r0
  obtain ⟨v2, vs2, d2, ds2, p2, q2, rfl, rfl, rfl, h2, r2⟩ := trodAll_cons r1
  obtain ⟨rfl, rfl, rfl⟩ := trodAll_nil r2
  obtain rfl : args = #[v0, v1, v2] := by cases args; simp_all
  obtain ⟨rfl, rfl⟩ := trodVars_none hV
  obtain ⟨a0, rfl, rfl, rfl, w0⟩ := open_int Try.underlying22 (hval 0 22 v0 rfl rfl) h0
  obtain ⟨a1, rfl, rfl, rfl, w1⟩ := open_int Try.underlying3 (hval 1 3 v1 rfl rfl) h1
  have k2 := h2
  have lt2 : ∀ x ∈ p2, x.block < W.heap.size := by obtain ⟨m, hm⟩ := k2; exact DataW.trod_lt m _ _ _ hm
  obtain ⟨l2, hs2, ho2, e2⟩ := open_loads (hval 2 23 v2 rfl rfl) h2
  have z2 : l2.length ≤ 8796093022208 := by
    rcases e2 with ⟨_, rfl⟩ | ⟨elems, spare, rfl, hl⟩
    · simp
    · have := sized_slice hsz (j := 2) (t := 23) (e := 49) rfl rfl Try.underlying23
      rw [Try.bytesL] at this
      simp only [reachBytes] at this
      omega
  clear hA0 hval0
  refine (walk a0 w0 a1 w1 v2 l2 hs2 ho2 z2).mono fun e W' ⟨he, bel⟩ => ?_
  subst he
  exact ⟨_, rfl, _, _, _, [], _, [], hW', trodAll_mk1 (shut_bool Try.underlying4 _), (trodAll_cons_mk (shut_int Try.underlying22 w0) (trodAll_cons_mk (shut_int Try.underlying3 w1) (trodAll_cons_mk (Below.trod laidOut (by kernel_rfl) (of_decide_eq_true (by kernel_rfl)) k2 bel lt2) trodAll_mk0))), rfl, bel.frame _, fun h => by cases h⟩

theorem over : Rows.choiceOwnRow.holds Try.pinned (OpenSpec.ofChange Rows.choiceOwnSpec) :=
  OpenClaim.holds_of_wide 8 Try.f8 rfl rfl rfl rfl rfl rfl rfl ⟨rfl, rfl, rfl, rfl, rfl⟩ rfl rfl rfl rfl rfl (by kernel_rfl) Try.func8 (by kernel_rfl)
    (of_decide_eq_true (by kernel_rfl)) (by unfold Func.isWrapper; first | (rw [if_pos (by decide +kernel)]; kernel_rfl) | (rw [if_neg (by decide +kernel)]; exact ⟨rfl, rfl⟩))
    (fun os started H enc _ => lifted os started H enc)
end Go.Proofs.Ytcpcnajifdicmaa.choiceOwn

namespace Go.Proofs.Ytcpcnajifdicmaa
/-- THE STATEMENT. -/
theorem choiceOwn_holds : Rows.ChoiceOwnSaid := choiceOwn.over
#print axioms choiceOwn_holds
end Go.Proofs.Ytcpcnajifdicmaa
