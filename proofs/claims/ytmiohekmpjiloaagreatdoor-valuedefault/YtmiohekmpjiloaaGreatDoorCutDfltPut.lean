/- A default is of its type, and is the default (and beside an error it is zero): of every schema and type that are handed in, without a condition; the tables of package strconv and math/bits as the program's text lays them. -/
import Derived.Test.YtmiohekmpjiloaaGreatDoorRows
import Derived.Test.YtmiohekmpjiloaaGreatDoorCards
import Derived.Test.YtmiohekmpjiloaaGreatDoorTie
import Derived.Test.YtmiohekmpjiloaaGreatDoorCutPut35
import Derived.Test.YtmiohekmpjiloaaGreatDoorCutPut31
import Derived.SizedLaws
import Derived.ChangeMaps5
import Derived.ChangeSame
import Derived.ChangeVars
import Derived.JoinedOf
import Derived.RowKit
import Derived.RowKitTokens
import Derived.Lay
import Derived.MakeChecks
import Derived.Handed
import Derived.SevenTiedAt
import Derived.Lib.LaidTab
namespace Go.Proofs.YtmiohekmpjiloaaGreatDoor.valueDefault
open Go.ChangeShapes Go.WideShapes Go.ChangeAt Go.RowKit
open Go.ChangeMaps (open_string shut_string)

def laid : List (String × DataW Unit) := [("math/bits.deBruijn32tab", Rows.laid_math_bits_deBruijn32tab), ("math/bits.deBruijn64tab", Rows.laid_math_bits_deBruijn64tab), ("internal/strconv.uint64pow10", Rows.laid_internal_strconv_uint64pow10)]

theorem met_tail {P : Program} {x : String × DataW Unit} {l : List (String × DataW Unit)} {w : World} (h : laidMet P (x :: l) w) : laidMet P l w := by
  obtain ⟨ps, h1, h2, h3⟩ := h
  obtain ⟨n, d⟩ := x
  obtain ⟨g, t, cs, fuel, p, q, _, _, _, _, h5, rfl⟩ := h1
  exact ⟨q, h5, (List.nodup_append.1 h2).2.1, fun b off hm => h3 b off (List.mem_append_right _ hm)⟩

/-- The table, out of what is laid. -/
theorem tab_of {W : World} (h : laidMetH Tryz.prog laid W) : Tab W.heap.size W := by
  rw [MakeChecks.laidMetH_plain _ _ _ (by kernel_rfl)] at h
  have h3 := met_tail (met_tail h)
  have e : Rows.laid_internal_strconv_uint64pow10 (H := Unit) = Lib.tabData .u64 Lib.pow10Tab := by kernel_rfl
  rw [e] at h3
  have h1 : Tryz.prog.globalNamed "internal/strconv.uint64pow10" = some (Tryz.laysM171_ren.g 17) := by kernel_rfl
  have h2 : (Tryz.prog.globals[Tryz.laysM171_ren.g 17]?).map (·.type) = some 241 := by kernel_rfl
  have h4 : Tryz.prog.underlying 241 = some (.array 20 30) := by kernel_rfl
  have h5 : Tryz.prog.underlying 30 = some (.int .u64) := by kernel_rfl
  have h6 : Tryz.prog.cellsOf 30 = 1 := by kernel_rfl
  have h7 : Tryz.prog.cellsOf 241 = 20 := by kernel_rfl
  have hT := Lib.tabIs_of_head h1 h2 h4 h5 h6 h7 h3
  refine ⟨hT, fun g' hg' => ?_⟩
  unfold Lib.TabIs World.var? at hT
  rw [hg'] at hT
  simp only [Option.bind_some] at hT
  cases ho : W.heap[g']? with
  | none => rw [ho] at hT; cases hT
  | some o => exact lt_of_some ho

set_option maxRecDepth 100000 in
/-- A type that is handed in. -/
theorem open_typeV {H : Type} {enc : TypeId × Value → H} {W : World} {base : Nat} {v : Value} {d : DataW H} {p : List MemPlace} (n : Nat) (hval : Value.okWide Tryz.prog W .any base 29 v)
    (h : DataW.Trod enc Tryz.prog W 0 (fun _ => true) true 29 v d p) :
    ∃ gt : Pl.GT, ∃ k s o, v = .agg #[k, s, o] ∧ Ly W.heap.size n gt W k s o := by
  have ce : Tryz.prog.cellsOf 29 = 3 := by kernel_rfl
  unfold Value.okWide at hval
  rw [Tryz.underlying29] at hval
  obtain ⟨cs, rfl, hsz, _⟩ := hval
  obtain ⟨fuel, hf0⟩ := h
  obtain ⟨gt, k, s, o, h1, h2⟩ := open_type n fuel _ _ hf0
  obtain ⟨l⟩ := cs
  refine ⟨gt, k, s, o, ?_, h2⟩
  have h3 : l = [k, s, o] := h1
  rw [h3]

set_option maxRecDepth 100000 in
theorem lifted (os : Os) (started : os.Started) (H : Type) (enc : TypeId × Value → H) :
    ReturnsInHanded {} Tryz.checked os 4 .any (fun w args => (Rows.valueDefaultSpec.pre enc Tryz.prog Tryz.f4 [] false w args ∧ laidMetH Tryz.prog laid w) ∧ sizedMet enc Tryz.prog Tryz.f4 (OpenSpec.ofChange Rows.valueDefaultSpec) false w args)
      (Rows.valueDefaultSpec.post enc Tryz.prog Tryz.f4 false true false false) := by
  refine returnsInHanded_of_change_and (C := Tryz.checked) (X := fun w _ => laidMetH Tryz.prog laid w) (fun _ _ _ hh h => h.of_heap hh) own started (by kernel_rfl) Tryz.func4
    (ChangeSpec.witness_at (enc := enc) (C := Tryz.checked) (os := os) (X := fun w _ => laidMetH Tryz.prog laid w) false (World.laidAll Tryz.prog os laid) #[.agg #[.slice none 0 0, .slice none 0 0, .slice none 0 0], .agg #[.int .i64 0, .string ⟨#[]⟩, .slice none 0 0]] 8 (World.laidAll_os _ _ _) (by kernel_rfl) (by kernel_rfl) (by kernel_rfl) (by kernel_rfl) (by kernel_rfl)
      (by rw [MakeChecks.laidMetH_plain _ _ _ (by kernel_rfl)]; exact laidMet_laidAll _ (by kernel_rfl) (by kernel_rfl))) ?_
  intro W base args ds gs before hval0 hW hcnd hsz0 hL _
  have hval : ∀ (j : Nat) t v, Tryz.f4.params[j]? = some t → args[j]? = some v → Value.okWide Tryz.prog W .any base t v := hval0
  have hW' := hW
  obtain ⟨p, q, hA0, hV, rfl, hfz, hnd⟩ := hW
  have hA : DataW.TrodAll enc Tryz.prog W 0 (fun _ => true) true Tryz.f4.params.toList args.toList ds p := hA0
  rw [Tryz.params4] at hA hval
  obtain ⟨v0, vs0, d0, ds0, p0, q0, hargs, rfl, rfl, h0, r0⟩ := trodAll_cons hA
  obtain ⟨v1, vs1, d1, ds1, p1, q1, rfl, rfl, rfl, h1, r1⟩ := trodAll_cons r0
  obtain ⟨rfl, rfl, rfl⟩ := trodAll_nil r1
  obtain rfl : args = #[v0, v1] := by cases args; simp_all
  obtain ⟨rfl, rfl⟩ := trodVars_none hV
  have k0 := h0
  have k1 := h1
  have lt0 : ∀ x ∈ p0, x.block < W.heap.size := by obtain ⟨m, hm⟩ := k0; exact DataW.trod_lt m _ _ _ hm
  have lt1 : ∀ x ∈ p1, x.block < W.heap.size := by obtain ⟨m, hm⟩ := k1; exact DataW.trod_lt m _ _ _ hm
  obtain ⟨s1, s2, s3, a, b, c, rfl, hS⟩ := open_schema 99 (hval 0 26 v0 rfl rfl) h0
  obtain ⟨gt, k, s, o, rfl, hL1⟩ := open_typeV 99 (hval 1 29 v1 rfl rfl) h1
  obtain ⟨x1, y1, rfl⟩ := hS.1.shape
  obtain ⟨x2, y2, rfl⟩ := hS.2.1.shape
  obtain ⟨x3, y3, rfl⟩ := hS.2.2.shape
  obtain rfl := hL1.1
  obtain ⟨sx, rfl, -, -⟩ := hL1.2.1
  obtain ⟨ao, mo, co, rfl⟩ := hL1.2.2.shape
  have g0 := schema_sized h0 hsz0 (j := 0) rfl rfl
  obtain ⟨E, D, hA3⟩ := ScOk.of a b c _ _ _ W hS g0
  clear hA0 hval0
  refine (default_walk E D gt _ _ _ _ sx ao mo co W hA3 (tab_of hL) hL1).mono fun e W' ⟨he, bel⟩ => ?_
  subst he
  exact ⟨_, rfl, _, _, _, [], _, [], hW', trodAll_mk1 (shut_bool Tryz.underlying4 _), (trodAll_cons_mk (Below.trod laidOut (by kernel_rfl) (of_decide_eq_true (by kernel_rfl)) k0 bel lt0) (trodAll_cons_mk (Below.trod laidOut (by kernel_rfl) (of_decide_eq_true (by kernel_rfl)) k1 bel lt1) trodAll_mk0)), rfl, bel.frame _, fun h => by cases h⟩

theorem over : Rows.valueDefaultRow.holds Tryz.pinned (OpenSpec.ofChange Rows.valueDefaultSpec) :=
  OpenClaim.holds_of_wide 4 Tryz.f4 rfl rfl rfl rfl rfl rfl rfl ⟨rfl, rfl, rfl, rfl, rfl⟩ rfl rfl rfl rfl rfl (by kernel_rfl) Tryz.func4 (by kernel_rfl)
    (of_decide_eq_true (by kernel_rfl)) (by unfold Func.isWrapper; first | (rw [if_pos (by decide +kernel)]; kernel_rfl) | (rw [if_neg (by decide +kernel)]; exact ⟨rfl, rfl⟩))
    (fun os started H enc _ => lifted os started H enc)

theorem card : Claim7.holds Tryz.pinned (.plain (OpenSpec.ofChange Rows.valueDefaultSpec)) Rows.valueDefaultCard :=
  Claim7.holds_tied_plain_at .later [] [.data, .data, .data] true Rows.valueDefaultCard.stood.harness true
    over (fun _ h => by cases h) (by kernel_rfl) (fun _ h => by cases h) valueDefault_row_tie rfl ⟨rfl, rfl⟩ (by kernel_rfl) rfl
    (fun f fn hf hfn => by
      obtain rfl : f = 4 := Option.some.inj ((show Tryz.prog.funcNamed Rows.valueDefaultRow.func = some 4 by kernel_rfl).symm.trans hf) |>.symm
      obtain rfl : fn = Tryz.f4 := (Option.some.inj (Tryz.func4.symm.trans hfn)).symm
      exact ⟨by kernel_rfl, fun j t ht => by
        rw [Tryz.params4] at ht
        rcases j with _ | _ | j
        · obtain rfl : t = 26 := by simpa using ht.symm
          exact (show Tryz.prog.wantsStandIn 26 = false by kernel_rfl)
        · obtain rfl : t = 29 := by simpa using ht.symm
          exact (show Tryz.prog.wantsStandIn 29 = false by kernel_rfl)
        · simp at ht⟩)
    (by kernel_rfl)
end Go.Proofs.YtmiohekmpjiloaaGreatDoor.valueDefault

namespace Go.Proofs.YtmiohekmpjiloaaGreatDoor
/-- THE STATEMENT. -/
theorem valueDefault_holds : Rows.ValueDefaultCardSaid := valueDefault.card
#print axioms valueDefault_holds
end Go.Proofs.YtmiohekmpjiloaaGreatDoor

