/- schema: each. schema: closures that tell a part's name; checkParts. schema: checkTypes. schema: checkStruct, checkService. slices.IndexFunc: the first one that fits. schema: what structs come to, worked out as the code does (plain). schema: Find. schema: what a struct comes to (the code). -/
import Derived.Test.YtdbgncdnffbhkaaGreatDoorCutPut21
import Derived.Test.YtdbgncdnffbhkaaGreatDoorCutPut22
namespace Go.Proofs.YtdbgncdnffbhkaaGreatDoor
open Go.RowKit
set_option maxRecDepth 20000

structure EachIStructString (w : World) (xs : List (List Nat × List Pl.Fld)) (Q : (List Nat × List Pl.Fld) → ByteArray → Prop) (tv i : Value) (wr : World) : Prop where
  all : ∃ (k : Nat) (ps : List ((List Nat × List Pl.Fld) × List Value)) (ta : Option Addr) (tl tc : Nat), k ≤ xs.length ∧ i = .int .i64 (k : Int) ∧ tv = .slice ta tl tc ∧ ps.map Prod.fst = xs.take k ∧ (∀ p ∈ ps, (fun a c (_ : World) => ∃ s, c = [.string s] ∧ Q a s) p.1 p.2 w ∧ p.2.length = 1) ∧ wr.ownsRow w.heap.size 9 1 tv ps.length (ps.flatMap Prod.snd) ∧ Below w.heap.size w wr

theorem Tryz.infoEachStructString : (Tryz.prog.info? 9).map (fun i => (i.zero, i.size, i.bytes)) = some (some (.string ⟨#[]⟩), 1, 16) := by kernel_rfl

set_option maxHeartbeats 8000000 in
theorem eachStructString_any (ft : Nat) (hen : ∀ (args : Array Value) (w' : World), (callFunc ft args).run Tryz.prog w' = .ok (.enter ft args) w') (v : Value) (xs : List (List Nat × List Pl.Fld)) (hx : xs.length ≤ 100000) (Q : (List Nat × List Pl.Fld) → ByteArray → Prop) (w : World) (hS : Rw 2 (DecG 5 FldG) w v xs)
    (ht : ∀ a ∈ xs, ∀ c W, (DecG 5 FldG) a c w → (DecG 5 FldG) a c W → Below w.heap.size w W → Calls Tryz.prog ft #[.agg ⟨c⟩] W fun e w' => ∃ s, e = .returned (.string s) ∧ Q a s ∧ Below W.heap.size W w') :
    Calls Tryz.prog 72 #[v, .func (.func ft) #[] #[]] w fun e w' => ∃ tv, e = .returned tv ∧ Rows 9 1 (fun a c (_ : World) => ∃ s, c = [.string s] ∧ Q a s) w.heap.size w' tv xs ∧ Below w.heap.size w w' := by
  obtain ⟨i0, hi, hz⟩ := Option.map_eq_some_iff.1 Tryz.infoEachStructString
  obtain ⟨hz0, hz1, hz2⟩ : i0.zero = some (.string ⟨#[]⟩) ∧ i0.size = 1 ∧ i0.bytes = 16 := by
    simp only [Prod.mk.injEq] at hz
    exact hz
  obtain ⟨ad0, cp0, hvv⟩ := hS.shape
  have HS := hid hS
  have HT := hid ht
  obtain ⟨M, hM⟩ : ∃ M, M = xs.length := ⟨_, rfl⟩
  rw [← hM] at hx hvv
  subst hvv
  have HM : Hid (M = xs.length) := hM
  clear hS ht hM
  go_enter Tryz.func72, Tryz.ntmps72
  go_wp2_with fail
  go_loopw [5, 10] (fun tv i wr => EachIStructString w xs Q tv i wr) (fun _ i _ => M - (intOf i).toNat)
  case atStart => exact ⟨0, [], none, 0, 0, Nat.zero_le _, rfl, rfl, rfl, (fun p hp => by cases hp), World.ownsRow_nil _ _ _ _, Below.refl _ _⟩
  case round =>
    obtain ⟨k, ps, ta, tl, tc, hk, rfl, rfl, hps, hpq, hown, hbw⟩ := hrel.all
    clear hrel
    rw [← HM.out] at hk
    have hpl : ps.length = k := by
      have := congrArg List.length hps
      rw [List.length_map, List.length_take, ← HM.out] at this
      omega
    rw [hpl] at hown
    have HPS := hid hps
    have HPQ := hid hpq
    have HPL := hid hpl
    clear hps hpq hpl
    by_cases hlt : k < M
    · obtain ⟨a, ha⟩ : ∃ a, xs[k]? = some a := ⟨xs[k]'(by rw [← HM.out]; exact hlt), by simp⟩
      obtain ⟨g, off, cap, c, hv, hg0, hRc0, hc0⟩ := HS.out.at ha
      have hg := Nat.lt_of_lt_of_le hg0 hbw.size
      have HR0 := hid hRc0
      have hRc : (DecG 5 FldG) a c wr := (fun h => DecG.below hbw (FldG.below hbw) _ _ h) hRc0
      have hc : ∀ (j : Nat) (u : Value), c[j]? = some u → wr.cell? ⟨g, off + k * 2 + j, none⟩ = some u := fun j u hj => (hbw.cell hg0).trans (hc0 j u hj)
      clear hc0 hRc0 hg0
      have HRc := hid hRc
      obtain ⟨xs1, xd, xm, xc, rfl, hxs, hxr⟩ := hRc
      injection hv with hv1 hv2 hv3
      clear hv2
      subst hv1 hv3
      have c0 := hc 0 _ rfl
      have c1 := hc 1 _ rfl
      simp only [Nat.add_zero] at c0
      have hcall := HT.out a (List.mem_of_getElem? ha) _ (wr.alloc (.cells #[.string xs1, .slice xd xm xc] 60)) HR0.out (DecG.below (below_alloc wr _) (FldG.below (below_alloc wr _)) _ _ HRc.out) (below_next hbw (below_alloc wr _))
      have hbA := below_next hbw (below_alloc wr (.cells #[.string xs1, .slice xd xm xc] 60))
      have Ha := hid ha
      clear hc HRc ha hxs HR0
      go_wp2_with fail
      refine hcall.mono ?_
      rintro e w2 ⟨su, rfl, hQ, hb2⟩
      have hbw2 := below_next hbA hb2
      have hown2 := own_ch (X := fun _ _ => False) (hown.alloc (.cells #[.string xs1, .slice xd xm xc] 60)) (Ch.below hb2) (fun _ _ h => h)
      have hB3 := Bx.new w2 [.string su] 9
      have hbw3 := below_next hbw2 (below_alloc w2 (.cells #[.string su] 9))
      clear hcall hown
      go_wp2_with (first
        | (at_builtin; refine wpList_append_own _ rfl _ _ 140 rfl w.heap.size 9 i0 (.string ⟨#[]⟩) 1 16 Tryz.underlying140 hi hz0 hz1 hz2 rfl (by decide) _ _ _ rfl (hown2.alloc (.cells #[.string su] 9)) ⟨w2.heap.size, 0, none⟩ 1 1 [.string su] rfl rfl ?c1 ?c2 ?c3 ?c4 ?c5 ?_)
        | fail)
      case c1 =>
        intro j u hj
        have := hB3.cell j hj
        rw [add_plain, Nat.zero_add]
        exact this
      case c2 =>
        intro u hu
        simp only [List.mem_cons, List.not_mem_nil, or_false] at hu
        subst hu
        rfl
      case c3 => unfold maxLen; omega
      case c4 => omega
      case c5 => exact hbw3.size
      intro tv' w4 hown4 hgr _
      have hbw4 := hbw3.grown hgr hbw3.size (fun j hj => by
        rcases (hown2.alloc (.cells #[.string su] 9)).2 with ⟨h, _⟩ | ⟨g', cap', cur', h, hb', _⟩
        · rw [h] at hj; simp [Value.ownBlock] at hj
        · rw [h] at hj
          simp only [Value.ownBlock, Option.some.injEq] at hj
          omega)
      obtain ⟨ta', tl', tc', htv'⟩ : ∃ ta tl tc, tv' = .slice ta tl tc := by
        rcases hown4.2 with ⟨h, _⟩ | ⟨g, cap, cur, h, _⟩
        · exact ⟨_, _, _, h⟩
        · exact ⟨_, _, _, h⟩
      subst htv'
      have HO4 := hid hown4
      have HB4 := hid hbw4
      have HQ := hid hQ
      clear hown4 hgr hbw4 hown2 hB3 hbw3 hbw2 hQ
      go_wp2
      refine ⟨?_, ?_⟩
      · refine ⟨k + 1, ps ++ [(a, [.string su])], _, _, _, by rw [← HM.out]; omega, by go_num, rfl, ?_, ?_, ?_, HB4.out⟩
        · rw [List.map_append, HPS.out, List.take_add_one, Ha.out]
          rfl
        · intro p hp
          rcases List.mem_append.1 hp with hp | hp
          · exact HPQ.out p hp
          · rw [List.mem_singleton] at hp
            subst hp
            exact ⟨⟨su, rfl, HQ.out⟩, rfl⟩
        · have := HO4.out
          rw [List.length_append, HPL.out, List.flatMap_append]
          simpa using this
      · simp [intOf]; omega
    · have hke : k = M := by omega
      subst hke
      have HO := hid hown
      have HB := hid hbw
      clear hown hbw
      go_wp2
      go_ret
      refine ⟨_, rfl, ⟨ps, ?_, HPQ.out, ?_⟩, HB.out⟩
      · rw [HPS.out, HM.out, List.take_length]
      · rw [HPL.out]; exact HO.out

structure EachIEnumString (w : World) (xs : List (List Nat × List Pl.Cas)) (Q : (List Nat × List Pl.Cas) → ByteArray → Prop) (tv i : Value) (wr : World) : Prop where
  all : ∃ (k : Nat) (ps : List ((List Nat × List Pl.Cas) × List Value)) (ta : Option Addr) (tl tc : Nat), k ≤ xs.length ∧ i = .int .i64 (k : Int) ∧ tv = .slice ta tl tc ∧ ps.map Prod.fst = xs.take k ∧ (∀ p ∈ ps, (fun a c (_ : World) => ∃ s, c = [.string s] ∧ Q a s) p.1 p.2 w ∧ p.2.length = 1) ∧ wr.ownsRow w.heap.size 9 1 tv ps.length (ps.flatMap Prod.snd) ∧ Below w.heap.size w wr

theorem Tryz.infoEachEnumString : (Tryz.prog.info? 9).map (fun i => (i.zero, i.size, i.bytes)) = some (some (.string ⟨#[]⟩), 1, 16) := by kernel_rfl

set_option maxHeartbeats 8000000 in
theorem eachEnumString_any (ft : Nat) (hen : ∀ (args : Array Value) (w' : World), (callFunc ft args).run Tryz.prog w' = .ok (.enter ft args) w') (v : Value) (xs : List (List Nat × List Pl.Cas)) (hx : xs.length ≤ 100000) (Q : (List Nat × List Pl.Cas) → ByteArray → Prop) (w : World) (hS : Rw 2 (DecG 2 CasG) w v xs)
    (ht : ∀ a ∈ xs, ∀ c W, (DecG 2 CasG) a c w → (DecG 2 CasG) a c W → Below w.heap.size w W → Calls Tryz.prog ft #[.agg ⟨c⟩] W fun e w' => ∃ s, e = .returned (.string s) ∧ Q a s ∧ Below W.heap.size W w') :
    Calls Tryz.prog 74 #[v, .func (.func ft) #[] #[]] w fun e w' => ∃ tv, e = .returned tv ∧ Rows 9 1 (fun a c (_ : World) => ∃ s, c = [.string s] ∧ Q a s) w.heap.size w' tv xs ∧ Below w.heap.size w w' := by
  obtain ⟨i0, hi, hz⟩ := Option.map_eq_some_iff.1 Tryz.infoEachEnumString
  obtain ⟨hz0, hz1, hz2⟩ : i0.zero = some (.string ⟨#[]⟩) ∧ i0.size = 1 ∧ i0.bytes = 16 := by
    simp only [Prod.mk.injEq] at hz
    exact hz
  obtain ⟨ad0, cp0, hvv⟩ := hS.shape
  have HS := hid hS
  have HT := hid ht
  obtain ⟨M, hM⟩ : ∃ M, M = xs.length := ⟨_, rfl⟩
  rw [← hM] at hx hvv
  subst hvv
  have HM : Hid (M = xs.length) := hM
  clear hS ht hM
  go_enter Tryz.func74, Tryz.ntmps74
  go_wp2_with fail
  go_loopw [5, 10] (fun tv i wr => EachIEnumString w xs Q tv i wr) (fun _ i _ => M - (intOf i).toNat)
  case atStart => exact ⟨0, [], none, 0, 0, Nat.zero_le _, rfl, rfl, rfl, (fun p hp => by cases hp), World.ownsRow_nil _ _ _ _, Below.refl _ _⟩
  case round =>
    obtain ⟨k, ps, ta, tl, tc, hk, rfl, rfl, hps, hpq, hown, hbw⟩ := hrel.all
    clear hrel
    rw [← HM.out] at hk
    have hpl : ps.length = k := by
      have := congrArg List.length hps
      rw [List.length_map, List.length_take, ← HM.out] at this
      omega
    rw [hpl] at hown
    have HPS := hid hps
    have HPQ := hid hpq
    have HPL := hid hpl
    clear hps hpq hpl
    by_cases hlt : k < M
    · obtain ⟨a, ha⟩ : ∃ a, xs[k]? = some a := ⟨xs[k]'(by rw [← HM.out]; exact hlt), by simp⟩
      obtain ⟨g, off, cap, c, hv, hg0, hRc0, hc0⟩ := HS.out.at ha
      have hg := Nat.lt_of_lt_of_le hg0 hbw.size
      have HR0 := hid hRc0
      have hRc : (DecG 2 CasG) a c wr := (fun h => DecG.below hbw (fun _ _ h => h) _ _ h) hRc0
      have hc : ∀ (j : Nat) (u : Value), c[j]? = some u → wr.cell? ⟨g, off + k * 2 + j, none⟩ = some u := fun j u hj => (hbw.cell hg0).trans (hc0 j u hj)
      clear hc0 hRc0 hg0
      have HRc := hid hRc
      obtain ⟨xs1, xd, xm, xc, rfl, hxs, hxr⟩ := hRc
      injection hv with hv1 hv2 hv3
      clear hv2
      subst hv1 hv3
      have c0 := hc 0 _ rfl
      have c1 := hc 1 _ rfl
      simp only [Nat.add_zero] at c0
      have hcall := HT.out a (List.mem_of_getElem? ha) _ (wr.alloc (.cells #[.string xs1, .slice xd xm xc] 64)) HR0.out (DecG.below (below_alloc wr _) (fun _ _ h => h) _ _ HRc.out) (below_next hbw (below_alloc wr _))
      have hbA := below_next hbw (below_alloc wr (.cells #[.string xs1, .slice xd xm xc] 64))
      have Ha := hid ha
      clear hc HRc ha hxs HR0
      go_wp2_with fail
      refine hcall.mono ?_
      rintro e w2 ⟨su, rfl, hQ, hb2⟩
      have hbw2 := below_next hbA hb2
      have hown2 := own_ch (X := fun _ _ => False) (hown.alloc (.cells #[.string xs1, .slice xd xm xc] 64)) (Ch.below hb2) (fun _ _ h => h)
      have hB3 := Bx.new w2 [.string su] 9
      have hbw3 := below_next hbw2 (below_alloc w2 (.cells #[.string su] 9))
      clear hcall hown
      go_wp2_with (first
        | (at_builtin; refine wpList_append_own _ rfl _ _ 140 rfl w.heap.size 9 i0 (.string ⟨#[]⟩) 1 16 Tryz.underlying140 hi hz0 hz1 hz2 rfl (by decide) _ _ _ rfl (hown2.alloc (.cells #[.string su] 9)) ⟨w2.heap.size, 0, none⟩ 1 1 [.string su] rfl rfl ?c1 ?c2 ?c3 ?c4 ?c5 ?_)
        | fail)
      case c1 =>
        intro j u hj
        have := hB3.cell j hj
        rw [add_plain, Nat.zero_add]
        exact this
      case c2 =>
        intro u hu
        simp only [List.mem_cons, List.not_mem_nil, or_false] at hu
        subst hu
        rfl
      case c3 => unfold maxLen; omega
      case c4 => omega
      case c5 => exact hbw3.size
      intro tv' w4 hown4 hgr _
      have hbw4 := hbw3.grown hgr hbw3.size (fun j hj => by
        rcases (hown2.alloc (.cells #[.string su] 9)).2 with ⟨h, _⟩ | ⟨g', cap', cur', h, hb', _⟩
        · rw [h] at hj; simp [Value.ownBlock] at hj
        · rw [h] at hj
          simp only [Value.ownBlock, Option.some.injEq] at hj
          omega)
      obtain ⟨ta', tl', tc', htv'⟩ : ∃ ta tl tc, tv' = .slice ta tl tc := by
        rcases hown4.2 with ⟨h, _⟩ | ⟨g, cap, cur, h, _⟩
        · exact ⟨_, _, _, h⟩
        · exact ⟨_, _, _, h⟩
      subst htv'
      have HO4 := hid hown4
      have HB4 := hid hbw4
      have HQ := hid hQ
      clear hown4 hgr hbw4 hown2 hB3 hbw3 hbw2 hQ
      go_wp2
      refine ⟨?_, ?_⟩
      · refine ⟨k + 1, ps ++ [(a, [.string su])], _, _, _, by rw [← HM.out]; omega, by go_num, rfl, ?_, ?_, ?_, HB4.out⟩
        · rw [List.map_append, HPS.out, List.take_add_one, Ha.out]
          rfl
        · intro p hp
          rcases List.mem_append.1 hp with hp | hp
          · exact HPQ.out p hp
          · rw [List.mem_singleton] at hp
            subst hp
            exact ⟨⟨su, rfl, HQ.out⟩, rfl⟩
        · have := HO4.out
          rw [List.length_append, HPL.out, List.flatMap_append]
          simpa using this
      · simp [intOf]; omega
    · have hke : k = M := by omega
      subst hke
      have HO := hid hown
      have HB := hid hbw
      clear hown hbw
      go_wp2
      go_ret
      refine ⟨_, rfl, ⟨ps, ?_, HPQ.out, ?_⟩, HB.out⟩
      · rw [HPS.out, HM.out, List.take_length]
      · rw [HPL.out]; exact HO.out

structure EachIServiceString (w : World) (xs : List (List Nat × List Pl.Mth)) (Q : (List Nat × List Pl.Mth) → ByteArray → Prop) (tv i : Value) (wr : World) : Prop where
  all : ∃ (k : Nat) (ps : List ((List Nat × List Pl.Mth) × List Value)) (ta : Option Addr) (tl tc : Nat), k ≤ xs.length ∧ i = .int .i64 (k : Int) ∧ tv = .slice ta tl tc ∧ ps.map Prod.fst = xs.take k ∧ (∀ p ∈ ps, (fun a c (_ : World) => ∃ s, c = [.string s] ∧ Q a s) p.1 p.2 w ∧ p.2.length = 1) ∧ wr.ownsRow w.heap.size 9 1 tv ps.length (ps.flatMap Prod.snd) ∧ Below w.heap.size w wr

theorem Tryz.infoEachServiceString : (Tryz.prog.info? 9).map (fun i => (i.zero, i.size, i.bytes)) = some (some (.string ⟨#[]⟩), 1, 16) := by kernel_rfl

set_option maxHeartbeats 8000000 in
theorem eachServiceString_any (ft : Nat) (hen : ∀ (args : Array Value) (w' : World), (callFunc ft args).run Tryz.prog w' = .ok (.enter ft args) w') (v : Value) (xs : List (List Nat × List Pl.Mth)) (hx : xs.length ≤ 100000) (Q : (List Nat × List Pl.Mth) → ByteArray → Prop) (w : World) (hS : Rw 2 (DecG 8 MthG) w v xs)
    (ht : ∀ a ∈ xs, ∀ c W, (DecG 8 MthG) a c w → (DecG 8 MthG) a c W → Below w.heap.size w W → Calls Tryz.prog ft #[.agg ⟨c⟩] W fun e w' => ∃ s, e = .returned (.string s) ∧ Q a s ∧ Below W.heap.size W w') :
    Calls Tryz.prog 76 #[v, .func (.func ft) #[] #[]] w fun e w' => ∃ tv, e = .returned tv ∧ Rows 9 1 (fun a c (_ : World) => ∃ s, c = [.string s] ∧ Q a s) w.heap.size w' tv xs ∧ Below w.heap.size w w' := by
  obtain ⟨i0, hi, hz⟩ := Option.map_eq_some_iff.1 Tryz.infoEachServiceString
  obtain ⟨hz0, hz1, hz2⟩ : i0.zero = some (.string ⟨#[]⟩) ∧ i0.size = 1 ∧ i0.bytes = 16 := by
    simp only [Prod.mk.injEq] at hz
    exact hz
  obtain ⟨ad0, cp0, hvv⟩ := hS.shape
  have HS := hid hS
  have HT := hid ht
  obtain ⟨M, hM⟩ : ∃ M, M = xs.length := ⟨_, rfl⟩
  rw [← hM] at hx hvv
  subst hvv
  have HM : Hid (M = xs.length) := hM
  clear hS ht hM
  go_enter Tryz.func76, Tryz.ntmps76
  go_wp2_with fail
  go_loopw [5, 10] (fun tv i wr => EachIServiceString w xs Q tv i wr) (fun _ i _ => M - (intOf i).toNat)
  case atStart => exact ⟨0, [], none, 0, 0, Nat.zero_le _, rfl, rfl, rfl, (fun p hp => by cases hp), World.ownsRow_nil _ _ _ _, Below.refl _ _⟩
  case round =>
    obtain ⟨k, ps, ta, tl, tc, hk, rfl, rfl, hps, hpq, hown, hbw⟩ := hrel.all
    clear hrel
    rw [← HM.out] at hk
    have hpl : ps.length = k := by
      have := congrArg List.length hps
      rw [List.length_map, List.length_take, ← HM.out] at this
      omega
    rw [hpl] at hown
    have HPS := hid hps
    have HPQ := hid hpq
    have HPL := hid hpl
    clear hps hpq hpl
    by_cases hlt : k < M
    · obtain ⟨a, ha⟩ : ∃ a, xs[k]? = some a := ⟨xs[k]'(by rw [← HM.out]; exact hlt), by simp⟩
      obtain ⟨g, off, cap, c, hv, hg0, hRc0, hc0⟩ := HS.out.at ha
      have hg := Nat.lt_of_lt_of_le hg0 hbw.size
      have HR0 := hid hRc0
      have hRc : (DecG 8 MthG) a c wr := (fun h => DecG.below hbw (MthG.below hbw) _ _ h) hRc0
      have hc : ∀ (j : Nat) (u : Value), c[j]? = some u → wr.cell? ⟨g, off + k * 2 + j, none⟩ = some u := fun j u hj => (hbw.cell hg0).trans (hc0 j u hj)
      clear hc0 hRc0 hg0
      have HRc := hid hRc
      obtain ⟨xs1, xd, xm, xc, rfl, hxs, hxr⟩ := hRc
      injection hv with hv1 hv2 hv3
      clear hv2
      subst hv1 hv3
      have c0 := hc 0 _ rfl
      have c1 := hc 1 _ rfl
      simp only [Nat.add_zero] at c0
      have hcall := HT.out a (List.mem_of_getElem? ha) _ (wr.alloc (.cells #[.string xs1, .slice xd xm xc] 67)) HR0.out (DecG.below (below_alloc wr _) (MthG.below (below_alloc wr _)) _ _ HRc.out) (below_next hbw (below_alloc wr _))
      have hbA := below_next hbw (below_alloc wr (.cells #[.string xs1, .slice xd xm xc] 67))
      have Ha := hid ha
      clear hc HRc ha hxs HR0
      go_wp2_with fail
      refine hcall.mono ?_
      rintro e w2 ⟨su, rfl, hQ, hb2⟩
      have hbw2 := below_next hbA hb2
      have hown2 := own_ch (X := fun _ _ => False) (hown.alloc (.cells #[.string xs1, .slice xd xm xc] 67)) (Ch.below hb2) (fun _ _ h => h)
      have hB3 := Bx.new w2 [.string su] 9
      have hbw3 := below_next hbw2 (below_alloc w2 (.cells #[.string su] 9))
      clear hcall hown
      go_wp2_with (first
        | (at_builtin; refine wpList_append_own _ rfl _ _ 140 rfl w.heap.size 9 i0 (.string ⟨#[]⟩) 1 16 Tryz.underlying140 hi hz0 hz1 hz2 rfl (by decide) _ _ _ rfl (hown2.alloc (.cells #[.string su] 9)) ⟨w2.heap.size, 0, none⟩ 1 1 [.string su] rfl rfl ?c1 ?c2 ?c3 ?c4 ?c5 ?_)
        | fail)
      case c1 =>
        intro j u hj
        have := hB3.cell j hj
        rw [add_plain, Nat.zero_add]
        exact this
      case c2 =>
        intro u hu
        simp only [List.mem_cons, List.not_mem_nil, or_false] at hu
        subst hu
        rfl
      case c3 => unfold maxLen; omega
      case c4 => omega
      case c5 => exact hbw3.size
      intro tv' w4 hown4 hgr _
      have hbw4 := hbw3.grown hgr hbw3.size (fun j hj => by
        rcases (hown2.alloc (.cells #[.string su] 9)).2 with ⟨h, _⟩ | ⟨g', cap', cur', h, hb', _⟩
        · rw [h] at hj; simp [Value.ownBlock] at hj
        · rw [h] at hj
          simp only [Value.ownBlock, Option.some.injEq] at hj
          omega)
      obtain ⟨ta', tl', tc', htv'⟩ : ∃ ta tl tc, tv' = .slice ta tl tc := by
        rcases hown4.2 with ⟨h, _⟩ | ⟨g, cap, cur, h, _⟩
        · exact ⟨_, _, _, h⟩
        · exact ⟨_, _, _, h⟩
      subst htv'
      have HO4 := hid hown4
      have HB4 := hid hbw4
      have HQ := hid hQ
      clear hown4 hgr hbw4 hown2 hB3 hbw3 hbw2 hQ
      go_wp2
      refine ⟨?_, ?_⟩
      · refine ⟨k + 1, ps ++ [(a, [.string su])], _, _, _, by rw [← HM.out]; omega, by go_num, rfl, ?_, ?_, ?_, HB4.out⟩
        · rw [List.map_append, HPS.out, List.take_add_one, Ha.out]
          rfl
        · intro p hp
          rcases List.mem_append.1 hp with hp | hp
          · exact HPQ.out p hp
          · rw [List.mem_singleton] at hp
            subst hp
            exact ⟨⟨su, rfl, HQ.out⟩, rfl⟩
        · have := HO4.out
          rw [List.length_append, HPL.out, List.flatMap_append]
          simpa using this
      · simp [intOf]; omega
    · have hke : k = M := by omega
      subst hke
      have HO := hid hown
      have HB := hid hbw
      clear hown hbw
      go_wp2
      go_ret
      refine ⟨_, rfl, ⟨ps, ?_, HPQ.out, ?_⟩, HB.out⟩
      · rw [HPS.out, HM.out, List.take_length]
      · rw [HPL.out]; exact HO.out

structure EachICaseString (w : World) (xs : List Pl.Cas) (Q : Pl.Cas → ByteArray → Prop) (tv i : Value) (wr : World) : Prop where
  all : ∃ (k : Nat) (ps : List (Pl.Cas × List Value)) (ta : Option Addr) (tl tc : Nat), k ≤ xs.length ∧ i = .int .i64 (k : Int) ∧ tv = .slice ta tl tc ∧ ps.map Prod.fst = xs.take k ∧ (∀ p ∈ ps, (fun a c (_ : World) => ∃ s, c = [.string s] ∧ Q a s) p.1 p.2 w ∧ p.2.length = 1) ∧ wr.ownsRow w.heap.size 9 1 tv ps.length (ps.flatMap Prod.snd) ∧ Below w.heap.size w wr

theorem Tryz.infoEachCaseString : (Tryz.prog.info? 9).map (fun i => (i.zero, i.size, i.bytes)) = some (some (.string ⟨#[]⟩), 1, 16) := by kernel_rfl

set_option maxHeartbeats 8000000 in
theorem eachCaseString_any (ft : Nat) (hen : ∀ (args : Array Value) (w' : World), (callFunc ft args).run Tryz.prog w' = .ok (.enter ft args) w') (v : Value) (xs : List Pl.Cas) (hx : xs.length ≤ 100000) (Q : Pl.Cas → ByteArray → Prop) (w : World) (hS : Rw 2 (CasG) w v xs)
    (ht : ∀ a ∈ xs, ∀ c W, (CasG) a c w → (CasG) a c W → Below w.heap.size w W → Calls Tryz.prog ft #[.agg ⟨c⟩] W fun e w' => ∃ s, e = .returned (.string s) ∧ Q a s ∧ Below W.heap.size W w') :
    Calls Tryz.prog 124 #[v, .func (.func ft) #[] #[]] w fun e w' => ∃ tv, e = .returned tv ∧ Rows 9 1 (fun a c (_ : World) => ∃ s, c = [.string s] ∧ Q a s) w.heap.size w' tv xs ∧ Below w.heap.size w w' := by
  obtain ⟨i0, hi, hz⟩ := Option.map_eq_some_iff.1 Tryz.infoEachCaseString
  obtain ⟨hz0, hz1, hz2⟩ : i0.zero = some (.string ⟨#[]⟩) ∧ i0.size = 1 ∧ i0.bytes = 16 := by
    simp only [Prod.mk.injEq] at hz
    exact hz
  obtain ⟨ad0, cp0, hvv⟩ := hS.shape
  have HS := hid hS
  have HT := hid ht
  obtain ⟨M, hM⟩ : ∃ M, M = xs.length := ⟨_, rfl⟩
  rw [← hM] at hx hvv
  subst hvv
  have HM : Hid (M = xs.length) := hM
  clear hS ht hM
  go_enter Tryz.func124, Tryz.ntmps124
  go_wp2_with fail
  go_loopw [5, 10] (fun tv i wr => EachICaseString w xs Q tv i wr) (fun _ i _ => M - (intOf i).toNat)
  case atStart => exact ⟨0, [], none, 0, 0, Nat.zero_le _, rfl, rfl, rfl, (fun p hp => by cases hp), World.ownsRow_nil _ _ _ _, Below.refl _ _⟩
  case round =>
    obtain ⟨k, ps, ta, tl, tc, hk, rfl, rfl, hps, hpq, hown, hbw⟩ := hrel.all
    clear hrel
    rw [← HM.out] at hk
    have hpl : ps.length = k := by
      have := congrArg List.length hps
      rw [List.length_map, List.length_take, ← HM.out] at this
      omega
    rw [hpl] at hown
    have HPS := hid hps
    have HPQ := hid hpq
    have HPL := hid hpl
    clear hps hpq hpl
    by_cases hlt : k < M
    · obtain ⟨a, ha⟩ : ∃ a, xs[k]? = some a := ⟨xs[k]'(by rw [← HM.out]; exact hlt), by simp⟩
      obtain ⟨g, off, cap, c, hv, hg0, hRc0, hc0⟩ := HS.out.at ha
      have hg := Nat.lt_of_lt_of_le hg0 hbw.size
      have HR0 := hid hRc0
      have hRc : (CasG) a c wr := (fun h => h) hRc0
      have hc : ∀ (j : Nat) (u : Value), c[j]? = some u → wr.cell? ⟨g, off + k * 2 + j, none⟩ = some u := fun j u hj => (hbw.cell hg0).trans (hc0 j u hj)
      clear hc0 hRc0 hg0
      have HRc := hid hRc
      obtain ⟨xs1, rfl, hxs⟩ := hRc
      injection hv with hv1 hv2 hv3
      clear hv2
      subst hv1 hv3
      have c0 := hc 0 _ rfl
      have c1 := hc 1 _ rfl
      simp only [Nat.add_zero] at c0
      have hcall := HT.out a (List.mem_of_getElem? ha) _ (wr.alloc (.cells #[.string xs1, .int .i64 (a.num : Int)] 86)) HR0.out (HRc.out) (below_next hbw (below_alloc wr _))
      have hbA := below_next hbw (below_alloc wr (.cells #[.string xs1, .int .i64 (a.num : Int)] 86))
      have Ha := hid ha
      clear hc HRc ha hxs HR0
      go_wp2_with fail
      refine hcall.mono ?_
      rintro e w2 ⟨su, rfl, hQ, hb2⟩
      have hbw2 := below_next hbA hb2
      have hown2 := own_ch (X := fun _ _ => False) (hown.alloc (.cells #[.string xs1, .int .i64 (a.num : Int)] 86)) (Ch.below hb2) (fun _ _ h => h)
      have hB3 := Bx.new w2 [.string su] 9
      have hbw3 := below_next hbw2 (below_alloc w2 (.cells #[.string su] 9))
      clear hcall hown
      go_wp2_with (first
        | (at_builtin; refine wpList_append_own _ rfl _ _ 140 rfl w.heap.size 9 i0 (.string ⟨#[]⟩) 1 16 Tryz.underlying140 hi hz0 hz1 hz2 rfl (by decide) _ _ _ rfl (hown2.alloc (.cells #[.string su] 9)) ⟨w2.heap.size, 0, none⟩ 1 1 [.string su] rfl rfl ?c1 ?c2 ?c3 ?c4 ?c5 ?_)
        | fail)
      case c1 =>
        intro j u hj
        have := hB3.cell j hj
        rw [add_plain, Nat.zero_add]
        exact this
      case c2 =>
        intro u hu
        simp only [List.mem_cons, List.not_mem_nil, or_false] at hu
        subst hu
        rfl
      case c3 => unfold maxLen; omega
      case c4 => omega
      case c5 => exact hbw3.size
      intro tv' w4 hown4 hgr _
      have hbw4 := hbw3.grown hgr hbw3.size (fun j hj => by
        rcases (hown2.alloc (.cells #[.string su] 9)).2 with ⟨h, _⟩ | ⟨g', cap', cur', h, hb', _⟩
        · rw [h] at hj; simp [Value.ownBlock] at hj
        · rw [h] at hj
          simp only [Value.ownBlock, Option.some.injEq] at hj
          omega)
      obtain ⟨ta', tl', tc', htv'⟩ : ∃ ta tl tc, tv' = .slice ta tl tc := by
        rcases hown4.2 with ⟨h, _⟩ | ⟨g, cap, cur, h, _⟩
        · exact ⟨_, _, _, h⟩
        · exact ⟨_, _, _, h⟩
      subst htv'
      have HO4 := hid hown4
      have HB4 := hid hbw4
      have HQ := hid hQ
      clear hown4 hgr hbw4 hown2 hB3 hbw3 hbw2 hQ
      go_wp2
      refine ⟨?_, ?_⟩
      · refine ⟨k + 1, ps ++ [(a, [.string su])], _, _, _, by rw [← HM.out]; omega, by go_num, rfl, ?_, ?_, ?_, HB4.out⟩
        · rw [List.map_append, HPS.out, List.take_add_one, Ha.out]
          rfl
        · intro p hp
          rcases List.mem_append.1 hp with hp | hp
          · exact HPQ.out p hp
          · rw [List.mem_singleton] at hp
            subst hp
            exact ⟨⟨su, rfl, HQ.out⟩, rfl⟩
        · have := HO4.out
          rw [List.length_append, HPL.out, List.flatMap_append]
          simpa using this
      · simp [intOf]; omega
    · have hke : k = M := by omega
      subst hke
      have HO := hid hown
      have HB := hid hbw
      clear hown hbw
      go_wp2
      go_ret
      refine ⟨_, rfl, ⟨ps, ?_, HPQ.out, ?_⟩, HB.out⟩
      · rw [HPS.out, HM.out, List.take_length]
      · rw [HPL.out]; exact HO.out

structure EachIMethodString (w : World) (xs : List Pl.Mth) (Q : Pl.Mth → ByteArray → Prop) (tv i : Value) (wr : World) : Prop where
  all : ∃ (k : Nat) (ps : List (Pl.Mth × List Value)) (ta : Option Addr) (tl tc : Nat), k ≤ xs.length ∧ i = .int .i64 (k : Int) ∧ tv = .slice ta tl tc ∧ ps.map Prod.fst = xs.take k ∧ (∀ p ∈ ps, (fun a c (_ : World) => ∃ s, c = [.string s] ∧ Q a s) p.1 p.2 w ∧ p.2.length = 1) ∧ wr.ownsRow w.heap.size 9 1 tv ps.length (ps.flatMap Prod.snd) ∧ Below w.heap.size w wr

theorem Tryz.infoEachMethodString : (Tryz.prog.info? 9).map (fun i => (i.zero, i.size, i.bytes)) = some (some (.string ⟨#[]⟩), 1, 16) := by kernel_rfl

set_option maxHeartbeats 8000000 in
theorem eachMethodString_any (ft : Nat) (hen : ∀ (args : Array Value) (w' : World), (callFunc ft args).run Tryz.prog w' = .ok (.enter ft args) w') (v : Value) (xs : List Pl.Mth) (hx : xs.length ≤ 100000) (Q : Pl.Mth → ByteArray → Prop) (w : World) (hS : Rw 8 (MthG) w v xs)
    (ht : ∀ a ∈ xs, ∀ c W, (MthG) a c w → (MthG) a c W → Below w.heap.size w W → Calls Tryz.prog ft #[.agg ⟨c⟩] W fun e w' => ∃ s, e = .returned (.string s) ∧ Q a s ∧ Below W.heap.size W w') :
    Calls Tryz.prog 126 #[v, .func (.func ft) #[] #[]] w fun e w' => ∃ tv, e = .returned tv ∧ Rows 9 1 (fun a c (_ : World) => ∃ s, c = [.string s] ∧ Q a s) w.heap.size w' tv xs ∧ Below w.heap.size w w' := by
  obtain ⟨i0, hi, hz⟩ := Option.map_eq_some_iff.1 Tryz.infoEachMethodString
  obtain ⟨hz0, hz1, hz2⟩ : i0.zero = some (.string ⟨#[]⟩) ∧ i0.size = 1 ∧ i0.bytes = 16 := by
    simp only [Prod.mk.injEq] at hz
    exact hz
  obtain ⟨ad0, cp0, hvv⟩ := hS.shape
  have HS := hid hS
  have HT := hid ht
  obtain ⟨M, hM⟩ : ∃ M, M = xs.length := ⟨_, rfl⟩
  rw [← hM] at hx hvv
  subst hvv
  have HM : Hid (M = xs.length) := hM
  clear hS ht hM
  go_enter Tryz.func126, Tryz.ntmps126
  go_wp2_with fail
  go_loopw [5, 10] (fun tv i wr => EachIMethodString w xs Q tv i wr) (fun _ i _ => M - (intOf i).toNat)
  case atStart => exact ⟨0, [], none, 0, 0, Nat.zero_le _, rfl, rfl, rfl, (fun p hp => by cases hp), World.ownsRow_nil _ _ _ _, Below.refl _ _⟩
  case round =>
    obtain ⟨k, ps, ta, tl, tc, hk, rfl, rfl, hps, hpq, hown, hbw⟩ := hrel.all
    clear hrel
    rw [← HM.out] at hk
    have hpl : ps.length = k := by
      have := congrArg List.length hps
      rw [List.length_map, List.length_take, ← HM.out] at this
      omega
    rw [hpl] at hown
    have HPS := hid hps
    have HPQ := hid hpq
    have HPL := hid hpl
    clear hps hpq hpl
    by_cases hlt : k < M
    · obtain ⟨a, ha⟩ : ∃ a, xs[k]? = some a := ⟨xs[k]'(by rw [← HM.out]; exact hlt), by simp⟩
      obtain ⟨g, off, cap, c, hv, hg0, hRc0, hc0⟩ := HS.out.at ha
      have hg := Nat.lt_of_lt_of_le hg0 hbw.size
      have HR0 := hid hRc0
      have hRc : (MthG) a c wr := (fun h => MthG.below hbw _ _ h) hRc0
      have hc : ∀ (j : Nat) (u : Value), c[j]? = some u → wr.cell? ⟨g, off + k * 8 + j, none⟩ = some u := fun j u hj => (hbw.cell hg0).trans (hc0 j u hj)
      clear hc0 hRc0 hg0
      have HRc := hid hRc
      obtain ⟨xs1, xk, xn, xd, xm, xc, yk, yn, yd, ym, yc, rfl, hxs, hxr, hyr⟩ := hRc
      injection hv with hv1 hv2 hv3
      clear hv2
      subst hv1 hv3
      have c0 := hc 0 _ rfl
      have c1 := hc 1 _ rfl
      have c2 := hc 2 _ rfl
      have c3 := hc 3 _ rfl
      have c4 := hc 4 _ rfl
      have c5 := hc 5 _ rfl
      have c6 := hc 6 _ rfl
      have c7 := hc 7 _ rfl
      simp only [Nat.add_zero] at c0
      have hcall := HT.out a (List.mem_of_getElem? ha) _ (wr.alloc (.cells #[.string xs1, .bool a.once, .int .i64 xk, .string xn, .slice xd xm xc, .int .i64 yk, .string yn, .slice yd ym yc] 36)) HR0.out (MthG.below (below_alloc wr _) _ _ HRc.out) (below_next hbw (below_alloc wr _))
      have hbA := below_next hbw (below_alloc wr (.cells #[.string xs1, .bool a.once, .int .i64 xk, .string xn, .slice xd xm xc, .int .i64 yk, .string yn, .slice yd ym yc] 36))
      have Ha := hid ha
      clear hc HRc ha hxs HR0
      go_wp2_with fail
      refine hcall.mono ?_
      rintro e w2 ⟨su, rfl, hQ, hb2⟩
      have hbw2 := below_next hbA hb2
      have hown2 := own_ch (X := fun _ _ => False) (hown.alloc (.cells #[.string xs1, .bool a.once, .int .i64 xk, .string xn, .slice xd xm xc, .int .i64 yk, .string yn, .slice yd ym yc] 36)) (Ch.below hb2) (fun _ _ h => h)
      have hB3 := Bx.new w2 [.string su] 9
      have hbw3 := below_next hbw2 (below_alloc w2 (.cells #[.string su] 9))
      clear hcall hown
      go_wp2_with (first
        | (at_builtin; refine wpList_append_own _ rfl _ _ 140 rfl w.heap.size 9 i0 (.string ⟨#[]⟩) 1 16 Tryz.underlying140 hi hz0 hz1 hz2 rfl (by decide) _ _ _ rfl (hown2.alloc (.cells #[.string su] 9)) ⟨w2.heap.size, 0, none⟩ 1 1 [.string su] rfl rfl ?c1 ?c2 ?c3 ?c4 ?c5 ?_)
        | fail)
      case c1 =>
        intro j u hj
        have := hB3.cell j hj
        rw [add_plain, Nat.zero_add]
        exact this
      case c2 =>
        intro u hu
        simp only [List.mem_cons, List.not_mem_nil, or_false] at hu
        subst hu
        rfl
      case c3 => unfold maxLen; omega
      case c4 => omega
      case c5 => exact hbw3.size
      intro tv' w4 hown4 hgr _
      have hbw4 := hbw3.grown hgr hbw3.size (fun j hj => by
        rcases (hown2.alloc (.cells #[.string su] 9)).2 with ⟨h, _⟩ | ⟨g', cap', cur', h, hb', _⟩
        · rw [h] at hj; simp [Value.ownBlock] at hj
        · rw [h] at hj
          simp only [Value.ownBlock, Option.some.injEq] at hj
          omega)
      obtain ⟨ta', tl', tc', htv'⟩ : ∃ ta tl tc, tv' = .slice ta tl tc := by
        rcases hown4.2 with ⟨h, _⟩ | ⟨g, cap, cur, h, _⟩
        · exact ⟨_, _, _, h⟩
        · exact ⟨_, _, _, h⟩
      subst htv'
      have HO4 := hid hown4
      have HB4 := hid hbw4
      have HQ := hid hQ
      clear hown4 hgr hbw4 hown2 hB3 hbw3 hbw2 hQ
      go_wp2
      refine ⟨?_, ?_⟩
      · refine ⟨k + 1, ps ++ [(a, [.string su])], _, _, _, by rw [← HM.out]; omega, by go_num, rfl, ?_, ?_, ?_, HB4.out⟩
        · rw [List.map_append, HPS.out, List.take_add_one, Ha.out]
          rfl
        · intro p hp
          rcases List.mem_append.1 hp with hp | hp
          · exact HPQ.out p hp
          · rw [List.mem_singleton] at hp
            subst hp
            exact ⟨⟨su, rfl, HQ.out⟩, rfl⟩
        · have := HO4.out
          rw [List.length_append, HPL.out, List.flatMap_append]
          simpa using this
      · simp [intOf]; omega
    · have hke : k = M := by omega
      subst hke
      have HO := hid hown
      have HB := hid hbw
      clear hown hbw
      go_wp2
      go_ret
      refine ⟨_, rfl, ⟨ps, ?_, HPQ.out, ?_⟩, HB.out⟩
      · rw [HPS.out, HM.out, List.take_length]
      · rw [HPL.out]; exact HO.out

structure EachIFieldCase (w : World) (xs : List Pl.Fld) (Q : Pl.Fld → ByteArray → Int → Prop) (tv i : Value) (wr : World) : Prop where
  all : ∃ (k : Nat) (ps : List (Pl.Fld × List Value)) (ta : Option Addr) (tl tc : Nat), k ≤ xs.length ∧ i = .int .i64 (k : Int) ∧ tv = .slice ta tl tc ∧ ps.map Prod.fst = xs.take k ∧ (∀ p ∈ ps, (fun a c (_ : World) => ∃ s n, c = [.string s, .int .i64 n] ∧ Q a s n) p.1 p.2 w ∧ p.2.length = 2) ∧ wr.ownsRow w.heap.size 86 2 tv ps.length (ps.flatMap Prod.snd) ∧ Below w.heap.size w wr

theorem Tryz.infoEachFieldCase : (Tryz.prog.info? 86).map (fun i => (i.zero, i.size, i.bytes)) = some (some (.agg #[.string ⟨#[]⟩, .int .i64 0]), 2, 24) := by kernel_rfl

set_option maxHeartbeats 8000000 in
theorem eachFieldCase_any (ft : Nat) (hen : ∀ (args : Array Value) (w' : World), (callFunc ft args).run Tryz.prog w' = .ok (.enter ft args) w') (v : Value) (xs : List Pl.Fld) (hx : xs.length ≤ 100000) (Q : Pl.Fld → ByteArray → Int → Prop) (w : World) (hS : Rw 5 (FldG) w v xs)
    (ht : ∀ a ∈ xs, ∀ c W, (FldG) a c w → (FldG) a c W → Below w.heap.size w W → Calls Tryz.prog ft #[.agg ⟨c⟩] W fun e w' => ∃ s n, e = .returned (.agg #[.string s, .int .i64 n]) ∧ Q a s n ∧ Below W.heap.size W w') :
    Calls Tryz.prog 119 #[v, .func (.func ft) #[] #[]] w fun e w' => ∃ tv, e = .returned tv ∧ Rows 86 2 (fun a c (_ : World) => ∃ s n, c = [.string s, .int .i64 n] ∧ Q a s n) w.heap.size w' tv xs ∧ Below w.heap.size w w' := by
  obtain ⟨i0, hi, hz⟩ := Option.map_eq_some_iff.1 Tryz.infoEachFieldCase
  obtain ⟨hz0, hz1, hz2⟩ : i0.zero = some (.agg #[.string ⟨#[]⟩, .int .i64 0]) ∧ i0.size = 2 ∧ i0.bytes = 24 := by
    simp only [Prod.mk.injEq] at hz
    exact hz
  obtain ⟨ad0, cp0, hvv⟩ := hS.shape
  have HS := hid hS
  have HT := hid ht
  obtain ⟨M, hM⟩ : ∃ M, M = xs.length := ⟨_, rfl⟩
  rw [← hM] at hx hvv
  subst hvv
  have HM : Hid (M = xs.length) := hM
  clear hS ht hM
  go_enter Tryz.func119, Tryz.ntmps119
  go_wp2_with fail
  go_loopw [5, 10] (fun tv i wr => EachIFieldCase w xs Q tv i wr) (fun _ i _ => M - (intOf i).toNat)
  case atStart => exact ⟨0, [], none, 0, 0, Nat.zero_le _, rfl, rfl, rfl, (fun p hp => by cases hp), World.ownsRow_nil _ _ _ _, Below.refl _ _⟩
  case round =>
    obtain ⟨k, ps, ta, tl, tc, hk, rfl, rfl, hps, hpq, hown, hbw⟩ := hrel.all
    clear hrel
    rw [← HM.out] at hk
    have hpl : ps.length = k := by
      have := congrArg List.length hps
      rw [List.length_map, List.length_take, ← HM.out] at this
      omega
    rw [hpl] at hown
    have HPS := hid hps
    have HPQ := hid hpq
    have HPL := hid hpl
    clear hps hpq hpl
    by_cases hlt : k < M
    · obtain ⟨a, ha⟩ : ∃ a, xs[k]? = some a := ⟨xs[k]'(by rw [← HM.out]; exact hlt), by simp⟩
      obtain ⟨g, off, cap, c, hv, hg0, hRc0, hc0⟩ := HS.out.at ha
      have hg := Nat.lt_of_lt_of_le hg0 hbw.size
      have HR0 := hid hRc0
      have hRc : (FldG) a c wr := (fun h => FldG.below hbw _ _ h) hRc0
      have hc : ∀ (j : Nat) (u : Value), c[j]? = some u → wr.cell? ⟨g, off + k * 5 + j, none⟩ = some u := fun j u hj => (hbw.cell hg0).trans (hc0 j u hj)
      clear hc0 hRc0 hg0
      have HRc := hid hRc
      obtain ⟨xs1, xk, xn, xd, xm, xc, rfl, hxs, hxr⟩ := hRc
      injection hv with hv1 hv2 hv3
      clear hv2
      subst hv1 hv3
      have c0 := hc 0 _ rfl
      have c1 := hc 1 _ rfl
      have c2 := hc 2 _ rfl
      have c3 := hc 3 _ rfl
      have c4 := hc 4 _ rfl
      simp only [Nat.add_zero] at c0
      have hcall := HT.out a (List.mem_of_getElem? ha) _ (wr.alloc (.cells #[.string xs1, .int .i64 (a.num : Int), .int .i64 xk, .string xn, .slice xd xm xc] 83)) HR0.out (FldG.below (below_alloc wr _) _ _ HRc.out) (below_next hbw (below_alloc wr _))
      have hbA := below_next hbw (below_alloc wr (.cells #[.string xs1, .int .i64 (a.num : Int), .int .i64 xk, .string xn, .slice xd xm xc] 83))
      have Ha := hid ha
      clear hc HRc ha hxs HR0
      go_wp2_with fail
      refine hcall.mono ?_
      rintro e w2 ⟨su, nu, rfl, hQ, hb2⟩
      have hbw2 := below_next hbA hb2
      have hown2 := own_ch (X := fun _ _ => False) (hown.alloc (.cells #[.string xs1, .int .i64 (a.num : Int), .int .i64 xk, .string xn, .slice xd xm xc] 83)) (Ch.below hb2) (fun _ _ h => h)
      have hB3 := Bx.new w2 [.string su, .int .i64 nu] 86
      have hbw3 := below_next hbw2 (below_alloc w2 (.cells #[.string su, .int .i64 nu] 86))
      clear hcall hown
      go_wp2_with (first
        | (at_builtin; refine wpList_append_own _ rfl _ _ 62 rfl w.heap.size 86 i0 (.agg #[.string ⟨#[]⟩, .int .i64 0]) 2 24 Tryz.underlying62 hi hz0 hz1 hz2 rfl (by decide) _ _ _ rfl (hown2.alloc (.cells #[.string su, .int .i64 nu] 86)) ⟨w2.heap.size, 0, none⟩ 1 1 [.string su, .int .i64 nu] rfl rfl ?c1 ?c2 ?c3 ?c4 ?c5 ?_)
        | fail)
      case c1 =>
        intro j u hj
        have := hB3.cell j hj
        rw [add_plain, Nat.zero_add]
        exact this
      case c2 =>
        intro u hu
        simp only [List.mem_cons, List.not_mem_nil, or_false] at hu
        rcases hu with rfl | rfl <;> rfl
      case c3 => unfold maxLen; omega
      case c4 => omega
      case c5 => exact hbw3.size
      intro tv' w4 hown4 hgr _
      have hbw4 := hbw3.grown hgr hbw3.size (fun j hj => by
        rcases (hown2.alloc (.cells #[.string su, .int .i64 nu] 86)).2 with ⟨h, _⟩ | ⟨g', cap', cur', h, hb', _⟩
        · rw [h] at hj; simp [Value.ownBlock] at hj
        · rw [h] at hj
          simp only [Value.ownBlock, Option.some.injEq] at hj
          omega)
      obtain ⟨ta', tl', tc', htv'⟩ : ∃ ta tl tc, tv' = .slice ta tl tc := by
        rcases hown4.2 with ⟨h, _⟩ | ⟨g, cap, cur, h, _⟩
        · exact ⟨_, _, _, h⟩
        · exact ⟨_, _, _, h⟩
      subst htv'
      have HO4 := hid hown4
      have HB4 := hid hbw4
      have HQ := hid hQ
      clear hown4 hgr hbw4 hown2 hB3 hbw3 hbw2 hQ
      go_wp2
      refine ⟨?_, ?_⟩
      · refine ⟨k + 1, ps ++ [(a, [.string su, .int .i64 nu])], _, _, _, by rw [← HM.out]; omega, by go_num, rfl, ?_, ?_, ?_, HB4.out⟩
        · rw [List.map_append, HPS.out, List.take_add_one, Ha.out]
          rfl
        · intro p hp
          rcases List.mem_append.1 hp with hp | hp
          · exact HPQ.out p hp
          · rw [List.mem_singleton] at hp
            subst hp
            exact ⟨⟨su, nu, rfl, HQ.out⟩, rfl⟩
        · have := HO4.out
          rw [List.length_append, HPL.out, List.flatMap_append]
          simpa using this
      · simp [intOf]; omega
    · have hke : k = M := by omega
      subst hke
      have HO := hid hown
      have HB := hid hbw
      clear hown hbw
      go_wp2
      go_ret
      refine ⟨_, rfl, ⟨ps, ?_, HPQ.out, ?_⟩, HB.out⟩
      · rw [HPS.out, HM.out, List.take_length]
      · rw [HPL.out]; exact HO.out

structure EachIFieldType (w : World) (xs : List Pl.Fld) (Q : Pl.Fld → Int → ByteArray → Option Addr → Nat → Nat → Prop) (tv i : Value) (wr : World) : Prop where
  all : ∃ (k : Nat) (ps : List (Pl.Fld × List Value)) (ta : Option Addr) (tl tc : Nat), k ≤ xs.length ∧ i = .int .i64 (k : Int) ∧ tv = .slice ta tl tc ∧ ps.map Prod.fst = xs.take k ∧ (∀ p ∈ ps, (fun a c (_ : World) => ∃ k s ad m cp, c = [.int .i64 k, .string s, .slice ad m cp] ∧ Q a k s ad m cp) p.1 p.2 w ∧ p.2.length = 3) ∧ wr.ownsRow w.heap.size 34 3 tv ps.length (ps.flatMap Prod.snd) ∧ Below w.heap.size w wr

theorem Tryz.infoEachFieldType : (Tryz.prog.info? 34).map (fun i => (i.zero, i.size, i.bytes)) = some (some (.agg #[.int .i64 0, .string ⟨#[]⟩, .slice none 0 0]), 3, 48) := by kernel_rfl

set_option maxHeartbeats 8000000 in
theorem eachFieldType_any (ft : Nat) (hen : ∀ (args : Array Value) (w' : World), (callFunc ft args).run Tryz.prog w' = .ok (.enter ft args) w') (v : Value) (xs : List Pl.Fld) (hx : xs.length ≤ 100000) (Q : Pl.Fld → Int → ByteArray → Option Addr → Nat → Nat → Prop) (w : World) (hS : Rw 5 (FldG) w v xs)
    (ht : ∀ a ∈ xs, ∀ c W, (FldG) a c w → (FldG) a c W → Below w.heap.size w W → Calls Tryz.prog ft #[.agg ⟨c⟩] W fun e w' => ∃ k s ad m cp, e = .returned (.agg #[.int .i64 k, .string s, .slice ad m cp]) ∧ Q a k s ad m cp ∧ Below W.heap.size W w') :
    Calls Tryz.prog 122 #[v, .func (.func ft) #[] #[]] w fun e w' => ∃ tv, e = .returned tv ∧ Rows 34 3 (fun a c (_ : World) => ∃ k s ad m cp, c = [.int .i64 k, .string s, .slice ad m cp] ∧ Q a k s ad m cp) w.heap.size w' tv xs ∧ Below w.heap.size w w' := by
  obtain ⟨i0, hi, hz⟩ := Option.map_eq_some_iff.1 Tryz.infoEachFieldType
  obtain ⟨hz0, hz1, hz2⟩ : i0.zero = some (.agg #[.int .i64 0, .string ⟨#[]⟩, .slice none 0 0]) ∧ i0.size = 3 ∧ i0.bytes = 48 := by
    simp only [Prod.mk.injEq] at hz
    exact hz
  obtain ⟨ad0, cp0, hvv⟩ := hS.shape
  have HS := hid hS
  have HT := hid ht
  obtain ⟨M, hM⟩ : ∃ M, M = xs.length := ⟨_, rfl⟩
  rw [← hM] at hx hvv
  subst hvv
  have HM : Hid (M = xs.length) := hM
  clear hS ht hM
  go_enter Tryz.func122, Tryz.ntmps122
  go_wp2_with fail
  go_loopw [5, 10] (fun tv i wr => EachIFieldType w xs Q tv i wr) (fun _ i _ => M - (intOf i).toNat)
  case atStart => exact ⟨0, [], none, 0, 0, Nat.zero_le _, rfl, rfl, rfl, (fun p hp => by cases hp), World.ownsRow_nil _ _ _ _, Below.refl _ _⟩
  case round =>
    obtain ⟨k, ps, ta, tl, tc, hk, rfl, rfl, hps, hpq, hown, hbw⟩ := hrel.all
    clear hrel
    rw [← HM.out] at hk
    have hpl : ps.length = k := by
      have := congrArg List.length hps
      rw [List.length_map, List.length_take, ← HM.out] at this
      omega
    rw [hpl] at hown
    have HPS := hid hps
    have HPQ := hid hpq
    have HPL := hid hpl
    clear hps hpq hpl
    by_cases hlt : k < M
    · obtain ⟨a, ha⟩ : ∃ a, xs[k]? = some a := ⟨xs[k]'(by rw [← HM.out]; exact hlt), by simp⟩
      obtain ⟨g, off, cap, c, hv, hg0, hRc0, hc0⟩ := HS.out.at ha
      have hg := Nat.lt_of_lt_of_le hg0 hbw.size
      have HR0 := hid hRc0
      have hRc : (FldG) a c wr := (fun h => FldG.below hbw _ _ h) hRc0
      have hc : ∀ (j : Nat) (u : Value), c[j]? = some u → wr.cell? ⟨g, off + k * 5 + j, none⟩ = some u := fun j u hj => (hbw.cell hg0).trans (hc0 j u hj)
      clear hc0 hRc0 hg0
      have HRc := hid hRc
      obtain ⟨xs1, xk, xn, xd, xm, xc, rfl, hxs, hxr⟩ := hRc
      injection hv with hv1 hv2 hv3
      clear hv2
      subst hv1 hv3
      have c0 := hc 0 _ rfl
      have c1 := hc 1 _ rfl
      have c2 := hc 2 _ rfl
      have c3 := hc 3 _ rfl
      have c4 := hc 4 _ rfl
      simp only [Nat.add_zero] at c0
      have hcall := HT.out a (List.mem_of_getElem? ha) _ (wr.alloc (.cells #[.string xs1, .int .i64 (a.num : Int), .int .i64 xk, .string xn, .slice xd xm xc] 83)) HR0.out (FldG.below (below_alloc wr _) _ _ HRc.out) (below_next hbw (below_alloc wr _))
      have hbA := below_next hbw (below_alloc wr (.cells #[.string xs1, .int .i64 (a.num : Int), .int .i64 xk, .string xn, .slice xd xm xc] 83))
      have Ha := hid ha
      clear hc HRc ha hxs HR0
      go_wp2_with fail
      refine hcall.mono ?_
      rintro e w2 ⟨ku, su, du, mu, cu, rfl, hQ, hb2⟩
      have hbw2 := below_next hbA hb2
      have hown2 := own_ch (X := fun _ _ => False) (hown.alloc (.cells #[.string xs1, .int .i64 (a.num : Int), .int .i64 xk, .string xn, .slice xd xm xc] 83)) (Ch.below hb2) (fun _ _ h => h)
      have hB3 := Bx.new w2 [.int .i64 ku, .string su, .slice du mu cu] 34
      have hbw3 := below_next hbw2 (below_alloc w2 (.cells #[.int .i64 ku, .string su, .slice du mu cu] 34))
      clear hcall hown
      go_wp2_with (first
        | (at_builtin; refine wpList_append_own _ rfl _ _ 32 rfl w.heap.size 34 i0 (.agg #[.int .i64 0, .string ⟨#[]⟩, .slice none 0 0]) 3 48 Tryz.underlying32 hi hz0 hz1 hz2 rfl (by decide) _ _ _ rfl (hown2.alloc (.cells #[.int .i64 ku, .string su, .slice du mu cu] 34)) ⟨w2.heap.size, 0, none⟩ 1 1 [.int .i64 ku, .string su, .slice du mu cu] rfl rfl ?c1 ?c2 ?c3 ?c4 ?c5 ?_)
        | fail)
      case c1 =>
        intro j u hj
        have := hB3.cell j hj
        rw [add_plain, Nat.zero_add]
        exact this
      case c2 =>
        intro u hu
        simp only [List.mem_cons, List.not_mem_nil, or_false] at hu
        rcases hu with rfl | rfl | rfl <;> rfl
      case c3 => unfold maxLen; omega
      case c4 => omega
      case c5 => exact hbw3.size
      intro tv' w4 hown4 hgr _
      have hbw4 := hbw3.grown hgr hbw3.size (fun j hj => by
        rcases (hown2.alloc (.cells #[.int .i64 ku, .string su, .slice du mu cu] 34)).2 with ⟨h, _⟩ | ⟨g', cap', cur', h, hb', _⟩
        · rw [h] at hj; simp [Value.ownBlock] at hj
        · rw [h] at hj
          simp only [Value.ownBlock, Option.some.injEq] at hj
          omega)
      obtain ⟨ta', tl', tc', htv'⟩ : ∃ ta tl tc, tv' = .slice ta tl tc := by
        rcases hown4.2 with ⟨h, _⟩ | ⟨g, cap, cur, h, _⟩
        · exact ⟨_, _, _, h⟩
        · exact ⟨_, _, _, h⟩
      subst htv'
      have HO4 := hid hown4
      have HB4 := hid hbw4
      have HQ := hid hQ
      clear hown4 hgr hbw4 hown2 hB3 hbw3 hbw2 hQ
      go_wp2
      refine ⟨?_, ?_⟩
      · refine ⟨k + 1, ps ++ [(a, [.int .i64 ku, .string su, .slice du mu cu])], _, _, _, by rw [← HM.out]; omega, by go_num, rfl, ?_, ?_, ?_, HB4.out⟩
        · rw [List.map_append, HPS.out, List.take_add_one, Ha.out]
          rfl
        · intro p hp
          rcases List.mem_append.1 hp with hp | hp
          · exact HPQ.out p hp
          · rw [List.mem_singleton] at hp
            subst hp
            exact ⟨⟨ku, su, du, mu, cu, rfl, HQ.out⟩, rfl⟩
        · have := HO4.out
          rw [List.length_append, HPL.out, List.flatMap_append]
          simpa using this
      · simp [intOf]; omega
    · have hke : k = M := by omega
      subst hke
      have HO := hid hown
      have HB := hid hbw
      clear hown hbw
      go_wp2
      go_ret
      refine ⟨_, rfl, ⟨ps, ?_, HPQ.out, ?_⟩, HB.out⟩
      · rw [HPS.out, HM.out, List.take_length]
      · rw [HPL.out]; exact HO.out
end Go.Proofs.YtdbgncdnffbhkaaGreatDoor

namespace Go.Proofs.YtdbgncdnffbhkaaGreatDoor
open Go.RowKit
set_option maxRecDepth 20000

/-- How a check ends. -/
def rangeE (least : Nat) : List Pl.Cas → Int
  | [] => 0
  | c :: r => if least ≤ c.num ∧ c.num ≤ 65536 then rangeE least r else 4
def riseE : List Pl.Cas → Int
  | [] => 0
  | [_] => 0
  | a :: b :: r => if a.num < b.num then riseE (b :: r) else 43
def meetE (names : List (List Nat)) : Int := if (meetF 4 names (fun _ => 0)).isSome then 0 else 43
def thenE (a b : Int) : Int := if a = 0 then b else a
def partsE (least : Nat) (l : List Pl.Cas) : Int := thenE (rangeE least l) (thenE (riseE l) (meetE (l.map (·.name))))

theorem rows_slT {α : Type} {T : TypeId} {B : Nat} {w : World} {v : Value} {xs : List α} (nm : α → List Nat) (h : Rows T 1 (fun a c (_ : World) => ∃ s, c = [.string s] ∧ (s.size ≤ maxLen ∧ bl s = nm a)) B w v xs) (hl : xs.length ≤ 1000) : ∃ bs, SlT w v bs ∧ bs.map bl = xs.map nm ∧ bs.length = xs.length := by
  have hf : ∀ (a : α) (s : ByteArray), bl s = nm a → Classical.epsilon (fun s : ByteArray => bl s = nm a) = s := fun a s hs => bl_inj ((Classical.epsilon_spec (p := fun s : ByteArray => bl s = nm a) ⟨s, hs⟩).trans hs.symm)
  obtain ⟨ad, cp, hv⟩ := h.shape
  refine ⟨xs.map fun a => Classical.epsilon (fun s : ByteArray => bl s = nm a), ⟨ad, cp, by rw [List.length_map]; exact hv, by rw [List.length_map]; omega, fun i s hs => ?_⟩, ?_, List.length_map _⟩
  · rw [List.getElem?_map] at hs
    obtain ⟨a, ha, rfl⟩ := Option.map_eq_some_iff.1 hs
    obtain ⟨g, cap, c, h1, _, _, h4, ⟨t, rfl, ht, hb⟩, _, h7⟩ := h.at ha
    rw [h1] at hv
    cases hv
    rw [hf a t hb]
    refine ⟨ht, g, 0, rfl, h4, ?_⟩
    have := h7 0 _ rfl
    rwa [Nat.mul_one, Nat.add_zero, ← Nat.zero_add i] at this
  · rw [List.map_map]
    refine List.map_congr_left fun a ha => ?_
    obtain ⟨i, hi, rfl⟩ := List.mem_iff_getElem.1 ha
    obtain ⟨g, cap, c, h1, _, _, h4, ⟨t, rfl, ht, hb⟩, _, h7⟩ := h.at (List.getElem?_eq_getElem hi)
    simp only [Function.comp]
    rw [hf _ t hb, hb]

theorem rise_step {xs : List Pl.Cas} {j : Nat} {a b : Pl.Cas} (ha : xs[j]? = some a) (hb : xs[j + 1]? = some b) : riseE (xs.drop j) = if a.num < b.num then riseE (xs.drop (j + 1)) else 43 := by
  obtain ⟨h1, h2⟩ := List.getElem?_eq_some_iff.1 ha
  obtain ⟨h3, h4⟩ := List.getElem?_eq_some_iff.1 hb
  rw [List.drop_eq_getElem_cons h1, List.drop_eq_getElem_cons h3, h2, h4, riseE]
theorem rise_end {xs : List Pl.Cas} {j : Nat} (h : xs.length ≤ j + 1) : riseE (xs.drop j) = 0 := by
  have hl : (xs.drop j).length ≤ 1 := by rw [List.length_drop]; omega
  match hd : xs.drop j, hl with
  | [], _ => rfl
  | [_], _ => rfl

set_option maxHeartbeats 2000000 in
theorem parts1_any (s : ByteArray) (n : Int) (w : World) : Calls Tryz.prog 125 #[.agg #[.string s, .int .i64 n]] w fun e w' => e = .returned (.string s) ∧ Below w.heap.size w w' := by
  have hb := below_alloc w (.cells #[.string s, .int .i64 n] 86)
  go_enter Tryz.func125, Tryz.ntmps125
  go_wp2
  go_ret
  exact ⟨rfl, hb⟩

structure RiseI (xs : List Pl.Cas) (w : World) (i : Value) (wr : World) : Prop where
  all : ∃ j, j ≤ xs.length ∧ i = .int .i64 ((j : Int) + 1) ∧ riseE (xs.drop j) = riseE xs ∧ Below w.heap.size w wr

structure RangI (least : Nat) (xs : List Pl.Cas) (w : World) (i : Value) (wr : World) : Prop where
  all : ∃ j, j ≤ xs.length ∧ i = .int .i64 (j : Int) ∧ rangeE least (xs.drop j) = rangeE least xs ∧ Below w.heap.size w wr

set_option maxHeartbeats 8000000 in
theorem checkParts_any (least : Nat) (v : Value) (xs : List Pl.Cas) (hx : xs.length ≤ 1000) (hn : ∀ a ∈ xs, a.name.length ≤ 1000) (w : World) (hS : Rw 2 CasG w v xs) :
    Calls Tryz.prog 79 #[.int .i64 (least : Int), v] w fun e w' => Below w.heap.size w w' ∧ e = if partsE least xs = 0 then .returned (.tuple #[]) else .panicked (errp (partsE least xs)) := by
  obtain ⟨R, hR⟩ : ∃ R, R = partsE least xs := ⟨_, rfl⟩
  rw [← hR]
  have HR := hid hR
  clear hR
  obtain ⟨ad0, cp0, hvv⟩ := hS.shape
  have HS := hid hS
  obtain ⟨M, hM⟩ : ∃ M, M = xs.length := ⟨_, rfl⟩
  rw [← hM] at hx hvv
  subst hvv
  have HM : Hid (M = xs.length) := hM
  clear hS hM
  have HN := hid hn
  clear hn
  go_enter Tryz.func79, Tryz.ntmps79
  go_wp2_with fail
  go_loopw [9] (fun i wr => RangI least xs w i wr) (fun i _ => M - (intOf i).toNat)
  case atStart => exact ⟨0, Nat.zero_le _, rfl, rfl, Below.refl _ _⟩
  case round =>
    obtain ⟨j, hj, rfl, hme, hbw⟩ := hrel.all
    clear hrel
    rw [← HM.out] at hj
    have HME := hid hme
    clear hme
    by_cases hlt : j < M
    · obtain ⟨a, ha⟩ : ∃ a, xs[j]? = some a := ⟨xs[j]'(by rw [← HM.out]; exact hlt), by simp⟩
      obtain ⟨g, off, cap, c, hv, hg, hRc, hc⟩ := (HS.out.below hbw (fun _ _ h => h)).at ha
      obtain ⟨xs1, rfl, hxs⟩ := hRc
      injection hv with hv1 hv2 hv3
      clear hv2
      subst hv1 hv3
      have c0 := hc 0 _ rfl
      have c1 := hc 1 _ rfl
      simp only [Nat.add_zero] at c0
      have hdr : xs.drop j = a :: xs.drop (j + 1) := by
        rw [List.drop_eq_getElem_cons (by rw [← HM.out]; exact hlt)]
        congr 1
        exact (List.getElem?_eq_some_iff.1 ha).2
      have hstep := HME.out
      rw [hdr, rangeE] at hstep
      have HST := hid hstep
      clear hc ha hxs hstep hdr HME
      by_cases hz : least ≤ a.num ∧ a.num ≤ 65536
      · have hst2 := HST.out
        rw [if_pos hz] at hst2
        have HS2 := hid hst2
        have hz1 : (least : Int) ≤ (a.num : Int) := by omega
        have hz2 : (a.num : Int) ≤ 65536 := by omega
        clear hst2 HST
        have hbA := below_next hbw (below_alloc wr (.cells #[.string xs1, .int .i64 (a.num : Int)] 86))
        go_wp2_with fail
        refine (sneed_true 4 _).mono ?_
        rintro e w2 ⟨rfl, hq2⟩
        subst w2
        have HBA := hid hbA
        clear hbA
        go_wp2
        exact ⟨⟨j + 1, by rw [← HM.out]; omega, by go_num, HS2.out, HBA.out⟩, by simp [intOf]; omega⟩
      · have hst2 := HST.out
        rw [if_neg hz] at hst2
        have hbA := below_next hbw (below_alloc wr (.cells #[.string xs1, .int .i64 (a.num : Int)] 86))
        have hpe : R = 4 := by
          rw [HR.out]
          unfold partsE
          rw [← hst2, thenE, if_neg (by decide)]
        subst hpe
        clear HST hst2
        by_cases hz1 : (least : Int) ≤ (a.num : Int)
        · have hz2 : ¬ (a.num : Int) ≤ 65536 := by omega
          go_wp2_with fail
          refine (sneed_false 4 _).mono ?_
          rintro e w2 ⟨rfl, hq2⟩
          subst w2
          exact ⟨rfl, hbA, rfl⟩
        · go_wp2_with fail
          refine (sneed_false 4 _).mono ?_
          rintro e w2 ⟨rfl, hq2⟩
          subst w2
          exact ⟨rfl, hbA, rfl⟩
    · have hje : j = M := by omega
      subst hje
      have hr0 : rangeE least xs = 0 := by
        rw [← HME.out, HM.out, List.drop_length]
        rfl
      have hpe : R = thenE (riseE xs) (meetE (xs.map (·.name))) := by
        rw [HR.out]
        unfold partsE
        rw [hr0, thenE, if_pos rfl]
      have HR2 := hid hpe
      have HB1 := hid hbw
      clear hpe hr0 hbw HME
      go_wp2_with fail
      go_loopw [6] (fun i wr => RiseI xs w i wr) (fun i _ => j + 1 - (intOf i).toNat)
      case atStart => exact ⟨0, Nat.zero_le _, rfl, rfl, HB1.out⟩
      case round =>
        obtain ⟨q, hq2, rfl, hme, hbw⟩ := hrel.all
        clear hrel
        rw [← HM.out] at hq2
        have HME := hid hme
        clear hme
        by_cases hlt2 : q + 1 < j
        · obtain ⟨b, hb⟩ : ∃ b, xs[q + 1]? = some b := ⟨xs[q + 1]'(by rw [← HM.out]; exact hlt2), by simp⟩
          obtain ⟨a, ha⟩ : ∃ a, xs[q]? = some a := ⟨xs[q]'(by rw [← HM.out]; omega), by simp⟩
          have hstep := HME.out
          rw [rise_step ha hb] at hstep
          obtain ⟨g, off, cap, c, hv, hg, hRc, hc⟩ := (HS.out.below hbw (fun _ _ h => h)).at ha
          obtain ⟨xs1, rfl, hxs⟩ := hRc
          injection hv with hv1 hv2 hv3
          clear hv2
          subst hv1 hv3
          obtain ⟨g', off', cap', c', hv, hg', hRc, hc'⟩ := (HS.out.below hbw (fun _ _ h => h)).at hb
          obtain ⟨xs2, rfl, hxs2⟩ := hRc
          injection hv with hv1 hv2 hv3
          cases hv1
          clear hv2 hv3
          have c1 := hc 1 _ rfl
          have d1 := hc' 1 _ rfl
          have HST := hid hstep
          have HBW := hid hbw
          clear hc hc' hxs hxs2 hstep hg' hbw ha hb
          have hq3 : (q : Int) + 1 < (j : Int) := by omega
          have hq4 : q < j := by omega
          have hq5 : ¬ ((q : Int) + 1 < 0) := by omega
          have hq6 : ((q : Int) + 1).toNat = q + 1 := by omega
          have hq7 : ¬ j ≤ q := by omega
          have hq8 : ¬ j ≤ q + 1 := by omega
          have hwq : IntKind.i64.wrap (q : Int) = (q : Int) := by unfold IntKind.wrap; simp [IntKind.bits, IntKind.signed]; omega
          by_cases hz : a.num < b.num
          · have hst2 := HST.out
            rw [if_pos hz] at hst2
            have HS2 := hid hst2
            have hz1 : (a.num : Int) < (b.num : Int) := by omega
            clear hst2 HST
            go_wp2_with fail
            go_region_with (refine (sneed_true 43 _).mono ?_; rintro e w2 ⟨rfl, hq2⟩; subst w2)
            all_goals (go_wp2; exact ⟨⟨q + 1, by rw [← HM.out]; omega, by go_num, HS2.out, HBW.out.drew⟩, by simp [intOf]; omega⟩)
          · have hst2 := HST.out
            rw [if_neg hz] at hst2
            have hpe : R = 43 := by
              rw [HR2.out, ← hst2, thenE, if_neg (by decide)]
            subst hpe
            have hz1 : ¬ (a.num : Int) < (b.num : Int) := by omega
            clear hst2 HST
            go_wp2_with fail
            refine wp_region_drawn2 (pred := fun jx v _ => match jx with | 0 => v = .slice (some ⟨g, off, none⟩) j cp0 | 1 => v = .int .i64 ((q : Int) + 1) | 2 => v = .int .i64 (q : Int) | 3 => v = .pointer (some ⟨g, off + q * 2, none⟩) | 4 => v = .pointer (some ⟨g, off + q * 2 + 1, none⟩) | 5 => v = .int .i64 (a.num : Int) | 6 => v = .slice (some ⟨g, off, none⟩) j cp0 | 7 => v = .int .i64 ((q : Int) + 1) | 8 => v = .pointer (some ⟨g, off + (q + 1) * 2, none⟩) | 9 => v = .pointer (some ⟨g, off + (q + 1) * 2 + 1, none⟩) | 10 => v = .int .i64 (b.num : Int) | 11 => v = .bool false | 12 => False | _ => True) (R := fun W => Below wr.heap.size wr W) (by kernel_rfl) (by kernel_rfl) (by kernel_rfl) (fun _ _ _ _ h _ => h) (Below.refl _ _).drew ?step ?done
            case step =>
              intro ix o ho A W hsz hdf hfr hdep hR
              rcases ix with _ | _ | _ | _ | _ | _ | _ | _ | _ | _ | _ | _ | _ | ix
              · injection ho with ho
                subst ho
                have e1 : A.eval (.tmp 1) = .slice (some ⟨g, off, none⟩) j cp0 := (hfr 1 (noDst_spec (by kernel_rfl))).trans rfl
                exact gOp_mv rfl (wanted_plain rfl) (.inl rfl) e1 ⟨_, rfl, rfl, Below.refl _ _, hR⟩
              · injection ho with ho
                subst ho
                have e6 : A.eval (.tmp 6) = .int .i64 ((q : Int) + 1) := (hfr 6 (noDst_spec (by kernel_rfl))).trans rfl
                exact gOp_mv rfl (wanted_plain rfl) (.inl rfl) e6 ⟨_, rfl, rfl, Below.refl _ _, hR⟩
              · injection ho with ho
                subst ho
                have e31 : A.eval (.tmp 31) = .int .i64 ((q : Int) + 1) := hdep ⟨1, .data⟩ (by simp) rfl _ _ rfl rfl
                exact gOp_ok (v := .int .i64 (q : Int)) rfl (wanted_plain rfl) (run_bin rfl e31 rfl (by go_simp) (by go_simp)) ⟨_, rfl, rfl, Below.refl _ _, hR⟩
              · injection ho with ho
                subst ho
                have e30 : A.eval (.tmp 30) = .slice (some ⟨g, off, none⟩) j cp0 := hdep ⟨0, .data⟩ (by simp) rfl _ _ rfl rfl
                have e32 : A.eval (.tmp 32) = .int .i64 (q : Int) := hdep ⟨2, .data⟩ (by simp) rfl _ _ rfl rfl
                have hbW : g < W.heap.size := Nat.lt_of_lt_of_le hg hR.size
                exact gOp_ix (v := .pointer (some ⟨g, off + q * 2, none⟩)) rfl (wanted_plain rfl) rfl e30 e32 (by go_simp) ⟨_, rfl, rfl, Below.refl _ _, hR⟩
              · injection ho with ho
                subst ho
                have e33 : A.eval (.tmp 33) = .pointer (some ⟨g, off + q * 2, none⟩) := hdep ⟨3, .data⟩ (by simp) rfl _ _ rfl rfl
                exact gOp_fld (v := .pointer (some ⟨g, off + q * 2 + 1, none⟩)) rfl (wanted_plain rfl) rfl e33 (by go_simp) ⟨_, rfl, rfl, Below.refl _ _, hR⟩
              · injection ho with ho
                subst ho
                have e34 : A.eval (.tmp 34) = .pointer (some ⟨g, off + q * 2 + 1, none⟩) := hdep ⟨4, .data⟩ (by simp) rfl _ _ rfl rfl
                have x0 := (hR.cell hg).trans c1
                exact gOp_ld (v := .int .i64 (a.num : Int)) rfl (wanted_plain rfl) rfl e34 (by go_simp) ⟨_, rfl, rfl, Below.refl _ _, hR⟩
              · injection ho with ho
                subst ho
                have e1 : A.eval (.tmp 1) = .slice (some ⟨g, off, none⟩) j cp0 := (hfr 1 (noDst_spec (by kernel_rfl))).trans rfl
                exact gOp_mv rfl (wanted_plain rfl) (.inl rfl) e1 ⟨_, rfl, rfl, Below.refl _ _, hR⟩
              · injection ho with ho
                subst ho
                have e6 : A.eval (.tmp 6) = .int .i64 ((q : Int) + 1) := (hfr 6 (noDst_spec (by kernel_rfl))).trans rfl
                exact gOp_mv rfl (wanted_plain rfl) (.inl rfl) e6 ⟨_, rfl, rfl, Below.refl _ _, hR⟩
              · injection ho with ho
                subst ho
                have e36 : A.eval (.tmp 36) = .slice (some ⟨g, off, none⟩) j cp0 := hdep ⟨6, .data⟩ (by simp) rfl _ _ rfl rfl
                have e37 : A.eval (.tmp 37) = .int .i64 ((q : Int) + 1) := hdep ⟨7, .data⟩ (by simp) rfl _ _ rfl rfl
                have hbW : g < W.heap.size := Nat.lt_of_lt_of_le hg hR.size
                exact gOp_ix (v := .pointer (some ⟨g, off + (q + 1) * 2, none⟩)) rfl (wanted_plain rfl) rfl e36 e37 (by go_simp) ⟨_, rfl, rfl, Below.refl _ _, hR⟩
              · injection ho with ho
                subst ho
                have e38 : A.eval (.tmp 38) = .pointer (some ⟨g, off + (q + 1) * 2, none⟩) := hdep ⟨8, .data⟩ (by simp) rfl _ _ rfl rfl
                exact gOp_fld (v := .pointer (some ⟨g, off + (q + 1) * 2 + 1, none⟩)) rfl (wanted_plain rfl) rfl e38 (by go_simp) ⟨_, rfl, rfl, Below.refl _ _, hR⟩
              · injection ho with ho
                subst ho
                have e39 : A.eval (.tmp 39) = .pointer (some ⟨g, off + (q + 1) * 2 + 1, none⟩) := hdep ⟨9, .data⟩ (by simp) rfl _ _ rfl rfl
                have x0 := (hR.cell hg).trans d1
                exact gOp_ld (v := .int .i64 (b.num : Int)) rfl (wanted_plain rfl) rfl e39 (by go_simp) ⟨_, rfl, rfl, Below.refl _ _, hR⟩
              · injection ho with ho
                subst ho
                have e35 : A.eval (.tmp 35) = .int .i64 (a.num : Int) := hdep ⟨5, .data⟩ (by simp) rfl _ _ rfl rfl
                have e40 : A.eval (.tmp 40) = .int .i64 (b.num : Int) := hdep ⟨10, .data⟩ (by simp) rfl _ _ rfl rfl
                exact gOp_ok (v := .bool false) rfl (wanted_plain rfl) (run_bin rfl e35 e40 (by go_simp) (by go_simp)) ⟨_, rfl, rfl, Below.refl _ _, hR⟩
              · injection ho with ho
                subst ho
                have e41 : A.eval (.tmp 41) = .bool false := hdep ⟨11, .data⟩ (by simp) rfl _ _ rfl rfl
                refine gOp_dies rfl (wanted_plain rfl) 63 #[.bool false, .int .i64 43] (run_call _ (fun _ _ => rfl) _ _ rfl _ (by simp [e41]; rfl)) ?_
                refine (sneed_false 43 _).mono ?_
                rintro e w5 ⟨rfl, rfl⟩
                exact ⟨_, rfl, hdf, below_next HBW.out hR, rfl⟩
              · simp at ho
            case done =>
              intro A W _ _ _ hcome _
              exact (hcome 12 _ _ rfl rfl).elim
        · have hr1 : riseE xs = 0 := by rw [← HME.out]; exact rise_end (by rw [← HM.out]; omega)
          have hpe : R = meetE (xs.map (·.name)) := by rw [HR2.out, hr1, thenE, if_pos rfl]
          have HR3 := hid hpe
          have HBW := hid hbw
          clear hbw HME hr1 hpe HR HR2 HB1
          have hmk : ∀ (t : TypeId) (w : World), (Instr.makeMap t none).run Tryz.prog w = .ok (.map (some w.heap.size)) (w.alloc (.map #[] 0)) := fun t w => run_makeMap t w
          have hS2 := HS.out.below (below_next HBW.out (below_alloc wr (.map #[] 0))) (fun _ _ h => h)
          have hE := eachCaseString_any 125 (fun _ _ => rfl) (.slice ad0 j cp0) xs (by rw [← HM.out]; omega) (fun a s => s.size ≤ maxLen ∧ bl s = a.name) (wr.alloc (.map #[] 0)) hS2 (by
            rintro a ha c W _ ⟨s, rfl, hs⟩ hb
            refine (parts1_any s _ W).mono ?_
            rintro e w' ⟨rfl, hb'⟩
            refine ⟨s, rfl, ⟨?_, hs⟩, hb'⟩
            have := HN.out a ha
            rw [← hs, bl_length] at this
            unfold maxLen
            omega)
          have HE := hid hE
          clear hE hS2
          go_wp2_with fail
          refine HE.out.mono ?_
          rintro e w2 ⟨tv, rfl, hrows, hb2⟩
          obtain ⟨bs, hbs, hbm, hbl⟩ := rows_slT (fun a : Pl.Cas => a.name) hrows (by rw [← HM.out]; omega)
          have hM := meet_any wr.heap.size 0 4 43 (by decide) tv bs (by rw [hbl, ← HM.out]; omega) (by omega) (fun _ => 0) w2 ((Mp.made wr).below hb2) hbs
          rw [hbm] at hM
          have hBB := below_next (below_next HBW.out (below_alloc wr (.map #[] 0))) hb2
          have HB2 := hid hBB
          have HMM := hid hM
          have hrs := hrows.shape
          obtain ⟨ta, tc, rfl⟩ := hrs
          clear hrows hbs hM hBB hb2 hbm
          go_wp2_with fail
          refine HMM.out.mono ?_
          rintro e w3 ⟨hg, hres⟩
          have hlast : Below w.heap.size w w3 := HB2.out.grown hg HB2.out.size (fun k hk => by cases hk; exact HBW.out.size)
          have hR := HR3.out
          unfold meetE at hR
          cases hm : meetF 4 (xs.map (·.name)) (fun _ => 0) with
          | some f =>
            rw [hm] at hres hR
            obtain ⟨rfl, _⟩ := hres
            have hR0 : R = 0 := hR
            subst hR0
            go_wp2
            go_end0
            exact ⟨hlast, rfl⟩
          | none =>
            rw [hm] at hres hR
            obtain rfl := hres
            have hR0 : R = 43 := hR
            subst hR0
            exact ⟨rfl, hlast, rfl⟩
end Go.Proofs.YtdbgncdnffbhkaaGreatDoor

namespace Go.Proofs.YtdbgncdnffbhkaaGreatDoor
open Go.RowKit
set_option maxRecDepth 20000

theorem Mp.look {w : World} {b N : Nat} {f : List Nat → Int} (h : Mp w b N f) (s : ByteArray) (hs : s.size ≤ maxLen) : (Instr.lookup 90 (.map (some b)) (.string s) false).run Tryz.prog w = .ok (.int .i64 (f (bl s))) w := by
  obtain ⟨D, h1, h2, h3⟩ := h
  have hkey := WideMaps.keyOf_string_mk (P := Tryz.prog) Tryz.underlying9 hs
  obtain ⟨c, hrun, hat, hwc⟩ := h1.lookup_int (t := 90) skeyed Tryz.underlying90 Tryz.underlying3 (zero3 _) hkey
  rw [h3 s hs] at hat
  injection hat with h4
  injection h4 with _ h5
  rw [hrun, h5]

/-- Types that name what was met as a struct or an enum. -/
def tyOk (f : List Nat → Int) : Pl.Ty → Bool
  | .plain _ => true
  | .named x => decide (f x = 1) || decide (f x = 2)
  | .list t => tyOk f t
  | .opt t => tyOk f t
def tyNm : Pl.Ty → Prop
  | .plain k => k ≠ 8
  | .named x => x.length ≤ 1000
  | .list t => tyNm t
  | .opt t => tyNm t
def TyR (t : Pl.Ty) (c : List Value) (w : World) : Prop := ∃ k s ad m cp, c = [.int .i64 k, .string s, .slice ad m cp] ∧ TyG w t (.int .i64 k) (.string s) (.slice ad m cp)
theorem TyR.below {w w' : World} (hb : Below w.heap.size w w') (t : Pl.Ty) (c : List Value) (h : TyR t c w) : TyR t c w' := by
  obtain ⟨k, s, ad, m, cp, rfl, h⟩ := h
  exact ⟨k, s, ad, m, cp, rfl, TyG.below hb _ _ _ _ h⟩
theorem OfG.rw {w : World} {v : Value} {t : Option Pl.Ty} (h : OfG w v t) : Rw 3 TyR w v t.toList := by
  cases t with
  | none =>
    obtain ⟨ad, cp, rfl⟩ := h
    exact ⟨ad, cp, rfl, by simp, fun i a hi => by simp at hi⟩
  | some t =>
    obtain ⟨g, off, cp, x, y, z, rfl, h1, h2, h3, h4, h5⟩ := h
    obtain ⟨k, s, ad, m, cp', rfl, rfl, rfl⟩ := h5.shape
    refine ⟨_, cp, rfl, by simp, fun i a hi => ?_⟩
    cases i with
    | succ i => simp at hi
    | zero =>
      simp at hi
      subst hi
      refine ⟨g, off, [.int .i64 k, .string s, .slice ad m cp'], rfl, h1, ⟨k, s, ad, m, cp', rfl, h5⟩, fun j u hj => ?_⟩
      match j, hj with
      | 0, hj => cases hj; simpa using h2
      | 1, hj => cases hj; simpa using h3
      | 2, hj => cases hj; simpa using h4

theorem inner_lt {t t' : Pl.Ty} (h : inner t = some t') : Pl.tyD t' < Pl.tyD t := by
  cases t <;> simp [inner] at h
  all_goals (subst h; simp [Pl.tyD])
theorem tyOk_inner (f : List Nat → Int) (t : Pl.Ty) (h : kindOf t ≠ 8) : tyOk f t = (inner t).toList.all (tyOk f) := by
  cases t <;> simp [inner, tyOk, kindOf] at h ⊢
theorem tyOk_named {f : List Nat → Int} {t : Pl.Ty} (hn : tyNm t) (h : kindOf t = 8) : (tyOk f t = (decide (f (nameOf t) = 1) || decide (f (nameOf t) = 2))) ∧ (nameOf t).length ≤ 1000 ∧ (inner t).toList = [] := by
  cases t with
  | plain k => simp [kindOf] at h; exact absurd (by omega) hn
  | named x => exact ⟨rfl, hn, rfl⟩
  | list t => simp [kindOf] at h
  | opt t => simp [kindOf] at h
theorem tyNm_inner {t t' : Pl.Ty} (hn : tyNm t) (h : inner t = some t') : tyNm t' := by
  cases t <;> simp [inner] at h
  all_goals (subst h; exact hn)

def typesE (f : List Nat → Int) (ts : List Pl.Ty) : Int := if ts.all (tyOk f) then 0 else 41

structure TypsI (ts : List Pl.Ty) (f : List Nat → Int) (w : World) (i : Value) (wr : World) : Prop where
  all : ∃ j, j ≤ ts.length ∧ i = .int .i64 (j : Int) ∧ typesE f (ts.drop j) = typesE f ts ∧ Below w.heap.size w wr

theorem types_nil (p : Nat) (ad : Option Addr) (cp : Nat) (w : World) : Calls Tryz.prog 121 #[.pointer (some ⟨p, 0, none⟩), .slice ad 0 cp] w fun e w' => Below w.heap.size w w' ∧ e = .returned (.tuple #[]) := by
  go_enter Tryz.func121, Tryz.ntmps121
  go_wp2_with fail
  go_rounds 1
  go_end0
  exact ⟨Below.refl _ _, rfl⟩

set_option maxHeartbeats 8000000 in
theorem checkTypes_any (p b N : Nat) (s1 s2 s3 : Value) (f : List Nat → Int) (d : Nat) : ∀ (v : Value) (ts : List Pl.Ty) (_ : ∀ t ∈ ts, Pl.tyD t ≤ d) (_ : ∀ t ∈ ts, tyNm t) (_ : ts.length ≤ 1000) (w : World) (_ : Bx w p [s1, s2, s3, .map (some b)] 92) (_ : Mp w b N f) (_ : Rw 3 TyR w v ts),
    Calls Tryz.prog 121 #[.pointer (some ⟨p, 0, none⟩), v] w fun e w' => Below w.heap.size w w' ∧ e = if typesE f ts = 0 then .returned (.tuple #[]) else .panicked (errp (typesE f ts)) := by
  induction d with
  | zero =>
    intro v ts hd hn hx w hB hm hS
    cases ts with
    | nil =>
      obtain ⟨ad, cp, rfl⟩ := hS.shape
      exact types_nil p ad cp w
    | cons t r =>
      have := hd t (by simp)
      cases t <;> simp [Pl.tyD] at this
  | succ d ih =>
    intro v ts hd hn hx w hB hm hS
    obtain ⟨R, hR⟩ : ∃ R, R = typesE f ts := ⟨_, rfl⟩
    rw [← hR]
    have HR := hid hR
    obtain ⟨ad0, cp0, hvv⟩ := hS.shape
    have HS := hid hS
    obtain ⟨M, hM⟩ : ∃ M, M = ts.length := ⟨_, rfl⟩
    rw [← hM] at hx hvv
    subst hvv
    have HM : Hid (M = ts.length) := hM
    have HIH := hid ih
    have HD := hid hd
    have HN := hid hn
    have HMp := hid hm
    have HBx := hid hB
    have hpl := hB.lt
    clear hS hM hR ih hd hn hm hB
    go_enter Tryz.func121, Tryz.ntmps121
    go_wp2_with fail
    go_loopw [9] (fun i wr => TypsI ts f w i wr) (fun i _ => M - (intOf i).toNat)
    case atStart => exact ⟨0, Nat.zero_le _, rfl, rfl, Below.refl _ _⟩
    case round =>
      obtain ⟨j, hj, rfl, hme, hbw⟩ := hrel.all
      clear hrel
      rw [← HM.out] at hj
      have HME := hid hme
      clear hme
      by_cases hlt : j < M
      · obtain ⟨t, ht⟩ : ∃ t, ts[j]? = some t := ⟨ts[j]'(by rw [← HM.out]; exact hlt), by simp⟩
        have htm := List.mem_of_getElem? ht
        obtain ⟨g, off, cap, c, hv, hg, hRc, hc⟩ := (HS.out.below hbw (fun _ _ h => TyR.below hbw _ _ h)).at ht
        obtain ⟨k, s, ad, m, cp, rfl, hty⟩ := hRc
        injection hv with hv1 hv2 hv3
        clear hv2
        subst hv1 hv3
        have c0 := hc 0 _ rfl
        have c1 := hc 1 _ rfl
        have c2 := hc 2 _ rfl
        simp only [Nat.add_zero] at c0
        have hdr : ts.drop j = t :: ts.drop (j + 1) := by
          rw [List.drop_eq_getElem_cons (by rw [← HM.out]; exact hlt)]
          congr 1
          exact (List.getElem?_eq_some_iff.1 ht).2
        have hstep : (if tyOk f t then typesE f (ts.drop (j + 1)) else 41) = typesE f ts := by
          rw [← HME.out, hdr]
          unfold typesE
          rw [List.all_cons]
          cases tyOk f t <;> simp
        have HST := hid hstep
        obtain ⟨hk, ⟨s', hs', hnm⟩, hof⟩ := hty.parts
        injection hk with _ hk
        cases hs'
        have hbA := below_next hbw (below_alloc wr (.cells #[.int .i64 k, .string s, .slice ad m cp] 34))
        have hrec : ∀ W, Below (wr.alloc (.cells #[.int .i64 k, .string s, .slice ad m cp] 34)).heap.size (wr.alloc (.cells #[.int .i64 k, .string s, .slice ad m cp] 34)) W → Calls Tryz.prog 121 #[.pointer (some ⟨p, 0, none⟩), .slice ad m cp] W fun e w' => Below W.heap.size W w' ∧ e = if typesE f (inner t).toList = 0 then .returned (.tuple #[]) else .panicked (errp (typesE f (inner t).toList)) := by
          intro W hW
          have hbW := below_next hbA hW
          refine HIH.out _ _ ?_ ?_ ?_ W (HBx.out.below hbW) (HMp.out.below hbW) ((hof.below (below_next (below_alloc wr _) hW)).rw)
          · intro t' ht'
            have := inner_lt (Option.mem_toList.1 ht')
            have := HD.out t htm
            omega
          · intro t' ht'
            exact tyNm_inner (HN.out t htm) (Option.mem_toList.1 ht')
          · cases inner t <;> simp
        have HREC := hid hrec
        have hp3 := (HBx.out.below hbA).cell 3 rfl
        have HMA := hid (HMp.out.below (hbA.drew))
        have HNt := hid (HN.out t htm)
        clear hc ht hstep hdr HME hty hof hrec htm
        by_cases hk8 : k = 8
        · subst hk8
          obtain ⟨hok, hnl, hin⟩ := tyOk_named (f := f) HNt.out hk.symm
          have hsz : s.size ≤ maxLen := by
            rw [← hnm, bl_length] at hnl
            unfold maxLen
            omega
          have hlk := HMA.out.look s hsz
          rw [← hnm] at hok
          rw [hin] at HREC
          obtain ⟨x, hx8⟩ : ∃ x, x = f (bl s) := ⟨_, rfl⟩
          rw [← hx8] at hok hlk
          have HOK := hid hok
          have hbD := hbA.drew
          have HBD := hid hbD
          have HST2 := hid HST.out
          have hgood : tyOk f t = true → typesE f (ts.drop (j + 1)) = typesE f ts := fun h => by
            have := HST2.out
            rw [h, if_pos rfl] at this
            exact this
          have HG := hid hgood
          clear HST hok hbD hk hnm hgood hin hx8
          by_cases h1 : x = 1
          · subst h1
            go_wp2_with fail
            go_region
            go_wp2_with fail
            refine (sneed_true 41 _).mono ?_
            rintro e w2 ⟨rfl, hq2⟩
            subst w2
            go_wp2_with fail
            refine (HREC.out _ (Below.refl _ _).drew).mono ?_
            rintro e w2 ⟨hb2, rfl⟩
            have HB2 := hid (below_next HBD.out hb2)
            clear hb2
            go_wp2
            exact ⟨⟨j + 1, by rw [← HM.out]; omega, by go_num, HG.out (by rw [HOK.out]; rfl), HB2.out⟩, by simp [intOf]; omega⟩
          · by_cases h2 : x = 2
            · subst h2
              go_wp2_with fail
              go_region
              go_wp2_with fail
              refine (sneed_true 41 _).mono ?_
              rintro e w2 ⟨rfl, hq2⟩
              subst w2
              go_wp2_with fail
              refine (HREC.out _ (Below.refl _ _).drew).mono ?_
              rintro e w2 ⟨hb2, rfl⟩
              have HB2 := hid (below_next HBD.out hb2)
              clear hb2
              go_wp2
              exact ⟨⟨j + 1, by rw [← HM.out]; omega, by go_num, HG.out (by rw [HOK.out]; rfl), HB2.out⟩, by simp [intOf]; omega⟩
            · have hf : tyOk f t = false := by
                rw [HOK.out, decide_eq_false h1, decide_eq_false h2]
                rfl
              have hst2 := HST2.out
              rw [hf] at hst2
              have hR41 : R = 41 := HR.out.trans hst2.symm
              subst hR41
              clear hst2
              go_wp2_with fail
              go_region
              go_wp2_with fail
              have hxf : (x == 1 || x == 2) = false := by simp [h1, h2]
              rw [hxf]
              refine (sneed_false 41 _).mono ?_
              rintro e w2 ⟨rfl, hq2⟩
              subst w2
              exact ⟨rfl, HBD.out, rfl⟩
        · have hke : tyOk f t = (inner t).toList.all (tyOk f) := tyOk_inner f t (by rw [← hk]; exact hk8)
          have hst2 := HST.out
          rw [hke] at hst2
          have HS2 := hid hst2
          have HBA := hid hbA
          clear hst2 HST hk hke hbA
          go_wp2_with fail
          refine (HREC.out _ (Below.refl _ _)).mono ?_
          rintro e w2 ⟨hb2, rfl⟩
          have HB2 := hid (below_next HBA.out hb2)
          clear hb2
          have hst := HS2.out
          unfold typesE
          by_cases hall : (inner t).toList.all (tyOk f) = true
          · rw [if_pos hall] at hst ⊢
            have HS3 := hid hst
            clear hst
            simp only [if_true]
            go_wp2
            exact ⟨⟨j + 1, by rw [← HM.out]; omega, by go_num, HS3.out, HB2.out⟩, by simp [intOf]; omega⟩
          · rw [if_neg hall] at hst ⊢
            have hR41 : R = 41 := HR.out.trans hst.symm
            subst hR41
            exact ⟨rfl, HB2.out, rfl⟩
      · have hje : j = M := by omega
        subst hje
        have hr0 : R = 0 := by
          rw [HR.out, ← HME.out, HM.out, List.drop_length]
          rfl
        subst hr0
        have HB1 := hid hbw
        clear hbw
        go_wp2
        go_end0
        exact ⟨HB1.out, rfl⟩
end Go.Proofs.YtdbgncdnffbhkaaGreatDoor

namespace Go.Proofs.YtdbgncdnffbhkaaGreatDoor
open Go.RowKit
set_option maxRecDepth 20000

theorem Rows.rw {α β : Type} {T : TypeId} {m : Nat} {R : α → List Value → World → Prop} {R' : β → List Value → World → Prop} {B : Nat} {w : World} {v : Value} {xs : List α} (f : α → β) (h : Rows T m R B w v xs) (hl : xs.length ≤ 1000) (hR : ∀ a ∈ xs, ∀ c, R a c w → R' (f a) c w) : Rw m R' w v (xs.map f) := by
  obtain ⟨ad, cp, h1, h2, h3⟩ := h.sl f hl hR
  refine ⟨ad, cp, h1, h2, fun i a hi => ?_⟩
  obtain ⟨g, off, c, q1, q2, q3, q4⟩ := h3 i a hi
  exact ⟨g, off, c, q1, q2, q4, q3⟩

/-- A field as a case. -/
def asCas (f : Pl.Fld) : Pl.Cas := ⟨f.num, f.name⟩

theorem ret_case1 {W : World} {tmps : Array Value} {b : Nat} {x y : Value} (ht : tmps.getD 2 undef = .pointer (some ⟨b, 0, none⟩)) (h0 : W.cell? ⟨b, 0, none⟩ = some x) (h1 : W.cell? ⟨b, 1, none⟩ = some y) :
    (results Tryz.f120 tmps).run Tryz.prog W = .ok (.agg #[x, y]) W := by
  have ht' : tmps[2]?.getD undef = .pointer (some ⟨b, 0, none⟩) := by rw [← Array.getD_eq_getD_getElem?]; exact ht
  simp [results, Tryz.results120]
  go_simp
theorem ret_type2 {W : World} {tmps : Array Value} {b : Nat} {x y z : Value} (ht : tmps.getD 2 undef = .pointer (some ⟨b, 0, none⟩)) (h0 : W.cell? ⟨b, 0, none⟩ = some x) (h1 : W.cell? ⟨b, 1, none⟩ = some y) (h2 : W.cell? ⟨b, 2, none⟩ = some z) :
    (results Tryz.f123 tmps).run Tryz.prog W = .ok (.agg #[x, y, z]) W := by
  have ht' : tmps[2]?.getD undef = .pointer (some ⟨b, 0, none⟩) := by rw [← Array.getD_eq_getD_getElem?]; exact ht
  simp [results, Tryz.results123]
  go_simp
set_option maxHeartbeats 2000000 in
theorem struct1_any (s x : ByteArray) (n k : Int) (o : Value) (w : World) : Calls Tryz.prog 120 #[.agg #[.string s, .int .i64 n, .int .i64 k, .string x, o]] w fun e w' => e = .returned (.agg #[.string s, .int .i64 n]) ∧ Below w.heap.size w w' := by
  have hb2 := below_next (below_alloc w (.cells #[.string s, .int .i64 n, .int .i64 k, .string x, o] 83)) (below_alloc _ (.cells #[.string s, .int .i64 n] 86))
  have hB2 := Bx.newAt (w := w.alloc (.cells #[.string s, .int .i64 n, .int .i64 k, .string x, o] 83)) (g := w.heap.size + 1) (by simp) [.string s, .int .i64 n] 86
  go_enter Tryz.func120, Tryz.ntmps120
  go_wp2
  exact bodyPost_ret (ret_case1 rfl (hB2.cell 0 rfl) (hB2.cell 1 rfl)) rfl ⟨rfl, hb2⟩
set_option maxHeartbeats 2000000 in
theorem struct2_any (s x : ByteArray) (n k : Int) (ad : Option Addr) (m cp : Nat) (w : World) : Calls Tryz.prog 123 #[.agg #[.string s, .int .i64 n, .int .i64 k, .string x, .slice ad m cp]] w fun e w' => e = .returned (.agg #[.int .i64 k, .string x, .slice ad m cp]) ∧ Below w.heap.size w w' := by
  have hb2 := below_next (below_alloc w (.cells #[.string s, .int .i64 n, .int .i64 k, .string x, .slice ad m cp] 83)) (below_alloc _ (.cells #[.int .i64 k, .string x, .slice ad m cp] 34))
  have hB2 := Bx.newAt (w := w.alloc (.cells #[.string s, .int .i64 n, .int .i64 k, .string x, .slice ad m cp] 83)) (g := w.heap.size + 1) (by simp) [.int .i64 k, .string x, .slice ad m cp] 34
  go_enter Tryz.func123, Tryz.ntmps123
  go_wp2
  exact bodyPost_ret (ret_type2 rfl (hB2.cell 0 rfl) (hB2.cell 1 rfl) (hB2.cell 2 rfl)) rfl ⟨rfl, hb2⟩
set_option maxHeartbeats 2000000 in
theorem service1_any (s x x' : ByteArray) (o : Bool) (k k' : Int) (v v' : Value) (w : World) : Calls Tryz.prog 127 #[.agg #[.string s, .bool o, .int .i64 k, .string x, v, .int .i64 k', .string x', v']] w fun e w' => e = .returned (.string s) ∧ Below w.heap.size w w' := by
  have hb := below_alloc w (.cells #[.string s, .bool o, .int .i64 k, .string x, v, .int .i64 k', .string x', v'] 36)
  go_enter Tryz.func127, Tryz.ntmps127
  go_wp2
  go_ret
  exact ⟨rfl, hb⟩
set_option maxHeartbeats 2000000 in
theorem all1_any (s : ByteArray) (v : Value) (w : World) : Calls Tryz.prog 73 #[.agg #[.string s, v]] w fun e w' => e = .returned (.string s) ∧ Below w.heap.size w w' := by
  have hb := below_alloc w (.cells #[.string s, v] 60)
  go_enter Tryz.func73, Tryz.ntmps73
  go_wp2
  go_ret
  exact ⟨rfl, hb⟩
set_option maxHeartbeats 2000000 in
theorem all2_any (s : ByteArray) (v : Value) (w : World) : Calls Tryz.prog 75 #[.agg #[.string s, v]] w fun e w' => e = .returned (.string s) ∧ Below w.heap.size w w' := by
  have hb := below_alloc w (.cells #[.string s, v] 64)
  go_enter Tryz.func75, Tryz.ntmps75
  go_wp2
  go_ret
  exact ⟨rfl, hb⟩
set_option maxHeartbeats 2000000 in
theorem all3_any (s : ByteArray) (v : Value) (w : World) : Calls Tryz.prog 77 #[.agg #[.string s, v]] w fun e w' => e = .returned (.string s) ∧ Below w.heap.size w w' := by
  have hb := below_alloc w (.cells #[.string s, v] 67)
  go_enter Tryz.func77, Tryz.ntmps77
  go_wp2
  go_ret
  exact ⟨rfl, hb⟩

/-- Names that are short enough to be met. -/
def fldNm (f : Pl.Fld) : Prop := f.name.length ≤ 1000 ∧ tyNm f.ty ∧ Pl.tyD f.ty ≤ 100
def mthNm (f : Pl.Mth) : Prop := f.name.length ≤ 1000 ∧ (tyNm f.arg ∧ Pl.tyD f.arg ≤ 100) ∧ (tyNm f.res ∧ Pl.tyD f.res ≤ 100)
def structE (f : List Nat → Int) (fs : List Pl.Fld) : Int := thenE (partsE 1 (fs.map asCas)) (typesE f (fs.map (·.ty)))

set_option maxHeartbeats 8000000 in
theorem checkStruct_any (p b N : Nat) (s1 s2 s3 : Value) (f : List Nat → Int) (s : ByteArray) (ad : Option Addr) (m cp : Nat) (fs : List Pl.Fld) (hx : fs.length ≤ 1000) (hn : ∀ a ∈ fs, fldNm a) (w : World) (hB : Bx w p [s1, s2, s3, .map (some b)] 92) (hm : Mp w b N f) (hS : Rw 5 FldG w (.slice ad m cp) fs) :
    Calls Tryz.prog 78 #[.pointer (some ⟨p, 0, none⟩), .agg #[.string s, .slice ad m cp]] w fun e w' => Below w.heap.size w w' ∧ e = if structE f fs = 0 then .returned (.tuple #[]) else .panicked (errp (structE f fs)) := by
  obtain ⟨R, hR⟩ : ∃ R, R = structE f fs := ⟨_, rfl⟩
  rw [← hR]
  obtain ⟨w1, hw1⟩ : ∃ w1, w1 = w.alloc (.cells #[.string s, .slice ad m cp] 60) := ⟨_, rfl⟩
  have hb1 : Below w.heap.size w w1 := by rw [hw1]; exact below_alloc w _
  have hBs : Bx w1 w.heap.size [.string s, .slice ad m cp] 60 := by rw [hw1]; exact Bx.new w _ _
  have hS1 : Rw 5 FldG w1 (.slice ad m cp) fs := hS.below hb1 (FldG.below hb1)
  have hE1 := eachFieldCase_any 120 (fun _ _ => rfl) (.slice ad m cp) fs (by omega) (fun a s n => bl s = a.name ∧ n = (a.num : Int)) w1 hS1 (by
    rintro a ha c W _ ⟨s, k, sn, ad, m, cp, rfl, hs, ht⟩ hb
    refine (struct1_any s sn _ k _ W).mono ?_
    rintro e w' ⟨rfl, hb'⟩
    exact ⟨s, _, rfl, ⟨hs, rfl⟩, hb'⟩)
  have c1 := hBs.cell 1 rfl
  have HE1 := hid hE1
  have HR := hid hR
  have HS := hid hS
  have HN := hid hn
  have HB := hid hB
  have HMp := hid hm
  have HBs := hid hBs
  have Hb1 := hid hb1
  clear hE1 hR hS hn hB hm hBs hS1 hb1
  go_enter Tryz.func78, Tryz.ntmps78
  go_wp2_with fail
  rw [← hw1]
  go_wp2_with fail
  refine HE1.out.mono ?_
  rintro e w2 ⟨tv, rfl, hrows, hb2⟩
  have hRw := hrows.rw asCas (R' := CasG) hx (by
    rintro a ha c ⟨s, n, rfl, hs, rfl⟩
    exact ⟨s, rfl, hs⟩)
  have hP := checkParts_any 1 tv (fs.map asCas) (by rw [List.length_map]; exact hx) (by
    intro c hc
    obtain ⟨a, ha, rfl⟩ := List.mem_map.1 hc
    exact (HN.out a ha).1) w2 hRw
  have hrs := hrows.shape
  obtain ⟨ta, tc, rfl⟩ := hrs
  have Hb2 := hid (below_next Hb1.out hb2)
  have hb12 := hid hb2
  have HP := hid hP
  clear hrows hP hRw hb2
  go_wp2_with fail
  refine HP.out.mono ?_
  rintro e w3 ⟨hb3, rfl⟩
  have Hb3 := hid (below_next Hb2.out hb3)
  have hb13 := below_next hb12.out hb3
  have hB3 := HBs.out.below hb13
  have d1 := hB3.cell 1 rfl
  have hRe := HR.out
  unfold structE at hRe
  by_cases hp0 : partsE 1 (fs.map asCas) = 0
  · rw [if_pos hp0]
    rw [hp0, thenE, if_pos rfl] at hRe
    have HR2 := hid hRe
    have hS3 : Rw 5 FldG w3 (.slice ad m cp) fs := HS.out.below Hb3.out (FldG.below Hb3.out)
    have hE2 := eachFieldType_any 123 (fun _ _ => rfl) (.slice ad m cp) fs (by omega) (fun a k s ad m cp => TyG w3 a.ty (.int .i64 k) (.string s) (.slice ad m cp)) w3 hS3 (by
      rintro a ha c W ⟨s, k, sn, ad, m, cp, rfl, hs, ht⟩ _ hb
      refine (struct2_any s sn _ k ad m cp W).mono ?_
      rintro e w' ⟨rfl, hb'⟩
      exact ⟨k, sn, ad, m, cp, rfl, ht, hb'⟩)
    have HE2 := hid hE2
    clear hE2 hRe hS3 hB3 hb13 hb3
    go_wp2_with fail
    refine HE2.out.mono ?_
    rintro e w4 ⟨tv4, rfl, hrows, hb4⟩
    have Hb4 := hid (below_next Hb3.out hb4)
    have hRw := hrows.rw (fun a : Pl.Fld => a.ty) (R' := TyR) hx (by
      rintro a ha c ⟨k, s, ad, m, cp, rfl, ht⟩
      exact ⟨k, s, ad, m, cp, rfl, TyG.below hb4 _ _ _ _ ht⟩)
    have hT := checkTypes_any p b N s1 s2 s3 f 100 tv4 (fs.map (·.ty)) (by
      intro t ht
      obtain ⟨a, ha, rfl⟩ := List.mem_map.1 ht
      exact (HN.out a ha).2.2) (by
      intro t ht
      obtain ⟨a, ha, rfl⟩ := List.mem_map.1 ht
      exact (HN.out a ha).2.1) (by rw [List.length_map]; exact hx) w4 (HB.out.below Hb4.out) (HMp.out.below Hb4.out) hRw
    have hrs := hrows.shape
    obtain ⟨ta4, tc4, rfl⟩ := hrs
    have HT := hid hT
    clear hrows hT hRw hb4
    go_wp2_with fail
    refine HT.out.mono ?_
    rintro e w5 ⟨hb5, rfl⟩
    have Hb5 := hid (below_next Hb4.out hb5)
    have hRe := HR2.out
    by_cases ht0 : typesE f (fs.map (·.ty)) = 0
    · rw [if_pos ht0]
      rw [ht0] at hRe
      subst hRe
      clear hb5
      go_wp2
      go_end0
      exact ⟨Hb5.out, rfl⟩
    · rw [if_neg ht0]
      rw [← hRe] at ht0 ⊢
      refine ⟨rfl, Hb5.out, ?_⟩
      rw [if_neg ht0]
  · rw [if_neg hp0]
    rw [thenE, if_neg hp0] at hRe
    rw [← hRe] at hp0 ⊢
    refine ⟨rfl, Hb3.out, ?_⟩
    rw [if_neg hp0]

def mtypesE (f : List Nat → Int) : List Pl.Mth → Int
  | [] => 0
  | m :: r => thenE (typesE f [m.arg, m.res]) (mtypesE f r)
def serviceE (f : List Nat → Int) (ms : List Pl.Mth) : Int := thenE (if 0 < ms.length then 0 else 3) (thenE (meetE (ms.map (·.name))) (mtypesE f ms))

structure ServI (ms : List Pl.Mth) (f : List Nat → Int) (w : World) (i : Value) (wr : World) : Prop where
  all : ∃ j, j ≤ ms.length ∧ i = .int .i64 (j : Int) ∧ mtypesE f (ms.drop j) = mtypesE f ms ∧ Below w.heap.size w wr

set_option maxHeartbeats 8000000 in
theorem checkService_any (p b N : Nat) (s1 s2 s3 : Value) (f : List Nat → Int) (s : ByteArray) (ad : Option Addr) (cp : Nat) (ms : List Pl.Mth) (hx : ms.length ≤ 1000) (hn : ∀ a ∈ ms, mthNm a) (w : World) (hB : Bx w p [s1, s2, s3, .map (some b)] 92) (hm : Mp w b N f) (hS : Rw 8 MthG w (.slice ad ms.length cp) ms) :
    Calls Tryz.prog 80 #[.pointer (some ⟨p, 0, none⟩), .agg #[.string s, .slice ad ms.length cp]] w fun e w' => Below w.heap.size w w' ∧ e = if serviceE f ms = 0 then .returned (.tuple #[]) else .panicked (errp (serviceE f ms)) := by
  obtain ⟨R, hR⟩ : ∃ R, R = serviceE f ms := ⟨_, rfl⟩
  rw [← hR]
  obtain ⟨M, hM⟩ : ∃ M, M = ms.length := ⟨_, rfl⟩
  rw [← hM] at hx hS ⊢
  have HM : Hid (M = ms.length) := hM
  obtain ⟨w1, hw1⟩ : ∃ w1, w1 = w.alloc (.cells #[.string s, .slice ad M cp] 67) := ⟨_, rfl⟩
  have hb1 : Below w.heap.size w w1 := by rw [hw1]; exact below_alloc w _
  have hBs : Bx w1 w.heap.size [.string s, .slice ad M cp] 67 := by rw [hw1]; exact Bx.new w _ _
  have c1 := hBs.cell 1 rfl
  have HR := hid hR
  have HS := hid hS
  have HN := hid hn
  have HB := hid hB
  have HMp := hid hm
  have HBs := hid hBs
  have Hb1 := hid hb1
  have hmk : ∀ (t : TypeId) (w : World), (Instr.makeMap t none).run Tryz.prog w = .ok (.map (some w.heap.size)) (w.alloc (.map #[] 0)) := fun t w => run_makeMap t w
  clear hR hS hn hB hm hBs hb1 hM
  by_cases hz : 0 < M
  · have hR1 : R = thenE (meetE (ms.map (·.name))) (mtypesE f ms) := by
      rw [HR.out]
      unfold serviceE
      rw [← HM.out, if_pos hz, thenE, if_pos rfl]
    have HR1 := hid hR1
    have hS1 : Rw 8 MthG (w1.alloc (.map #[] 0)) (.slice ad M cp) ms := HS.out.below (below_next Hb1.out (below_alloc w1 _)) (MthG.below (below_next Hb1.out (below_alloc w1 _)))
    have hE1 := eachMethodString_any 127 (fun _ _ => rfl) (.slice ad M cp) ms (by rw [← HM.out]; omega) (fun a s => s.size ≤ maxLen ∧ bl s = a.name) (w1.alloc (.map #[] 0)) hS1 (by
      rintro a ha c W _ ⟨s, k, sn, ad, m, cp, k', sn', ad', m', cp', rfl, hs, _, _⟩ hb
      refine (service1_any s sn sn' _ k k' _ _ W).mono ?_
      rintro e w' ⟨rfl, hb'⟩
      refine ⟨s, rfl, ⟨?_, hs⟩, hb'⟩
      have := (HN.out a ha).1
      rw [← hs, bl_length] at this
      unfold maxLen
      omega)
    have HE1 := hid hE1
    clear hE1 hS1 hR1
    have c1' := (HBs.out.alloc (.map #[] 0)).cell 1 rfl
    go_enter Tryz.func80, Tryz.ntmps80
    go_wp2_with fail
    rw [← hw1]
    clear hw1
    go_wp2_with fail
    refine (sneed_true 3 _).mono ?_
    rintro e w2 ⟨rfl, hq2⟩
    subst w2
    go_wp2_with fail
    refine HE1.out.mono ?_
    rintro e w2 ⟨tv, rfl, hrows, hb2⟩
    obtain ⟨bs, hbs, hbm, hbl⟩ := rows_slT (fun a : Pl.Mth => a.name) hrows (by rw [← HM.out]; omega)
    have hMt := meet_any w1.heap.size 0 4 43 (by decide) tv bs (by rw [hbl, ← HM.out]; omega) (by omega) (fun _ => 0) w2 ((Mp.made w1).below hb2) hbs
    rw [hbm] at hMt
    have HB2 := hid (below_next (below_next Hb1.out (below_alloc w1 (.map #[] 0))) hb2)
    have HBs2 := hid ((HBs.out.alloc (.map #[] 0)).below hb2)
    have HMM := hid hMt
    have hrs := hrows.shape
    obtain ⟨ta, tc, rfl⟩ := hrs
    clear hrows hbs hMt hb2 hbm
    go_wp2_with fail
    refine HMM.out.mono ?_
    rintro e w3 ⟨hg, hres⟩
    have hb13 : Below w.heap.size w w3 := HB2.out.grown hg HB2.out.size (fun k hk => by cases hk; exact Hb1.out.size)
    have HB3 := hid hb13
    have hcl := (HBs2.out.cell 1 rfl)
    have d1 := hg.cell hcl (by have := HBs.out.lt; simp; omega)
    have hRe := HR1.out
    unfold meetE at hRe
    cases hmf : meetF 4 (ms.map (·.name)) (fun _ => 0) with
    | none =>
      rw [hmf] at hres hRe
      obtain rfl := hres
      have hR0 : R = 43 := hRe
      subst hR0
      exact ⟨rfl, hb13, rfl⟩
    | some g =>
      rw [hmf] at hres hRe
      obtain ⟨rfl, _⟩ := hres
      have hR0 : R = mtypesE f ms := hRe
      have HR2 := hid hR0
      clear hRe hR0 hg hb13 hcl
      go_wp2_with fail
      go_loopw [19] (fun i wr => ServI ms f w i wr) (fun i _ => M - (intOf i).toNat)
      case atStart => exact ⟨0, Nat.zero_le _, rfl, rfl, HB3.out⟩
      case round =>
        obtain ⟨j, hj, rfl, hme, hbw⟩ := hrel.all
        clear hrel
        rw [← HM.out] at hj
        have HME := hid hme
        clear hme
        by_cases hlt : j < M
        · obtain ⟨a, ha⟩ : ∃ a, ms[j]? = some a := ⟨ms[j]'(by rw [← HM.out]; exact hlt), by simp⟩
          have ham := List.mem_of_getElem? ha
          obtain ⟨g, off, cap, c, hv, hg, hRc, hc⟩ := (HS.out.below hbw (fun _ _ h => MthG.below hbw _ _ h)).at ha
          obtain ⟨xs1, xk, xn, xd, xm, xc, yk, yn, yd, ym, yc, rfl, hxs, hxr, hyr⟩ := hRc
          injection hv with hv1 hv2 hv3
          clear hv2
          subst hv1 hv3
          have c0 := hc 0 _ rfl
          have c1 := hc 1 _ rfl
          have c2 := hc 2 _ rfl
          have c3 := hc 3 _ rfl
          have c4 := hc 4 _ rfl
          have c5 := hc 5 _ rfl
          have c6 := hc 6 _ rfl
          have c7 := hc 7 _ rfl
          simp only [Nat.add_zero] at c0
          have hdr : ms.drop j = a :: ms.drop (j + 1) := by
            rw [List.drop_eq_getElem_cons (by rw [← HM.out]; exact hlt)]
            congr 1
            exact (List.getElem?_eq_some_iff.1 ha).2
          have hstep := HME.out
          rw [hdr, mtypesE] at hstep
          have HST := hid hstep
          have HX := hid hxr
          have HY := hid hyr
          have HAM := hid ham
          clear hc ha hstep hdr HME hxr hyr ham hxs
          obtain ⟨wA, hwA⟩ : ∃ wA, wA = wr.alloc (.cells #[.string xs1, .bool a.once, .int .i64 xk, .string xn, .slice xd xm xc, .int .i64 yk, .string yn, .slice yd ym yc] 36) := ⟨_, rfl⟩
          obtain ⟨wB, hwB⟩ : ∃ wB, wB = wA.alloc (.cells #[.int .i64 xk, .string xn, .slice xd xm xc, .int .i64 yk, .string yn, .slice yd ym yc] 34) := ⟨_, rfl⟩
          have hzA : wA.heap.size = wr.heap.size + 1 := by rw [hwA]; simp
          have hbA : Below wr.heap.size wr wA := by rw [hwA]; exact below_alloc wr _
          have hbB : Below wr.heap.size wr wB := below_next hbA (by rw [hwB]; exact below_alloc wA _)
          have hBB : Bx wB (wr.heap.size + 1) [.int .i64 xk, .string xn, .slice xd xm xc, .int .i64 yk, .string yn, .slice yd ym yc] 34 := by rw [hwB]; exact Bx.newAt hzA.symm _ _
          have hRw : Rw 3 TyR wB (.slice (some ⟨wr.heap.size + 1, 0, none⟩) 2 2) [a.arg, a.res] := by
            refine ⟨_, 2, rfl, by simp, fun i t hi => ?_⟩
            match i, hi with
            | 0, hi =>
              cases hi
              refine ⟨_, 0, [.int .i64 xk, .string xn, .slice xd xm xc], rfl, hBB.lt, ⟨xk, xn, xd, xm, xc, rfl, TyG.below hbB _ _ _ _ HX.out⟩, fun j u hj => ?_⟩
              match j, hj with
              | 0, hj => cases hj; exact hBB.cell 0 rfl
              | 1, hj => cases hj; exact hBB.cell 1 rfl
              | 2, hj => cases hj; exact hBB.cell 2 rfl
            | 1, hi =>
              cases hi
              refine ⟨_, 0, [.int .i64 yk, .string yn, .slice yd ym yc], rfl, hBB.lt, ⟨yk, yn, yd, ym, yc, rfl, TyG.below hbB _ _ _ _ HY.out⟩, fun j u hj => ?_⟩
              match j, hj with
              | 0, hj => cases hj; exact hBB.cell 3 rfl
              | 1, hj => cases hj; exact hBB.cell 4 rfl
              | 2, hj => cases hj; exact hBB.cell 5 rfl
          have hnm := HN.out a HAM.out
          have hbW := below_next hbw hbB
          have hT := checkTypes_any p b N s1 s2 s3 f 100 _ [a.arg, a.res] (by
            intro t ht
            simp only [List.mem_cons, List.not_mem_nil, or_false] at ht
            rcases ht with rfl | rfl
            · exact hnm.2.1.2
            · exact hnm.2.2.2) (by
            intro t ht
            simp only [List.mem_cons, List.not_mem_nil, or_false] at ht
            rcases ht with rfl | rfl
            · exact hnm.2.1.1
            · exact hnm.2.2.1) (by simp) wB (HB.out.below hbW) (HMp.out.below hbW) hRw
          have HT := hid hT
          have HbW := hid hbW
          have HwA := hid hwA
          have HwB := hid hwB
          clear hT hbW hRw hnm hBB hbB hbA hwA hwB hzA
          go_wp2_with fail
          rw [← HwA.out, ← HwB.out]
          refine HT.out.mono ?_
          rintro e w5 ⟨hb5, rfl⟩
          have Hb5 := hid (below_next HbW.out hb5)
          clear hb5
          have hst := HST.out
          by_cases ht0 : typesE f [a.arg, a.res] = 0
          · rw [if_pos ht0]
            rw [ht0, thenE, if_pos rfl] at hst
            have HS3 := hid hst
            clear hst
            go_wp2
            exact ⟨⟨j + 1, by rw [← HM.out]; omega, by go_num, HS3.out, Hb5.out⟩, by simp [intOf]; omega⟩
          · rw [if_neg ht0]
            rw [thenE, if_neg ht0] at hst
            have hRe := HR2.out.trans hst.symm
            rw [← hRe] at ht0 ⊢
            refine ⟨rfl, Hb5.out, ?_⟩
            rw [if_neg ht0]
        · have hje : j = M := by omega
          subst hje
          have hr0 : R = 0 := by
            rw [HR2.out, ← HME.out, HM.out, List.drop_length]
            rfl
          subst hr0
          have HB1 := hid hbw
          clear hbw
          go_wp2
          go_end0
          exact ⟨HB1.out, rfl⟩
  · have hR1 : R = 3 := by
      rw [HR.out]
      unfold serviceE
      rw [← HM.out, if_neg hz, thenE, if_neg (by decide)]
    subst hR1
    have hM0 : M = 0 := by omega
    subst hM0
    go_enter Tryz.func80, Tryz.ntmps80
    go_wp2_with fail
    rw [← hw1]
    clear hw1
    go_wp2_with fail
    refine (sneed_false 3 _).mono ?_
    rintro e w2 ⟨rfl, hq2⟩
    subst w2
    exact ⟨rfl, Hb1.out, rfl⟩
end Go.Proofs.YtdbgncdnffbhkaaGreatDoor

namespace Go.Proofs.YtdbgncdnffbhkaaGreatDoor
open Go.RowKit
set_option maxRecDepth 20000

/-- The place of the first one that fits, from k on; -1: none does. -/
def idxF {α : Type} (P : α → Bool) : List α → Nat → Int
  | [], _ => -1
  | a :: r, k => if P a then (k : Int) else idxF P r (k + 1)

structure IdxIStruct (w : World) (xs : List (List Nat × List Pl.Fld)) (P : (List Nat × List Pl.Fld) → Bool) (i : Value) (wr : World) : Prop where
  all : ∃ k : Nat, k ≤ xs.length ∧ i = .int .i64 (k : Int) ∧ idxF P (xs.drop k) k = idxF P xs 0 ∧ Below w.heap.size w wr

set_option maxHeartbeats 8000000 in
theorem indexStruct_any (ft : Nat) (cv : Value) (hen : ∀ (args : Array Value) (w' : World), (callFunc ft args).run Tryz.prog w' = .ok (.enter ft args) w') (v : Value) (xs : List (List Nat × List Pl.Fld)) (hx : xs.length ≤ 100000) (P : (List Nat × List Pl.Fld) → Bool) (w : World) (hS : Rw 2 (DecG 5 FldG) w v xs)
    (ht : ∀ a ∈ xs, ∀ c W, (DecG 5 FldG) a c W → Below w.heap.size w W → Calls Tryz.prog ft #[.agg ⟨c⟩, cv] W fun e w' => e = .returned (.bool (P a)) ∧ Below W.heap.size W w') :
    Calls Tryz.prog 34 #[v, .func (.func ft) #[] #[cv]] w fun e w' => e = .returned (.int .i64 (idxF P xs 0)) ∧ Below w.heap.size w w' := by
  obtain ⟨R, hR⟩ : ∃ R, R = idxF P xs 0 := ⟨_, rfl⟩
  rw [← hR]
  have HR := hid hR
  obtain ⟨ad0, cp0, hvv⟩ := hS.shape
  have HS := hid hS
  have HT := hid ht
  obtain ⟨M, hM⟩ : ∃ M, M = xs.length := ⟨_, rfl⟩
  rw [← hM] at hx hvv
  subst hvv
  have HM : Hid (M = xs.length) := hM
  clear hS ht hM hR
  go_enter Tryz.func34, Tryz.ntmps34
  go_wp2_with fail
  go_loopw [8] (fun i wr => IdxIStruct w xs P i wr) (fun i _ => M - (intOf i).toNat)
  case atStart => exact ⟨0, Nat.zero_le _, rfl, rfl, Below.refl _ _⟩
  case round =>
    obtain ⟨k, hk, rfl, hme, hbw⟩ := hrel.all
    clear hrel
    rw [← HM.out] at hk
    have HME := hid hme
    clear hme
    by_cases hlt : k < M
    · obtain ⟨a, ha⟩ : ∃ a, xs[k]? = some a := ⟨xs[k]'(by rw [← HM.out]; exact hlt), by simp⟩
      obtain ⟨g, off, cap, c, hv, hg, hRc, hc⟩ := (HS.out.below hbw (fun _ _ h => DecG.below hbw (FldG.below hbw) _ _ h)).at ha
      have HRc := hid hRc
      obtain ⟨xs1, xd, xm, xc, rfl, hxs, hxr⟩ := hRc
      injection hv with hv1 hv2 hv3
      clear hv2
      subst hv1 hv3
      have c0 := hc 0 _ rfl
      have c1 := hc 1 _ rfl
      simp only [Nat.add_zero] at c0
      have hcall := HT.out a (List.mem_of_getElem? ha) _ wr HRc.out hbw
      have hdr : xs.drop k = a :: xs.drop (k + 1) := by
        rw [List.drop_eq_getElem_cons (by rw [← HM.out]; exact hlt)]
        congr 1
        exact (List.getElem?_eq_some_iff.1 ha).2
      have hstep := HME.out
      rw [hdr, idxF] at hstep
      have HST := hid hstep
      have HB := hid hbw
      clear hc HRc ha hxs hdr hstep hbw HME
      go_wp2_with fail
      refine hcall.mono ?_
      rintro e w2 ⟨rfl, hb2⟩
      have HB2 := hid (below_next HB.out hb2)
      have hst := HST.out
      clear hcall hb2
      cases hP : P a with
      | true =>
        rw [hP, if_pos rfl] at hst
        have hRk : R = (k : Int) := HR.out.trans hst.symm
        subst hRk
        clear hst
        go_wp2
        go_ret
        exact ⟨rfl, HB2.out⟩
      | false =>
        rw [hP, if_neg (by decide)] at hst
        have HS2 := hid hst
        clear hst
        go_wp2
        exact ⟨⟨k + 1, by rw [← HM.out]; omega, by go_num, HS2.out, HB2.out⟩, by simp [intOf]; omega⟩
    · have hke : k = M := by omega
      subst hke
      have hr0 : R = -1 := by
        rw [HR.out, ← HME.out, HM.out, List.drop_length]
        rfl
      subst hr0
      have HB := hid hbw
      clear hbw
      go_wp2
      go_ret
      exact ⟨rfl, HB.out⟩

structure IdxIEnum (w : World) (xs : List (List Nat × List Pl.Cas)) (P : (List Nat × List Pl.Cas) → Bool) (i : Value) (wr : World) : Prop where
  all : ∃ k : Nat, k ≤ xs.length ∧ i = .int .i64 (k : Int) ∧ idxF P (xs.drop k) k = idxF P xs 0 ∧ Below w.heap.size w wr

set_option maxHeartbeats 8000000 in
theorem indexEnum_any (ft : Nat) (cv : Value) (hen : ∀ (args : Array Value) (w' : World), (callFunc ft args).run Tryz.prog w' = .ok (.enter ft args) w') (v : Value) (xs : List (List Nat × List Pl.Cas)) (hx : xs.length ≤ 100000) (P : (List Nat × List Pl.Cas) → Bool) (w : World) (hS : Rw 2 (DecG 2 CasG) w v xs)
    (ht : ∀ a ∈ xs, ∀ c W, (DecG 2 CasG) a c W → Below w.heap.size w W → Calls Tryz.prog ft #[.agg ⟨c⟩, cv] W fun e w' => e = .returned (.bool (P a)) ∧ Below W.heap.size W w') :
    Calls Tryz.prog 36 #[v, .func (.func ft) #[] #[cv]] w fun e w' => e = .returned (.int .i64 (idxF P xs 0)) ∧ Below w.heap.size w w' := by
  obtain ⟨R, hR⟩ : ∃ R, R = idxF P xs 0 := ⟨_, rfl⟩
  rw [← hR]
  have HR := hid hR
  obtain ⟨ad0, cp0, hvv⟩ := hS.shape
  have HS := hid hS
  have HT := hid ht
  obtain ⟨M, hM⟩ : ∃ M, M = xs.length := ⟨_, rfl⟩
  rw [← hM] at hx hvv
  subst hvv
  have HM : Hid (M = xs.length) := hM
  clear hS ht hM hR
  go_enter Tryz.func36, Tryz.ntmps36
  go_wp2_with fail
  go_loopw [8] (fun i wr => IdxIEnum w xs P i wr) (fun i _ => M - (intOf i).toNat)
  case atStart => exact ⟨0, Nat.zero_le _, rfl, rfl, Below.refl _ _⟩
  case round =>
    obtain ⟨k, hk, rfl, hme, hbw⟩ := hrel.all
    clear hrel
    rw [← HM.out] at hk
    have HME := hid hme
    clear hme
    by_cases hlt : k < M
    · obtain ⟨a, ha⟩ : ∃ a, xs[k]? = some a := ⟨xs[k]'(by rw [← HM.out]; exact hlt), by simp⟩
      obtain ⟨g, off, cap, c, hv, hg, hRc, hc⟩ := (HS.out.below hbw (fun _ _ h => DecG.below hbw (fun _ _ h => h) _ _ h)).at ha
      have HRc := hid hRc
      obtain ⟨xs1, xd, xm, xc, rfl, hxs, hxr⟩ := hRc
      injection hv with hv1 hv2 hv3
      clear hv2
      subst hv1 hv3
      have c0 := hc 0 _ rfl
      have c1 := hc 1 _ rfl
      simp only [Nat.add_zero] at c0
      have hcall := HT.out a (List.mem_of_getElem? ha) _ wr HRc.out hbw
      have hdr : xs.drop k = a :: xs.drop (k + 1) := by
        rw [List.drop_eq_getElem_cons (by rw [← HM.out]; exact hlt)]
        congr 1
        exact (List.getElem?_eq_some_iff.1 ha).2
      have hstep := HME.out
      rw [hdr, idxF] at hstep
      have HST := hid hstep
      have HB := hid hbw
      clear hc HRc ha hxs hdr hstep hbw HME
      go_wp2_with fail
      refine hcall.mono ?_
      rintro e w2 ⟨rfl, hb2⟩
      have HB2 := hid (below_next HB.out hb2)
      have hst := HST.out
      clear hcall hb2
      cases hP : P a with
      | true =>
        rw [hP, if_pos rfl] at hst
        have hRk : R = (k : Int) := HR.out.trans hst.symm
        subst hRk
        clear hst
        go_wp2
        go_ret
        exact ⟨rfl, HB2.out⟩
      | false =>
        rw [hP, if_neg (by decide)] at hst
        have HS2 := hid hst
        clear hst
        go_wp2
        exact ⟨⟨k + 1, by rw [← HM.out]; omega, by go_num, HS2.out, HB2.out⟩, by simp [intOf]; omega⟩
    · have hke : k = M := by omega
      subst hke
      have hr0 : R = -1 := by
        rw [HR.out, ← HME.out, HM.out, List.drop_length]
        rfl
      subst hr0
      have HB := hid hbw
      clear hbw
      go_wp2
      go_ret
      exact ⟨rfl, HB.out⟩

structure IdxIService (w : World) (xs : List (List Nat × List Pl.Mth)) (P : (List Nat × List Pl.Mth) → Bool) (i : Value) (wr : World) : Prop where
  all : ∃ k : Nat, k ≤ xs.length ∧ i = .int .i64 (k : Int) ∧ idxF P (xs.drop k) k = idxF P xs 0 ∧ Below w.heap.size w wr

set_option maxHeartbeats 8000000 in
theorem indexService_any (ft : Nat) (cv : Value) (hen : ∀ (args : Array Value) (w' : World), (callFunc ft args).run Tryz.prog w' = .ok (.enter ft args) w') (v : Value) (xs : List (List Nat × List Pl.Mth)) (hx : xs.length ≤ 100000) (P : (List Nat × List Pl.Mth) → Bool) (w : World) (hS : Rw 2 (DecG 8 MthG) w v xs)
    (ht : ∀ a ∈ xs, ∀ c W, (DecG 8 MthG) a c W → Below w.heap.size w W → Calls Tryz.prog ft #[.agg ⟨c⟩, cv] W fun e w' => e = .returned (.bool (P a)) ∧ Below W.heap.size W w') :
    Calls Tryz.prog 38 #[v, .func (.func ft) #[] #[cv]] w fun e w' => e = .returned (.int .i64 (idxF P xs 0)) ∧ Below w.heap.size w w' := by
  obtain ⟨R, hR⟩ : ∃ R, R = idxF P xs 0 := ⟨_, rfl⟩
  rw [← hR]
  have HR := hid hR
  obtain ⟨ad0, cp0, hvv⟩ := hS.shape
  have HS := hid hS
  have HT := hid ht
  obtain ⟨M, hM⟩ : ∃ M, M = xs.length := ⟨_, rfl⟩
  rw [← hM] at hx hvv
  subst hvv
  have HM : Hid (M = xs.length) := hM
  clear hS ht hM hR
  go_enter Tryz.func38, Tryz.ntmps38
  go_wp2_with fail
  go_loopw [8] (fun i wr => IdxIService w xs P i wr) (fun i _ => M - (intOf i).toNat)
  case atStart => exact ⟨0, Nat.zero_le _, rfl, rfl, Below.refl _ _⟩
  case round =>
    obtain ⟨k, hk, rfl, hme, hbw⟩ := hrel.all
    clear hrel
    rw [← HM.out] at hk
    have HME := hid hme
    clear hme
    by_cases hlt : k < M
    · obtain ⟨a, ha⟩ : ∃ a, xs[k]? = some a := ⟨xs[k]'(by rw [← HM.out]; exact hlt), by simp⟩
      obtain ⟨g, off, cap, c, hv, hg, hRc, hc⟩ := (HS.out.below hbw (fun _ _ h => DecG.below hbw (MthG.below hbw) _ _ h)).at ha
      have HRc := hid hRc
      obtain ⟨xs1, xd, xm, xc, rfl, hxs, hxr⟩ := hRc
      injection hv with hv1 hv2 hv3
      clear hv2
      subst hv1 hv3
      have c0 := hc 0 _ rfl
      have c1 := hc 1 _ rfl
      simp only [Nat.add_zero] at c0
      have hcall := HT.out a (List.mem_of_getElem? ha) _ wr HRc.out hbw
      have hdr : xs.drop k = a :: xs.drop (k + 1) := by
        rw [List.drop_eq_getElem_cons (by rw [← HM.out]; exact hlt)]
        congr 1
        exact (List.getElem?_eq_some_iff.1 ha).2
      have hstep := HME.out
      rw [hdr, idxF] at hstep
      have HST := hid hstep
      have HB := hid hbw
      clear hc HRc ha hxs hdr hstep hbw HME
      go_wp2_with fail
      refine hcall.mono ?_
      rintro e w2 ⟨rfl, hb2⟩
      have HB2 := hid (below_next HB.out hb2)
      have hst := HST.out
      clear hcall hb2
      cases hP : P a with
      | true =>
        rw [hP, if_pos rfl] at hst
        have hRk : R = (k : Int) := HR.out.trans hst.symm
        subst hRk
        clear hst
        go_wp2
        go_ret
        exact ⟨rfl, HB2.out⟩
      | false =>
        rw [hP, if_neg (by decide)] at hst
        have HS2 := hid hst
        clear hst
        go_wp2
        exact ⟨⟨k + 1, by rw [← HM.out]; omega, by go_num, HS2.out, HB2.out⟩, by simp [intOf]; omega⟩
    · have hke : k = M := by omega
      subst hke
      have hr0 : R = -1 := by
        rw [HR.out, ← HME.out, HM.out, List.drop_length]
        rfl
      subst hr0
      have HB := hid hbw
      clear hbw
      go_wp2
      go_ret
      exact ⟨rfl, HB.out⟩

structure IdxIField (w : World) (xs : List Pl.Fld) (P : Pl.Fld → Bool) (i : Value) (wr : World) : Prop where
  all : ∃ k : Nat, k ≤ xs.length ∧ i = .int .i64 (k : Int) ∧ idxF P (xs.drop k) k = idxF P xs 0 ∧ Below w.heap.size w wr

set_option maxHeartbeats 8000000 in
theorem indexField_any (ft : Nat) (cv : Value) (hen : ∀ (args : Array Value) (w' : World), (callFunc ft args).run Tryz.prog w' = .ok (.enter ft args) w') (v : Value) (xs : List Pl.Fld) (hx : xs.length ≤ 100000) (P : Pl.Fld → Bool) (w : World) (hS : Rw 5 (FldG) w v xs)
    (ht : ∀ a ∈ xs, ∀ c W, (FldG) a c W → Below w.heap.size w W → Calls Tryz.prog ft #[.agg ⟨c⟩, cv] W fun e w' => e = .returned (.bool (P a)) ∧ Below W.heap.size W w') :
    Calls Tryz.prog 161 #[v, .func (.func ft) #[] #[cv]] w fun e w' => e = .returned (.int .i64 (idxF P xs 0)) ∧ Below w.heap.size w w' := by
  obtain ⟨R, hR⟩ : ∃ R, R = idxF P xs 0 := ⟨_, rfl⟩
  rw [← hR]
  have HR := hid hR
  obtain ⟨ad0, cp0, hvv⟩ := hS.shape
  have HS := hid hS
  have HT := hid ht
  obtain ⟨M, hM⟩ : ∃ M, M = xs.length := ⟨_, rfl⟩
  rw [← hM] at hx hvv
  subst hvv
  have HM : Hid (M = xs.length) := hM
  clear hS ht hM hR
  go_enter Tryz.func161, Tryz.ntmps161
  go_wp2_with fail
  go_loopw [8] (fun i wr => IdxIField w xs P i wr) (fun i _ => M - (intOf i).toNat)
  case atStart => exact ⟨0, Nat.zero_le _, rfl, rfl, Below.refl _ _⟩
  case round =>
    obtain ⟨k, hk, rfl, hme, hbw⟩ := hrel.all
    clear hrel
    rw [← HM.out] at hk
    have HME := hid hme
    clear hme
    by_cases hlt : k < M
    · obtain ⟨a, ha⟩ : ∃ a, xs[k]? = some a := ⟨xs[k]'(by rw [← HM.out]; exact hlt), by simp⟩
      obtain ⟨g, off, cap, c, hv, hg, hRc, hc⟩ := (HS.out.below hbw (fun _ _ h => FldG.below hbw _ _ h)).at ha
      have HRc := hid hRc
      obtain ⟨xs1, xk, xn, xd, xm, xc, rfl, hxs, hxr⟩ := hRc
      injection hv with hv1 hv2 hv3
      clear hv2
      subst hv1 hv3
      have c0 := hc 0 _ rfl
      have c1 := hc 1 _ rfl
      have c2 := hc 2 _ rfl
      have c3 := hc 3 _ rfl
      have c4 := hc 4 _ rfl
      simp only [Nat.add_zero] at c0
      have hcall := HT.out a (List.mem_of_getElem? ha) _ wr HRc.out hbw
      have hdr : xs.drop k = a :: xs.drop (k + 1) := by
        rw [List.drop_eq_getElem_cons (by rw [← HM.out]; exact hlt)]
        congr 1
        exact (List.getElem?_eq_some_iff.1 ha).2
      have hstep := HME.out
      rw [hdr, idxF] at hstep
      have HST := hid hstep
      have HB := hid hbw
      clear hc HRc ha hxs hdr hstep hbw HME
      go_wp2_with fail
      refine hcall.mono ?_
      rintro e w2 ⟨rfl, hb2⟩
      have HB2 := hid (below_next HB.out hb2)
      have hst := HST.out
      clear hcall hb2
      cases hP : P a with
      | true =>
        rw [hP, if_pos rfl] at hst
        have hRk : R = (k : Int) := HR.out.trans hst.symm
        subst hRk
        clear hst
        go_wp2
        go_ret
        exact ⟨rfl, HB2.out⟩
      | false =>
        rw [hP, if_neg (by decide)] at hst
        have HS2 := hid hst
        clear hst
        go_wp2
        exact ⟨⟨k + 1, by rw [← HM.out]; omega, by go_num, HS2.out, HB2.out⟩, by simp [intOf]; omega⟩
    · have hke : k = M := by omega
      subst hke
      have hr0 : R = -1 := by
        rw [HR.out, ← HME.out, HM.out, List.drop_length]
        rfl
      subst hr0
      have HB := hid hbw
      clear hbw
      go_wp2
      go_ret
      exact ⟨rfl, HB.out⟩

structure IdxICase (w : World) (xs : List Pl.Cas) (P : Pl.Cas → Bool) (i : Value) (wr : World) : Prop where
  all : ∃ k : Nat, k ≤ xs.length ∧ i = .int .i64 (k : Int) ∧ idxF P (xs.drop k) k = idxF P xs 0 ∧ Below w.heap.size w wr

set_option maxHeartbeats 8000000 in
theorem indexCase_any (ft : Nat) (cv : Value) (hen : ∀ (args : Array Value) (w' : World), (callFunc ft args).run Tryz.prog w' = .ok (.enter ft args) w') (v : Value) (xs : List Pl.Cas) (hx : xs.length ≤ 100000) (P : Pl.Cas → Bool) (w : World) (hS : Rw 2 (CasG) w v xs)
    (ht : ∀ a ∈ xs, ∀ c W, (CasG) a c W → Below w.heap.size w W → Calls Tryz.prog ft #[.agg ⟨c⟩, cv] W fun e w' => e = .returned (.bool (P a)) ∧ Below W.heap.size W w') :
    Calls Tryz.prog 132 #[v, .func (.func ft) #[] #[cv]] w fun e w' => e = .returned (.int .i64 (idxF P xs 0)) ∧ Below w.heap.size w w' := by
  obtain ⟨R, hR⟩ : ∃ R, R = idxF P xs 0 := ⟨_, rfl⟩
  rw [← hR]
  have HR := hid hR
  obtain ⟨ad0, cp0, hvv⟩ := hS.shape
  have HS := hid hS
  have HT := hid ht
  obtain ⟨M, hM⟩ : ∃ M, M = xs.length := ⟨_, rfl⟩
  rw [← hM] at hx hvv
  subst hvv
  have HM : Hid (M = xs.length) := hM
  clear hS ht hM hR
  go_enter Tryz.func132, Tryz.ntmps132
  go_wp2_with fail
  go_loopw [8] (fun i wr => IdxICase w xs P i wr) (fun i _ => M - (intOf i).toNat)
  case atStart => exact ⟨0, Nat.zero_le _, rfl, rfl, Below.refl _ _⟩
  case round =>
    obtain ⟨k, hk, rfl, hme, hbw⟩ := hrel.all
    clear hrel
    rw [← HM.out] at hk
    have HME := hid hme
    clear hme
    by_cases hlt : k < M
    · obtain ⟨a, ha⟩ : ∃ a, xs[k]? = some a := ⟨xs[k]'(by rw [← HM.out]; exact hlt), by simp⟩
      obtain ⟨g, off, cap, c, hv, hg, hRc, hc⟩ := (HS.out.below hbw (fun _ _ h => h)).at ha
      have HRc := hid hRc
      obtain ⟨xs1, rfl, hxs⟩ := hRc
      injection hv with hv1 hv2 hv3
      clear hv2
      subst hv1 hv3
      have c0 := hc 0 _ rfl
      have c1 := hc 1 _ rfl
      simp only [Nat.add_zero] at c0
      have hcall := HT.out a (List.mem_of_getElem? ha) _ wr HRc.out hbw
      have hdr : xs.drop k = a :: xs.drop (k + 1) := by
        rw [List.drop_eq_getElem_cons (by rw [← HM.out]; exact hlt)]
        congr 1
        exact (List.getElem?_eq_some_iff.1 ha).2
      have hstep := HME.out
      rw [hdr, idxF] at hstep
      have HST := hid hstep
      have HB := hid hbw
      clear hc HRc ha hxs hdr hstep hbw HME
      go_wp2_with fail
      refine hcall.mono ?_
      rintro e w2 ⟨rfl, hb2⟩
      have HB2 := hid (below_next HB.out hb2)
      have hst := HST.out
      clear hcall hb2
      cases hP : P a with
      | true =>
        rw [hP, if_pos rfl] at hst
        have hRk : R = (k : Int) := HR.out.trans hst.symm
        subst hRk
        clear hst
        go_wp2
        go_ret
        exact ⟨rfl, HB2.out⟩
      | false =>
        rw [hP, if_neg (by decide)] at hst
        have HS2 := hid hst
        clear hst
        go_wp2
        exact ⟨⟨k + 1, by rw [← HM.out]; omega, by go_num, HS2.out, HB2.out⟩, by simp [intOf]; omega⟩
    · have hke : k = M := by omega
      subst hke
      have hr0 : R = -1 := by
        rw [HR.out, ← HME.out, HM.out, List.drop_length]
        rfl
      subst hr0
      have HB := hid hbw
      clear hbw
      go_wp2
      go_ret
      exact ⟨rfl, HB.out⟩

structure IdxIMethod (w : World) (xs : List Pl.Mth) (P : Pl.Mth → Bool) (i : Value) (wr : World) : Prop where
  all : ∃ k : Nat, k ≤ xs.length ∧ i = .int .i64 (k : Int) ∧ idxF P (xs.drop k) k = idxF P xs 0 ∧ Below w.heap.size w wr

set_option maxHeartbeats 8000000 in
theorem indexMethod_any (ft : Nat) (cv : Value) (hen : ∀ (args : Array Value) (w' : World), (callFunc ft args).run Tryz.prog w' = .ok (.enter ft args) w') (v : Value) (xs : List Pl.Mth) (hx : xs.length ≤ 100000) (P : Pl.Mth → Bool) (w : World) (hS : Rw 8 (MthG) w v xs)
    (ht : ∀ a ∈ xs, ∀ c W, (MthG) a c W → Below w.heap.size w W → Calls Tryz.prog ft #[.agg ⟨c⟩, cv] W fun e w' => e = .returned (.bool (P a)) ∧ Below W.heap.size W w') :
    Calls Tryz.prog 28 #[v, .func (.func ft) #[] #[cv]] w fun e w' => e = .returned (.int .i64 (idxF P xs 0)) ∧ Below w.heap.size w w' := by
  obtain ⟨R, hR⟩ : ∃ R, R = idxF P xs 0 := ⟨_, rfl⟩
  rw [← hR]
  have HR := hid hR
  obtain ⟨ad0, cp0, hvv⟩ := hS.shape
  have HS := hid hS
  have HT := hid ht
  obtain ⟨M, hM⟩ : ∃ M, M = xs.length := ⟨_, rfl⟩
  rw [← hM] at hx hvv
  subst hvv
  have HM : Hid (M = xs.length) := hM
  clear hS ht hM hR
  go_enter Tryz.func28, Tryz.ntmps28
  go_wp2_with fail
  go_loopw [8] (fun i wr => IdxIMethod w xs P i wr) (fun i _ => M - (intOf i).toNat)
  case atStart => exact ⟨0, Nat.zero_le _, rfl, rfl, Below.refl _ _⟩
  case round =>
    obtain ⟨k, hk, rfl, hme, hbw⟩ := hrel.all
    clear hrel
    rw [← HM.out] at hk
    have HME := hid hme
    clear hme
    by_cases hlt : k < M
    · obtain ⟨a, ha⟩ : ∃ a, xs[k]? = some a := ⟨xs[k]'(by rw [← HM.out]; exact hlt), by simp⟩
      obtain ⟨g, off, cap, c, hv, hg, hRc, hc⟩ := (HS.out.below hbw (fun _ _ h => MthG.below hbw _ _ h)).at ha
      have HRc := hid hRc
      obtain ⟨xs1, xk, xn, xd, xm, xc, yk, yn, yd, ym, yc, rfl, hxs, hxr, hyr⟩ := hRc
      injection hv with hv1 hv2 hv3
      clear hv2
      subst hv1 hv3
      have c0 := hc 0 _ rfl
      have c1 := hc 1 _ rfl
      have c2 := hc 2 _ rfl
      have c3 := hc 3 _ rfl
      have c4 := hc 4 _ rfl
      have c5 := hc 5 _ rfl
      have c6 := hc 6 _ rfl
      have c7 := hc 7 _ rfl
      simp only [Nat.add_zero] at c0
      have hcall := HT.out a (List.mem_of_getElem? ha) _ wr HRc.out hbw
      have hdr : xs.drop k = a :: xs.drop (k + 1) := by
        rw [List.drop_eq_getElem_cons (by rw [← HM.out]; exact hlt)]
        congr 1
        exact (List.getElem?_eq_some_iff.1 ha).2
      have hstep := HME.out
      rw [hdr, idxF] at hstep
      have HST := hid hstep
      have HB := hid hbw
      clear hc HRc ha hxs hdr hstep hbw HME
      go_wp2_with fail
      refine hcall.mono ?_
      rintro e w2 ⟨rfl, hb2⟩
      have HB2 := hid (below_next HB.out hb2)
      have hst := HST.out
      clear hcall hb2
      cases hP : P a with
      | true =>
        rw [hP, if_pos rfl] at hst
        have hRk : R = (k : Int) := HR.out.trans hst.symm
        subst hRk
        clear hst
        go_wp2
        go_ret
        exact ⟨rfl, HB2.out⟩
      | false =>
        rw [hP, if_neg (by decide)] at hst
        have HS2 := hid hst
        clear hst
        go_wp2
        exact ⟨⟨k + 1, by rw [← HM.out]; omega, by go_num, HS2.out, HB2.out⟩, by simp [intOf]; omega⟩
    · have hke : k = M := by omega
      subst hke
      have hr0 : R = -1 := by
        rw [HR.out, ← HME.out, HM.out, List.drop_length]
        rfl
      subst hr0
      have HB := hid hbw
      clear hbw
      go_wp2
      go_ret
      exact ⟨rfl, HB.out⟩
end Go.Proofs.YtdbgncdnffbhkaaGreatDoor

namespace Go.Proofs.YtdbgncdnffbhkaaGreatDoor
open Go.RowKit
set_option maxRecDepth 20000

def nmIs {α : Type} (x : List Nat) (a : List Nat × α) : Bool := decide (a.1 = x)
/-- The kind and the place of a name. -/
def fnd (st : List (List Nat × List Pl.Fld)) (en : List (List Nat × List Pl.Cas)) (sv : List (List Nat × List Pl.Mth)) (x : List Nat) : Int × Int :=
  if 0 ≤ idxF (nmIs x) st 0 then (1, idxF (nmIs x) st 0) else if 0 ≤ idxF (nmIs x) en 0 then (2, idxF (nmIs x) en 0) else if 0 ≤ idxF (nmIs x) sv 0 then (3, idxF (nmIs x) sv 0) else (0, 0)

theorem idxF_ge {α : Type} (P : α → Bool) : ∀ (l : List α) (k : Nat), idxF P l k = -1 ∨ (k : Int) ≤ idxF P l k := by
  intro l
  induction l with
  | nil => intro k; exact .inl rfl
  | cons a r ih =>
    intro k
    unfold idxF
    split
    · right; omega
    · rcases ih (k + 1) with h | h
      · exact .inl h
      · right; omega
theorem idxF_at {α : Type} (P : α → Bool) : ∀ (l : List α) (k : Nat), 0 ≤ idxF P l k → ∃ i a, l[i]? = some a ∧ P a = true ∧ idxF P l k = ((k + i : Nat) : Int) := by
  intro l
  induction l with
  | nil => intro k h; simp [idxF] at h
  | cons a r ih =>
    intro k h
    unfold idxF at h ⊢
    by_cases hP : P a = true
    · rw [if_pos hP]
      exact ⟨0, a, rfl, hP, rfl⟩
    · rw [if_neg hP] at h ⊢
      obtain ⟨i, b, h1, h2, h3⟩ := ih (k + 1) h
      exact ⟨i + 1, b, by simpa using h1, h2, by rw [h3]; congr 1; omega⟩
theorem fnd_one {st : List (List Nat × List Pl.Fld)} {en : List (List Nat × List Pl.Cas)} {sv : List (List Nat × List Pl.Mth)} {x : List Nat} (h : (fnd st en sv x).1 = 1) : ∃ (i : Nat) (a : List Nat × List Pl.Fld), st[i]? = some a ∧ a.1 = x ∧ (fnd st en sv x).2 = (i : Int) := by
  unfold fnd at h ⊢
  by_cases h0 : 0 ≤ idxF (nmIs x) st 0
  · rw [if_pos h0]
    obtain ⟨i, a, h1, h2, h3⟩ := idxF_at _ _ _ h0
    exact ⟨i, a, h1, of_decide_eq_true h2, by simpa using h3⟩
  · rw [if_neg h0] at h
    split at h
    · simp at h
    · split at h <;> simp at h

/-- What is measured: the most that may be, what else than a struct counts, how two are joined. -/
structure Mea where
  most : Int
  above : Int
  other : Int
  join : Int → Int → Int
abbrev Kn := Nat → Option Int
def Kn.set (k : Kn) (i : Nat) (v : Int) : Kn := fun j => if j = i then some v else k j
def mTy (M : Mea) (find : List Nat → Int × Int) (rec : Kn → Nat → Option (Int × Kn)) (k : Kn) : Pl.Ty → Option (Int × Kn)
  | .named x => if (find x).1 = 1 then rec k (find x).2.toNat else some (M.other, k)
  | _ => some (M.other, k)
def mFs (M : Mea) (find : List Nat → Int × Int) (rec : Kn → Nat → Option (Int × Kn)) : List Pl.Fld → Int → Kn → Option (Int × Kn)
  | [], v, k => some (v, k)
  | f :: r, v, k => match mTy M find rec k f.ty with
    | none => none
    | some (x, k') => mFs M find rec r (M.join v x) k'
def mOf (M : Mea) (find : List Nat → Int × Int) (st : List (List Nat × List Pl.Fld)) : Nat → Kn → Nat → Option (Int × Kn)
  | 0, _, _ => none
  | n + 1, k, i => match k i with
    | some v => if 0 < v then some (v, k) else none
    | none => match mFs M find (mOf M find st n) ((st[i]?).getD ([], [])).2 0 (k.set i 0) with
      | none => none
      | some (v, k') => if v + 1 ≤ M.most then some (v + 1, k'.set i (v + 1)) else none
def mAll (M : Mea) (find : List Nat → Int × Int) (st : List (List Nat × List Pl.Fld)) : List Nat → Kn → Bool
  | [], _ => true
  | i :: r, k => match mOf M find st (st.length + 1) k i with
    | none => false
    | some (_, k') => mAll M find st r k'

/-- How many are not known yet. -/
def unm (L : Nat) (k : Kn) : Nat := (List.range L).countP (fun i => (k i).isNone)
def More (k k' : Kn) : Prop := ∀ i, (k i).isSome = true → (k' i).isSome = true
theorem More.refl (k : Kn) : More k k := fun _ h => h
theorem More.trans {a b c : Kn} (h : More a b) (g : More b c) : More a c := fun i hi => g i (h i hi)
theorem More.set (k : Kn) (i : Nat) (v : Int) : More k (k.set i v) := by
  intro j hj
  unfold Kn.set
  split
  · rfl
  · exact hj
theorem More.unm {k k' : Kn} (h : More k k') (L : Nat) : unm L k' ≤ unm L k := by
  unfold Go.Proofs.YtdbgncdnffbhkaaGreatDoor.unm
  refine List.countP_mono_left fun i _ hi => ?_
  cases hk : k i with
  | none => rfl
  | some v =>
    have := h i (by rw [hk]; rfl)
    cases hk' : k' i with
    | none => rw [hk'] at this; simp at this
    | some v' => rw [hk'] at hi; simp at hi
theorem unm_set {L i : Nat} {k : Kn} (hi : i < L) (hk : k i = none) (v : Int) : unm L (k.set i v) < unm L k := by
  unfold unm
  refine countP_lt _ _ _ ?_ ⟨i, List.mem_range.2 hi, by rw [hk]; rfl, by simp [Kn.set]⟩
  intro j _ hj
  cases hkj : k j with
  | none => rfl
  | some v' =>
    exfalso
    unfold Kn.set at hj
    split at hj
    · simp at hj
    · rw [hkj] at hj; simp at hj

/-- What was worked out is from 1 to the most. -/
def KnOk (M : Mea) (k : Kn) : Prop := ∀ i v, k i = some v → 0 ≤ v ∧ v ≤ M.most
theorem KnOk.set {M : Mea} {k : Kn} (h : KnOk M k) {i : Nat} {v : Int} (h0 : 0 ≤ v) (h1 : v ≤ M.most) : KnOk M (k.set i v) := by
  intro j u hj
  unfold Kn.set at hj
  split at hj
  · cases hj; exact ⟨h0, h1⟩
  · exact h j u hj
end Go.Proofs.YtdbgncdnffbhkaaGreatDoor

namespace Go.Proofs.YtdbgncdnffbhkaaGreatDoor
open Go.RowKit
set_option maxRecDepth 20000

theorem str_dec (s x : ByteArray) : (s.toList == x.toList) = decide (bl s = bl x) := by
  by_cases h : s = x
  · subst h
    simp
  · rw [str_no h, decide_eq_false (fun hh => h (bl_inj hh))]

set_option maxHeartbeats 2000000 in
theorem find1_any (s x : ByteArray) (v : Value) (q : Nat) (w : World) (hq : Bx w q [.string x] 9) : Calls Tryz.prog 35 #[.agg #[.string s, v], .pointer (some ⟨q, 0, none⟩)] w fun e w' => e = .returned (.bool (decide (bl s = bl x))) ∧ Below w.heap.size w w' := by
  have hb := below_alloc w (.cells #[.string s, v] 60)
  have c0 := (hq.alloc (.cells #[.string s, v] 60)).cell 0 rfl
  have hdec : (s.toList == x.toList) = decide (bl s = bl x) := str_dec s x
  rw [← hdec]
  clear hdec
  go_enter Tryz.func35, Tryz.ntmps35
  go_wp2
  go_ret
  exact ⟨rfl, hb⟩

set_option maxHeartbeats 2000000 in
theorem find2_any (s x : ByteArray) (v : Value) (q : Nat) (w : World) (hq : Bx w q [.string x] 9) : Calls Tryz.prog 37 #[.agg #[.string s, v], .pointer (some ⟨q, 0, none⟩)] w fun e w' => e = .returned (.bool (decide (bl s = bl x))) ∧ Below w.heap.size w w' := by
  have hb := below_alloc w (.cells #[.string s, v] 64)
  have c0 := (hq.alloc (.cells #[.string s, v] 64)).cell 0 rfl
  have hdec : (s.toList == x.toList) = decide (bl s = bl x) := str_dec s x
  rw [← hdec]
  clear hdec
  go_enter Tryz.func37, Tryz.ntmps37
  go_wp2
  go_ret
  exact ⟨rfl, hb⟩

set_option maxHeartbeats 2000000 in
theorem find3_any (s x : ByteArray) (v : Value) (q : Nat) (w : World) (hq : Bx w q [.string x] 9) : Calls Tryz.prog 39 #[.agg #[.string s, v], .pointer (some ⟨q, 0, none⟩)] w fun e w' => e = .returned (.bool (decide (bl s = bl x))) ∧ Below w.heap.size w w' := by
  have hb := below_alloc w (.cells #[.string s, v] 67)
  have c0 := (hq.alloc (.cells #[.string s, v] 67)).cell 0 rfl
  have hdec : (s.toList == x.toList) = decide (bl s = bl x) := str_dec s x
  rw [← hdec]
  clear hdec
  go_enter Tryz.func39, Tryz.ntmps39
  go_wp2
  go_ret
  exact ⟨rfl, hb⟩

set_option maxHeartbeats 8000000 in
theorem Find_any (st : List (List Nat × List Pl.Fld)) (en : List (List Nat × List Pl.Cas)) (sv : List (List Nat × List Pl.Mth)) (hl : st.length ≤ 1000 ∧ en.length ≤ 1000 ∧ sv.length ≤ 1000) (s1 s2 s3 : Value) (x : ByteArray) (w : World) (hS : SchG st en sv s1 s2 s3 w) :
    Calls Tryz.prog 15 #[.agg #[s1, s2, s3], .string x] w fun e w' => e = .returned (.tuple #[.int .i64 (fnd st en sv (bl x)).1, .int .i64 (fnd st en sv (bl x)).2]) ∧ Below w.heap.size w w' := by
  obtain ⟨F1, F2, hF⟩ : ∃ F1 F2, fnd st en sv (bl x) = (F1, F2) := ⟨_, _, rfl⟩
  rw [hF]
  have HF := hid hF
  obtain ⟨hl1, hl2, hl3⟩ := hl
  have hmf : ∀ (fn : Fn) (first cap : Array Value) (w : World), (Instr.makeFunc fn first cap).run Tryz.prog w = .ok (.func fn first cap) w := fun _ _ _ _ => rfl
  obtain ⟨w1, hw1⟩ : ∃ w1, w1 = w.alloc (.cells #[s1, s2, s3] 26) := ⟨_, rfl⟩
  obtain ⟨w2, hw2⟩ : ∃ w2, w2 = w1.alloc (.cells #[.string x] 9) := ⟨_, rfl⟩
  have hz1 : w1.heap.size = w.heap.size + 1 := by rw [hw1]; simp
  have hb1 : Below w.heap.size w w1 := by rw [hw1]; exact below_alloc w _
  have hb2 : Below w.heap.size w w2 := below_next hb1 (by rw [hw2]; exact below_alloc w1 _)
  have hB1 : Bx w2 w.heap.size [s1, s2, s3] 26 := by rw [hw2, hw1]; exact (Bx.new w _ _).alloc _
  have hB2 : Bx w2 (w.heap.size + 1) [.string x] 9 := by rw [hw2]; exact Bx.newAt hz1.symm _ _
  have hS2 := hS.below hb2
  obtain ⟨a1, c1, a2, c2, a3, c3, rfl, rfl, rfl⟩ := hS.shape
  have hE1 : ∀ W, Below w2.heap.size w2 W → Calls Tryz.prog 34 #[(.slice a1 st.length c1), .func (.func 35) #[] #[.pointer (some ⟨w.heap.size + 1, 0, none⟩)]] W fun e w' => e = .returned (.int .i64 (idxF (nmIs (bl x)) st 0)) ∧ Below W.heap.size W w' := fun W hW => indexStruct_any 35 (.pointer (some ⟨w.heap.size + 1, 0, none⟩)) (fun _ _ => rfl) (.slice a1 st.length c1) st (by omega) (nmIs (bl x)) W (hS2.below hW).1 (by
    rintro a ha c W' ⟨s, ad, m, cp, rfl, hs, hr⟩ hb
    refine (find1_any s x _ (w.heap.size + 1) W' (hB2.below (below_next hW hb))).mono ?_
    rintro e w' ⟨rfl, hb'⟩
    refine ⟨?_, hb'⟩
    unfold nmIs
    rw [hs])
  have hE2 : ∀ W, Below w2.heap.size w2 W → Calls Tryz.prog 36 #[(.slice a2 en.length c2), .func (.func 37) #[] #[.pointer (some ⟨w.heap.size + 1, 0, none⟩)]] W fun e w' => e = .returned (.int .i64 (idxF (nmIs (bl x)) en 0)) ∧ Below W.heap.size W w' := fun W hW => indexEnum_any 37 (.pointer (some ⟨w.heap.size + 1, 0, none⟩)) (fun _ _ => rfl) (.slice a2 en.length c2) en (by omega) (nmIs (bl x)) W (hS2.below hW).2.1 (by
    rintro a ha c W' ⟨s, ad, m, cp, rfl, hs, hr⟩ hb
    refine (find2_any s x _ (w.heap.size + 1) W' (hB2.below (below_next hW hb))).mono ?_
    rintro e w' ⟨rfl, hb'⟩
    refine ⟨?_, hb'⟩
    unfold nmIs
    rw [hs])
  have hE3 : ∀ W, Below w2.heap.size w2 W → Calls Tryz.prog 38 #[(.slice a3 sv.length c3), .func (.func 39) #[] #[.pointer (some ⟨w.heap.size + 1, 0, none⟩)]] W fun e w' => e = .returned (.int .i64 (idxF (nmIs (bl x)) sv 0)) ∧ Below W.heap.size W w' := fun W hW => indexService_any 39 (.pointer (some ⟨w.heap.size + 1, 0, none⟩)) (fun _ _ => rfl) (.slice a3 sv.length c3) sv (by omega) (nmIs (bl x)) W (hS2.below hW).2.2 (by
    rintro a ha c W' ⟨s, ad, m, cp, rfl, hs, hr⟩ hb
    refine (find3_any s x _ (w.heap.size + 1) W' (hB2.below (below_next hW hb))).mono ?_
    rintro e w' ⟨rfl, hb'⟩
    refine ⟨?_, hb'⟩
    unfold nmIs
    rw [hs])
  have q0 := hB1.cell 0 rfl
  have HE1 := hid hE1
  have HE2 := hid hE2
  have HE3 := hid hE3
  have HB1 := hid hB1
  have Hb2 := hid hb2
  have HW1 := hid hw1
  have HW2 := hid hw2
  have hff := HF.out
  unfold fnd at hff
  have HFF := hid hff
  generalize st.length = l1 at *
  generalize en.length = l2 at *
  generalize sv.length = l3 at *
  obtain ⟨I1, hI1⟩ : ∃ I, I = idxF (nmIs (bl x)) st 0 := ⟨_, rfl⟩
  obtain ⟨I2, hI2⟩ : ∃ I, I = idxF (nmIs (bl x)) en 0 := ⟨_, rfl⟩
  obtain ⟨I3, hI3⟩ : ∃ I, I = idxF (nmIs (bl x)) sv 0 := ⟨_, rfl⟩
  rw [← hI1] at HE1 HFF
  rw [← hI2] at HE2 HFF
  rw [← hI3] at HE3 HFF
  clear hE1 hE2 hE3 hB1 hb2 hw1 hw2 hS2 hB2 hS hb1 hz1 hF HF hff hI1 hI2 hI3
  go_enter Tryz.func15, Tryz.ntmps15
  go_wp2_with fail
  rw [← HW1.out, ← HW2.out]
  clear HW1 HW2
  go_wp2_with fail
  refine (HE1.out w2 (Below.refl _ _)).mono ?_
  rintro e w3 ⟨rfl, hb3⟩
  have HB3 := hid hb3
  have q1 := (HB1.out.below hb3).cell 1 rfl
  have hff := HFF.out
  clear hb3 HE1 q0
  by_cases h1 : 0 ≤ I1
  · rw [if_pos h1] at hff
    cases hff
    have HL := hid (below_next Hb2.out HB3.out)
    go_wp2_with fail
    go_ret2
    exact ⟨rfl, HL.out⟩
  · rw [if_neg h1] at hff
    have HFF2 := hid hff
    clear hff
    go_wp2_with fail
    refine (HE2.out w3 HB3.out).mono ?_
    rintro e w4 ⟨rfl, hb4⟩
    have HB4 := hid (below_next HB3.out hb4)
    have q2 := (HB1.out.below HB4.out).cell 2 rfl
    have hff := HFF2.out
    clear hb4 HE2 q1
    by_cases h2 : 0 ≤ I2
    · rw [if_pos h2] at hff
      cases hff
      have HL := hid (below_next Hb2.out HB4.out)
      go_wp2_with fail
      go_ret2
      exact ⟨rfl, HL.out⟩
    · rw [if_neg h2] at hff
      have HFF3 := hid hff
      clear hff
      go_wp2_with fail
      refine (HE3.out w4 HB4.out).mono ?_
      rintro e w5 ⟨rfl, hb5⟩
      have HB5 := hid (below_next HB4.out hb5)
      have hff := HFF3.out
      have HL := hid (below_next Hb2.out HB5.out)
      clear hb5 HE3 q2
      by_cases h3 : 0 ≤ I3
      · rw [if_pos h3] at hff
        cases hff
        go_wp2_with fail
        go_ret2
        exact ⟨rfl, HL.out⟩
      · rw [if_neg h3] at hff
        cases hff
        go_wp2_with fail
        go_ret2
        exact ⟨rfl, HL.out⟩
end Go.Proofs.YtdbgncdnffbhkaaGreatDoor

namespace Go.Proofs.YtdbgncdnffbhkaaGreatDoor
open Go.RowKit
set_option maxRecDepth 20000
open Go.Maps

theorem gb_below {b : Nat} {w w' : World} (h : Below w.heap.size w w') : w.grownBy w' (some b) := ⟨h.os, h.tape, h.output, h.size, fun k hk _ => h.block k hk⟩
theorem Bx.grown {w w' : World} {b m : Nat} {cs : List Value} {T : TypeId} (h : Bx w b cs T) (hg : w.grownBy w' (some m)) (hne : b ≠ m) : Bx w' b cs T := (hg.block b h.lt (by simpa using hne)).trans h

theorem ikeyed : Keyed Tryz.prog 3 := int_keyed Tryz.underlying3
/-- A map of numbers, of N entries at most. -/
def MpI (w : World) (b N : Nat) (k : Kn) : Prop :=
  ∃ D, w.ownsMap (H := Unit) Tryz.prog 3 (plainElem Tryz.prog 3) b N D ∧ IsMap D ∧ ∀ i : Nat, i ≤ 100000 → D.atKey (.int .i64 (i : Int)) (.lit (.int .i64 0)) = .lit (.int .i64 ((k i).getD 0)) ∧ Maps.has D (.int .i64 (i : Int)) = (k i).isSome
theorem MpI.made (w : World) : MpI (w.alloc (.map #[] 0)) w.heap.size 0 (fun _ => none) :=
  ⟨.map [], World.ownsMap_made _ _ _ _, isMap_empty, fun i _ => ⟨by simp [DataW.atKey], by rw [has_eq]; rfl⟩⟩
theorem MpI.below {w w' : World} {b N : Nat} {k : Kn} (h : MpI w b N k) (hb : Below w.heap.size w w') : MpI w' b N k := by
  obtain ⟨D, h1, h2, h3⟩ := h
  exact ⟨D, h1.kept (row := none) ⟨hb.os, hb.tape, hb.output, hb.size, fun k hk _ => hb.block k hk⟩ (by simp), h2, h3⟩
theorem MpI.lt {w : World} {b N : Nat} {k : Kn} (h : MpI w b N k) : b < w.heap.size := by
  obtain ⟨D, h1, _⟩ := h
  exact h1.lt
theorem small_wf {x : Int} (h0 : 0 ≤ x) (h1 : x ≤ 10000000) : (Lit.int .i64 x).wf = true := by
  have := wrap64_wf x
  have e : wrap64 x = x := by unfold wrap64; omega
  rwa [e] at this
theorem ikey {i : Nat} (hi : i ≤ 100000) : keyOf Tryz.prog 3 (.int .i64 (i : Int)) = some (.int .i64 (i : Int)) := keyOf_int_mk Tryz.underlying3 (small_wf (by omega) (by omega))
theorem MpI.look {w : World} {b N : Nat} {k : Kn} (h : MpI w b N k) {i : Nat} (hi : i ≤ 100000) : (Instr.lookup 119 (.map (some b)) (.int .i64 (i : Int)) true).run Tryz.prog w = .ok (.tuple #[.int .i64 ((k i).getD 0), .bool (k i).isSome]) w := by
  obtain ⟨D, h1, h2, h3⟩ := h
  obtain ⟨v, ps, hrun, hv⟩ := h1.look_ok (t := 119) ikeyed Tryz.underlying119 (zero3 w) (plainElem_int (H := Unit) (P := Tryz.prog) Tryz.underlying3 (by decide)) (ikey hi)
  rw [(h3 i hi).1] at hv
  obtain ⟨c, rfl, hc, _⟩ := plainElem_int_inv Tryz.underlying3 hv
  rw [hrun, (h3 i hi).2]
  simp only [Prod.mk.injEq] at hc
  have h4 := hc.1
  injection h4 with h5
  injection h5 with _ h6
  rw [h6]
theorem MpI.store {w : World} {b N : Nat} {k : Kn} (h : MpI w b N k) (hN : N ≤ 1000000) {i : Nat} (hi : i ≤ 100000) {v : Int} (hv : (Lit.int .i64 v).wf = true) : ∃ w', (Instr.mapUpdate 119 (.map (some b)) (.int .i64 (i : Int)) (.int .i64 v)).run Tryz.prog w = .ok () w' ∧ MpI w' b (N + 1) (k.set i v) ∧ w.grownBy w' (some b) := by
  obtain ⟨D, h1, h2, h3⟩ := h
  obtain ⟨w', hrun, hown, ht⟩ := h1.store (t := 119) ikeyed Tryz.underlying119 (by unfold maxLen; omega) (ikey hi) (plainElem_int (H := Unit) (P := Tryz.prog) Tryz.underlying3 hv)
  refine ⟨w', hrun, ⟨_, hown, h2.put _ _, fun j hj => ?_⟩, ht.grown⟩
  by_cases hji : j = i
  · subst hji
    rw [atKey_put_same h2 (by simp [WideAt.IsKeyLit]), has_put_same h2 (by simp [WideAt.IsKeyLit])]
    simp [Kn.set]
  · have hne : (Lit.int .i64 (j : Int)) ≠ .int .i64 (i : Int) := fun h => by injection h with _ h; omega
    rw [atKey_put_other hne, has_put_other hne, (h3 j hj).1, (h3 j hj).2]
    simp [Kn.set, hji]

/-- What is measured, and where: all that stays. -/
structure MeaC (M : Mea) (jf : Nat) (st : List (List Nat × List Pl.Fld)) (en : List (List Nat × List Pl.Cas)) (sv : List (List Nat × List Pl.Mth)) (p b : Nat) (w0 : World) (s1 s2 s3 : Value) : Prop where
  sch : SchG st en sv s1 s2 s3 w0
  len : st.length ≤ 1000 ∧ en.length ≤ 1000 ∧ sv.length ≤ 1000
  nm : ∀ a ∈ st, a.2.length ≤ 1000 ∧ ∀ f ∈ a.2, fldNm f
  base : w0.heap.size ≤ b
  apart : p ≠ b
  enter : ∀ (args : Array Value) (w' : World), (callFunc jf args).run Tryz.prog w' = .ok (.enter jf args) w'
  join : ∀ (x y : Int) (W : World), 0 ≤ x → x ≤ 1000000 → 0 ≤ y → y ≤ 1000 → Calls Tryz.prog jf #[.int .i64 x, .int .i64 y] W fun e w' => e = .returned (.int .i64 (M.join x y)) ∧ Below W.heap.size W w'
  most : 0 ≤ M.most ∧ M.most ≤ 1000
  other : 0 ≤ M.other ∧ M.other ≤ 1000
  bound : ∀ (x y : Int), 0 ≤ x → 0 ≤ y → y ≤ 1000 → 0 ≤ M.join x y ∧ M.join x y ≤ x + 1000
structure MeaW (M : Mea) (jf p b : Nat) (w0 : World) (s1 s2 s3 : Value) (w : World) : Prop where
  old : Below w0.heap.size w0 w
  box : Bx w p [s1, s2, s3, .map (some b), .int .i64 M.most, .int .i64 M.above, .int .i64 M.other, .func (.func jf) #[] #[]] 122
theorem MeaW.grown {M : Mea} {jf p b : Nat} {w0 w w' : World} {s1 s2 s3 : Value} (h : MeaW M jf p b w0 s1 s2 s3 w) (hg : w.grownBy w' (some b)) (hb : w0.heap.size ≤ b) (hp : p ≠ b) : MeaW M jf p b w0 s1 s2 s3 w' :=
  ⟨h.old.grown hg h.old.size (fun k hk => by cases hk; exact hb), h.box.grown hg hp⟩

def OfR (M : Mea) (b L C : Nat) (w : World) (k : Kn) (r : Option (Int × Kn)) (e : Ending) (w' : World) : Prop :=
  w.grownBy w' (some b) ∧ match r with
    | none => e = .panicked (errp M.above)
    | some (v, k') => e = .returned (.int .i64 v) ∧ 0 ≤ v ∧ v ≤ 1000 ∧ More k k' ∧ KnOk M k' ∧ ∃ N', MpI w' b N' k' ∧ N' + 2 * unm L k' ≤ C

set_option maxHeartbeats 8000000 in
theorem ofType_any {M : Mea} {jf p b : Nat} {st : List (List Nat × List Pl.Fld)} {en : List (List Nat × List Pl.Cas)} {sv : List (List Nat × List Pl.Mth)} {w0 : World} {s1 s2 s3 : Value} (hC : MeaC M jf st en sv p b w0 s1 s2 s3) (C N : Nat) (rec : Kn → Nat → Option (Int × Kn)) (k : Kn) (w : World) (hW : MeaW M jf p b w0 s1 s2 s3 w) (hm : MpI w b N k) (hN : N + 2 * unm st.length k ≤ C) (hk : KnOk M k) (t : Pl.Ty) (hnm : tyNm t) (kd : Int) (s : ByteArray) (ad : Option Addr) (m cp : Nat) (hty : TyG w t (.int .i64 kd) (.string s) (.slice ad m cp))
    (hrec : ∀ (i : Nat) (W : World), i < st.length → Below w.heap.size w W → Calls Tryz.prog 32 #[.pointer (some ⟨p, 0, none⟩), .int .i64 (i : Int)] W (OfR M b st.length C W k (rec k i))) :
    Calls Tryz.prog 64 #[.pointer (some ⟨p, 0, none⟩), .agg #[.int .i64 kd, .string s, .slice ad m cp]] w (OfR M b st.length C w k (mTy M (fnd st en sv) rec k t)) := by
  obtain ⟨R, hR⟩ : ∃ R, R = mTy M (fnd st en sv) rec k t := ⟨_, rfl⟩
  rw [← hR]
  obtain ⟨hkd, ⟨s', hs', hsn⟩, _⟩ := hty.parts
  cases hs'
  injection hkd with _ hkd
  have hb1 := below_alloc w (.cells #[.int .i64 kd, .string s, .slice ad m cp] 34)
  have hB1 := hW.box.below hb1
  have x0 := hB1.cell 0 rfl
  have x1 := hB1.cell 1 rfl
  have x2 := hB1.cell 2 rfl
  have x6 := hB1.cell 6 rfl
  obtain ⟨a1, c1, a2, c2, a3, c3, rfl, rfl, rfl⟩ := hC.sch.shape
  have hother : ∀ (W : World), Below w.heap.size w W → R = some (M.other, k) → OfR M b st.length C w k R (.returned (.int .i64 M.other)) W := by
    rintro W hb rfl
    exact ⟨gb_below hb, rfl, hC.other.1, hC.other.2, More.refl _, hk, N, hm.below hb, hN⟩
  have HO := hid hother
  have HREC := hid hrec
  have HC := hid hC
  have HW := hid hW
  have HR := hid hR
  have Hb1 := hid hb1
  clear hother hrec hB1 hty hW hm hN hR hb1
  by_cases h8 : kd = 8
  · subst h8
    have hSA : SchG st en sv (.slice a1 st.length c1) (.slice a2 en.length c2) (.slice a3 sv.length c3) (w.alloc (.cells #[.int .i64 8, .string s, .slice ad m cp] 34)).drew := HC.out.sch.below (HW.out.old.trans (Hb1.out.drew.mono HW.out.old.size))
    have hF := Find_any st en sv HC.out.len _ _ _ s _ hSA
    have hRt : R = if (fnd st en sv (bl s)).1 = 1 then rec k (fnd st en sv (bl s)).2.toNat else some (M.other, k) := by
      rw [HR.out]
      cases t with
      | plain q => simp [kindOf] at hkd; exact absurd (by omega) hnm
      | named x =>
        have : bl s = x := hsn
        rw [this]
        rfl
      | list t => simp [kindOf] at hkd
      | opt t => simp [kindOf] at hkd
    have hone := fnd_one (st := st) (en := en) (sv := sv) (x := bl s)
    obtain ⟨F1, F2, hFe⟩ : ∃ F1 F2, fnd st en sv (bl s) = (F1, F2) := ⟨_, _, rfl⟩
    rw [hFe] at hF hRt hone
    have HF := hid hF
    have HD := hid Hb1.out.drew
    by_cases h1 : F1 = 1
    · subst h1
      obtain ⟨i, a, hi, _, hF2⟩ := hone rfl
      have hil := (List.getElem?_eq_some_iff.1 hi).1
      simp only at hF2
      subst hF2
      have hRr : R = rec k i := by rw [hRt, if_pos rfl]; rfl
      subst hRr
      generalize st.length = l1 at *
      generalize en.length = l2 at *
      generalize sv.length = l3 at *
      clear hF hone hFe hSA hC HC HR hkd hsn hi hRt HO
      go_enter Tryz.func64, Tryz.ntmps64
      go_wp2_with fail
      go_region_with (refine HF.out.mono ?_; rintro e w2 ⟨rfl, hb2⟩)
      all_goals (
        have HB2 := hid (below_next HD.out hb2)
        clear hb2
        go_wp2_with fail
        refine (HREC.out i w2 hil HB2.out).mono ?_
        rintro e w3 ⟨hg3, hres⟩
        have HG3 := hid (gb_trans (gb_below HB2.out) hg3)
        cases hrr : rec k i with
        | none =>
          rw [hrr] at hres
          simp only at hres
          subst hres
          exact ⟨rfl, HG3.out, rfl⟩
        | some q =>
          obtain ⟨v, k'⟩ := q
          rw [hrr] at hres
          obtain ⟨rfl, hv⟩ := hres
          have HV := hid hv
          clear hv hg3
          go_wp2_with fail
          go_ret
          refine ⟨HG3.out, ?_⟩
          rw [hrr]
          exact ⟨rfl, HV.out⟩)
    · have hRo : R = some (M.other, k) := by rw [hRt, if_neg h1]
      have HL : Hid (∀ W, Below w.heap.size w W → OfR M b st.length C w k R (.returned (.int .i64 M.other)) W) := fun W hb => HO.out W hb hRo
      have HBB := hid (HW.out.box)
      generalize st.length = l1 at *
      generalize en.length = l2 at *
      generalize sv.length = l3 at *
      clear hF hone hFe hSA hC HC HR hkd hsn hRt HO hRo
      go_enter Tryz.func64, Tryz.ntmps64
      go_wp2_with fail
      go_region_with (refine HF.out.mono ?_; rintro e w2 ⟨rfl, hb2⟩)
      all_goals (
        have HB2 := hid (below_next HD.out hb2)
        have y6 := (HBB.out.below HB2.out).cell 6 rfl
        clear hb2
        go_wp2_with fail
        go_ret
        exact HL.out _ HB2.out)
  · have hRt : R = some (M.other, k) := by
      rw [HR.out]
      cases t with
      | plain q => rfl
      | named x => simp [kindOf] at hkd; omega
      | list t => rfl
      | opt t => rfl
    have HL := hid (HO.out _ Hb1.out hRt)
    clear hkd hRt HC
    go_enter Tryz.func64, Tryz.ntmps64
    go_wp2_with fail
    go_ret
    exact HL.out
end Go.Proofs.YtdbgncdnffbhkaaGreatDoor

