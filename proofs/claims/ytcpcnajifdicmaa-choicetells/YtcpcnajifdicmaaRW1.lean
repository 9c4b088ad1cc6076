/- ring: once round the points. -/
import Derived.Test.YtcpcnajifdicmaaRH
namespace Go.Proofs.Ytcpcnajifdicmaa
open Go.RowKit Go.Sort Go.Shelf
attribute [local go_sem] Oper.semAt_some

abbrev I64 := { x : Int // (Lit.int .i64 x).wf = true }
/-- What a round of Walk keeps: all below n₀, and boxes of slices of points. -/
def KpW (n₀ : Nat) (W W' : World) : Prop := Below n₀ W W' ∧ ∀ (b : Nat) c f, W.heap[b]? = some (.cells c 24 f) → W'.heap[b]? = some (.cells c 24 f)
def RF' (g off N cap B1 : Nat) (r : List Rp.Pt) (W : World) : Prop := W.heap[B1]? = some (.cells #[.slice (some ⟨g, off, none⟩) N cap] 24 (0, 0)) ∧ ∀ i, i < N → W.cell? ⟨g, off + i * 2 + 1, none⟩ = some (.int .i64 (r.getD i (0, 0)).2)
theorem RF'.cell {g off N cap B1 : Nat} {r : List Rp.Pt} {W : World} (h : RF' g off N cap B1 r W) : W.cell? ⟨B1, 0, none⟩ = some (.slice (some ⟨g, off, none⟩) N cap) := by simp [World.cell?, h.1]
theorem RF'.kept {g off N cap B1 n₀ : Nat} {r : List Rp.Pt} {W W' : World} (h : RF' g off N cap B1 r W) (hg : g < n₀) (hk : KpW n₀ W W') : RF' g off N cap B1 r W' := ⟨hk.2 _ _ _ h.1, fun i hi => (hk.1.cell (p := ⟨g, off + i * 2 + 1, none⟩) hg).trans (h.2 i hi)⟩
def RPost (J Jx : List I64 → World → Prop) (xs : List I64) (g off N cap B1 : Nat) (r : List Rp.Pt) (b : Bool) (W : World) : Prop := (b = true ∧ J xs W ∧ RF' g off N cap B1 r W) ∨ (b = false ∧ Jx xs W)

theorem run_addI {a : Act} {o : Oper} {s t : Nat} {w : World} {x y z : Int} (hop : o.op = .binOp .add 3 (.tmp s) (.tmp t) 3) (hs : a.eval (.tmp s) = .int .i64 x) (ht : a.eval (.tmp t) = .int .i64 y) (hz : IntKind.i64.wrap (x + y) = z) : (execOp a.eval o).run Try.prog w = .ok (.value (.int .i64 z)) w := by
  rw [← hz]
  simp only [execOp, hop, hs, ht]
  go_simp
theorem run_remI {a : Act} {o : Oper} {s t : Nat} {w : World} {x y z : Int} (hop : o.op = .binOp .rem 3 (.tmp s) (.tmp t) 3) (hs : a.eval (.tmp s) = .int .i64 x) (ht : a.eval (.tmp t) = .int .i64 y) (h0 : y ≠ 0) (hz : Int.tmod x y = z) : (execOp a.eval o).run Try.prog w = .ok (.value (.int .i64 z)) w := by
  rw [← hz]
  simp only [execOp, hop, hs, ht]
  go_simp
theorem run_lenS {a : Act} {o : Oper} {s : Nat} {w : World} {ad : Option Addr} {n c : Nat} (hop : o.op = .call { callee := .builtin .len, args := #[.tmp s], argTypes := #[24] }) (hs : a.eval (.tmp s) = .slice ad n c) : (execOp a.eval o).run Try.prog w = .ok (.value (.int .i64 (n : Int))) w := by
  simp only [execOp, hop, resolve, invoke, List.map_toArray, List.map_cons, List.map_nil, hs]
  go_simp
theorem round1_v (n l n₀ g off N cap B1 B2 first : Nat) (hn1 : 1 ≤ n) (h : Int) (r : List Rp.Pt) (hgn : g < n₀) (hN0 : 0 < N) (hN : N ≤ 1024) (J Jx : List I64 → World → Prop) (W : World) (hJ : AbidesFrom W.heap.size J) (L : Nat → I64) (hL : ∀ k, (L k).1 = (r.getD ((first + k) % N) (0, 0)).2) (hf : first < N)
    (CP : ∀ W1 : World, Below W.heap.size W W1 → Calls Try.prog 56 #[.slice (some ⟨g, off, none⟩) N cap, .int .u64 h] W1 fun e w' => e = .returned (.int .i64 (first : Nat)) ∧ Below W1.heap.size W1 w')
    (hY : ∀ pre x W1, J pre W1 → pre.length < N → YieldAt Fence.wide (n - 1) Try.prog l #[.int .i64 x.1] W1 fun e W' =>
      (e = .returned (.bool true) ∧ J (pre ++ [x]) W' ∧ KpW n₀ W1 W') ∨ (e = .returned (.bool false) ∧ Jx (pre ++ [x]) W'))
    (hT : RF' g off N cap B1 r W) (hB2 : W.cell? ⟨B2, 0, none⟩ = some (.int .u64 h)) (h0 : J [] W) (hn0 : n₀ ≤ W.heap.size) :
    CallsIn Fence.wide n Try.prog 55 #[.func (.yield l) #[] #[], .pointer (some ⟨B1, 0, none⟩), .pointer (some ⟨B2, 0, none⟩)] W fun e W' => (∃ v, e = .returned v) ∧
      ((∃ ys, ys = (List.range N).map L ∧ J ys W') ∨ (∃ pre, True ∧ Jx pre W')) := by
  have HJ := hidD hJ
  have HYY := hidD hY
  have HL := hidD hL
  have H0 := hidD h0
  have c0 := hT.cell
  have F1 : Fence.wide.fn 56 := trivial
  have mixed : Try.prog.follows .mixedOrders = true := by kernel_rfl
  have HT := hidD hT
  have hlt1 : B1 < W.heap.size := (Array.getElem?_eq_some_iff.1 hT.1).1
  have cp := CP W (Below.refl _ _)
  clear hT hJ hY hL h0 CP
  refine callsIn_of_wp Try.func55 rfl trivial ?_ rfl
  simp only [Try.ntmps55, List.size_toArray, List.length_cons, List.length_nil, Nat.reduceAdd, Nat.reduceSub, Array.replicate_succ, Array.replicate_zero, List.push_toArray, List.append_toArray, List.nil_append, List.cons_append]
  gi_wp2_with (first | (gi_at_call 56; refine (callsIn_wide.2 cp).mono ?_; rintro e w1 ⟨rfl, b1⟩; have c1 := (b1.cell (p := ⟨B1, 0, none⟩) hlt1).trans c0))
  have hT1 : RF' g off N cap B1 r w1 := ⟨(b1.block B1 hlt1).trans HT.out.1, fun i hi => (b1.cell (p := ⟨g, off + i * 2 + 1, none⟩) (by show g < _; omega)).trans (HT.out.2 i hi)⟩
  have hJ1 : J [] w1 := HJ.out _ _ _ none H0.out ⟨b1.os, b1.tape, b1.output, b1.size, fun k hk _ => b1.block k hk⟩ (fun r e => by cases e)
  have HJ1 := hidD hJ1
  have HT1 := hidD hT1
  have hs1 := b1.size
  clear hT1 hJ1 c1 c0 cp b1 hB2
  gi_loopw [11] (fun i wr => ∃ k : Nat, k ≤ N ∧ i = .int .i64 k ∧ Hid (J ((List.range k).map L) wr ∧ RF' g off N cap B1 r wr)) (fun i _ => N - (intOf i).toNat)
  case atStart => exact ⟨0, Nat.zero_le _, by first | rfl | simp, hidD ⟨HJ1.out, HT1.out⟩⟩
  case round =>
    obtain ⟨k, hk, rfl, hI⟩ := hrel
    by_cases hlt : k < N
    · obtain ⟨pre, hpre⟩ : ∃ pre, pre = (List.range k).map L := ⟨_, rfl⟩
      obtain ⟨z, hzz⟩ : ∃ z, z = L k := ⟨_, rfl⟩
      obtain ⟨m, hmm⟩ : ∃ m, m = (first + k) % N := ⟨_, rfl⟩
      have hlen : pre.length = k := by rw [hpre]; simp
      have hz : Hid (z.1 = (r.getD m (0, 0)).2) := hidD (by rw [hzz, hmm]; exact HL.out k)
      have hmN : m < N := by rw [hmm]; exact Nat.mod_lt _ hN0
      have hadd : IntKind.i64.wrap ((first : Int) + (k : Int)) = ((first + k : Nat) : Int) := by rw [IntKind.wrap_i64]; omega
      have hrem : Int.tmod ((first + k : Nat) : Int) (N : Int) = (m : Int) := by rw [Int.tmod_eq_emod_of_nonneg (by omega), hmm]; rfl
      have HY : Hid (∀ W1 : World, J pre W1 → YieldAt Fence.wide (n - 1) Try.prog l #[.int .i64 z.1] W1 fun e W' =>
        (e = .returned (.bool true) ∧ J (pre ++ [z]) W' ∧ KpW n₀ W1 W') ∨ (e = .returned (.bool false) ∧ Jx (pre ++ [z]) W')) := hidD (fun W1 hj => HYY.out pre z W1 hj (by omega))
      have hnext : Hid (pre ++ [z] = (List.range (k + 1)).map L) := hidD (by rw [List.range_succ, List.map_append, hpre, hzz]; rfl)
      obtain ⟨j1, j2⟩ := hI.out
      rw [← hpre] at j1
      have J1 := hidD j1
      have J2 := hidD j2
      clear hI hlen HYY HL hpre j1 j2 hzz hmm
      gi_wp2
      refine wpIn_region_drawn (pred := fun jx v W => match jx with | 0 => v = .func (.yield l) #[] #[] | 1 => v = .slice (some ⟨g, off, none⟩) N cap | 2 => v = .int .i64 (first : Int) | 3 => v = .int .i64 (k : Int) | 4 => v = .int .i64 ((first + k : Nat) : Int) | 5 => v = .slice (some ⟨g, off, none⟩) N cap | 6 => v = .int .i64 (N : Int) | 7 => v = .int .i64 (m : Int) | 8 => v = .pointer (some ⟨g, off + m * 2, none⟩) | 9 => v = .pointer (some ⟨g, off + m * 2 + 1, none⟩) | 10 => v = .int .i64 z.1 | 11 => ∃ b, v = .bool b ∧ (RPost J Jx (pre ++ [z]) g off N cap B1 r b W) | 12 => ∃ b, v = .bool (!b) ∧ (RPost J Jx (pre ++ [z]) g off N cap B1 r b W) | _ => True) (R := fun b W1 => b = false → J pre W1 ∧ RF' g off N cap B1 r W1) (T := fun _ _ => True) 11 (by kernel_rfl) (by kernel_rfl) (by kernel_rfl) (by kernel_rfl) (by decide) ?mono ?start ?s1 ?sm ?s2 ?done
      case mono =>
        intro ix v W1 W2 hi hp _
        match ix, hp, hi with
        | 0, h, _ => exact h
        | 1, h, _ => exact h
        | 2, h, _ => exact h
        | 3, h, _ => exact h
        | 4, h, _ => exact h
        | 5, h, _ => exact h
        | 6, h, _ => exact h
        | 7, h, _ => exact h
        | 8, h, _ => exact h
        | 9, h, _ => exact h
        | 10, h, _ => exact h
        | _ + 11, _, h => omega
      case start => exact fun _ => ⟨HJ.out _ _ _ none J1.out (grownBy_drew wr) (fun r e => by cases e), J2.out⟩
      case s1 =>
        intro ix o hi ho A W hsz hdf hfr hdep hR0
        have hR := hR0 rfl
        clear hR0
        rcases ix with _ | _ | _ | _ | _ | _ | _ | _ | _ | _ | _ | ix
        · injection ho with ho
          subst ho
          have e0 : A.eval (.tmp 0) = .func (.yield l) #[] #[] := (hfr 0 (noDst_spec (by kernel_rfl))).trans rfl
          exact gIn_mv rfl (wanted_plain rfl) (.inl rfl) e0 ⟨_, rfl, rfl, trivial, fun _ => hR⟩
        · injection ho with ho
          subst ho
          have e1 : A.eval (.tmp 1) = .pointer (some ⟨B1, 0, none⟩) := (hfr 1 (noDst_spec (by kernel_rfl))).trans rfl
          have x0 := hR.2.cell
          exact gIn_ld (v := .slice (some ⟨g, off, none⟩) N cap) rfl (wanted_plain rfl) rfl e1 (by go_simp) ⟨_, rfl, rfl, trivial, fun _ => hR⟩
        · injection ho with ho
          subst ho
          have e4 : A.eval (.tmp 4) = .int .i64 (first : Int) := (hfr 4 (noDst_spec (by kernel_rfl))).trans rfl
          exact gIn_mv rfl (wanted_plain rfl) (.inl rfl) e4 ⟨_, rfl, rfl, trivial, fun _ => hR⟩
        · injection ho with ho
          subst ho
          have e5 : A.eval (.tmp 5) = .int .i64 (k : Int) := (hfr 5 (noDst_spec (by kernel_rfl))).trans rfl
          exact gIn_mv rfl (wanted_plain rfl) (.inl rfl) e5 ⟨_, rfl, rfl, trivial, fun _ => hR⟩
        · injection ho with ho
          subst ho
          have e16 : A.eval (.tmp 16) = .int .i64 (first : Int) := hdep ⟨2, .data⟩ (by simp) rfl _ _ rfl rfl
          have e17 : A.eval (.tmp 17) = .int .i64 (k : Int) := hdep ⟨3, .data⟩ (by simp) rfl _ _ rfl rfl
          refine gIn_val (v := .int .i64 ((first + k : Nat) : Int)) (w' := W) rfl (wanted_plain rfl) (by intro c hc; cases hc) (run_addI rfl e16 e17 hadd) ?_
          exact ⟨_, rfl, rfl, trivial, fun _ => hR⟩
        · injection ho with ho
          subst ho
          have e1 : A.eval (.tmp 1) = .pointer (some ⟨B1, 0, none⟩) := (hfr 1 (noDst_spec (by kernel_rfl))).trans rfl
          have x0 := hR.2.cell
          exact gIn_ld (v := .slice (some ⟨g, off, none⟩) N cap) rfl (wanted_plain rfl) rfl e1 (by go_simp) ⟨_, rfl, rfl, trivial, fun _ => hR⟩
        · injection ho with ho
          subst ho
          have e19 : A.eval (.tmp 19) = .slice (some ⟨g, off, none⟩) N cap := hdep ⟨5, .data⟩ (by simp) rfl _ _ rfl rfl
          refine gIn_val (v := .int .i64 (N : Int)) (w' := W) rfl (wanted_plain rfl) (by intro c hc; cases hc) (run_lenS rfl e19) ?_
          exact ⟨_, rfl, rfl, trivial, fun _ => hR⟩
        · injection ho with ho
          subst ho
          have e18 : A.eval (.tmp 18) = .int .i64 ((first + k : Nat) : Int) := hdep ⟨4, .data⟩ (by simp) rfl _ _ rfl rfl
          have e20 : A.eval (.tmp 20) = .int .i64 (N : Int) := hdep ⟨6, .data⟩ (by simp) rfl _ _ rfl rfl
          have h2 : (N : Int) ≠ 0 := by omega
          have h3 := hrem
          refine gIn_val (v := .int .i64 (m : Int)) (w' := W) rfl (wanted_plain rfl) (by intro c hc; cases hc) (run_remI rfl e18 e20 h2 h3) ?_
          exact ⟨_, rfl, rfl, trivial, fun _ => hR⟩
        · injection ho with ho
          subst ho
          have e15 : A.eval (.tmp 15) = .slice (some ⟨g, off, none⟩) N cap := hdep ⟨1, .data⟩ (by simp) rfl _ _ rfl rfl
          have e21 : A.eval (.tmp 21) = .int .i64 (m : Int) := hdep ⟨7, .data⟩ (by simp) rfl _ _ rfl rfl
          have i1 : (m : Int) < (N : Int) := by omega
          exact gIn_ix (v := .pointer (some ⟨g, off + m * 2, none⟩)) rfl (wanted_plain rfl) rfl e15 e21 (by go_simp) ⟨_, rfl, rfl, trivial, fun _ => hR⟩
        · injection ho with ho
          subst ho
          have e22 : A.eval (.tmp 22) = .pointer (some ⟨g, off + m * 2, none⟩) := hdep ⟨8, .data⟩ (by simp) rfl _ _ rfl rfl
          exact gIn_fld (v := .pointer (some ⟨g, off + m * 2 + 1, none⟩)) rfl (wanted_plain rfl) rfl e22 (by go_simp) ⟨_, rfl, rfl, trivial, fun _ => hR⟩
        · injection ho with ho
          subst ho
          have e23 : A.eval (.tmp 23) = .pointer (some ⟨g, off + m * 2 + 1, none⟩) := hdep ⟨9, .data⟩ (by simp) rfl _ _ rfl rfl
          have x0 := hR.2.2 m hmN
          rw [← hz.out] at x0
          exact gIn_ld (v := .int .i64 z.1) rfl (wanted_plain rfl) rfl e23 (by go_simp) ⟨_, rfl, rfl, trivial, fun _ => hR⟩
        · omega
      case sm =>
        intro o ho A W hsz hdf hfr hdep hR0
        have hR := hR0 rfl
        clear hR0
        injection ho with ho
        subst ho
        have e14 : A.eval (.tmp 14) = .func (.yield l) #[] #[] := hdep ⟨0, .data⟩ (by simp) rfl _ _ rfl rfl
        have e24 : A.eval (.tmp 24) = .int .i64 z.1 := hdep ⟨10, .data⟩ (by simp) rfl _ _ rfl rfl
        obtain ⟨fn, tmps, assign, body, hy, hY2⟩ := HY.out W hR.1
        refine gIn_round (l := l) (f := fn) (tmps := tmps) (assign := assign) (body := body) rfl (wanted_plain rfl) (by intro c hc; cases hc) (run_yield rfl e14 e24 hy) ?_
        refine RoundIn.mono hY2 ?_
        rintro e W' (⟨rfl, j1, j2⟩ | ⟨rfl, j1⟩)
        · exact ⟨_, rfl, _, rfl, ⟨true, rfl, .inl ⟨rfl, j1, hR.2.kept hgn j2⟩⟩, fun h => by cases h⟩
        · exact ⟨_, rfl, _, rfl, ⟨false, rfl, .inr ⟨rfl, j1⟩⟩, fun h => by cases h⟩
      case s2 =>
        intro ix o hi ho A W hsz hdf hfr hdep hR
        rcases ix with _ | _ | _ | _ | _ | _ | _ | _ | _ | _ | _ | _ | _ | ix
        iterate 12 omega
        · injection ho with ho
          subst ho
          obtain ⟨c, e25, hx25⟩ : ∃ c, A.eval (.tmp 25) = .bool c ∧ (RPost J Jx (pre ++ [z]) g off N cap B1 r c W) := hdep ⟨11, .data⟩ (by simp) rfl (by decide) _ _ rfl rfl
          exact gIn_not rfl (wanted_plain rfl) rfl e25 ⟨_, rfl, ⟨c, rfl, hx25⟩, rfl⟩
        · simp at ho
      case done =>
        intro A W2 hsz hdf hfr hcome _
        obtain ⟨c, e26, hx26⟩ : ∃ c, A.tmps.getD 26 undef = .bool (!c) ∧ (RPost J Jx (pre ++ [z]) g off N cap B1 r c W2) := hcome 12 _ _ (by decide) rfl rfl
        have hdf2 : A.defers = [] := hdf
        have hA : A = ⟨#[A.tmps.getD 0 undef, A.tmps.getD 1 undef, A.tmps.getD 2 undef, A.tmps.getD 3 undef, A.tmps.getD 4 undef, A.tmps.getD 5 undef, A.tmps.getD 6 undef, A.tmps.getD 7 undef, A.tmps.getD 8 undef, A.tmps.getD 9 undef, A.tmps.getD 10 undef, A.tmps.getD 11 undef, A.tmps.getD 12 undef, A.tmps.getD 13 undef, A.tmps.getD 14 undef, A.tmps.getD 15 undef, A.tmps.getD 16 undef, A.tmps.getD 17 undef, A.tmps.getD 18 undef, A.tmps.getD 19 undef, A.tmps.getD 20 undef, A.tmps.getD 21 undef, A.tmps.getD 22 undef, A.tmps.getD 23 undef, A.tmps.getD 24 undef, A.tmps.getD 25 undef, A.tmps.getD 26 undef, A.tmps.getD 27 undef], A.defers⟩ := by
          have h1 := act_lit A.tmps 28 hsz
          obtain ⟨t, d⟩ := A
          exact congrArg (fun x => (⟨x, d⟩ : Act)) h1
        have f0 := (show A.tmps.getD 0 undef = .func (.yield l) #[] #[] from (hfr 0 (noDst_spec (by kernel_rfl))).trans rfl)
        have f1 := (show A.tmps.getD 1 undef = .pointer (some ⟨B1, 0, none⟩) from (hfr 1 (noDst_spec (by kernel_rfl))).trans rfl)
        have f2 := (show A.tmps.getD 2 undef = .pointer (some ⟨B2, 0, none⟩) from (hfr 2 (noDst_spec (by kernel_rfl))).trans rfl)
        have f3 := (show A.tmps.getD 3 undef = undef from (hfr 3 (noDst_spec (by kernel_rfl))).trans rfl)
        have f4 := (show A.tmps.getD 4 undef = .int .i64 (first : Int) from (hfr 4 (noDst_spec (by kernel_rfl))).trans rfl)
        have f6 := (show A.tmps.getD 6 undef = .slice (some ⟨g, off, none⟩) N cap from (hfr 6 (noDst_spec (by kernel_rfl))).trans rfl)
        have f7 := (show A.tmps.getD 7 undef = .int .u64 h from (hfr 7 (noDst_spec (by kernel_rfl))).trans rfl)
        have f8 := (show A.tmps.getD 8 undef = .int .i64 (first : Int) from (hfr 8 (noDst_spec (by kernel_rfl))).trans rfl)
        have f9 := (show A.tmps.getD 9 undef = .slice (some ⟨g, off, none⟩) N cap from (hfr 9 (noDst_spec (by kernel_rfl))).trans rfl)
        have f10 := (show A.tmps.getD 10 undef = .int .i64 (N : Int) from (hfr 10 (noDst_spec (by kernel_rfl))).trans rfl)
        have f11 := (show A.tmps.getD 11 undef = .int .i64 (k : Int) from (hfr 11 (noDst_spec (by kernel_rfl))).trans rfl)
        rw [hA, e26, f0, f1, f2, f3, f4, f6, f7, f8, f9, f10, f11, hdf2]
        clear hA hfr hcome hdf hdf2 e26 hsz f0 f1 f2 f3 f4 f6 f7 f8 f9 f10 f11
        generalize A.tmps.getD 5 undef = v5
        generalize A.tmps.getD 12 undef = v12
        generalize A.tmps.getD 13 undef = v13
        generalize A.tmps.getD 14 undef = v14
        generalize A.tmps.getD 15 undef = v15
        generalize A.tmps.getD 16 undef = v16
        generalize A.tmps.getD 17 undef = v17
        generalize A.tmps.getD 18 undef = v18
        generalize A.tmps.getD 19 undef = v19
        generalize A.tmps.getD 20 undef = v20
        generalize A.tmps.getD 21 undef = v21
        generalize A.tmps.getD 22 undef = v22
        generalize A.tmps.getD 23 undef = v23
        generalize A.tmps.getD 24 undef = v24
        generalize A.tmps.getD 25 undef = v25
        generalize A.tmps.getD 27 undef = v27
        rcases hx26 with ⟨rfl, y1, y2⟩ | ⟨rfl, y1⟩
        · have Y1 := hidD y1
          have Y2 := hidD y2
          clear y1 y2 J1 J2
          gi_wp2
          go_roundw
          case rel => exact ⟨k + 1, by omega, by go_num, hidD ⟨by rw [← hnext.out]; exact Y1.out, Y2.out⟩⟩
          case measure => simp [intOf]; omega
        · have Y1 := hidD y1
          clear y1 J1 J2
          gi_wp2
          refine bodyPost_ret (results_none rfl _ _ _) rfl ?_
          exact ⟨⟨_, rfl⟩, .inr ⟨_, trivial, Y1.out⟩⟩
    · have hke : k = N := by omega
      subst hke
      obtain ⟨j1, j2⟩ := hI.out
      have J1 := hidD j1
      clear hI j1 j2
      gi_wp2
      go_end0
      exact ⟨⟨_, rfl⟩, .inl ⟨_, rfl, J1.out⟩⟩
end Go.Proofs.Ytcpcnajifdicmaa
