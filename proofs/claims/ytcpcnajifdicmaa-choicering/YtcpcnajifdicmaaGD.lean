/- ring: Shares. ring: SameInts; the reference's Ints of one number; shares of a built ring. ring: the reference's Walk and Lookup. ring: the reference's Walk and Lookup of any points. -/
import Derived.Test.YtcpcnajifdicmaaRN
import Derived.Test.YtcpcnajifdicmaaGC
import Derived.Maps.OwnOps
import Derived.Shelf.SortM.Plain
import Derived.Shelf.SlGeneric
import Derived.Ground.SlgmProg
import Derived.Carry
import Derived.Test.YtcpcnajifdicmaaHG
namespace Go.Proofs
end Go.Proofs
namespace Go.Proofs.Ytcpcnajifdicmaa
open Go.RowKit Go.Sort Go.Shelf

def Rp.key (k : Nat) : Int := (Hp.ints 2 [(k : Int)] : Nat)
def Rp.cnt (r : List Rp.Pt) (k : Nat) (y : Int) : Nat := (List.range k).countP (fun j => decide (Rp.owner r (Rp.key j) = y))
theorem Rp.cnt_succ (r : List Rp.Pt) (k : Nat) (y : Int) : Rp.cnt r (k + 1) y = Rp.cnt r k y + if Rp.owner r (Rp.key k) = y then 1 else 0 := by
  unfold Rp.cnt
  rw [List.range_succ, List.countP_append]
  simp [List.countP_cons]
theorem Rp.cnt_le (r : List Rp.Pt) (k : Nat) (y : Int) : Rp.cnt r k y ≤ k := by
  unfold Rp.cnt
  have := List.countP_le_length (p := fun j => decide (Rp.owner r (Rp.key j) = y)) (l := List.range k)
  simpa using this
def Rp.ids (r : List Rp.Pt) : List Int := (Rp.walkL r 0).mergeSort fun x y => decide (x ≤ y)
def Rp.sharesE (r : List Rp.Pt) (keys : Int) : Int := if Rp.peopledE r ≠ 0 then Rp.peopledE r else if keys < 0 ∨ 4096 < keys then 4 else 0
def Rp.sharesL (r : List Rp.Pt) (keys : Int) : List Int := if Rp.sharesE r keys = 0 then (Rp.ids r).map (fun y => (Rp.cnt r keys.toNat y : Int)) else []

theorem mown_below {W W' : World} {k : TypeId} {R : Value → Option (DataW Unit × List MemPlace)} {b n : Nat} {D : DataW Unit} (h : W.ownsMap Try.prog k R b n D) (hb : Below W.heap.size W W') : W'.ownsMap Try.prog k R b n D :=
  h.kept (row := none) ⟨hb.os, hb.tape, hb.output, hb.size, fun k hk _ => hb.block k hk⟩ (by simp)
theorem zero3 {w : World} : (zeroValue 3).run Try.prog w = .ok (.int .i64 0) w := by kernel_rfl
theorem wf_of {x : Int} (h1 : -9223372036854775808 ≤ x) (h2 : x ≤ 9223372036854775807) : (Lit.int .i64 x).wf = true := by
  have e1 : IntKind.i64.min = -9223372036854775808 := by decide
  have e2 : IntKind.i64.max = 9223372036854775807 := by decide
  show (decide (IntKind.i64.min ≤ x) && decide (x ≤ IntKind.i64.max)) = true
  rw [e1, e2, Bool.and_eq_true, decide_eq_true_iff, decide_eq_true_iff]
  exact ⟨h1, h2⟩

theorem lit_inj {a b : Int} (h : (DataW.lit (.int .i64 a) : DataW Unit) = .lit (.int .i64 b)) : a = b := by
  injection h with h
  injection h
theorem Rp.round_length (r : List Rp.Pt) (h : Int) : (Rp.roundL r h).length = r.length := by simp [Rp.roundL]
theorem Rp.walk_le (r : List Rp.Pt) (h : Int) : (Rp.walkL r h).length ≤ r.length := by
  unfold Rp.walkL
  split
  · have := Rp.uniq_length (Rp.roundL r h)
    rw [Rp.round_length] at this
    exact this
  · simp

end Go.Proofs.Ytcpcnajifdicmaa

namespace Go.Proofs.Ytcpcnajifdicmaa
open Go.RowKit Go.Sort Go.Shelf

theorem dgetD_at {l : List Int} {i : Nat} (h : i < l.length) : l.getD i 0 = l[i] := by simp [List.getD, h]
theorem rints1 (s : Nat) (a : Int) (w : World) (hx : s < 18446744073709551616) :
    Calls Try.prog 42 #[.int .u64 s, .slice (some ⟨w.heap.size, 0, none⟩) 1 1] (w.alloc (.cells #[.int .i64 a] 3)) fun e w' => e = .returned (.int .u64 (Hp.ints s [a] : Nat)) ∧ Below w.heap.size w w' := by
  refine (rints_any s _ [a] _ hx (seg_new w [a] _ (by simp))).mono ?_
  rintro e w' ⟨rfl, rfl⟩
  exact ⟨rfl, (Below.refl _ _).alloc (Nat.le_refl _) _⟩

theorem Rp.ids_ring {n : Int} {l : List Rp.Pt} (h : Rp.buildE n l = 0) (h0 : 0 < l.length) : Rp.ids (Rp.ring n l) = l.map (·.1) := by
  have hp := Rp.ring_peopled h h0
  have k3 := (Rp.check_ok (Rp.build_ok h).1).2.2
  unfold Rp.ids
  have hperm : ((Rp.walkL (Rp.ring n l) 0).mergeSort fun x y => decide (x ≤ y)).Perm (l.map (·.1)) := by
    refine (List.mergeSort_perm _ _).trans ?_
    rw [List.perm_ext_iff_of_nodup (Rp.walk_nodup _ _) (Rp.ids_nodup k3)]
    intro y
    rw [Rp.walk_mem 0 hp, Rp.pts_ids h]
  have hs1 : ((Rp.walkL (Rp.ring n l) 0).mergeSort fun x y => decide (x ≤ y)).Pairwise (fun x y => decide (x ≤ y) = true) := by
    refine List.pairwise_mergeSort (fun a b c h1 h2 => ?_) (fun a b => ?_) _
    · simp only [decide_eq_true_iff] at *; omega
    · simp only [Bool.or_eq_true, decide_eq_true_iff]; omega
  have hs2 : (l.map (·.1)).Pairwise (fun x y => decide (x ≤ y) = true) := by
    rw [List.pairwise_map]
    exact (Rp.rises_pair k3).imp fun {x y} hlt => by simp only [decide_eq_true_iff]; omega
  exact hperm.eq_of_pairwise (fun x y _ _ h1 h2 => by simp only [decide_eq_true_iff] at *; omega) hs1 hs2
end Go.Proofs.Ytcpcnajifdicmaa

namespace Go.Proofs.Ytcpcnajifdicmaa
open Go.RowKit Go.Sort Go.Shelf

theorem Rp.from_is (r : List Rp.Pt) (h : Int) (q : Nat) (hq : q ≤ r.length) (h1 : ∀ j, j < q → (r.getD j (0, 0)).1 < h) (h2 : q = r.length ∨ ¬ (r.getD q (0, 0)).1 < h) : Rp.from' r h = q := by
  unfold Rp.from'
  induction r generalizing q with
  | nil => simp at hq; subst hq; rfl
  | cons x t ih =>
    match q with
    | 0 =>
      rcases h2 with h2 | h2
      · simp at h2
      · have : ¬ x.1 < h := h2
        simp [this]
    | q + 1 =>
      have hx : x.1 < h := h1 0 (by omega)
      have := ih q (by simpa using hq) (fun j hj => h1 (j + 1) (by omega)) (by
        rcases h2 with h2 | h2
        · exact .inl (by simpa using h2)
        · exact .inr h2)
      simp [hx, this]

theorem Rp.round_take (r : List Rp.Pt) (h : Int) (k : Nat) (hk : k < r.length) : (Rp.roundL r h).take (k + 1) = (Rp.roundL r h).take k ++ [(r.getD ((Rp.place r h + k) % r.length) (0, 0)).2] := by
  have hl : k < (Rp.roundL r h).length := by rw [Rp.round_length]; exact hk
  rw [List.take_succ_eq_append_getElem hl]
  congr 2
  simp [Rp.roundL]
theorem itake_mem (U : List Int) (q : Nat) (h : q < U.length) (y : Int) : (y ∈ U.take (q + 1)) ↔ (y ∈ U.take q ∨ U.getD q 0 = y) := by
  rw [List.take_succ_eq_append_getElem h, List.mem_append, List.mem_singleton]
  simp [List.getD, h, eq_comm]

set_option maxHeartbeats 8000000 in
theorem rwalk_good (v : Value) (r : List Rp.Pt) (h : Int) (w : World) (hv : PSeg .u64 w v r) (hp : Rp.peopledE r = 0) (hw0 : Rp.wholeE r = 0) :
    Calls Try.prog 25 #[v, .int .u64 h] w fun e w' => ∃ v', e = .returned (.tuple #[v', .int .i64 0]) ∧ w'.ownsRow w.heap.size 3 1 v' (Rp.uniq (Rp.roundL r h)).length (i64s (Rp.uniq (Rp.roundL r h))) ∧ Below w.heap.size w w' := by
  obtain ⟨p1, p2, p3, _⟩ := Rp.people_ok hp
  have c := rwhole_any v r w hv
  rw [hw0] at c
  obtain ⟨a, cap, rfl, h1, h2, h3, h4⟩ := id hv
  obtain ⟨g, off, rfl, hg, hcell⟩ := pseg_at p1 h3 h4
  obtain ⟨N, hN⟩ : ∃ N, N = r.length := ⟨_, rfl⟩
  have HN := hidD hN
  have HC := hidD hcell
  have HFI := hidD (Rp.from_is r h)
  have HRT := hidD (Rp.round_take r h)
  have HRL := hidD (Rp.round_length r h)
  rw [← hN] at h1 c p1 p3 ⊢
  unfold maxLen at h2
  clear hN hv h3 h4 hcell hp hw0 p2
  have hb0 : ((N : Int) == 0) = false := by simp; omega
  go_enter Try.func25, Try.ntmps25
  go_wp2_with fail
  with_reducible refine c.mono ?_
  rintro e w1 ⟨rfl, b1⟩
  clear c
  go_wp2_with fail
  go_loopw [7] (fun i wr => ∃ k : Nat, k ≤ N ∧ i = .int .i64 k ∧ Hid (∀ j, j < k → (r.getD j (0, 0)).1 < h) ∧ Below w.heap.size w wr) (fun i _ => N - (intOf i).toNat)
  case atStart => exact ⟨0, Nat.zero_le _, rfl, hidD (fun j hj => by omega), b1⟩
  case round =>
    obtain ⟨k, hk, rfl, hA, hbl⟩ := hrel
    by_cases hgo : k < N ∧ (r.getD k (0, 0)).1 < h
    · obtain ⟨hlt, hlh⟩ := hgo
      have Q1 := (hbl.cell (p := ⟨g, off + k * 2, none⟩) hg).trans (HC.out k (by have := HN.out; omega)).1
      have hA2 : Hid (∀ j, j < k + 1 → (r.getD j (0, 0)).1 < h) := hidD (fun j hj => by
        by_cases hjk : j = k
        · subst hjk; exact hlh
        · exact hA.out j (by omega))
      have i1 : (k : Int) < (N : Int) := by omega
      clear hA
      generalize (r.getD k (0, 0)).1 = y at *
      go_wp2
      exact ⟨⟨k + 1, by omega, by go_num, hA2, hbl⟩, by simp [intOf]; omega⟩
    · have hfrom : Hid (Rp.from' r h = k) := hidD (HFI.out k (by have := HN.out; omega) (fun j hj => hA.out j hj) (by
        by_cases hkN : k = N
        · exact .inl (by rw [← HN.out]; exact hkN)
        · exact .inr (Int.not_lt.1 (fun e => hgo ⟨by omega, e⟩))))
      go_upto_region 7 with fail
      go_cut [35] (fun b wx => b = .bool false ∧ wr = wx)
      case first =>
        by_cases hkn : k < N
        · have hnl : ¬ (r.getD k (0, 0)).1 < h := fun e => hgo ⟨hkn, e⟩
          have Q1 := (hbl.cell (p := ⟨g, off + k * 2, none⟩) hg).trans (HC.out k (by have := HN.out; omega)).1
          have i1 : (k : Int) < (N : Int) := by omega
          have hd : decide ((r.getD k (0, 0)).1 < h) = false := decide_eq_false hnl
          clear hA hgo
          generalize (r.getD k (0, 0)).1 = y at *
          go_wp2
          go_meet
          exact ⟨by first | rfl | (congr 1) | simp [hd], rfl⟩
        · go_wp2
          go_meet
          exact ⟨by first | rfl | (congr 1; exact decide_eq_false (by omega)), rfl⟩
      case rest =>
        obtain ⟨rfl, hwc⟩ := hcut
        subst hwc
        clear hgo hA
        obtain ⟨wo, rfl⟩ : ∃ wo, wo = wr := ⟨_, rfl⟩
        have hpl : Hid (Rp.place r h = k % N) := hidD (by unfold Rp.place; rw [hfrom.out, ← HN.out])
        go_wp2_with fail
        obtain ⟨i0, hi, hz0, hz1, hz2⟩ := info_parts Try.infoI
        go_loopw [8, 9] (fun o i wr => ∃ q : Nat, q ≤ N ∧ i = .int .i64 q ∧ wr.ownsRow w.heap.size 3 1 o (Rp.uniq ((Rp.roundL r h).take q)).length (i64s (Rp.uniq ((Rp.roundL r h).take q))) ∧ Below w.heap.size w wr) (fun _ i _ => N - (intOf i).toNat)
        case atStart => exact ⟨0, Nat.zero_le _, rfl, World.ownsRow_nil _ _ _ _, hbl⟩
        case round =>
          clear hbl
          obtain ⟨q, hq, rfl, hrow, hbl⟩ := hrel
          obtain ⟨wq, rfl⟩ : ∃ wq, wq = wr := ⟨_, rfl⟩
          by_cases hlq : q < N
          · obtain ⟨m, hm⟩ : ∃ m, m = (k + q) % N := ⟨_, rfl⟩
            have hmN : m < N := by rw [hm]; exact Nat.mod_lt _ p1
            have Q1 := (hbl.cell (p := ⟨g, off + m * 2 + 1, none⟩) hg).trans (HC.out m (by have := HN.out; omega)).2
            obtain ⟨T, hT⟩ : ∃ T, T = k + q := ⟨_, rfl⟩
            have hadd : IntKind.i64.wrap ((k : Int) + (q : Int)) = (T : Int) := by rw [IntKind.wrap_i64]; omega
            have hrem : Int.tmod (T : Int) (N : Int) = (m : Int) := by rw [Int.tmod_eq_emod_of_nonneg (by omega), hm, hT]; rfl
            have HT := hidD hT
            have hne : (N : Int) ≠ 0 := by omega
            have hUs : Hid (Rp.uniq ((Rp.roundL r h).take (q + 1)) = Rp.meet (Rp.uniq ((Rp.roundL r h).take q)) (r.getD m (0, 0)).2) := hidD (by
              rw [HRT.out q (by have := HN.out; omega), Rp.uniq_snoc, hpl.out, ← HN.out]
              rw [show (k % N + q) % N = m from by rw [hm, Nat.add_mod, Nat.mod_mod, ← Nat.add_mod]])
            have hUl : (Rp.uniq ((Rp.roundL r h).take q)).length ≤ 1024 := by
              have := Rp.uniq_length ((Rp.roundL r h).take q)
              rw [List.length_take] at this
              omega
            obtain ⟨U, hU⟩ : ∃ U, U = Rp.uniq ((Rp.roundL r h).take q) := ⟨_, rfl⟩
            rw [← hU] at hrow hUs hUl
            have HU := hidD hU
            obtain ⟨y, hy⟩ : ∃ y, y = (r.getD m (0, 0)).2 := ⟨_, rfl⟩
            rw [← hy] at Q1 hUs
            obtain ⟨M, hM⟩ : ∃ M, M = U.length := ⟨_, rfl⟩
            rw [← hM] at hrow hUl
            have HM := hidD hM
            obtain ⟨oa, ocap, rfl⟩ : ∃ oa ocap, u8 = .slice oa M ocap := by
              rcases hrow.2 with ⟨rfl, h0⟩ | ⟨gg, cc, cur, rfl, _⟩
              · exact ⟨none, 0, by rw [h0]⟩
              · exact ⟨_, _, rfl⟩
            have i1 : (m : Int) < (N : Int) := by omega
            clear hU hy hM hm hT
            go_wp2_with fail
            go_loopw [11, 12] (fun b j wr => ∃ s : Nat, s ≤ M ∧ j = .int .i64 s ∧ b = .bool (decide (y ∈ U.take s)) ∧ wq = wr) (fun _ j _ => M - (intOf j).toNat)
            case atStart => exact ⟨0, Nat.zero_le _, rfl, by simp, rfl⟩
            case round =>
              obtain ⟨s, hs, rfl, rfl, rfl⟩ := hrel
              by_cases hls : s < M
              · obtain ⟨gg, rfl⟩ : ∃ gg, oa = some ⟨gg, 0, none⟩ := by
                  rcases hrow.2 with ⟨e, h0⟩ | ⟨gg, cc, cur, e, _⟩
                  · omega
                  · cases e; exact ⟨gg, rfl⟩
                have hts := hidD (itake_mem U s (by have := HM.out; omega) y)
                have Q2 : wq.cell? ⟨gg, s, none⟩ = some (.int .i64 (U.getD s 0)) := by
                  rw [hrow.cellAt s (by omega)]
                  have : s < U.length := by have := HM.out; omega
                  simp [List.getD, this]
                have i2 : (s : Int) < (M : Int) := by omega
                by_cases hmem : y ∈ U.take s
                · have hnx : Hid (decide (y ∈ U.take (s + 1)) = true) := hidD (decide_eq_true (hts.out.2 (.inl hmem)))
                  rw [decide_eq_true hmem]
                  clear hmem hts
                  generalize U.getD s 0 = x at *
                  go_wp2
                  exact ⟨⟨s + 1, by omega, by go_num, by rw [hnx.out], (by first | rfl | trivial)⟩, by simp [intOf]; omega⟩
                · have hnx : Hid (decide (y ∈ U.take (s + 1)) = (U.getD s 0 == y)) := hidD (by
                    rw [Bool.eq_iff_iff, decide_eq_true_iff, hts.out, beq_iff_eq]
                    exact ⟨fun h => h.elim (fun h => absurd h hmem) id, .inr⟩)
                  rw [decide_eq_false hmem]
                  clear hmem hts
                  generalize U.getD s 0 = x at *
                  go_wp2
                  exact ⟨⟨s + 1, by omega, by go_num, by rw [hnx.out], (by first | rfl | trivial)⟩, by simp [intOf]; omega⟩
              · have hke : U.take s = U := List.take_of_length_le (by have := HM.out; omega)
                rw [hke]
                clear hke
                have HROW := hidD hrow
                have hbq := hbl.size
                by_cases hmem : y ∈ U
                · have hU2 : Hid (Rp.uniq ((Rp.roundL r h).take (q + 1)) = U) := hidD (by rw [hUs.out]; exact if_pos hmem)
                  rw [decide_eq_true hmem]
                  clear hmem hrow
                  go_wp2
                  exact ⟨⟨q + 1, by omega, by go_num, by rw [hU2.out, ← HM.out]; exact HROW.out, hbl⟩, by simp [intOf]; omega⟩
                · have hU2 : Hid (Rp.uniq ((Rp.roundL r h).take (q + 1)) = U ++ [y]) := hidD (by rw [hUs.out]; exact if_neg hmem)
                  rw [decide_eq_false hmem]
                  clear hmem
                  go_wp2_with (first | (at_builtin; refine wpList_append_own _ rfl _ _ 55 rfl w.heap.size 3 i0 _ 1 8 Try.underlying55 hi hz0 hz1 hz2 rfl (by decide) _ _ _ rfl (hrow.alloc _) ⟨wq.heap.size, 0, none⟩ 1 1 [.int .i64 y] rfl rfl (cells_one _ _ _) (by simp [Value.oneCell']) (by unfold maxLen; omega) (by omega) (by simp; omega) ?_; intro v2 w6 hown' hgrow _))
                  have hgrow2 : (wq.alloc (.cells #[.int .i64 y] 3)).grownBy w6 (Value.slice oa M ocap).ownBlock := hgrow
                  have B6 := (hbl.alloc hbq _).grown hgrow2 (by simp; omega) (fun j e => (hrow.lt j e).1)
                  have HR6 : Hid (w6.ownsRow w.heap.size 3 1 v2 (Rp.uniq ((Rp.roundL r h).take (q + 1))).length (i64s (Rp.uniq ((Rp.roundL r h).take (q + 1))))) := hidD (by
                    rw [hU2.out, List.length_append, ← HM.out, show i64s (U ++ [y]) = i64s U ++ [.int .i64 y] from by simp [i64s]]
                    exact hown')
                  clear hown' hgrow hgrow2 hrow
                  go_wp2
                  exact ⟨⟨q + 1, by omega, by go_num, HR6.out, B6⟩, by simp [intOf]; omega⟩
          · have hke : (Rp.roundL r h).take q = Rp.roundL r h := List.take_of_length_le (by rw [HRL.out]; have := HN.out; omega)
            rw [hke] at hrow
            have HR := hidD hrow
            clear hrow hke
            go_wp2
            refine bodyPost_ret (results_tmp2 rfl _ _ _) rfl ?_
            exact ⟨_, rfl, HR.out, hbl⟩
end Go.Proofs.Ytcpcnajifdicmaa

namespace Go.Proofs.Ytcpcnajifdicmaa
open Go.RowKit Go.Sort Go.Shelf

theorem rwalk_bad1 (v : Value) (r : List Rp.Pt) (h : Int) (w : World) (hv : PSeg .u64 w v r) (hw0 : Rp.wholeE r ≠ 0) :
    Calls Try.prog 25 #[v, .int .u64 h] w fun e w' => e = .returned (.tuple #[.slice none 0 0, .int .i64 (Rp.wholeE r)]) ∧ Below w.heap.size w w' := by
  have c := rwhole_any v r w hv
  have hb : (Rp.wholeE r != 0) = true := by simpa using hw0
  obtain ⟨a, cap, rfl, -⟩ := hv
  generalize Rp.wholeE r = E at *
  generalize r.length = N at *
  go_enter Try.func25, Try.ntmps25
  go_wp2_with fail
  with_reducible refine c.mono ?_
  rintro e w1 ⟨rfl, b1⟩
  go_wp2
  refine bodyPost_ret (results_tmp2 rfl _ _ _) rfl ?_
  exact ⟨rfl, b1⟩
theorem rwalk_bad2 (v : Value) (h : Int) (w : World) (hv : PSeg .u64 w v []) :
    Calls Try.prog 25 #[v, .int .u64 h] w fun e w' => e = .returned (.tuple #[.slice none 0 0, .int .i64 71]) ∧ Below w.heap.size w w' := by
  have c := rwhole_any v [] w hv
  rw [show Rp.wholeE [] = 0 from rfl] at c
  obtain ⟨a, cap, rfl, -⟩ := hv
  rw [show ([] : List Rp.Pt).length = 0 from rfl] at c ⊢
  go_enter Try.func25, Try.ntmps25
  go_wp2_with fail
  with_reducible refine c.mono ?_
  rintro e w1 ⟨rfl, b1⟩
  go_wp2
  refine bodyPost_ret (results_tmp2 rfl _ _ _) rfl ?_
  exact ⟨rfl, b1⟩
theorem rwalk_any (v : Value) (r : List Rp.Pt) (h : Int) (w : World) (hv : PSeg .u64 w v r) :
    Calls Try.prog 25 #[v, .int .u64 h] w fun e w' => ∃ v', e = .returned (.tuple #[v', .int .i64 (Rp.peopledE r)]) ∧ w'.ownsRow w.heap.size 3 1 v' (Rp.walkL r h).length (i64s (Rp.walkL r h)) ∧ Below w.heap.size w w' := by
  by_cases hp : Rp.peopledE r = 0
  · have hw0 : Rp.wholeE r = 0 := by
      unfold Rp.peopledE at hp
      split at hp
      · rename_i hw; exact absurd hp hw
      · rename_i hw; exact Decidable.of_not_not hw
    have hl : Rp.walkL r h = Rp.uniq (Rp.roundL r h) := if_pos hp
    rw [hp, hl]
    exact rwalk_good v r h w hv hp hw0
  · have hl : Rp.walkL r h = [] := if_neg hp
    rw [hl]
    by_cases hw0 : Rp.wholeE r = 0
    · have hr : r = [] := by
        unfold Rp.peopledE at hp
        rw [if_neg (by omega)] at hp
        split at hp
        · rename_i h0; exact List.length_eq_zero_iff.1 h0
        · exact absurd rfl hp
      subst hr
      refine (rwalk_bad2 v h w hv).mono ?_
      rintro e w' ⟨rfl, b⟩
      exact ⟨_, rfl, World.ownsRow_nil _ _ _ _, b⟩
    · have hE : Rp.peopledE r = Rp.wholeE r := by unfold Rp.peopledE; rw [if_pos hw0]
      refine (rwalk_bad1 v r h w hv hw0).mono ?_
      rintro e w' ⟨rfl, b⟩
      rw [hE]
      exact ⟨_, rfl, World.ownsRow_nil _ _ _ _, b⟩

end Go.Proofs.Ytcpcnajifdicmaa

