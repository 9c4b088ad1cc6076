/- ring: Build, where it builds. -/
import Derived.Test.YtekmcooghkchpaaRH
import Derived.Test.YtekmcooghkchpaaRD
import Derived.Maps.AppendAt
namespace Go.Proofs.Ytekmcooghkchpaa
open Go.RowKit Go.Sort Go.Shelf
attribute [local go_sem] Oper.semAt_some

theorem cells_two (X : World) (a b : Value) (t : TypeId) : ∀ j u, [a, b][j]? = some u → (X.alloc (.cells #[a, b] t)).cell? ((⟨X.heap.size, 0, none⟩ : Addr).add j) = some u := by
  intro j u hj
  rw [add_plain, World.cell?_alloc_at _ _ _ _ rfl]
  simpa using hj
theorem heap_alloc_lt (W : World) (o : Obj) (b : Nat) (h : b < W.heap.size) : (W.alloc o).heap[b]? = W.heap[b]? := Below.heap_alloc W o b h
theorem grownBy_alloc3 (W : World) (o1 o2 o3 : Obj) : W.grownBy (((W.alloc o1).alloc o2).alloc o3) none :=
  ⟨rfl, rfl, rfl, by simp; omega, fun k hk _ => by rw [heap_alloc_lt _ _ _ (by simp; omega), heap_alloc_lt _ _ _ (by simp; omega), heap_alloc_lt _ _ _ hk]⟩

def KpS (Br : Nat) (W W' : World) : Prop := KpR Br W W' ∧ W.heap.size ≤ W'.heap.size
theorem points_stops (n Br B1 B2 : Nat) (id wt pts : Int) (hN : 0 ≤ wt * pts) (hN2 : wt * pts ≤ 100000) (w : World) (hT : Two Br B1 B2 id wt pts w) :
    SeqStopsK Fence.wide n Try.prog 42 #[.pointer (some ⟨B1, 0, none⟩), .pointer (some ⟨B2, 0, none⟩)] (fun x : Rp.Pt => #[.agg #[.int .u64 x.1, .int .i64 x.2]]) (KpS Br)
      (fun ys => ys = Rp.ptsOf pts (id, wt)) (fun _ => True) (Rp.each pts (id, wt)) w := by
  intro l J Jx W hW hJ _ hY h0
  have h1 : B1 < w.heap.size := (Array.getElem?_eq_some_iff.1 hT.2.2.2.1).1
  have h2 : B2 < w.heap.size := (Array.getElem?_eq_some_iff.1 hT.2.2.2.2).1
  exact points1_v n l Br B1 B2 id wt pts (Rp.each pts (id, wt)) (by unfold Rp.each; exact Int.toNat_of_nonneg hN) (by unfold Rp.each; simp only; omega) J Jx W hJ (fun k => ((Rp.hsh id k : Int), id)) (fun _ => rfl)
    (fun pre x W1 hj hl => hY pre x W1 hj hl) ⟨hT.1, hT.2.1, Nat.lt_of_lt_of_le hT.2.2.1 hW.size, (hW.block B1 h1).trans hT.2.2.2.1, (hW.block B2 h2).trans hT.2.2.2.2⟩ h0

theorem pointsOf_any (id wt pts : Int) (w : World) : Calls Try.prog 27 #[.agg #[.int .i64 id, .int .i64 wt], .int .i64 pts] w fun e w' =>
    e = .returned (.func (.func 42) #[] #[.pointer (some ⟨w.heap.size, 0, none⟩), .pointer (some ⟨w.heap.size + 1, 0, none⟩)]) ∧ w' = (w.alloc (.cells #[.int .i64 id, .int .i64 wt] 54)).alloc (.cells #[.int .i64 pts] 3) := by
  go_enter Try.func27, Try.ntmps27
  go_wp2
  go_ret
  exact ⟨rfl, rfl⟩

def rowP (xs : List Rp.Pt) : List Value := xs.flatMap fun x => [.int .u64 x.1, .int .i64 x.2]
theorem rowP_append (xs ys : List Rp.Pt) : rowP (xs ++ ys) = rowP xs ++ rowP ys := by simp [rowP]
theorem rowP_length (xs : List Rp.Pt) : (rowP xs).length = xs.length * 2 := by
  induction xs with
  | nil => rfl
  | cons x r ih => simp only [rowP, List.flatMap_cons, List.length_append, List.length_cons, List.length_nil] at *; omega
theorem Try.infoP : (Try.prog.info? 52).map (fun i => (i.zero, i.size, i.bytes)) = some (some (.agg #[.int .u64 0, .int .i64 0]), 2, 16) := by kernel_rfl

theorem Rp.size_take (n : Int) (l : List Rp.Pt) (k : Nat) (h : k < l.length) : Rp.size n (l.take (k + 1)) = Rp.size n (l.take k) + Rp.each n (l.getD k (0, 0)) := by
  unfold Rp.size
  rw [List.take_succ_eq_append_getElem h, List.map_append, List.sum_append, pgetD_at h]
  simp
theorem Rp.size_le (n : Int) (l : List Rp.Pt) (k : Nat) : Rp.size n (l.take k) ≤ Rp.size n l := by
  unfold Rp.size
  conv => rhs; rw [← List.take_append_drop k l]
  rw [List.map_append, List.sum_append]
  omega
theorem Rp.pts_take (n : Int) (l : List Rp.Pt) (k : Nat) (h : k < l.length) : Rp.pts n (l.take (k + 1)) = Rp.pts n (l.take k) ++ Rp.ptsOf n (l.getD k (0, 0)) := by
  unfold Rp.pts
  rw [List.take_succ_eq_append_getElem h, List.flatMap_append, pgetD_at h]
  simp
theorem Rp.ptsOf_length (n : Int) (b : Rp.Pt) : (Rp.ptsOf n b).length = Rp.each n b := by simp [Rp.ptsOf]
theorem Rp.pts_length (n : Int) (l : List Rp.Pt) : (Rp.pts n l).length = Rp.size n l := by
  unfold Rp.pts Rp.size
  rw [List.length_flatMap]
  congr 1
  exact List.map_congr_left fun b _ => Rp.ptsOf_length n b
theorem Rp.check_ok {l : List Rp.Pt} (h : Rp.checkE l = 0) : l.length ≤ 32 ∧ (∀ b ∈ l, 0 ≤ b.1 ∧ b.1 ≤ 2147483647 ∧ 1 ≤ b.2 ∧ b.2 ≤ 16) ∧ Rp.rises l = true := by
  unfold Rp.checkE at h
  split at h
  · cases h
  · split at h
    · cases h
    · split at h
      · rename_i h1 h2 h3
        refine ⟨by omega, fun b hb => ?_, h3⟩
        have := List.any_eq_false.1 (Bool.not_eq_true _ ▸ h2) b hb
        rw [out_iff] at this
        omega
      · cases h

/-- A box holds a slice that owns just these points; marks lie as they should. -/
def HoldP (n₀ : Nat) (w : World) (Br : Nat) (Ds : List Nat) (xs : List Rp.Pt) (W : World) : Prop :=
  (∃ v, Boxed W Br 23 v ∧ W.ownsRow n₀ 52 2 v xs.length (rowP xs) ∧ v ≠ .slice none 0 0) ∧ Below n₀ w W ∧ Marked Ds W ∧ n₀ ≤ Br

theorem HoldP.own {n₀ : Nat} {w : World} {Br : Nat} {Ds : List Nat} (f : List Rp.Pt → List Rp.Pt) {B : Nat} (hn : n₀ ≤ w.heap.size) (hB : n₀ ≤ B) (hD : ∀ D ∈ Ds, D < B) : OwnFrom B (fun pre W => HoldP n₀ w Br Ds (f pre) W) := by
  intro s X Y row hs hg hr
  obtain ⟨⟨v, h1, h2, h3⟩, h4, h5, h6⟩ := hs
  refine ⟨⟨v, h1.kept hg (fun e => ?_), h2.kept hg ?_, h3⟩, ownFrom_below (β := Unit) hn hB () X Y row h4 hg hr, marked_own Ds B hD () X Y row h5 hg hr, h6⟩
  · obtain ⟨_, o, ho, hc⟩ := hr Br e.symm
    rw [show X.heap[Br]? = _ from h1] at ho
    cases ho
    cases hc
  · rcases h2.2 with ⟨rfl, _⟩ | ⟨g, cap, cur, rfl, _, hgb, _⟩
    · exact .inl rfl
    · refine .inr fun e => ?_
      obtain ⟨_, o, ho, hc⟩ := hr g (by rw [← e]; rfl)
      rw [hgb] at ho
      cases ho
      cases hc
theorem HoldP.grown {n₀ : Nat} {w : World} {Br : Nat} {Ds : List Nat} {xs : List Rp.Pt} {W W' : World} (h : HoldP n₀ w Br Ds xs W) (hn : n₀ ≤ w.heap.size) (hg : W.grownBy W' none) : HoldP n₀ w Br Ds xs W' := by
  obtain ⟨⟨v, h1, h2, h3⟩, h4, h5, h6⟩ := h
  refine ⟨⟨v, h1.kept hg (by simp), h2.kept hg (by cases hv : v.ownBlock <;> simp), h3⟩, h4.grown hg (Nat.le_trans hn h4.size) (fun k e => by cases e), h5.kept fun D hD => hg.block D (h5.lt D hD) (by simp), h6⟩
theorem kpS_t {Br : Nat} {A B C : World} (h : KpS Br A B) (k : KpS Br B C) : KpS Br A C := ⟨h.1.trans k.1, Nat.le_trans h.2 k.2⟩
theorem kpS_b {Br : Nat} {w : World} (W : World) (l : Nat) (o o' : Obj) (_ : w.heap.size ≤ l) (h : W.heap[l]? = some o) (hc : o.isCells = false) (_ : o.isWalk = false) : KpS Br W (W.putObj l o') := by
  refine ⟨fun b c t f hb ht hh => ?_, by simp [World.putObj]⟩
  rw [put_block]
  · exact hh
  · rintro rfl
    rw [h] at hh
    cases hh
    cases hc
theorem kpS_grown {Br : Nat} {W W' : World} (hg : W.grownBy W' none) : KpS Br W W' := ⟨KpR.grown hg, hg.size⟩

set_option maxRecDepth 100000 in
set_option maxHeartbeats 4000000 in
theorem build_in (pn : Int) (v : Value) (l : List Rp.Pt) (w : World) (hv : PSeg .i64 w v l) (hc0 : Rp.checkE l = 0) (hp1 : 1 ≤ pn) (hp2 : pn ≤ 64) (hsz : Rp.size pn l ≤ 1024)
    (CS : ∀ (W : World) (g cap : Nat) (d : List Rp.Pt), d.length ≤ 1024 → W.ownsRow w.heap.size 52 2 (.slice (some ⟨g, 0, none⟩) d.length cap) d.length (rowP d) → Calls Try.prog 28 #[.slice (some ⟨g, 0, none⟩) d.length cap, .func (.func 29) #[] #[]] W fun e w' => e = .returned (.tuple #[]) ∧ w'.ownsRow w.heap.size 52 2 (.slice (some ⟨g, 0, none⟩) d.length cap) d.length (rowP (d.mergeSort Rp.le)) ∧ W.grownBy w' (some g)) :
    CallsIn Fence.wide 10 Try.prog 10 #[.int .i64 pn, v] w fun e w' => ∃ v', e = .returned (.tuple #[v', .int .i64 0]) ∧ w'.ownsRow w.heap.size 52 2 v' (Rp.pts pn l).length (rowP ((Rp.pts pn l).mergeSort Rp.le)) ∧ Below w.heap.size w w' := by
  obtain ⟨k1, k2, _⟩ := Rp.check_ok hc0
  have c := check_any v l w hv
  rw [hc0] at c
  obtain ⟨a, cap, rfl, h1, h2, h3, h4⟩ := id hv
  obtain ⟨N, hN⟩ : ∃ N, N = l.length := ⟨_, rfl⟩
  rw [← hN] at h1 c k1 ⊢
  unfold maxLen at h2
  have HN := hidD hN
  have HV := hidD hv
  have HE : Hid (∀ k, k < l.length → IntKind.i64.wrap ((l.getD k (0, 0)).2 * pn) = (Rp.each pn (l.getD k (0, 0)) : Nat) ∧ 0 ≤ (l.getD k (0, 0)).2 * pn ∧ (l.getD k (0, 0)).2 * pn ≤ 1024) := hidD (fun k hk => by
    have hm := k2 (l.getD k (0, 0)) (by rw [pgetD_at hk]; exact List.getElem_mem _)
    have e0 : 0 ≤ (l.getD k (0, 0)).2 * pn := Int.mul_nonneg (by omega) (by omega)
    have e1 : (l.getD k (0, 0)).2 * pn ≤ 16 * 64 := Int.mul_le_mul (by omega) hp2 (by omega) (by omega)
    refine ⟨?_, e0, by omega⟩
    unfold Rp.each
    rw [Int.toNat_of_nonneg e0, IntKind.wrap_i64]
    omega)
  have HS := hidD (Rp.size_take pn l)
  have HSL := hidD (Rp.size_le pn l)
  have HP := hidD (Rp.pts_take pn l)
  have HPL := hidD (Rp.pts_length pn)
  have HSZ := hidD hsz
  have HCS := hidD CS
  clear hN hv h3 h4 k2 CS hsz hc0
  have F1 : Fence.wide.fn 21 := trivial
  have F2 : Fence.wide.fn 27 := trivial
  have F3 : Fence.wide.fn 28 := trivial
  have D1 : 1 ≤ 10 := by decide
  refine callsIn_of_wp_marks Try.func10 rfl trivial ?_ rfl
  simp only [Try.ntmps10, List.size_toArray, List.length_cons, List.length_nil, Nat.reduceAdd, Nat.reduceSub, Array.replicate_succ, Array.replicate_zero, List.push_toArray, List.append_toArray, List.nil_append, List.cons_append]
  gi_wp2_with (gi_at_call 21; refine (callsIn_wide.2 c).mono ?_; rintro e w1 ⟨rfl, b1⟩)
  clear c
  gi_loopw [7, 27] (fun s i wr => ∃ k : Nat, k ≤ N ∧ i = .int .i64 k ∧ s = .int .i64 (Rp.size pn (l.take k) : Nat) ∧ Below w.heap.size w wr) (fun _ i _ => N - (intOf i).toNat)
  case atStart => exact ⟨0, Nat.zero_le _, rfl, by simp [Rp.size], b1⟩
  case round =>
    obtain ⟨k, hk, rfl, rfl, hbl⟩ := hrel
    by_cases hlt : k < N
    · obtain ⟨a', cap', e1, _, _, h3, h4⟩ := HV.out.below hbl
      rw [← HN.out] at e1
      cases e1
      obtain ⟨g, off, rfl, hg, hcell⟩ := pseg_at (l := l) (by have := HN.out; omega) h3 h4
      obtain ⟨Q1, Q2⟩ := hcell k (by have := HN.out; omega)
      obtain ⟨y1, y2, y3⟩ := HE.out k (by have := HN.out; omega)
      have y4 := HS.out k (by have := HN.out; omega)
      have y5 := HSL.out (k + 1)
      have y6 := HSZ.out
      have y7 : IntKind.i64.wrap ((Rp.size pn (l.take k) : Int) + (Rp.each pn (l.getD k (0, 0)) : Int)) = (Rp.size pn (l.take (k + 1)) : Nat) := by rw [IntKind.wrap_i64, y4]; omega
      clear hcell h3 h4 y2 y3 y4 y5 y6 b1
      obtain ⟨S', hS'⟩ : ∃ S', S' = Rp.size pn (l.take (k + 1)) := ⟨_, rfl⟩
      rw [← hS'] at y7
      have HS' := hidD hS'
      clear hS'
      generalize Rp.size pn (l.take k) = S at *
      generalize Rp.each pn (l.getD k (0, 0)) = E at *
      generalize l.getD k (0, 0) = x at *
      have i1 : (k : Int) < (N : Int) := by omega
      gi_wp2
      go_roundw
      case rel => exact ⟨k + 1, by omega, by go_num, by rw [← HS'.out], hbl.alloc hbl.size _⟩
      case measure => simp [intOf]; omega
    · have hke : l.take k = l := List.take_of_length_le (by have := HN.out; omega)
      rw [hke]
      clear hke hk b1
      have hS := HSZ.out
      obtain ⟨SZ, hSZ⟩ : ∃ SZ, SZ = Rp.size pn l := ⟨_, rfl⟩
      rw [← hSZ] at hS ⊢
      have HSZ2 := hidD hSZ
      clear hSZ
      obtain ⟨i0, hi, hz0, hz1, hz2⟩ := info_parts Try.infoP
      have hb0 := hbl.size
      gi_wp2_with (first | (gi_at_make; refine wpListIn_make_own _ rfl _ _ 23 rfl w.heap.size 52 i0 _ 2 Try.underlying23 hi hz0 hz1 .i64 .i64 _ SZ rfl rfl rfl (by rw [hz2]; omega) (by unfold maxLen; omega) hb0 ?_; intro w2 hrow hg2))
      have hbx := Boxed.new w2 23 (.slice (some ⟨wr.heap.size, 0, none⟩) 0 SZ)
      have hH0 : HoldP w.heap.size w w2.heap.size [] (Rp.pts pn (l.take 0)) (w2.alloc (.cells #[.slice (some ⟨wr.heap.size, 0, none⟩) 0 SZ] 23)) :=
        ⟨⟨_, hbx, by simpa [Rp.pts, rowP] using hrow.alloc _, by simp⟩, (hbl.grown hg2 hb0 (fun k e => by cases e)).alloc (by have := hg2.size; omega) _, ⟨List.nodup_nil, fun D hD => by cases hD⟩, by have := hg2.size; omega⟩
      have HH0 := hidD hH0
      clear hbx hrow hH0
      refine wpIn_loop (fun A W => ∃ (q : Nat) (Ds : List Nat) (x12 x45 x46 x47 x48 x49 x50 x56 : Value), q ≤ N ∧ A = { tmps := #[.int .i64 pn, .slice a N cap, undef, undef, .slice none 0 0, .int .i64 0, .int .i64 0, .int .i64 SZ, undef, u9, .pointer (some ⟨w2.heap.size, 0, none⟩), undef, x12, undef, .slice a N cap, .int .i64 0, .int .i64 0, .bool false, undef, .int .i64 pn, .bool (decide (pn < 1)), .bool (decide (pn < 1)), .int .i64 pn, .bool (decide (64 < pn)), .bool (decide (pn < 1) || decide (64 < pn)), .slice a N cap, .int .i64 N, .int .i64 k, .bool false, u29, u30, u31, u32, u33, u34, u35, u36, u37, .int .i64 SZ, .bool (decide (1024 < (SZ : Int))), .int .i64 SZ, .slice (some ⟨wr.heap.size, 0, none⟩) 0 SZ, .slice a N cap, .int .i64 N, .int .i64 (q : Int), x45, x46, x47, x48, x49, x50, undef, undef, undef, undef, undef, x56, undef, undef, undef], defers := marks Ds } ∧ Hid ((∀ D ∈ Ds, w.heap.size ≤ D) ∧ HoldP w.heap.size w w2.heap.size Ds (Rp.pts pn (l.take q)) W)) (fun A _ => N - (intOf (A.tmps.getD 44 undef)).toNat) ⟨0, [], _, _, _, _, _, _, _, _, Nat.zero_le _, rfl, hidD ⟨(fun D hD => by cases hD), HH0.out⟩⟩ ?_
      rintro A W ⟨q, Ds, x12, x45, x46, x47, x48, x49, x50, x56, hq, rfl, hI⟩
      by_cases hlq : q < N
      · have hB := hI.out.2.2.1
        obtain ⟨a', cap', e1, _, _, h3, h4⟩ := HV.out.below hB
        rw [← HN.out] at e1
        cases e1
        obtain ⟨g, off, rfl, hg, hcell⟩ := pseg_at (l := l) (by have := HN.out; omega) h3 h4
        obtain ⟨Q1, Q2⟩ := hcell q (by have := HN.out; omega)
        obtain ⟨_, y2, y3⟩ := HE.out q (by have := HN.out; omega)
        have HPq := hidD (HP.out q (by have := HN.out; omega))
        have cP := pointsOf_any (l.getD q (0, 0)).1 (l.getD q (0, 0)).2 pn
        clear hcell h3 h4
        generalize l.getD q (0, 0) = x at *
        have i1 : (q : Int) < (N : Int) := by omega
        gi_wp2_with (first | (gi_at_call 27; refine (callsIn_wide.2 (cP _)).mono ?_; rintro e w4 ⟨rfl, rfl⟩))
        obtain ⟨W3, hW3⟩ : ∃ W3, W3 = ((W.alloc (.cells #[.int .i64 x.1, .int .i64 x.2] 54)).alloc (.cells #[.int .i64 x.1, .int .i64 x.2] 54)).alloc (.cells #[.int .i64 pn] 3) := ⟨_, rfl⟩
        have hs3 : W3.heap.size = W.heap.size + 1 + 1 + 1 := by rw [hW3]; simp
        have hg3 : W.grownBy W3 none := by rw [hW3]; exact grownBy_alloc3 _ _ _ _
        have hH3 : HoldP w.heap.size w w2.heap.size Ds (Rp.pts pn (l.take q)) W3 := hI.out.2.grown (Nat.le_refl _) hg3
        obtain ⟨⟨vb, hvb, _, _⟩, _, hmk, _⟩ := hI.out.2
        have hbr := hvb.lt
        have hTw : Two w2.heap.size (W.heap.size + 1) (W.heap.size + 1 + 1) x.1 x.2 pn W3 := by
          refine ⟨by omega, by omega, by omega, ?_, ?_⟩
          · rw [hW3, heap_alloc_lt _ _ _ (by simp)]
            have := World.alloc_heap_new (W.alloc (.cells #[.int .i64 x.1, .int .i64 x.2] 54)) (.cells #[.int .i64 x.1, .int .i64 x.2] 54)
            rwa [World.size_alloc] at this
          · rw [hW3]
            have := World.alloc_heap_new ((W.alloc (.cells #[.int .i64 x.1, .int .i64 x.2] 54)).alloc (.cells #[.int .i64 x.1, .int .i64 x.2] 54)) (.cells #[.int .i64 pn] 3)
            rwa [World.size_alloc, World.size_alloc] at this
        have hmD : ∀ D ∈ Ds, D < W3.heap.size := fun D hD => by have := hmk.lt D hD; omega
        have hw3 : w.heap.size ≤ W3.heap.size := hH3.2.1.size
        rw [← hW3]
        have HTw := hidD hTw
        have HH3 := hidD hH3
        have HDs := hidD hI.out.1
        have HmD := hidD hmD
        have HSL2 : Hid ((Rp.pts pn (l.take q)).length + Rp.each pn x ≤ 1024) := hidD (by
          have e1 := HPL.out (l.take (q + 1))
          have e2 := HSL.out (q + 1)
          have e3 := HSZ.out
          rw [HPq.out, List.length_append, Rp.ptsOf_length] at e1
          omega)
        clear hW3 hg3 hvb hmk hTw hH3 hmD HH0 hI Q1 Q2 cP
        generalize hPP : Rp.pts pn (l.take q) = PP at *
        refine wpIn_rangeFunc_ownH rfl (by decide : 1 ≤ 10) (gf := 42) (lb := #[.pointer (some ⟨W.heap.size + 1, 0, none⟩), .pointer (some ⟨W.heap.size + 1 + 1, 0, none⟩)]) rfl trivial (fun _ _ => rfl)
          (points_stops 9 w2.heap.size (W.heap.size + 1) (W.heap.size + 1 + 1) x.1 x.2 pn y2 (by omega) W3 HTw.out) kpS_t kpS_b (Below.refl _ _) (fun _ => rfl)
          (fun pre X => HoldP w.heap.size w w2.heap.size Ds (PP ++ pre) X) (fun _ _ _ => False) (HoldP.own (fun pre => PP ++ pre) (Nat.le_refl _) hw3 HmD.out) (fun _ _ _ _ _ hs _ _ => hs) (by simpa using HH3.out)
          (fun z a' X => ∃ Bx, X.heap[Bx]? = some (.cells #[.int .u64 z.1, .int .i64 z.2] 52 (0, 0)) ∧ a' = { tmps := #[.int .i64 pn, .slice (some ⟨g, off, none⟩) N cap, undef, undef, .slice none 0 0, .int .i64 0, .int .i64 0, .int .i64 SZ, undef, u9, .pointer (some ⟨w2.heap.size, 0, none⟩), undef, .pointer (some ⟨W.heap.size, 0, none⟩), .pointer (some ⟨Bx, 0, none⟩), .slice (some ⟨g, off, none⟩) N cap, .int .i64 0, .int .i64 0, .bool false, undef, .int .i64 pn, .bool (decide (pn < 1)), .bool (decide (pn < 1)), .int .i64 pn, .bool (decide (64 < pn)), .bool (decide (pn < 1) || decide (64 < pn)), .slice (some ⟨g, off, none⟩) N cap, .int .i64 N, .int .i64 k, .bool false, u29, u30, u31, u32, u33, u34, u35, u36, u37, .int .i64 SZ, .bool (decide (1024 < (SZ : Int))), .int .i64 SZ, .slice (some ⟨wr.heap.size, 0, none⟩) 0 SZ, .slice (some ⟨g, off, none⟩) N cap, .int .i64 N, .int .i64 (q : Int), .bool true, .pointer (some ⟨g, off + q * 2, none⟩), .agg #[.int .i64 x.1, .int .i64 x.2], .agg #[.int .i64 x.1, .int .i64 x.2], .int .i64 pn, .func (.func 42) #[] #[.pointer (some ⟨W.heap.size + 1, 0, none⟩), .pointer (some ⟨W.heap.size + 1 + 1, 0, none⟩)], .agg #[.int .u64 z.1, .int .i64 z.2], undef, undef, undef, undef, x56, undef, undef, undef], defers := [] })
          (fun z a' _ X Y row hs hg hr => by
            obtain ⟨Bx, h1, h2⟩ := hs
            refine ⟨Bx, (hg.block Bx (Array.getElem?_eq_some_iff.1 h1).1 (fun e => ?_)).trans h1, h2⟩
            obtain ⟨_, o, ho, hc⟩ := hr Bx e.symm
            rw [h1] at ho
            cases ho
            cases hc)
          ?assign ?body ?done ?stop
        case assign =>
          intro ln pre z X K hIX hK
          gi_wp2
          have hga := World.grownBy_alloc X (.cells #[.int .u64 z.1, .int .i64 z.2] 52) none
          exact hK _ _ ((KeepsOthers.alloc _ _).from _) (kpS_grown hga) (hIX.grown (Nat.le_refl _) hga) ⟨X.heap.size, World.alloc_heap_new X _, rfl⟩
        case body =>
          rintro ln pre z a' X hln ⟨rc, hrc⟩ hIX ⟨Bx, hBx, rfl⟩ hlen
          obtain ⟨⟨v', bv, row, hnv⟩, hBX, hMX, hbr2⟩ := id hIX
          obtain ⟨M, hM⟩ : ∃ M, M = (PP ++ pre).length := ⟨_, rfl⟩
          rw [← hM] at row
          have HM := hidD hM
          have hM2 : M < 1024 := by
            have := HSL2.out
            have hlen2 : pre.length < Rp.each pn x := hlen
            rw [hM, List.length_append]
            omega
          clear hM
          obtain ⟨gr, capr, rfl⟩ : ∃ gr capr, v' = .slice (some ⟨gr, 0, none⟩) M capr := by
            rcases row.2 with ⟨rfl, _⟩ | ⟨gr, capr, cur, rfl, _⟩
            · exact absurd rfl hnv
            · exact ⟨gr, capr, rfl⟩
          have cbx0 : X.cell? ⟨Bx, 0, none⟩ = some (.int .u64 z.1) := by simp [World.cell?, hBx]
          have cbx1 : X.cell? ⟨Bx, 1, none⟩ = some (.int .i64 z.2) := by simp [World.cell?, hBx]
          have cv := bv.cell
          have hxs := hBX.size
          clear hlen
          gi_wp2_with (first | (gi_at_builtin; refine wpListIn_append_own _ rfl _ _ 23 rfl w.heap.size 52 i0 _ 2 16 Try.underlying23 hi hz0 hz1 hz2 rfl (by decide) _ _ _ rfl (row.alloc _) ⟨X.heap.size, 0, none⟩ 1 1 [.int .u64 z.1, .int .i64 z.2] rfl rfl (cells_two _ _ _ _) (by simp [Value.oneCell']) (by unfold maxLen; omega) (by omega) (by simp; omega) ?_; intro v2 w5 hown' hgrow hiff; obtain ⟨g', cap', rfl⟩ := ownsRow_succ hown'; obtain ⟨hv1, hv2, hr2, hk2, hb2⟩ := bv.appended (by decide) row hxs hbr2 hown' hgrow; have hc1 := hv1.cell; have hf1 := hv1.frozen))
          have hgrow2 : (X.alloc (.cells #[.int .u64 z.1, .int .i64 z.2] 52)).grownBy w5 (some gr) := hgrow
          have hKR : KpR w2.heap.size X (w5.setCell ⟨w2.heap.size, 0, none⟩ (.slice (some ⟨g', 0, none⟩) (M + 1) cap')) := by
            intro b c t f hb ht hh
            have hb1 : b < X.heap.size := (Array.getElem?_eq_some_iff.1 hh).1
            rw [(grownBy_setCell' w5 w2.heap.size (.slice (some ⟨g', 0, none⟩) (M + 1) cap')).block b (by have := hgrow.size; simp at this; omega) (fun e => hb (by cases e; rfl)), hgrow2.block b (by simp; omega) (fun e => ?_), heap_alloc_lt _ _ _ hb1]
            · exact hh
            · have hbg : b = gr := by simpa using e
              subst hbg
              rcases row.2 with ⟨h, _⟩ | ⟨g3, cap3, cur3, h, _, hgb, _⟩
              · cases h
              · cases h
                rw [hgb] at hh
                cases hh
                exact ht rfl
          refine ⟨hk2.from _, ⟨hKR, ?_⟩, ⟨_, hv2, ?_, by simp⟩, hBX.trans hb2, hMX.kept (fun D hD => ?_), hbr2⟩
          · have := hgrow.size
            simp at this ⊢
            omega
          · have hl : (PP ++ (pre ++ [z])).length = M + 1 := by rw [HM.out]; simp; omega
            have hrw : rowP (PP ++ (pre ++ [z])) = rowP (PP ++ pre) ++ [.int .u64 z.1, .int .i64 z.2] := by rw [← List.append_assoc, rowP_append]; rfl
            rw [hl, hrw]
            exact hr2
          · have hd := hMX.2 D hD
            rw [hd]
            exact hk2.same D _ hd rfl
        case done =>
          intro D xs X hD hxs hIX hdd
          have hH4 : HoldP w.heap.size w w2.heap.size (D :: Ds) (Rp.pts pn (l.take (q + 1))) X := by
            obtain ⟨h1, h2, h3, h4⟩ := hIX
            refine ⟨?_, h2, Marked.cons (w := W3) (HH3.out.2.2.1) hD h3 hdd, h4⟩
            rw [HPq.out, ← hxs]
            exact h1
          have HH4 := hidD hH4
          clear hH4 hIX
          dsimp only
          rw [show (({ target := .collected D, args := #[] } : Deferred) :: marks Ds) = marks (D :: Ds) from rfl]
          gi_wp2
          refine ⟨⟨q + 1, D :: Ds, _, _, _, _, _, _, _, _, by omega, rfl, hidD ⟨fun E hE => ?_, HH4.out⟩⟩, by simp [intOf]; omega⟩
          rcases List.mem_cons.1 hE with rfl | hE
          · omega
          · exact HDs.out E hE
        case stop =>
          intro D c pre X _ _ h _
          exact h.elim
      · have hke : l.take q = l := List.take_of_length_le (by have := HN.out; omega)
        obtain ⟨hDs, hHP⟩ := hI.out
        rw [hke] at hHP
        obtain ⟨⟨v', bv, row, hnv⟩, hBX, hMX, hbr2⟩ := hHP
        have HDs := hidD hDs
        have hd1 : (Rp.pts pn l).length ≤ 1024 := by rw [HPL.out l]; exact HSZ.out
        have cS := fun g cap => HCS.out W g cap (Rp.pts pn l) hd1
        clear hI hke HH0 HCS HV HE HS HSL HP hDs
        generalize hPP : Rp.pts pn l = PP at *
        have HPP := hidD hPP
        clear hPP
        obtain ⟨gr, capr, rfl⟩ : ∃ gr capr, v' = .slice (some ⟨gr, 0, none⟩) PP.length capr := by
          rcases row.2 with ⟨rfl, _⟩ | ⟨gr, capr, cur, rfl, _⟩
          · exact absurd rfl hnv
          · exact ⟨gr, capr, rfl⟩
        have c := cS gr capr row
        have cv := bv.cell
        have hne : w2.heap.size ≠ gr := fun e => bv.not_row (by decide) row (by rw [e]; rfl)
        have hblk := fun (w6 : World) (hg6 : W.grownBy w6 (some gr)) => hg6.block w2.heap.size bv.lt (by simpa using hne)
        have hMg : ∀ D ∈ Ds, D ≠ gr := by
          intro D hD e
          subst e
          have h1 := hMX.2 D hD
          rcases row.2 with ⟨h, _⟩ | ⟨g3, cap3, cur3, h, _, hgb, _⟩
          · cases h
          · cases h
            rw [hgb] at h1
            cases h1
        have hwg : w.heap.size ≤ gr := by
          rcases row.2 with ⟨h, _⟩ | ⟨g3, cap3, cur3, h, hge, _⟩
          · cases h
          · cases h
            exact hge
        have HB := hidD hblk
        have HMg := hidD hMg
        have HMX := hidD hMX
        have HROW := hidD row
        have HBX := hidD hBX
        have HBV := hidD bv
        have hlts := bv.lt
        clear cS hblk hMg row hBX hMX bv hnv
        generalize hQQ : PP.mergeSort Rp.le = QQ at *
        generalize hM : PP.length = M at *
        have HQQ := hidD hQQ
        have HM := hidD hM
        clear hQQ hM
        gi_wp2_with (first | (gi_at_call 28; refine (callsIn_wide.2 c).mono ?_; rintro e w6 ⟨rfl, hrow6, hg6⟩; have cv6 : w6.cell? ⟨w2.heap.size, 0, none⟩ = some (.slice (some ⟨gr, 0, none⟩) M capr) := (World.cell?_of_block (HB.out w6 hg6)).trans cv))
        have hM6 : Marked Ds w6 := HMX.out.kept fun D hD => hg6.block D (HMX.out.lt D hD) (by simpa using HMg.out D hD)
        refine leaves_marks Ds w6 hM6 ?_
        refine ⟨_, results_tmp2 rfl _ _ _, _, rfl, ?_, shut_below Ds w w6 (HBX.out.grown hg6 HBX.out.size (fun k e => by cases e; exact hwg)) HDs.out⟩
        rw [HPP.out, HQQ.out, HM.out]
        refine ⟨hrow6.1, ?_⟩
        rcases hrow6.2 with ⟨h, _⟩ | ⟨g3, cap3, cur3, h, e1, e2, e3⟩
        · cases h
        · cases h
          exact .inr ⟨gr, capr, cur3, rfl, e1, (shut_block Ds w6 gr (fun D hD => (HMg.out D hD).symm)).trans e2, e3⟩
end Go.Proofs.Ytekmcooghkchpaa
