/- Contracts of the reference's All, of SameNumbers and of Text. -/
import Derived.Test.YthakifpjdpknhaaCallsG
import Derived.BigQuiet
import Derived.Deep.QuietTactic
namespace Go.Proofs.Ythakifpjdpknhaa
open Go.RowKit

theorem rget_is (v : Value) (l : List Int) (p n q er : Int) (w : World) (hs : Seg .u8 w v l) (ho : ∀ z ∈ l, 0 ≤ z ∧ z ≤ 255) (hg : Pl.getI l p = (n, q, er)) (hp0 : -9223372036854775808 ≤ p) (hp1 : p ≤ 9223372036854775807) :
    Calls Try.prog 11 #[v, .int .i64 p] w fun e w' => e = .returned (.tuple #[.int .u64 n, .int .i64 q, .int .i64 er]) ∧ w = w' := by
  refine (rget_any v l p w hs ho hp0 hp1).mono ?_
  rintro e w' ⟨rfl, rfl⟩
  exact ⟨by rw [hg]; rfl, rfl⟩

set_option maxHeartbeats 1000000 in
theorem rall_any (v : Value) (l : List Int) (w : World) (hs : Seg .u8 w v l) (ho : ∀ z ∈ l, 0 ≤ z ∧ z ≤ 255) (hlen : l.length ≤ 9223372036854775807) :
    Calls Try.prog 13 #[v] w fun e w' => ∃ v', e = .returned (.tuple #[v', .int .i64 (Pl.allI l).2]) ∧ w'.ownsRow w.heap.size 23 1 v' (Pl.allI l).1.length (u64s (Pl.allI l).1) ∧ Below w.heap.size w w' := by
  obtain ⟨i0, hi, hz0, hz1, hz2⟩ := info_parts Try.info23
  obtain ⟨a, cap, hv, k1, k2, k3, k4⟩ := id hs
  subst hv
  clear k1 k2 k3 k4
  go_enter Try.func13, Try.ntmps13
  go_wp2
  go_loopw [4, 5] (fun x i wr => ∃ (f : Nat) (p : Int) (acc : List Int), 0 ≤ p ∧ p ≤ l.length ∧ (l.length : Int) - p < f ∧ i = .int .i64 p ∧ acc.length ≤ 4096 ∧ wr.ownsRow w.heap.size 23 1 x acc.length (u64s acc) ∧ Hid (Pl.allI l = Pl.allS f l p acc) ∧ Below w.heap.size w wr) (fun _ i _ => l.length - (intOf i).toNat)
  case atStart => exact ⟨l.length + 1, 0, [], by omega, by omega, by omega, rfl, by simp, World.ownsRow_nil _ _ _ _, (rfl : _ = _), Below.refl _ _⟩
  case round =>
    obtain ⟨f, p, acc, hp0, hp1, hf, rfl, ha, hown, HE, hbel⟩ := hrel
    have hsz := hbel.size
    by_cases hlt : p < (l.length : Int)
    · obtain ⟨g, rfl⟩ : ∃ g, f = g + 1 := by
        cases f with
        | zero => omega
        | succ g => exact ⟨g, rfl⟩
      obtain ⟨n, q, er, hgi⟩ : ∃ n q er, Pl.getI l p = (n, q, er) := ⟨_, _, _, rfl⟩
      by_cases hg : er = 0
      · subst hg
        obtain ⟨_, hn0, hn1, hpq, hql, _⟩ := Pl.getI_ok l p n q ho hgi
        obtain ⟨ax, cx, hx⟩ := Seg.own64 hown
        subst hx
        have hsr := hs.below hbel
        have HGI : Hid (Pl.getI l p = (n, q, 0)) := hgi
        clear hgi
        by_cases h4 : acc.length = 4096
        · have hb4 : ((acc.length : Int) == 4096) = true := by simp; omega
          have HF : Hid (Pl.allI l = ([], 3)) := by show _ = _; rw [HE.out, Pl.allS_full g l p acc hlt (by rw [HGI.out]) h4]
          have H4 : Hid (acc.length = 4096) := h4
          clear h4
          go_wp2_with (go_at_call 11; refine (rget_is _ l p n q _ wr hsr ho HGI.out (by omega) (by omega)).mono ?_; rintro e w2 ⟨rfl, rfl⟩)
          go_ret2
          rw [HF.out]
          exact ⟨_, rfl, World.ownsRow_nil _ _ _ _, hbel⟩
        · have hb4 : ((acc.length : Int) == 4096) = false := by simp; omega
          have H4 : Hid (¬ acc.length = 4096) := h4
          have hlt4 : acc.length < 4096 := by omega
          have HF : Hid (Pl.allI l = Pl.allS g l q (acc ++ [n])) := by show _ = _; rw [HE.out, Pl.allS_next g l p acc hlt (by rw [HGI.out]) h4, HGI.out]
          clear h4
          go_wp2_with (first | (go_at_call 11; refine (rget_is _ l p n q _ wr hsr ho HGI.out (by omega) (by omega)).mono ?_; rintro e w2 ⟨rfl, rfl⟩) | (at_builtin; refine wpList_append_own _ rfl _ _ 30 rfl w.heap.size 23 i0 (.int .u64 0) 1 8 Try.underlying30 hi hz0 hz1 hz2 rfl (by decide) _ _ _ rfl (hown.alloc _) ⟨wr.heap.size, 0, none⟩ 1 1 [.int .u64 n] rfl rfl (cell_one_new _ _ _) (by intro u hu; simp at hu; subst hu; rfl) (by unfold maxLen; omega) (by omega) (by simp; omega) ?_; intro v' w1 hown1 hgrow _; have hb1 : Below w.heap.size w w1 := (hbel.alloc (by omega) _).grown hgrow (by simp; omega) (fun k hk => (hown.lt k hk).1); have HO : w1.ownsRow w.heap.size 23 1 v' (acc ++ [n]).length (u64s (acc ++ [n])) := (by simpa [u64s] using hown1); clear hown hgrow hown1))
          go_roundw
          case rel => exact ⟨g, q, acc ++ [n], by omega, hql, by omega, rfl, by simp; omega, HO, HF, hb1⟩
          case measure => simp [intOf]; omega
      · obtain ⟨ax, cx, hx⟩ := Seg.own64 hown
        subst hx
        have hsr := hs.below hbel
        have HGI : Hid (Pl.getI l p = (n, q, er)) := hgi
        have HF : Hid (Pl.allI l = ([], er)) := by show _ = _; rw [HE.out, Pl.allS_err g l p acc hlt (by rw [hgi]; exact hg), hgi]
        have hne : (er != 0) = true := by simp [hg]
        clear hgi hg
        go_wp2_with (go_at_call 11; refine (rget_is _ l p n q _ wr hsr ho HGI.out (by omega) (by omega)).mono ?_; rintro e w2 ⟨rfl, rfl⟩)
        go_ret2
        rw [HF.out]
        exact ⟨_, rfl, World.ownsRow_nil _ _ _ _, hbel⟩
    · have HF : Hid (Pl.allI l = (acc, 0)) := by show _ = _; rw [HE.out, Pl.allS_end f l p acc (by omega)]
      go_wp2
      go_ret2
      rw [HF.out]
      exact ⟨_, rfl, hown, hbel⟩

set_option maxHeartbeats 1000000 in
theorem sameNumbers_any (v u : Value) (l m : List Int) (w : World) (hv : Seg .u64 w v l) (hu : Seg .u64 w u m) :
    Calls Try.prog 15 #[v, u] w fun e w' => e = .returned (.bool (l == m)) ∧ Below w.heap.size w w' := by
  obtain ⟨a, cap, rfl, h1, h2, h3, h4⟩ := hv
  obtain ⟨a', cap', rfl, h1', h2', h3', h4'⟩ := hu
  unfold maxLen at h2 h2'
  by_cases hlen : l.length = m.length
  · have hb : ((l.length : Int) != (m.length : Int)) = false := by simp; omega
    have HLn : Hid (l.length = m.length) := hlen
    clear hlen
    go_enter Try.func15, Try.ntmps15
    go_wp2
    go_loopw [5] (fun i wr => ∃ k : Nat, k ≤ l.length ∧ i = .int .i64 k ∧ Hid (l.take k = m.take k) ∧ Below w.heap.size w wr) (fun i _ => l.length - (intOf i).toNat)
    case atStart => exact ⟨0, Nat.zero_le _, rfl, (by simp : l.take 0 = m.take 0), Below.refl _ _⟩
    case round =>
      obtain ⟨k, hk, rfl, HE, hbel⟩ := hrel
      by_cases hlt : k < l.length
      · have hltm : k < m.length := by have := HLn.out; omega
        obtain ⟨b, off, rfl, hbb, hc⟩ := seg_at (by omega) h3 h4
        obtain ⟨b', off', rfl, hbb', hc'⟩ := seg_at (by omega) h3' h4'
        have hck := (hbel.cell (p := ⟨b, off + k, none⟩) hbb).trans (hc k hlt)
        have hck' := (hbel.cell (p := ⟨b', off' + k, none⟩) hbb').trans (hc' k hltm)
        have HS : Hid (l.take (k + 1) = l.take k ++ [l.getD k 0] ∧ m.take (k + 1) = m.take k ++ [m.getD k 0]) := by
          constructor
          · rw [List.take_succ_eq_append_getElem hlt, getD_at hlt]
          · rw [List.take_succ_eq_append_getElem hltm, getD_at hltm]
        have HN : Hid (l.getD k 0 ≠ m.getD k 0 → (l == m) = false) := by
          intro h
          rw [beq_eq_false_iff_ne]
          intro e
          exact h (by rw [e])
        generalize l.getD k 0 = x at *
        generalize m.getD k 0 = y at *
        clear hc hc' h3 h3' h4 h4'
        by_cases hxy : x = y
        · subst hxy
          have hne : (x != x) = false := by simp
          have HT : Hid (l.take (k + 1) = m.take (k + 1)) := by show _ = _; rw [HS.out.1, HS.out.2, HE.out]
          go_wp2
          go_quiet (fail)
          go_wp2
          go_roundw
          case rel => exact ⟨k + 1, by omega, by go_num, HT, below_drewN hbel _⟩
          case measure => simp [intOf]; omega
        · have hne : (x != y) = true := by simp [hxy]
          have HF := HN.out hxy
          have HFF : Hid ((l == m) = false) := HF
          clear HF hxy
          go_wp2
          go_quiet (fail)
          go_wp2
          go_ret
          exact ⟨by rw [HFF.out]; rfl, below_drewN hbel _⟩
      · have HF : Hid ((l == m) = true) := by
          show _ = _
          have := HE.out
          have hl := HLn.out
          rw [List.take_of_length_le (by omega), List.take_of_length_le (by omega)] at this
          simp [this]
        go_wp2
        go_ret
        exact ⟨by rw [HF.out]; rfl, hbel⟩
  · have hb : ((l.length : Int) != (m.length : Int)) = true := by simp; omega
    have HF : Hid ((l == m) = false) := by
      show _ = _
      rw [beq_eq_false_iff_ne]
      intro h
      exact hlen (by rw [h])
    clear hlen
    go_enter Try.func15, Try.ntmps15
    go_wp2
    go_ret
    exact ⟨by rw [HF.out]; rfl, Below.refl _ _⟩
end Go.Proofs.Ythakifpjdpknhaa
