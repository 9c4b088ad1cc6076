/- The contract of All. -/
import Derived.Test.YthakifpjdpknhaaCallsC
import Derived.Test.YthakifpjdpknhaaPlainD
namespace Go.Proofs.Ythakifpjdpknhaa
open Go.RowKit

abbrev u64s (l : List Int) : List Value := l.map (Value.int .u64)

theorem Seg.own64 {w : World} {B : Nat} {v : Value} {l : List Int} (h : w.ownsRow B 23 1 v l.length (u64s l)) : ∃ a cap, v = .slice a l.length cap := by
  obtain ⟨a, cap, hv, _⟩ := Seg.own h
  exact ⟨a, cap, hv⟩

theorem get_is (v : Value) (l : List Int) (p n q er : Int) (w : World) (hs : Seg .u8 w v l) (ho : ∀ z ∈ l, 0 ≤ z ∧ z ≤ 255) (hg : Pl.getI l p = (n, q, er)) (hp0 : -9223372036854775808 ≤ p) (hp1 : p ≤ 9223372036854775807) :
    Calls Try.prog 10 #[v, .int .i64 p] w fun e w' => e = .returned (.tuple #[.int .u64 n, .int .i64 q, .int .i64 er]) ∧ w = w' := by
  refine (get_any v l p w hs ho hp0 hp1).mono ?_
  rintro e w' ⟨rfl, rfl⟩
  exact ⟨by rw [hg]; rfl, rfl⟩

set_option maxHeartbeats 1000000 in
theorem all_any (v : Value) (l : List Int) (w : World) (hs : Seg .u8 w v l) (ho : ∀ z ∈ l, 0 ≤ z ∧ z ≤ 255) (hlen : l.length ≤ 9223372036854775807) :
    Calls Try.prog 12 #[v] w fun e w' => ∃ v', e = .returned (.tuple #[v', .int .i64 (Pl.allI l).2]) ∧ w'.ownsRow w.heap.size 23 1 v' (Pl.allI l).1.length (u64s (Pl.allI l).1) ∧ Below w.heap.size w w' := by
  obtain ⟨i0, hi, hz0, hz1, hz2⟩ := info_parts Try.info23
  obtain ⟨a, cap, hv, k1, k2, k3, k4⟩ := id hs
  subst hv
  clear k1 k2 k3 k4
  go_enter Try.func12, Try.ntmps12
  go_wp2
  go_loopw [4, 5] (fun x i wr => ∃ (f : Nat) (p : Int) (acc : List Int), 0 ≤ p ∧ p ≤ l.length ∧ (l.length : Int) - p < f ∧ i = .int .i64 p ∧ acc.length ≤ 4096 ∧ wr.ownsRow w.heap.size 23 1 x acc.length (u64s acc) ∧ Hid (Pl.allI l = Pl.allS f l p acc) ∧ Below w.heap.size w wr) (fun _ i _ => l.length - (intOf i).toNat)
  case atStart => exact ⟨l.length + 1, 0, [], by omega, by omega, by omega, rfl, by simp, World.ownsRow_nil _ _ _ _, (rfl : _ = _), Below.refl _ _⟩
  case round =>
    obtain ⟨f, p, acc, hp0, hp1, hf, rfl, ha, hown, HE, hbel⟩ := hrel
    have hsz := hbel.size
    by_cases hlt : p < (l.length : Int)
    · obtain ⟨g, rfl⟩ : ∃ g, f = g + 1 := by
        cases f with
        | zero => omega
        | succ g => exact ⟨g, rfl⟩
      obtain ⟨n, q, er, hgi⟩ : ∃ n q er, Pl.getI l p = (n, q, er) := ⟨_, _, _, rfl⟩
      by_cases hg : er = 0
      · subst hg
        obtain ⟨_, hn0, hn1, hpq, hql, _⟩ := Pl.getI_ok l p n q ho hgi
        obtain ⟨ax, cx, hx⟩ := Seg.own64 hown
        subst hx
        have hsr := hs.below hbel
        have HGI : Hid (Pl.getI l p = (n, q, 0)) := hgi
        clear hgi
        by_cases h4 : acc.length = 4096
        · have hb4 : ((acc.length : Int) == 4096) = true := by simp; omega
          have HF : Hid (Pl.allI l = ([], 3)) := by show _ = _; rw [HE.out, Pl.allS_full g l p acc hlt (by rw [HGI.out]) h4]
          have H4 : Hid (acc.length = 4096) := h4
          clear h4
          go_wp2_with (go_at_call 10; refine (get_is _ l p n q _ wr hsr ho HGI.out (by omega) (by omega)).mono ?_; rintro e w2 ⟨rfl, rfl⟩)
          go_ret2
          rw [HF.out]
          exact ⟨_, rfl, World.ownsRow_nil _ _ _ _, hbel⟩
        · have hb4 : ((acc.length : Int) == 4096) = false := by simp; omega
          have H4 : Hid (¬ acc.length = 4096) := h4
          have hlt4 : acc.length < 4096 := by omega
          have HF : Hid (Pl.allI l = Pl.allS g l q (acc ++ [n])) := by show _ = _; rw [HE.out, Pl.allS_next g l p acc hlt (by rw [HGI.out]) h4, HGI.out]
          clear h4
          go_wp2_with (first | (go_at_call 10; refine (get_is _ l p n q _ wr hsr ho HGI.out (by omega) (by omega)).mono ?_; rintro e w2 ⟨rfl, rfl⟩) | (at_builtin; refine wpList_append_own _ rfl _ _ 30 rfl w.heap.size 23 i0 (.int .u64 0) 1 8 Try.underlying30 hi hz0 hz1 hz2 rfl (by decide) _ _ _ rfl (hown.alloc _) ⟨wr.heap.size, 0, none⟩ 1 1 [.int .u64 n] rfl rfl (cell_one_new _ _ _) (by intro u hu; simp at hu; subst hu; rfl) (by unfold maxLen; omega) (by omega) (by simp; omega) ?_; intro v' w1 hown1 hgrow _; have hb1 : Below w.heap.size w w1 := (hbel.alloc (by omega) _).grown hgrow (by simp; omega) (fun k hk => (hown.lt k hk).1); have HO : w1.ownsRow w.heap.size 23 1 v' (acc ++ [n]).length (u64s (acc ++ [n])) := (by simpa [u64s] using hown1); clear hown hgrow hown1))
          go_roundw
          case rel => exact ⟨g, q, acc ++ [n], by omega, hql, by omega, rfl, by simp; omega, HO, HF, hb1⟩
          case measure => simp [intOf]; omega
      · obtain ⟨ax, cx, hx⟩ := Seg.own64 hown
        subst hx
        have hsr := hs.below hbel
        have HGI : Hid (Pl.getI l p = (n, q, er)) := hgi
        have HF : Hid (Pl.allI l = ([], er)) := by show _ = _; rw [HE.out, Pl.allS_err g l p acc hlt (by rw [hgi]; exact hg), hgi]
        have hne : (er != 0) = true := by simp [hg]
        clear hgi hg
        go_wp2_with (go_at_call 10; refine (get_is _ l p n q _ wr hsr ho HGI.out (by omega) (by omega)).mono ?_; rintro e w2 ⟨rfl, rfl⟩)
        go_ret2
        rw [HF.out]
        exact ⟨_, rfl, World.ownsRow_nil _ _ _ _, hbel⟩
    · have HF : Hid (Pl.allI l = (acc, 0)) := by show _ = _; rw [HE.out, Pl.allS_end f l p acc (by omega)]
      go_wp2
      go_ret2
      rw [HF.out]
      exact ⟨_, rfl, hown, hbel⟩
end Go.Proofs.Ythakifpjdpknhaa
