/- frame: fresh, mayGo, sum, Put. -/
import Derived.Test.YtoadcaennlfadaaFPlainB
import Derived.Test.YtoadcaennlfadaaVarE
import Derived.Test.YtoadcaennlfadaaCrcH
namespace Go.Proofs.Ytoadcaennlfadaa
open Go.RowKit
set_option maxRecDepth 20000

set_option maxHeartbeats 400000 in
theorem ffresh_any (v : Value) (l : List Int) (w : World) (hs : Seg .u8 w v l) (hlen : l.length ≤ 140737488355328) :
    Calls Try.prog 57 #[v] w fun e w' => ∃ v', e = .returned v' ∧ w'.ownsRow w.heap.size 5 1 v' l.length (u8s l) ∧ Below w.heap.size w w' := by
  obtain ⟨i0, hi, hz0, hz1, hz2⟩ := info_parts Try.info5
  obtain ⟨a, cap, rfl, h1, h2, h3, h4⟩ := hs
  rcases a with _ | x
  · obtain ⟨rfl, rfl⟩ := h3 rfl
    go_enter Try.func57, Try.ntmps57
    go_wp2
    go_ret
    exact ⟨_, rfl, World.ownsRow_nil _ _ _ _, Below.refl _ _⟩
  · go_enter Try.func57, Try.ntmps57
    go_wp2_with (at_builtin; refine wpList_append_own _ rfl _ _ 22 rfl w.heap.size 5 i0 (.int .u8 0) 1 1 Try.underlying22 hi hz0 hz1 hz2 rfl (by decide) _ _ [] rfl (World.ownsRow_nil _ _ _ _) x l.length cap (u8s l) rfl ?c1 ?c2 ?c3 ?c4 ?c5 ?c6 ?_)
    case c1 => simp
    case c2 => exact map_cells fun i hi => h4 x rfl i hi
    case c3 => exact map_one
    case c4 => unfold maxLen; omega
    case c5 => omega
    case c6 => simp
    intro v' w1 hown1 hgrow _
    have hb1 : Below w.heap.size w w1 := (Below.refl _ _).grown hgrow (by simp) (fun k hk => by simp [Value.ownBlock] at hk)
    have HO : w1.ownsRow w.heap.size 5 1 v' l.length (u8s l) := by simpa using hown1
    clear hgrow hown1
    go_wp2
    go_ret
    exact ⟨v', rfl, HO, hb1⟩

/-- What Put says of one payload. -/
def Pl.errP (p : List Int) : Int := if p.length = 0 then 8 else if 4096 < p.length then 5 else 0

set_option maxHeartbeats 400000 in
theorem mayGo_one (w : World) (v u : Value) (p : List Int) (b off cap : Nat) (hv : v = .slice (some ⟨b, off, none⟩) 1 cap) (hc : w.cell? ⟨b, off, none⟩ = some u) (hp : Seg .u8 w u p) :
    Calls Try.prog 56 #[v] w fun e w' => e = .returned (.int .i64 (Pl.errP p)) ∧ w = w' := by
  subst hv
  obtain ⟨a, cp, rfl, h1, h2, h3, h4⟩ := hp
  clear h3 h4
  unfold maxLen at h2
  generalize hn : p.length = n at *
  by_cases h0 : n = 0
  · have HE : Hid (Pl.errP p = 8) := by show _ = _; unfold Pl.errP; rw [if_pos (by omega)]
    subst h0
    go_enter Try.func56, Try.ntmps56
    go_wp2
    (refine wp_loop_rounds 1 ?_; repeat any_goals (rw [rounds_succ]; go_wp2))
    go_ret
    exact ⟨by rw [HE.out]; rfl, rfl⟩
  · have hb0 : ((n : Int) == 0) = false := by simp; omega
    by_cases h5 : 4096 < n
    · have HE : Hid (Pl.errP p = 5) := by show _ = _; unfold Pl.errP; rw [if_neg (by omega), if_pos (by omega)]
      go_enter Try.func56, Try.ntmps56
      go_wp2
      (refine wp_loop_rounds 2 ?_; repeat any_goals (rw [rounds_succ]; go_wp2))
      (refine wp_loop_rounds 1 ?_; repeat any_goals (rw [rounds_succ]; go_wp2))
      go_ret
      exact ⟨by rw [HE.out]; rfl, rfl⟩
    · have HE : Hid (Pl.errP p = 0) := by show _ = _; unfold Pl.errP; rw [if_neg (by omega), if_neg (by omega)]
      go_enter Try.func56, Try.ntmps56
      go_wp2
      (refine wp_loop_rounds 2 ?_; repeat any_goals (rw [rounds_succ]; go_wp2))
      (refine wp_loop_rounds 2 ?_; repeat any_goals (rw [rounds_succ]; go_wp2))
      go_ret
      exact ⟨by rw [HE.out]; rfl, rfl⟩
end Go.Proofs.Ytoadcaennlfadaa
