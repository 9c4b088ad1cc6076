/- Slices of integers that are read; copies of octets. -/
import Derived.Test.YtoadcaennlfadaaVarA
import Derived.Laws.AppendOwnNone
namespace Go.Proofs.Ytoadcaennlfadaa
open Go.RowKit
set_option maxRecDepth 20000

set_option maxHeartbeats 400000 in
theorem fresh_any (v : Value) (l : List Int) (w : World) (hs : Seg .u8 w v l) (hlen : l.length ≤ 140737488355328) :
    Calls Try.prog 65 #[v] w fun e w' => ∃ v', e = .returned v' ∧ w'.ownsRow w.heap.size 5 1 v' l.length (u8s l) ∧ Below w.heap.size w w' := by
  obtain ⟨i0, hi, hz0, hz1, hz2⟩ := info_parts Try.info5
  obtain ⟨a, cap, rfl, h1, h2, h3, h4⟩ := hs
  rcases a with _ | x
  · obtain ⟨rfl, rfl⟩ := h3 rfl
    go_enter Try.func65, Try.ntmps65
    go_wp2
    go_ret
    exact ⟨_, rfl, World.ownsRow_made w #[] 0 (Nat.le_refl _) (Nat.zero_le _) rfl, (Below.refl _ _).alloc (Nat.le_refl _) _⟩
  · go_enter Try.func65, Try.ntmps65
    go_wp2_with (at_builtin; refine wpList_append_own _ rfl _ _ 22 rfl w.heap.size 5 i0 (.int .u8 0) 1 1 Try.underlying22 hi hz0 hz1 hz2 rfl (by decide) _ _ [] rfl (World.ownsRow_made w #[] 0 (Nat.le_refl _) (Nat.zero_le _) rfl) x l.length cap (u8s l) rfl ?c1 ?c2 ?c3 ?c4 ?c5 ?c6 ?_)
    case c1 => simp
    case c2 => exact map_cells fun i hi => cell_alloc_old _ trivial (h4 x rfl i hi)
    case c3 => exact map_one
    case c4 => unfold maxLen; omega
    case c5 => omega
    case c6 => simp
    intro v' w1 hown1 hgrow _
    have hb1 : Below w.heap.size w w1 := ((Below.refl _ _).alloc (Nat.le_refl _) _).grown hgrow (by simp) (fun k hk => by simp [Value.ownBlock] at hk; omega)
    have HO : w1.ownsRow w.heap.size 5 1 v' l.length (u8s l) := by simpa using hown1
    clear hgrow hown1
    go_wp2
    go_ret
    exact ⟨v', rfl, HO, hb1⟩

/-- Numbers as octets, one behind the other. -/
def encs (ns : List Int) : List Int := ns.flatMap (Pl.enc 9)
theorem encs_len (ns : List Int) : (encs ns).length ≤ 10 * ns.length := by
  induction ns with
  | nil => simp [encs]
  | cons n r ih =>
    have := Pl.enc_len_le 9 n
    simp only [encs, List.flatMap_cons, List.length_append, List.length_cons] at ih ⊢
    omega
theorem encs_take_succ (ns : List Int) (k : Nat) (h : k < ns.length) : encs (ns.take (k + 1)) = encs (ns.take k) ++ Pl.enc 9 (ns.getD k 0) := by
  rw [List.take_succ_eq_append_getElem h]
  simp only [encs, List.flatMap_append, List.flatMap_cons, List.flatMap_nil, List.append_nil]
  simp [List.getD, h]

set_option maxHeartbeats 400000 in
theorem put_any (v u : Value) (l ns : List Int) (w : World) (hs : Seg .u8 w v l) (hn : Seg .u64 w u ns) (hw : ∀ n ∈ ns, 0 ≤ n ∧ n ≤ 18446744073709551615) (hlen : l.length + 10 * ns.length ≤ 140737488355328) :
    Calls Try.prog 48 #[v, u] w fun e w' => ∃ v', e = .returned v' ∧ w'.ownsRow w.heap.size 5 1 v' (l ++ encs ns).length (u8s (l ++ encs ns)) ∧ Below w.heap.size w w' := by
  obtain ⟨a, cap, rfl, h1, h2, h3, h4⟩ := hn
  go_enter Try.func48, Try.ntmps48
  go_wp2_with (go_at_call 65; refine (fresh_any v l w hs (by omega)).mono ?_; rintro e w1 ⟨v1, rfl, hown1, hbel1⟩)
  unfold maxLen at h2
  go_loopw [5, 12] (fun a i wr => ∃ k : Nat, k ≤ ns.length ∧ i = .int .i64 k ∧ wr.ownsRow w.heap.size 5 1 a (l ++ encs (ns.take k)).length (u8s (l ++ encs (ns.take k))) ∧ Below w.heap.size w wr) (fun _ i _ => ns.length - (intOf i).toNat)
  case atStart => exact ⟨0, Nat.zero_le _, rfl, by simpa [encs] using hown1, hbel1⟩
  case round =>
    obtain ⟨k, hk, rfl, hown, hbel⟩ := hrel
    by_cases hlt : k < ns.length
    · obtain ⟨b, off, rfl, hb, hc⟩ := seg_at (by omega) h3 h4
      have hck := (hbel.cell (p := ⟨b, off + k, none⟩) hb).trans (hc k hlt)
      have hnk := hw (ns.getD k 0) (by simp [List.getD, hlt])
      have hel := encs_len (ns.take k)
      simp only [List.length_take] at hel
      have hsn := encs_take_succ ns k hlt
      have HS : Hid (encs (ns.take (k + 1)) = encs (ns.take k) ++ Pl.enc 9 (ns.getD k 0)) := hsn
      clear hsn hc h4 h3 hw
      generalize hx : ns.getD k 0 = x at *
      clear hx
      have hsz := hbel.size
      go_wp2_with (go_at_call 66; refine (putOne_any w.heap.size _ (l ++ encs (ns.take k)) x wr (by omega) hown hnk.1 hnk.2 (by simp only [List.length_append]; omega)).mono ?_; rintro e w2 ⟨v2, rfl, hown2, hbel2⟩)
      have HO : w2.ownsRow w.heap.size 5 1 v2 (l ++ encs (ns.take (k + 1))).length (u8s (l ++ encs (ns.take (k + 1)))) := by rw [HS.out, ← List.append_assoc]; exact hown2
      have hb2 := hbel.trans hbel2
      clear hown hown2 hbel2 hck
      go_wp2
      go_roundw
      case rel => exact ⟨k + 1, by omega, by go_num, HO, hb2⟩
      case measure => simp [intOf]; omega
    · have hke : k = ns.length := by omega
      have HO : wr.ownsRow w.heap.size 5 1 u5 (l ++ encs ns).length (u8s (l ++ encs ns)) := by rw [hke, List.take_length] at hown; exact hown
      clear hown hke
      go_wp2
      go_ret
      exact ⟨_, rfl, HO, hbel⟩
end Go.Proofs.Ytoadcaennlfadaa
