/- ring: the reference's Shares of any points; points copied. -/
import Derived.Test.YtekmcooghkchpaaRT3
import Derived.Laws.AppendOwnNone
namespace Go.Proofs.Ytekmcooghkchpaa
open Go.RowKit Go.Sort Go.Shelf

theorem rshares_bad1 (v : Value) (E keys : Int) (w : World) (a : Option Addr) (n c : Nat) (hv : v = .slice a n c) (hE : E ≠ 0)
    (CW : Calls Try.prog 15 #[v, .int .u64 0] w fun e w' => ∃ v', e = .returned (.tuple #[v', .int .i64 E]) ∧ Below w.heap.size w w') :
    Calls Try.prog 17 #[v, .int .i64 keys] w fun e w' => e = .returned (.tuple #[.slice none 0 0, .int .i64 E]) ∧ Below w.heap.size w w' := by
  subst hv
  have hb : (E != 0) = true := by simpa using hE
  go_enter Try.func17, Try.ntmps17
  go_wp2_with fail
  with_reducible refine CW.mono ?_
  rintro e w1 ⟨v1, rfl, b1⟩
  go_wp2
  refine bodyPost_ret (results_tmp2 rfl _ _ _) rfl ?_
  exact ⟨rfl, b1⟩
theorem rshares_bad2 (v : Value) (keys : Int) (w : World) (a : Option Addr) (n c : Nat) (hv : v = .slice a n c) (hk : keys < 0 ∨ 4096 < keys)
    (CW : Calls Try.prog 15 #[v, .int .u64 0] w fun e w' => ∃ v', e = .returned (.tuple #[v', .int .i64 0]) ∧ Below w.heap.size w w') :
    Calls Try.prog 17 #[v, .int .i64 keys] w fun e w' => e = .returned (.tuple #[.slice none 0 0, .int .i64 4]) ∧ Below w.heap.size w w' := by
  subst hv
  by_cases h1 : keys < 0
  · clear hk
    go_enter Try.func17, Try.ntmps17
    go_wp2_with fail
    with_reducible refine CW.mono ?_
    rintro e w1 ⟨v1, rfl, b1⟩
    go_wp2
    refine bodyPost_ret (results_tmp2 rfl _ _ _) rfl ?_
    exact ⟨rfl, b1⟩
  · have h2 : 4096 < keys := by omega
    clear hk
    go_enter Try.func17, Try.ntmps17
    go_wp2_with fail
    with_reducible refine CW.mono ?_
    rintro e w1 ⟨v1, rfl, b1⟩
    go_wp2
    refine bodyPost_ret (results_tmp2 rfl _ _ _) rfl ?_
    exact ⟨rfl, b1⟩
theorem rshares_any (v : Value) (r : List Rp.Pt) (keys : Int) (w : World) (hv : PSeg .u64 w v r) :
    Calls Try.prog 17 #[v, .int .i64 keys] w fun e w' => ∃ v', e = .returned (.tuple #[v', .int .i64 (Rp.sharesE r keys)]) ∧ Seg .i64 w' v' (Rp.sharesL r keys) ∧ Below w.heap.size w w' := by
  have cw := rwalk_any v r 0 w hv
  obtain ⟨a, cap, hveq, -⟩ := id hv
  by_cases h1 : Rp.peopledE r = 0
  · rw [h1] at cw
    by_cases h2 : keys < 0 ∨ 4096 < keys
    · have hE : Rp.sharesE r keys = 4 := by unfold Rp.sharesE; rw [if_neg (by omega), if_pos h2]
      have hL : Rp.sharesL r keys = [] := if_neg (by rw [hE]; omega)
      refine (rshares_bad2 v keys w _ _ _ hveq h2 (cw.mono fun _ _ ⟨v', h1, _, h2⟩ => ⟨v', h1, h2⟩)).mono ?_
      rintro e w' ⟨rfl, b⟩
      rw [hE, hL]
      exact ⟨_, rfl, Seg.nil _ _, b⟩
    · have hE : Rp.sharesE r keys = 0 := by unfold Rp.sharesE; rw [if_neg (by omega), if_neg h2]
      have hL : Rp.sharesL r keys = (Rp.sortI (Rp.walkL r 0)).map (fun y => (Rp.cnt r keys.toNat y : Int)) := by
        unfold Rp.sharesL Rp.ids
        rw [if_pos hE, Rp.sortI_is]
      obtain ⟨p1, p2, p3, p4⟩ := Rp.people_ok h1
      have hk : keys = ((keys.toNat : Nat) : Int) := by omega
      have c := rshares_good v r keys.toNat (Rp.walkL r 0) w hv (by omega) (by have := Rp.walk_le r 0; omega) p1 p3 cw
      rw [← hk] at c
      rw [hE, hL]
      exact c
  · have hE : Rp.sharesE r keys = Rp.peopledE r := by unfold Rp.sharesE; rw [if_pos h1]
    have hL : Rp.sharesL r keys = [] := if_neg (by rw [hE]; exact h1)
    refine (rshares_bad1 v (Rp.peopledE r) keys w _ _ _ hveq h1 (cw.mono fun _ _ ⟨v', h1, _, h2⟩ => ⟨v', h1, h2⟩)).mono ?_
    rintro e w' ⟨rfl, b⟩
    rw [hE, hL]
    exact ⟨_, rfl, Seg.nil _ _, b⟩

theorem rowP_one (xs : List Rp.Pt) : ∀ u ∈ rowP xs, u.oneCell' = true := by
  intro u hu
  unfold rowP at hu
  rw [List.mem_flatMap] at hu
  obtain ⟨x, _, hx⟩ := hu
  simp at hx
  rcases hx with rfl | rfl <;> rfl
theorem rowP_cells {W : World} {g off : Nat} {l : List Rp.Pt} (h : ∀ i, i < l.length → W.cell? ⟨g, off + i * 2, none⟩ = some (.int .u64 (l.getD i (0, 0)).1) ∧ W.cell? ⟨g, off + i * 2 + 1, none⟩ = some (.int .i64 (l.getD i (0, 0)).2)) :
    ∀ j u, (rowP l)[j]? = some u → W.cell? ((⟨g, off, none⟩ : Addr).add j) = some u := by
  intro j u hj
  have hlt : j < (rowP l).length := (List.getElem?_eq_some_iff.1 hj).1
  rw [rowP_length] at hlt
  rw [add_plain]
  obtain ⟨c1, c2⟩ := h (j / 2) (by omega)
  obtain ⟨d1, d2⟩ := rowP_get l (j / 2) (by omega)
  rcases Nat.mod_two_eq_zero_or_one j with h0 | h0
  · have e : j = j / 2 * 2 := by omega
    rw [← e] at c1 d1
    rw [c1, ← d1, hj]
  · have e : j = j / 2 * 2 + 1 := by omega
    rw [← e] at d2
    rw [Nat.add_assoc, ← e] at c2
    rw [c2, ← d2, hj]
/-- Points copied. -/
theorem own_any (v : Value) (r : List Rp.Pt) (w : World) (hv : PSeg .u64 w v r) (hlen : r.length ≤ 8796093022208) :
    Calls Try.prog 9 #[v] w fun e w' => ∃ v', e = .returned v' ∧ PSeg .u64 w' v' r ∧ Below w.heap.size w w' := by
  by_cases h0 : r = []
  · subst h0
    obtain ⟨a, cap, rfl, -⟩ := hv
    rw [show ([] : List Rp.Pt).length = 0 from rfl]
    rcases a with _ | ad
    · go_enter Try.func9, Try.ntmps9
      go_wp2
      go_ret
      exact ⟨_, rfl, PSeg.nil _ _, Below.refl _ _⟩
    · go_enter Try.func9, Try.ntmps9
      go_wp2
      go_ret
      exact ⟨_, rfl, PSeg.nil _ _, Below.refl _ _⟩
  · have hr0 : 0 < r.length := List.length_pos_iff.2 h0
    obtain ⟨a, cap, rfl, h1, h2, h3, h4⟩ := hv
    obtain ⟨g, off, rfl, hg, hcell⟩ := pseg_at hr0 h3 h4
    have HC := hidD (rowP_cells hcell)
    have HRL := hidD (rowP_length r)
    have hrow : w.ownsRow w.heap.size 52 2 (.slice none 0 0) 0 [] := World.ownsRow_nil _ _ _ _
    obtain ⟨i0, hi, hz0, hz1, hz2⟩ := info_parts Try.infoP
    obtain ⟨N, hN⟩ : ∃ N, N = r.length := ⟨_, rfl⟩
    have HN := hidD hN
    rw [← hN] at hlen hr0 HRL ⊢
    clear hN hcell h3 h4 h0
    go_enter Try.func9, Try.ntmps9
    go_wp2_with (first | (at_builtin; refine wpList_append_own _ rfl _ _ 23 rfl w.heap.size 52 i0 _ 2 16 Try.underlying23 hi hz0 hz1 hz2 rfl (by decide) _ _ _ rfl hrow ⟨g, off, none⟩ N cap (rowP r) rfl HRL.out HC.out (rowP_one _) (by unfold maxLen; omega) (by omega) (Nat.le_refl _) ?_; intro v2 w6 hown' hgrow _))
    go_ret
    refine ⟨_, rfl, pseg_of_row (n₀ := w.heap.size) ?_, (Below.refl _ _).grown hgrow (Nat.le_refl _) (fun k e => by cases e)⟩
    rw [← HN.out]
    simpa using hown'
end Go.Proofs.Ytekmcooghkchpaa
