/- subset: check; has, of the law and of the reference. -/
import Derived.Test.YtdgdhhbapgfjgaaS1
namespace Go.Proofs.Ytdgdhhbapgfjgaa
open Go.RowKit
set_option maxRecDepth 20000

theorem Seg.atD {w : World} {a : Option Addr} {n cap : Nat} {l : List Int} (hs : Seg .i64 w (.slice a n cap) l) (k : Nat) (hk : k < l.length) :
    ∃ b off, a = some ⟨b, off, none⟩ ∧ b < w.heap.size ∧ w.cell? ⟨b, off + k, none⟩ = some (.int .i64 (l.getD k 0)) := by
  obtain ⟨a', c', he, _, _, h3, h4⟩ := hs
  injection he with e1 e2 e3
  subst e1 e3
  obtain ⟨b, off, e, hb, hc⟩ := seg_at (by omega) h3 h4
  exact ⟨b, off, e, hb, hc k hk⟩
theorem mem_take_succ {l : List Int} {k : Nat} {x : Int} (hk : k < l.length) : x ∈ l.take (k + 1) ↔ x ∈ l.take k ∨ x = l.getD k 0 := by
  rw [List.take_succ_eq_append_getElem hk, List.mem_append, List.mem_singleton, dgetD_at hk]

set_option maxHeartbeats 1000000 in
theorem has_any (v : Value) (l : List Int) (x : Int) (w : World) (hs : Seg .i64 w v l) :
    Calls Try.prog 21 #[v, .int .i64 x] w fun e w' => e = .returned (.bool (decide (x ∈ l))) ∧ w = w' := by
  have HS := hidD hs
  obtain ⟨a, c, rfl, h1, h2, _, _⟩ := hs
  unfold maxLen at h2
  obtain ⟨N, hN⟩ : ∃ N, N = l.length := ⟨_, rfl⟩
  rw [← hN] at h1 ⊢
  have HN := hidD hN
  obtain ⟨D, hD⟩ : ∃ D, D = decide (x ∈ l) := ⟨_, rfl⟩
  rw [← hD]
  have HD := hidD hD
  clear hN hD
  go_enter Try.func21, Try.ntmps21
  go_wp2
  go_loopw [5] (fun i wr => ∃ k : Nat, k ≤ N ∧ i = .int .i64 k ∧ Hid (x ∉ l.take k) ∧ wr = w) (fun i _ => N - (intOf i).toNat)
  case atStart => exact ⟨0, Nat.zero_le _, rfl, by simp [Hid], rfl⟩
  case round =>
    obtain ⟨k, hk, rfl, hc, rfl⟩ := hrel
    by_cases hlt : k < N
    · have kl : k < l.length := by have := HN.out; omega
      obtain ⟨b, off, rfl, hb, Q⟩ := HS.out.atD k kl
      by_cases hq : l.getD k 0 = x
      · have hd := HD.out
        rw [decide_eq_true (by rw [← hq, dgetD_at kl]; exact List.getElem_mem _)] at hd
        subst hd
        rw [hq] at Q
        clear hq kl
        go_wp2
        go_ret
        exact ⟨rfl, rfl⟩
      · have hc2 : Hid (x ∉ l.take (k + 1)) := by
          show ¬ _
          rw [mem_take_succ kl]
          rintro (h | h)
          · exact hc.out h
          · exact hq h.symm
        clear kl hc
        generalize l.getD k 0 = y at *
        go_wp2
        exact ⟨⟨k + 1, by omega, by go_num, hc2, (by first | rfl | trivial)⟩, by simp [intOf]; omega⟩
    · have hd := HD.out
      rw [decide_eq_false (by have h := hc.out; rwa [List.take_of_length_le (by have := HN.out; omega)] at h)] at hd
      subst hd
      clear hc
      go_wp2
      go_ret
      exact ⟨rfl, rfl⟩

set_option maxHeartbeats 1000000 in
theorem check_any (v : Value) (l : List Int) (w : World) (hs : Seg .i64 w v l) :
    Calls Try.prog 22 #[v] w fun e w' => e = .returned (.int .i64 (Sp.chE l)) ∧ w = w' := by
  have HS := hidD hs
  obtain ⟨a, c, rfl, h1, h2, _, _⟩ := hs
  unfold maxLen at h2
  unfold Sp.chE
  by_cases h32 : 32 < l.length
  · rw [if_pos h32]
    generalize l.length = N at *
    go_enter Try.func22, Try.ntmps22
    go_wp2
    go_ret
    exact ⟨rfl, rfl⟩
  rw [if_neg h32]
  obtain ⟨N, hN⟩ : ∃ N, N = l.length := ⟨_, rfl⟩
  rw [← hN] at h1 h32 ⊢
  have HN := hidD hN
  obtain ⟨D, hD⟩ : ∃ D, D = Sp.rises (-1) l := ⟨_, rfl⟩
  rw [← hD]
  have HD := hidD hD
  clear hN hD
  go_enter Try.func22, Try.ntmps22
  go_wp2
  go_loopw [3, 11] (fun z i wr => ∃ (k : Nat) (y : Int), k ≤ N ∧ i = .int .i64 k ∧ z = .int .i64 y ∧ Hid (D = Sp.rises y (l.drop k)) ∧ wr = w) (fun _ i _ => N - (intOf i).toNat)
  case atStart => exact ⟨0, -1, Nat.zero_le _, rfl, rfl, HD.out, rfl⟩
  case round =>
    clear HD
    obtain ⟨k, y, hk, rfl, rfl, hc, rfl⟩ := hrel
    by_cases hlt : k < N
    · have kl : k < l.length := by have := HN.out; omega
      obtain ⟨b, off, rfl, hb, Q⟩ := HS.out.atD k kl
      have hd := hc.out
      rw [List.drop_eq_getElem_cons kl, Sp.rises, ← dgetD_at kl] at hd
      by_cases hq : l.getD k 0 ≤ y
      · rw [decide_eq_false (by omega), Bool.false_and] at hd
        subst hd
        clear kl hc
        generalize l.getD k 0 = x at *
        go_wp2
        go_ret
        exact ⟨rfl, rfl⟩
      · rw [decide_eq_true (by omega), Bool.true_and] at hd
        have HD2 := hidD hd
        clear kl hc hd
        generalize l.getD k 0 = x at *
        go_wp2
        exact ⟨⟨k + 1, x, by omega, by go_num, rfl, HD2, (by first | rfl | trivial)⟩, by simp [intOf]; omega⟩
    · have hd := hc.out
      rw [List.drop_eq_nil_of_le (by have := HN.out; omega), Sp.rises] at hd
      subst hd
      clear hc
      go_wp2
      go_ret
      exact ⟨rfl, rfl⟩

set_option maxHeartbeats 1000000 in
theorem rhas_any (v : Value) (l : List Int) (x : Int) (w : World) (hs : Seg .i64 w v l) :
    Calls Try.prog 28 #[v, .int .i64 x] w fun e w' => e = .returned (.bool (decide (x ∈ l))) ∧ w = w' := by
  have HS := hidD hs
  obtain ⟨a, c, rfl, h1, h2, _, _⟩ := hs
  unfold maxLen at h2
  obtain ⟨N, hN⟩ : ∃ N, N = l.length := ⟨_, rfl⟩
  rw [← hN] at h1 ⊢
  have HN := hidD hN
  obtain ⟨D, hD⟩ : ∃ D, D = decide (x ∈ l) := ⟨_, rfl⟩
  rw [← hD]
  have HD := hidD hD
  clear hN hD
  go_enter Try.func28, Try.ntmps28
  go_wp2
  go_loopw [5] (fun i wr => ∃ k : Nat, k ≤ N ∧ i = .int .i64 k ∧ Hid (x ∉ l.take k) ∧ wr = w) (fun i _ => N - (intOf i).toNat)
  case atStart => exact ⟨0, Nat.zero_le _, rfl, by simp [Hid], rfl⟩
  case round =>
    obtain ⟨k, hk, rfl, hc, rfl⟩ := hrel
    by_cases hlt : k < N
    · have kl : k < l.length := by have := HN.out; omega
      obtain ⟨b, off, rfl, hb, Q⟩ := HS.out.atD k kl
      by_cases hq : l.getD k 0 = x
      · have hd := HD.out
        rw [decide_eq_true (by rw [← hq, dgetD_at kl]; exact List.getElem_mem _)] at hd
        subst hd
        rw [hq] at Q
        clear hq kl
        go_wp2
        go_ret
        exact ⟨rfl, rfl⟩
      · have hc2 : Hid (x ∉ l.take (k + 1)) := by
          show ¬ _
          rw [mem_take_succ kl]
          rintro (h | h)
          · exact hc.out h
          · exact hq h.symm
        clear kl hc
        generalize l.getD k 0 = y at *
        go_wp2
        exact ⟨⟨k + 1, by omega, by go_num, hc2, (by first | rfl | trivial)⟩, by simp [intOf]; omega⟩
    · have hd := HD.out
      rw [decide_eq_false (by have h := hc.out; rwa [List.take_of_length_le (by have := HN.out; omega)] at h)] at hd
      subst hd
      clear hc
      go_wp2
      go_ret
      exact ⟨rfl, rfl⟩

end Go.Proofs.Ytdgdhhbapgfjgaa
