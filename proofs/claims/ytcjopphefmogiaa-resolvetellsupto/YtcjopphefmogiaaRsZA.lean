/- resolve: Check of the code's; slices.Clone of backends. -/
import Derived.Test.YtcjopphefmogiaaRsG
namespace Go.Proofs.Ytcjopphefmogiaa
open Go.RowKit
set_option linter.unusedVariables false
set_option maxRecDepth 20000

theorem rvout_any (x y : Int) (w : World) : Calls Try.prog 34 #[.agg #[.int .i64 x, .int .i64 y]] w fun e w' => e = .returned (.bool (Rp.outside (x, y))) ∧ Below w.heap.size w w' := by
  have hb : Below w.heap.size w (w.alloc (.cells #[.int .i64 x, .int .i64 y] 60)) := (Below.refl _ _).alloc (Nat.le_refl _) _
  have hd : Rp.outside (x, y) = (decide (x < 0) || decide (2147483647 < x) || decide (y < 1) || decide (16 < y)) := rfl
  rw [hd]
  clear hd
  by_cases h1 : x < 0
  · have hr : (decide (x < 0) || decide (2147483647 < x) || decide (y < 1) || decide (16 < y)) = true := by simp [h1]
    rw [hr]
    clear hr
    go_enter Try.func34, Try.ntmps34
    go_wp2
    go_ret
    exact ⟨rfl, hb⟩
  · by_cases h2 : 2147483647 < x
    · have hr : (decide (x < 0) || decide (2147483647 < x) || decide (y < 1) || decide (16 < y)) = true := by simp [h2]
      rw [hr]
      clear hr
      go_enter Try.func34, Try.ntmps34
      go_wp2
      go_ret
      exact ⟨rfl, hb⟩
    · by_cases h3 : y < 1
      · have hr : (decide (x < 0) || decide (2147483647 < x) || decide (y < 1) || decide (16 < y)) = true := by simp [h3]
        rw [hr]
        clear hr
        go_enter Try.func34, Try.ntmps34
        go_wp2
        go_ret
        exact ⟨rfl, hb⟩
      · have hr : (decide (x < 0) || decide (2147483647 < x) || decide (y < 1) || decide (16 < y)) = decide (16 < y) := by simp [h1, h2, h3]
        rw [hr]
        clear hr
        go_enter Try.func34, Try.ntmps34
        go_wp2
        go_ret
        exact ⟨rfl, hb⟩
theorem rvidx_any (ft : Nat) (hen : ∀ (args : Array Value) (w' : World), (callFunc ft args).run Try.prog w' = .ok (.enter ft args) w') (P : Rp.Pt → Bool) (v : Value) (l : List Rp.Pt) (w : World) (hv : BS w v l)
    (ht : ∀ (x y : Int) (w : World), Calls Try.prog ft #[.agg #[.int .i64 x, .int .i64 y]] w fun e w' => e = .returned (.bool (P (x, y))) ∧ Below w.heap.size w w') :
    Calls Try.prog 35 #[v, .func (.func ft) #[] #[]] w fun e w' => ∃ r : Int, e = .returned (.int .i64 r) ∧ (decide (0 ≤ r) = l.any P) ∧ Below w.heap.size w w' := by
  have HV := hidD (fun (W : World) (b : Below w.heap.size w W) => hv.below b)
  obtain ⟨a, cap, rfl, h1, h2, _, _⟩ := id hv
  obtain ⟨N, hN⟩ : ∃ N, N = l.length := ⟨_, rfl⟩
  rw [← hN] at h1 HV ⊢
  unfold maxLen at h2
  have HN : Hid (N = l.length) := hN
  clear hN hv
  go_enter Try.func35, Try.ntmps35
  go_wp2_with fail
  go_loopw [8] (fun i wr => ∃ k : Nat, k ≤ N ∧ i = .int .i64 k ∧ Hid ((l.take k).any P = false) ∧ Below w.heap.size w wr) (fun i _ => N - (intOf i).toNat)
  case atStart => exact ⟨0, Nat.zero_le _, rfl, by simp [Hid], Below.refl _ _⟩
  case round =>
    obtain ⟨k, hk, rfl, hc, hbl⟩ := hrel
    by_cases hlt : k < N
    · obtain ⟨g, off, rfl, hg, hcell⟩ := BS.at (HV.out wr hbl) k (by have := HN.out; omega)
      obtain ⟨Q1, Q2⟩ := hcell k (by have := HN.out; omega)
      have hb := ht (Rv.g l k).1 (Rv.g l k).2 wr
      have HT := hidD (pany_take P l k (by have := HN.out; omega))
      have HA := hidD (pany_at P l k (by have := HN.out; omega))
      rw [Prod.eta] at hb
      clear hcell ht
      generalize Rv.g l k = x at *
      by_cases hq : P x = true
      · rw [hq] at hb
        go_wp2_with fail
        refine hb.mono ?_
        rintro e w2 ⟨rfl, b2⟩
        go_wp2
        go_ret
        exact ⟨_, rfl, by rw [HA.out hq]; exact decide_eq_true (by omega), Below.step hbl b2⟩
      · rw [Bool.not_eq_true] at hq
        rw [hq] at hb
        go_wp2_with fail
        refine hb.mono ?_
        rintro e w2 ⟨rfl, b2⟩
        have hc2 : Hid ((l.take (k + 1)).any P = false) := by
          show (l.take (k + 1)).any P = false
          rw [HT.out, hc.out, hq]
          rfl
        have b3 := Below.step hbl b2
        clear hb hq hbl b2
        go_wp2
        exact ⟨⟨k + 1, by omega, by go_num, hc2, b3⟩, by simp [intOf]; omega⟩
    · have hke : l.take k = l := List.take_of_length_le (by have := HN.out; omega)
      rw [hke] at hc
      clear hke ht
      go_wp2
      go_ret
      exact ⟨_, rfl, by rw [hc.out]; rfl, hbl⟩

theorem rvcon_any (ft : Nat) (hen : ∀ (args : Array Value) (w' : World), (callFunc ft args).run Try.prog w' = .ok (.enter ft args) w') (P : Rp.Pt → Bool) (v : Value) (l : List Rp.Pt) (w : World) (hv : BS w v l)
    (ht : ∀ (x y : Int) (w : World), Calls Try.prog ft #[.agg #[.int .i64 x, .int .i64 y]] w fun e w' => e = .returned (.bool (P (x, y))) ∧ Below w.heap.size w w') :
    Calls Try.prog 33 #[v, .func (.func ft) #[] #[]] w fun e w' => e = .returned (.bool (l.any P)) ∧ Below w.heap.size w w' := by
  have c := rvidx_any ft hen P v l w hv ht
  clear ht hv
  generalize l.any P = b at *
  go_enter Try.func33, Try.ntmps33
  go_wp2_with fail
  refine c.mono ?_
  rintro e w' ⟨r, rfl, hr, b1⟩
  subst hr
  go_wp2
  go_ret
  exact ⟨rfl, b1⟩

set_option maxHeartbeats 4000000 in
theorem rvring_any (v : Value) (l : List Rp.Pt) (w : World) (hv : BS w v l) :
    Calls Try.prog 31 #[v] w fun e w' => e = .returned (.int .i64 (Rp.checkE l)) ∧ Below w.heap.size w w' := by
  have HV := hidD (fun (W : World) (b : Below w.heap.size w W) => hv.below b)
  obtain ⟨a, cap, rfl, h1, h2, _, _⟩ := id hv
  have c := rvcon_any 34 (fun _ _ => rfl) Rp.outside _ l w hv (fun x y w => rvout_any x y w)
  have HE : Hid (Rp.checkE l = if 32 < l.length then 3 else if l.any Rp.outside then 4 else if Rp.rises l then 0 else 6) := hidD rfl
  have HS1 := hidD (@rises_all l)
  have HS2 := hidD (@rises_not l)
  obtain ⟨N, hN⟩ : ∃ N, N = l.length := ⟨_, rfl⟩
  rw [← hN] at h1 c HV ⊢
  unfold maxLen at h2
  have HN : Hid (N = l.length) := hN
  generalize Rp.checkE l = E at *
  generalize l.any Rp.outside = o at *
  generalize Rp.rises l = B at *
  clear hN hv
  by_cases hlen : 32 < N
  · have hE : E = 3 := by rw [HE.out, if_pos (by rw [← HN.out]; exact hlen)]
    subst hE
    clear c
    go_enter Try.func31, Try.ntmps31
    go_wp2
    go_ret
    exact ⟨rfl, Below.refl _ _⟩
  · cases ho : o with
    | true =>
      subst ho
      have hE : E = 4 := by rw [HE.out, if_neg (by rw [← HN.out]; exact hlen)]; rfl
      subst hE
      go_enter Try.func31, Try.ntmps31
      go_wp2_with fail
      with_reducible refine c.mono ?_
      rintro e w' ⟨rfl, b1⟩
      go_wp2
      go_ret
      exact ⟨rfl, b1⟩
    | false =>
      subst ho
      have hE : Hid (E = if B then 0 else 6) := by show E = _; rw [HE.out, if_neg (by rw [← HN.out]; exact hlen)]; rfl
      go_enter Try.func31, Try.ntmps31
      go_wp2_with fail
      with_reducible refine c.mono ?_
      rintro e w' ⟨rfl, b1⟩
      go_wp2_with fail
      go_loopw [3] (fun i wr => ∃ k : Nat, 1 ≤ k ∧ (k ≤ N ∨ k = 1) ∧ i = .int .i64 k ∧ Hid (∀ j : Nat, j < k → 0 < j → (Rv.g l (j - 1)).1 < (Rv.g l j).1) ∧ Below w.heap.size w wr) (fun i _ => N - (intOf i).toNat)
      case atStart => exact ⟨1, by omega, .inr rfl, rfl, hidD (fun j h1 h2 => by omega), b1⟩
      case round =>
        obtain ⟨k, hk1, hk2, rfl, hc, hbl⟩ := hrel
        by_cases hlt : k < N
        · obtain ⟨g, off, rfl, hg, hcell⟩ := BS.at (HV.out wr hbl) k (by have := HN.out; omega)
          obtain ⟨J, hJ⟩ : ∃ J, J = k - 1 := ⟨_, rfl⟩
          have Q1 := (hcell k (by have := HN.out; omega)).1
          have Q3 := (hcell J (by have := HN.out; omega)).1
          have HU : Hid (¬ (Rv.g l J).1 < (Rv.g l k).1 → B = false) := hidD (fun h => HS2.out k (by omega) (by have := HN.out; omega) (by rw [← hJ]; omega))
          have HN2 : Hid ((Rv.g l J).1 < (Rv.g l k).1 → ∀ j : Nat, j < k + 1 → 0 < j → (Rv.g l (j - 1)).1 < (Rv.g l j).1) := hidD (fun h j h1 h2 => by
            by_cases hj : j = k
            · subst hj; rw [← hJ]; exact h
            · exact hc.out j (by omega) h2)
          clear hcell HS1 HS2 c
          generalize (Rv.g l k).1 = x at *
          generalize (Rv.g l J).1 = y at *
          have i1 : (k : Int) < (N : Int) := by omega
          have i3 : (J : Int) < (N : Int) := by omega
          have i4 : IntKind.i64.wrap ((k : Int) - 1) = (J : Int) := by rw [IntKind.wrap_i64]; omega
          have HJ := hidD hJ
          clear hJ
          by_cases hz : y < x
          · have hc2 := hidD (HN2.out hz)
            have hd : decide (x ≤ y) = false := decide_eq_false (by omega)
            go_wp2_with fail
            go_quiet (fail)
            go_wp2
            exact ⟨⟨k + 1, by omega, .inl (by omega), by go_num, hc2, belowD_drewN hbl _⟩, by simp [intOf]; omega⟩
          · have HB := HU.out hz
            subst HB
            have HE2 : E = 6 := hE.out
            subst HE2
            have hd : x ≤ y := by omega
            go_wp2_with fail
            go_quiet (fail)
            go_wp2
            go_ret
            exact ⟨rfl, belowD_drewN hbl _⟩
        · have HB : B = true := HS1.out (fun i h0 h1 => hc.out i (by have := HN.out; omega) h0)
          subst HB
          have HE2 : E = 0 := hE.out
          subst HE2
          clear c
          go_wp2
          go_ret
          exact ⟨rfl, hbl⟩

set_option maxHeartbeats 4000000 in
theorem rvchk_any (r : Value) (s : Rv.S) (w : World) (hs : BS w r s.l) : Calls Try.prog 24 #[vS r s.v] w fun e w' => e = .returned (.int .i64 (Rv.chk s)) ∧ Below w.heap.size w w' := by
  obtain ⟨v, l⟩ := s
  dsimp only at hs ⊢
  obtain ⟨W, hW, X, B, Z⟩ := box_one w [.int .i64 v, r] 24
  have c := rvring_any r l W (hs.below B)
  have E1 : Hid (v < 0 ∨ 1073741824 < v → Rv.chk ⟨v, l⟩ = 4) := hidD (fun h => if_pos h)
  have E2 : Hid (¬ (v < 0 ∨ 1073741824 < v) → Rv.chk ⟨v, l⟩ = Rp.checkE l) := hidD (fun h => if_neg h)
  generalize Rv.chk ⟨v, l⟩ = E at *
  generalize Rp.checkE l = e0 at *
  have q0 := X.cell 0 rfl
  have q1 := X.cell 1 rfl
  have HB := hidD B
  have HZ : Hid (w.heap.size ≤ W.heap.size) := hidD (by omega)
  obtain ⟨a, cap, rfl, _⟩ := id hs
  obtain ⟨b, hb⟩ : ∃ b, b = w.heap.size := ⟨_, rfl⟩
  rw [← hb] at q0 q1 HB HZ ⊢
  clear X B Z hs
  go_enter Try.func24, Try.ntmps24
  go_upto_region 1 with fail
  rw [← hb, ← hW]
  clear hb hW
  by_cases h1 : v < 0
  · have hE := E1.out (.inl h1)
    subst hE
    go_wp2_with fail
    go_ret
    exact ⟨rfl, HB.out⟩
  by_cases h2 : 1073741824 < v
  · have hE := E1.out (.inr h2)
    subst hE
    go_wp2_with fail
    go_ret
    exact ⟨rfl, HB.out⟩
  have hE := E2.out (by omega)
  subst hE
  go_wp2_with fail
  with_reducible refine c.mono ?_
  rintro e w1 ⟨rfl, b1⟩
  have H1 := hidD (below_on HB.out HZ.out b1)
  clear c b1 E1 E2
  go_wp2_with fail
  go_ret
  exact ⟨rfl, H1.out⟩
theorem ob_made (w : World) : OB (w.alloc (.cells #[] 60)) w.heap.size (.slice (some ⟨w.heap.size, 0, none⟩) 0 0) [] := by
  exact World.ownsRow_made w #[] 0 (Nat.le_refl _) (Nat.zero_le _) (by simp)
set_option maxHeartbeats 4000000 in
theorem rvclone_any (v : Value) (l : List Rp.Pt) (w : World) (hs : BS w v l) (hz : l.length ≤ 8796093022208) :
    Calls Try.prog 28 #[v] w fun e w' => ∃ v', e = .returned v' ∧ Below w.heap.size w w' ∧ OB w' w.heap.size v' l := by
  have HS := hidD (fun (W : World) (b : Below w.heap.size w W) => hs.below b)
  have HO := hidD (ob_made w)
  have HB := hidD ((Below.refl w.heap.size w).alloc (Nat.le_refl _) (.cells #[] 60))
  have HSZ : Hid (w.heap.size ≤ (w.alloc (.cells #[] 60)).heap.size) := hidD HB.out.size
  have q22 : ∀ (w : World) (a : Option Addr) (n c n' c' : Nat), (binOp .eql 22 (.slice a n c) (.slice none n' c')).run Try.prog w = .ok (.bool a.isNone) w := fun w a n c n' c' => Lib.run_eql_slice_nil w _ _ a n c n' c' Try.underlying22
  obtain ⟨a, cap, rfl, h1, h2, h3, _⟩ := hs
  unfold maxLen at h2
  rcases a with _ | y
  · have h4 := (h3 rfl).1
    subst h4
    clear HS HO h3
    go_enter Try.func28, Try.ntmps28
    go_wp2_with fail
    go_ret
    exact ⟨_, rfl, Below.refl _ _, World.ownsRow_nil _ _ _ _⟩
  · clear h3
    go_enter Try.func28, Try.ntmps28
    go_wp2_with (first | (at_builtin; refine wpList_append_bk _ rfl _ _ rfl w.heap.size _ (.slice (some y) l.length cap) [] l rfl HO.out rfl (HS.out _ HB.out) (by simp; omega) HSZ.out ?_; intro v2 w6 hown' hB6 hgrow))
    go_ret
    exact ⟨_, rfl, below_then HB.out hB6, hown'⟩
end Go.Proofs.Ytcjopphefmogiaa
