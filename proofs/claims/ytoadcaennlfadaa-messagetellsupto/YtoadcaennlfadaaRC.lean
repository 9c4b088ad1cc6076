/- The reference: Scan. -/
import Derived.Test.YtoadcaennlfadaaRB
import Derived.Test.YtoadcaennlfadaaFG
namespace Go.Proofs.Ytoadcaennlfadaa
open Go.RowKit
set_option maxRecDepth 20000

set_option maxHeartbeats 1000000 in
theorem rscan3_any (v : Value) (b : List Int) (w : World) (hs : Seg .u8 w v b) (ho : Pl.Octs b) (hlen : b.length ≤ 5864062014805) :
    Calls Try.prog 42 #[v] w fun e w' => ∃ v', e = .returned (.tuple #[v', .int .i64 ((Pl.scanF b).2.1 : Nat), .int .i64 (Pl.scanF b).2.2]) ∧ Pays (Span w.heap.size w') w' v' (Pl.scanF b).1 ∧ Below w.heap.size w w' := by
  go_enter Try.func42, Try.ntmps42
  go_wp2
  go_loopw [5, 6] (fun l t wr => ∃ (done : List (List Int)) (k : Nat), t = .int .i64 k ∧ k ≤ b.length ∧ 6 * done.length ≤ k ∧ Pays (Span w.heap.size wr) wr l done ∧ Below w.heap.size w wr ∧ Hid (Pl.scanF b = (done ++ (Pl.scanF (b.drop k)).1, k + (Pl.scanF (b.drop k)).2.1, (Pl.scanF (b.drop k)).2.2))) (fun _ t _ => b.length - (intOf t).toNat)
  case atStart => exact ⟨[], 0, rfl, Nat.zero_le _, Nat.zero_le _, Pays.nil _ _, Below.refl _ _, by show _ = _; simp⟩
  case round =>
    obtain ⟨done, k, rfl, hk, hd, hP, hbel, HS⟩ := hrel
    obtain ⟨v', hsl, hsv⟩ := seg_tail (hs.below hbel) k hk
    have hod := Pl.octs_drop ho k
    obtain ⟨p, k1, er, hF⟩ : ∃ p k1 er, Pl.getF (b.drop k) = (p, k1, er) := ⟨_, _, _, rfl⟩
    have hget := rget3_is v' _ _ _ _ wr hsv hod hF
    by_cases h71 : er = 71
    · subst h71
      have HR : Hid (Pl.scanF b = (done, k, 0)) := by show _ = _; rw [HS.out, Pl.scanF_none _ _ _ hF]; simp
      clear HS
      go_wp2_with (go_at_call 61; refine hget.mono ?_; rintro e w2 ⟨v2, rfl, hown2, hb2⟩)
      go_ret3
      refine ⟨u5, by rw [HR.out]; rfl, ?_, hbel.trans (hb2.mono hbel.size)⟩
      rw [HR.out]
      exact (hP.below hb2).mono fun j hj => hj.grow hb2.size
    · have hb71 : (er == 71) = false := by simp; exact h71
      by_cases h0 : er = 0
      · subst h0
        obtain ⟨g1, g2, g3, g4⟩ := Pl.getF_pos _ _ _ hod hF
        rw [List.length_drop] at g2
        have HR : Hid (Pl.scanF b = ((done ++ [p]) ++ (Pl.scanF (b.drop (k + k1))).1, (k + k1) + (Pl.scanF (b.drop (k + k1))).2.1, (Pl.scanF (b.drop (k + k1))).2.2)) := by
          show _ = _
          rw [HS.out, Pl.scanF_step _ _ _ hod hF, List.drop_drop]
          simp [Nat.add_assoc]
        clear HS h71
        go_wp2_with (first
          | (go_at_call 61; refine hget.mono ?_; rintro e w2 ⟨v2, rfl, hown2, hb2⟩; have hP2 := hP.below hb2; have hsi2 := Since.own hown2; have htl2 := Till.own hown2; have hs2 := Part.seg (Part.own hown2); obtain ⟨a2, c2, hv2, _, _, _, _⟩ := id hs2; generalize hpl : p.length = pn at hv2; subst hv2; clear hown2)
          | (at_builtin; refine wpList_append_pays _ rfl (.tmp 29) (.tmp 31) rfl (Span w.heap.size wr) (Span wr.heap.size w2) u5 _ done [p] [.slice a2 pn c2] rfl rfl (hP2.below ((Below.refl _ _).alloc (Nat.le_refl _) _)) (reads_one w2 _ 22) (elems_one (hs2.below ((Below.refl _ _).alloc (Nat.le_refl _) _)) hsi2 htl2) (span_lt _ hb2) (span_ap _ hP) (by simp; omega) ?_; intro v5 w5 hP5 hg5 hm5; clear hm5))
        have hsz5 := hg5.size
        simp at hsz5
        have hb5 : Below w.heap.size w w5 := ((hbel.trans (hb2.mono hbel.size)).alloc (by have := hbel.size; have := hb2.size; omega) _).grown hg5 (by have := hbel.size; have := hb2.size; simp; omega) (fun j hj => by
          by_cases h : w.heap.size ≤ j
          · exact h
          · exact absurd hj (hP.apart fun hq => h hq.1))
        have hPn := hP5.mono (R := Span w.heap.size w5) (fun j hj => by
          have h1 := hbel.size
          have h2 := hb2.size
          rcases hj with hj | hj | hj
          · exact ⟨hj.1, by have := hj.2; omega⟩
          · exact ⟨by have := hj.1; omega, by have := hj.2; omega⟩
          · have h3 := hj.1
            simp at h3
            exact ⟨by omega, hj.2⟩)
        clear hP5 hg5 hP2 hP hs2 hsi2 htl2 hsl hsv hget
        go_wp2
        go_roundw
        case rel => exact ⟨done ++ [p], k + k1, by go_num, by omega, by simp; omega, hPn, hb5, HR⟩
        case measure => simp [intOf]; omega
      · have hb0 : (er == 0) = false := by simp; exact h0
        have HR : Hid (Pl.scanF b = (done, k, er)) := by show _ = _; rw [HS.out, Pl.scanF_bad _ _ _ _ hF h71 h0]; simp
        clear HS
        go_wp2_with (go_at_call 61; refine hget.mono ?_; rintro e w2 ⟨v2, rfl, hown2, hb2⟩)
        go_ret3
        refine ⟨u5, by rw [HR.out]; rfl, ?_, hbel.trans (hb2.mono hbel.size)⟩
        rw [HR.out]
        exact (hP.below hb2).mono fun j hj => hj.grow hb2.size
end Go.Proofs.Ytoadcaennlfadaa
