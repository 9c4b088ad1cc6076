/- For all octets b: if All refuses them it tells no numbers, and if it takes them, putting the numbers that it tells one behind the other makes just b again (the law VarintJust answers true), and the argument does not change. No condition. -/
import Derived.Test.YthakifpjdpknhaaOpen
import Derived.Test.YthakifpjdpknhaaCallsE
namespace Go.Proofs.Ythakifpjdpknhaa.varintJust
open Go.ChangeShapes Go.WideShapes Go.ChangeAt Go.RowKit
open Go.ChangeMaps (open_string shut_string)

theorem encs_oct (ns : List Int) (h : ∀ n ∈ ns, 0 ≤ n ∧ n ≤ 18446744073709551615) : ∀ z ∈ encs ns, 0 ≤ z ∧ z ≤ 255 := by
  intro z hz
  simp only [encs, List.mem_flatMap] at hz
  obtain ⟨n, hn, hz⟩ := hz
  have := h n hn
  exact Pl.enc_oct 9 n this.1 (by rw [Pl.lim9]; omega) z hz

set_option maxHeartbeats 1000000 in
theorem walk (v0 : Value) (b : List Int) {w : World} (hs0 : Seg .u8 w v0 b) (ho0 : ∀ z ∈ b, 0 ≤ z ∧ z ≤ 255) :
    Calls Try.prog 6 #[v0] w fun e w' => e = .returned (.bool true) ∧ Below w.heap.size w w' := by
  have hlen : b.length ≤ 9223372036854775807 := by
    obtain ⟨a, cap, _, k1, k2, _⟩ := hs0
    unfold maxLen at k2
    omega
  obtain ⟨g1, g2, g3, g4⟩ := Pl.allI_good b ho0
  obtain ⟨ns, er, hall⟩ : ∃ ns er, Pl.allI b = (ns, er) := ⟨_, _, rfl⟩
  rw [hall] at g1 g2 g3 g4
  simp only at g1 g2 g3 g4
  go_enter Try.func6, Try.ntmps6
  go_wp2_with fail
  refine (alive_any w).mono ?_
  rintro e w1 ⟨rfl, hb1⟩
  have hs1 := hs0.below hb1
  go_wp2_with fail
  refine (all_any v0 b w1 hs1 ho0 hlen).mono ?_
  rintro e w2 ⟨lv, rfl, hown2, hb2⟩
  rw [hall] at hown2 ⊢
  simp only at hown2 ⊢
  have hb3 : Below w.heap.size w w2 := hb1.trans (hb2.mono hb1.size)
  clear hb2 hall hb1 hs1
  by_cases he : er = 0
  · subst he
    have hgl := g2 rfl
    subst hgl
    clear g1 g2
    obtain ⟨al, cl, hl, l1, l2, l3, l4⟩ := Seg.own hown2
    subst hl
    clear hown2
    go_wp2_with (go_at_call 14; refine (num_any _ _).mono ?_; rintro e w4 ⟨rfl, rfl⟩)
    go_loopw [5, 6] (fun x i wr => ∃ k : Nat, k ≤ ns.length ∧ i = .int .i64 k ∧ Seg .u8 wr x (encs (ns.take k)) ∧ Below w2.heap.size w2 wr) (fun _ i _ => ns.length - (intOf i).toNat)
    case atStart => exact ⟨0, Nat.zero_le _, rfl, Seg.nil _ _, Below.refl _ _⟩
    case round =>
      obtain ⟨k, hk, rfl, hsx, hbel⟩ := hrel
      have hsz := hbel.size
      by_cases hlt : k < ns.length
      · obtain ⟨bl, off, rfl, hbl, hc⟩ := seg_at (by omega) l3 l4
        have hck := (hbel.cell (p := ⟨bl, off + k, none⟩) hbl).trans (hc k hlt)
        have hnk := g3 (ns.getD k 0) (getD_mem hlt)
        have hel := encs_len (ns.take k)
        simp only [List.length_take] at hel
        have HS : Hid (encs (ns.take (k + 1)) = encs (ns.take k) ++ Pl.enc 9 (ns.getD k 0)) := encs_take_succ ns k hlt
        generalize hx : ns.getD k 0 = x at *
        clear hx hc l4 l3
        go_wp2_with (go_at_call 23; refine (put_any _ _ (encs (ns.take k)) [x] _ (hsx.below ((Below.refl _ _).alloc (Nat.le_refl _) _)) (seg_one wr x) (by intro m hm; simp at hm; omega) (by simp; omega)).mono ?_; rintro e w5 ⟨y, rfl, hown5, hb5⟩)
        have he : encs [x] = Pl.enc 9 x := by simp [encs]
        have HO : Seg .u8 w5 y (encs (ns.take (k + 1))) := by rw [he, ← HS.out] at hown5; exact Seg.own hown5
        have hb6 : Below w2.heap.size w2 w5 := (hbel.alloc (by omega) _).trans (hb5.mono (by simp; omega))
        clear hown5 hb5 hck he hsx
        go_wp2
        go_roundw
        case rel => exact ⟨k + 1, by omega, by go_num, HO, hb6⟩
        case measure => simp [intOf]; omega
      · have hke : k = ns.length := by omega
        subst hke
        rw [List.take_length] at hsx
        have hsb := hs0.below (hb3.trans (hbel.mono hb3.size))
        have hoe := encs_oct ns g3
        go_wp2_with (go_at_call 22; refine (sameBytes_any _ v0 (encs ns) (encs ns) wr hsx hsb hoe hoe).mono ?_; rintro e w6 ⟨rfl, rfl⟩)
        go_ret
        exact ⟨ret_bool (by simp), hb3.trans (hbel.mono hb3.size)⟩
  · have hgl := g1 he
    subst hgl
    obtain ⟨al, cl, hl, _⟩ := Seg.own hown2
    subst hl
    have hne : (er != 0) = true := by simp [he]
    clear hown2 g1 g2 he
    go_wp2_with (go_at_call 14; refine (num_any _ _).mono ?_; rintro e w4 ⟨rfl, rfl⟩)
    go_ret
    exact ⟨rfl, hb3⟩
set_option maxRecDepth 100000 in
theorem lifted (os : Os) (started : os.Started) (H : Type) (enc : TypeId × Value → H) :
    ReturnsInHanded {} Try.checked os 6 .any (Rows.varintJustSpec.pre6 enc Try.prog Try.f6 Rows.varintJustRow.domain false) (Rows.varintJustSpec.post enc Try.prog Try.f6 false true false false) := by
  refine returnsInHanded_of_change (C := Try.checked) own started (by kernel_rfl) Try.func6
    (ChangeSpec.witness6 (enc := enc) (C := Try.checked) false ⟨#[], #[.slice none 0 0], []⟩ 8 (by kernel_rfl) (by kernel_rfl) (by kernel_rfl) (by kernel_rfl)) ?_
  intro W base args ds gs before hval0 hW hcnd _
  have hval : ∀ (j : Nat) t v, Try.f6.params[j]? = some t → args[j]? = some v → Value.okWide Try.prog W .any base t v := hval0
  have hW' := hW
  obtain ⟨p, q, hA0, hV, rfl, hfz, hnd⟩ := hW
  have hA : DataW.TrodAll enc Try.prog W 0 (fun _ => true) true Try.f6.params.toList args.toList ds p := hA0
  rw [Try.params6] at hA hval
  obtain ⟨v0, vs0, d0, ds0, p0, q0, hargs, rfl, rfl, h0, r0⟩ := trodAll_cons hA
  obtain ⟨rfl, rfl, rfl⟩ := trodAll_nil r0
  obtain rfl : args = #[v0] := by cases args; simp_all
  obtain ⟨rfl, rfl⟩ := trodVars_none hV
  have k0 := h0
  have lt0 : ∀ x ∈ p0, x.block < W.heap.size := by obtain ⟨m, hm⟩ := k0; exact DataW.trod_lt m _ _ _ hm
  obtain ⟨l0, hs0, ho0, e0⟩ := open_octets (hval 0 22 v0 rfl rfl) h0
  clear hA0 hval0
  refine (walk v0 l0 hs0 ho0).mono fun e W' ⟨he, bel⟩ => ?_
  subst he
  exact ⟨_, rfl, _, _, _, [], _, [], hW', trodAll_mk1 (shut_bool Try.underlying4 _), (trodAll_cons_mk (Below.trod laidOut (by kernel_rfl) (of_decide_eq_true (by kernel_rfl)) k0 bel lt0) trodAll_mk0), rfl, bel.frame _, fun h => by cases h⟩

theorem over : Rows.varintJustRow.holds Try.pinned (OpenSpec.ofChange Rows.varintJustSpec) :=
  OpenClaim.holds_of_wide 6 Try.f6 rfl rfl rfl rfl rfl rfl rfl ⟨rfl, rfl, rfl, rfl, rfl⟩ rfl rfl rfl rfl rfl (by kernel_rfl) Try.func6 (by kernel_rfl)
    (of_decide_eq_true (by kernel_rfl)) (by unfold Func.isWrapper; first | (rw [if_pos (by decide +kernel)]; kernel_rfl) | (rw [if_neg (by decide +kernel)]; exact ⟨rfl, rfl⟩))
    (fun os started H enc _ => lifted os started H enc)
end Go.Proofs.Ythakifpjdpknhaa.varintJust

namespace Go.Proofs.Ythakifpjdpknhaa
/-- THE STATEMENT. -/
theorem varintJust_holds : Rows.VarintJustSaid := varintJust.over
#print axioms varintJust_holds
end Go.Proofs.Ythakifpjdpknhaa
