/- For all octets a, every uint64 n and all octets b that are together of bulk at most 1048576: what Put lays behind a as n is got there by Get, whatever stands behind, and it ends where Put ended (the law VarintBack answers true), and no argument changes. The condition: the bulk (VarintBackUptoSaid). -/
import Derived.Test.YthakifpjdpknhaaOpen
import Derived.Test.YthakifpjdpknhaaPlainC
import Derived.Test.YthakifpjdpknhaaApp
namespace Go.Proofs.Ythakifpjdpknhaa.varintBack
open Go.ChangeShapes Go.WideShapes Go.ChangeAt Go.RowKit
open Go.ChangeMaps (open_string shut_string)

set_option maxHeartbeats 1000000 in
theorem walk (v0 v2 : Value) (a b : List Int) (n : Int) (w : World) (hs0 : Seg .u8 w v0 a) (ho0 : ∀ z ∈ a, 0 ≤ z ∧ z ≤ 255) (w1 : (Lit.int .u64 n).wf = true) (hs2 : Seg .u8 w v2 b) (ho2 : ∀ z ∈ b, 0 ≤ z ∧ z ≤ 255) (hlen : a.length + b.length ≤ 1048576) :
    Calls Try.prog 5 #[v0, .int .u64 n, v2] w fun e w' => e = .returned (.bool true) ∧ Below w.heap.size w w' := by
  obtain ⟨hn0, hn1⟩ := bounds_u64 w1
  clear w1
  have hel := Pl.enc_len_le 9 n
  have hgp := Pl.get_put a b n hn0 hn1
  have hoall : ∀ z ∈ a ++ Pl.enc 9 n ++ b, 0 ≤ z ∧ z ≤ 255 := by
    intro z hz
    rcases List.mem_append.1 hz with hz | hz
    · rcases List.mem_append.1 hz with hz | hz
      · exact ho0 z hz
      · exact Pl.enc_oct 9 n hn0 (by rw [Pl.lim9]; omega) z hz
    · exact ho2 z hz
  have HG : Hid (Pl.getI (a ++ Pl.enc 9 n ++ b) a.length = (n, (a.length : Int) + ((Pl.enc 9 n).length : Int), 0)) := hgp
  clear hgp ho0 ho2
  go_enter Try.func5, Try.ntmps5
  go_wp2_with fail
  refine (alive_any w).mono ?_
  rintro e w1 ⟨rfl, hb1⟩
  go_wp2_with fail
  refine (put_any v0 _ a [n] _ ((hs0.below hb1).below ((Below.refl _ _).alloc (Nat.le_refl _) _)) (seg_one w1 n) (by intro m hm; simp at hm; omega) (by simp; omega)).mono ?_
  rintro e w2 ⟨x, rfl, hown, hb2⟩
  have he : encs [n] = Pl.enc 9 n := by simp [encs]
  rw [he] at hown
  clear he
  have hb3 : Below w.heap.size w w2 := (hb1.alloc hb1.size _).trans (hb2.mono (by have := hb1.size; simp; omega))
  have hs3 := hs2.below hb3
  have hz := hb1.size
  have hz' := hb2.size
  obtain ⟨a0, c0, rfl, k1, k2, k3, k4⟩ := hs0
  obtain ⟨a2, c2, rfl, m1, m2, m3, m4⟩ := hs2
  unfold maxLen at k2 m2
  have HLn : (a ++ Pl.enc 9 n ++ b).length = a.length + (Pl.enc 9 n).length + b.length := by simp only [List.length_append]
  generalize hL : (a ++ Pl.enc 9 n ++ b).length = L at HLn
  have HL : Hid ((a ++ Pl.enc 9 n ++ b).length = L) := hL
  have HLs : Hid (L = a.length + (Pl.enc 9 n).length + b.length) := HLn
  have hLb : L ≤ 1048586 := by omega
  clear hL HLn
  go_wp2_with (at_builtin; refine wpList_append_seg _ rfl _ _ rfl (w1.alloc (.cells #[.int .u64 n] 23)).heap.size _ _ (a ++ Pl.enc 9 n) b rfl hown rfl hs3 (by simp only [List.length_append]; omega) hz' ?_; intro y w3 hown3 hb4; obtain ⟨ay, cy, hy, hy1, hy2, hy3, hy4⟩ := Seg.own hown3; have hs4 : Seg .u8 w3 y (a ++ Pl.enc 9 n ++ b) := ⟨ay, cy, hy, hy1, hy2, hy3, hy4⟩; rw [HL.out] at hy; subst hy; have hb5 : Below w.heap.size w w3 := hb3.trans (hb4.mono (by simp; omega)); clear hown hown3 hb4 hb3 hs3 hb2 hy1 hy2 hy3 hy4 hz')
  refine (get_any _ (a ++ Pl.enc 9 n ++ b) a.length w3 hs4 hoall (by omega) (by omega)).mono ?_
  rintro e w4 ⟨he, rfl⟩
  rw [HG.out] at he
  simp only [trip] at he
  subst he
  have hB1 : (((a.length : Int) + ((Pl.enc 9 n).length : Int)) == (L : Int) - (b.length : Int)) = true := by have := HLs.out; simp; omega
  go_wp2_with (first | (go_at_call 14; refine (num_any _ _).mono ?_; rintro e w4 ⟨rfl, rfl⟩) | (go_at_call 16; refine (size_any n _ hn0 hn1).mono ?_; rintro e w4 ⟨rfl, rfl⟩))
  go_ret
  exact ⟨ret_bool (by simp), hb5⟩

set_option maxRecDepth 100000 in
theorem contract (H : Type) (enc : TypeId × Value → H) (W : World) (base : Nat) (args : Array Value) (ds gs : List (DataW H)) (before : List MemPlace)
    (hval : ∀ (j : Nat) t v, Try.f5.params[j]? = some t → args[j]? = some v → Value.okWide Try.prog W .any base t v)
    (hW : DataW.Whole enc Try.prog Try.f5.params.toList Rows.varintBackSpec.vars false W args.toList ds gs before) (hk : Rows.uptoSmall H (ds ++ gs) = true) :
    Calls Try.prog 5 args W fun e W' => ∃ v, e = .returned v ∧ Rows.varintBackSpec.post enc Try.prog Try.f5 false true false false W args v W' := by
  have hW' := hW
  obtain ⟨p, q, hA0, hV, rfl, hfz, hnd⟩ := hW
  have hA : DataW.TrodAll enc Try.prog W 0 (fun _ => true) true Try.f5.params.toList args.toList ds p := hA0
  rw [Try.params5] at hA hval
  obtain ⟨v0, vs0, d0, ds0, p0, q0, hargs, rfl, rfl, h0, r0⟩ := trodAll_cons hA
  obtain ⟨v1, vs1, d1, ds1, p1, q1, rfl, rfl, rfl, h1, r1⟩ := trodAll_cons r0
  obtain ⟨v2, vs2, d2, ds2, p2, q2, rfl, rfl, rfl, h2, r2⟩ := trodAll_cons r1
  obtain ⟨rfl, rfl, rfl⟩ := trodAll_nil r2
  obtain rfl : args = #[v0, v1, v2] := by cases args; simp_all
  obtain ⟨rfl, rfl⟩ := trodVars_none hV
  have k0 := h0
  have lt0 : ∀ x ∈ p0, x.block < W.heap.size := by obtain ⟨m, hm⟩ := k0; exact DataW.trod_lt m _ _ _ hm
  obtain ⟨a, hs0, ho0, e0⟩ := open_octets (hval 0 22 v0 rfl rfl) h0
  obtain ⟨n, rfl, rfl, rfl, w1⟩ := open_int Try.underlying23 (hval 1 23 v1 rfl rfl) h1
  have k2 := h2
  have lt2 : ∀ x ∈ p2, x.block < W.heap.size := by obtain ⟨m, hm⟩ := k2; exact DataW.trod_lt m _ _ _ hm
  obtain ⟨b, hs2, ho2, e2⟩ := open_octets (hval 2 22 v2 rfl rfl) h2
  have hlen : a.length + b.length ≤ 1048576 := by
    have h := bulk_bound hk
    simp only [List.append_nil, Rows.uptoBulkAll] at h
    have b0 := octets_bulk e0
    have b2 := octets_bulk e2
    omega
  clear hA0
  refine (walk v0 v2 a b n W hs0 ho0 w1 hs2 ho2 hlen).mono fun e W' ⟨he, bel⟩ => ?_
  subst he
  exact ⟨_, rfl, _, _, _, [], _, [], hW', trodAll_mk1 (shut_bool Try.underlying4 _), (trodAll_cons_mk (Below.trod laidOut (by kernel_rfl) (of_decide_eq_true (by kernel_rfl)) k0 bel lt0) (trodAll_cons_mk (shut_int Try.underlying23 w1) (trodAll_cons_mk (Below.trod laidOut (by kernel_rfl) (of_decide_eq_true (by kernel_rfl)) k2 bel lt2) trodAll_mk0))), rfl, bel.frame _, fun h => by cases h⟩

set_option maxRecDepth 100000 in
theorem lifted (os : Os) (started : os.Started) (H : Type) (enc : TypeId × Value → H) (F : Stop.Interp) :
    ReturnsInHanded {} Try.checked os 5 .any ((Rows.OpenSpec.upto Rows.varintBackSpec).pre6 enc Try.prog Try.f5 Rows.varintBackUptoRow.domain false) (((Rows.OpenSpec.upto Rows.varintBackSpec).at F).post enc Try.prog Try.f5 false true false false) := by
  refine returnsInHanded_of_cond (C := Try.checked) (s := Rows.OpenSpec.upto Rows.varintBackSpec) (k := Rows.uptoSmall) rfl own started (by kernel_rfl) Try.func5
    (OpenSpec.witness (enc := enc) (C := Try.checked) (s := Rows.OpenSpec.upto Rows.varintBackSpec) (k := Rows.uptoSmall) rfl false ⟨#[], #[.slice none 0 0, .int .u64 0, .slice none 0 0], []⟩ 8 (by kernel_rfl) (by kernel_rfl) (by kernel_rfl)
      (x := ([.nil, .lit (.int .u64 0), .nil], [], [])) (by kernel_rfl) rfl (by kernel_rfl)) ?_
  intro W base args ds gs before hval hW _ hk _
  exact contract H enc W base args ds gs before hval hW hk

theorem over : Rows.VarintBackUptoSaid :=
  OpenClaim.holds_of_cond 5 Try.f5 rfl rfl rfl rfl rfl rfl rfl ⟨rfl, rfl, rfl, rfl, rfl⟩ rfl rfl rfl rfl rfl (by kernel_rfl) Try.func5 (by kernel_rfl)
    (of_decide_eq_true (by kernel_rfl)) (by unfold Func.isWrapper; first | (rw [if_pos (by decide +kernel)]; kernel_rfl) | (rw [if_neg (by decide +kernel)]; exact ⟨rfl, rfl⟩))
    (fun os started H enc _ F => lifted os started H enc F)
end Go.Proofs.Ythakifpjdpknhaa.varintBack

namespace Go.Proofs.Ythakifpjdpknhaa
/-- THE STATEMENT. -/
theorem varintBackUpto_holds : Rows.VarintBackUptoSaid := varintBack.over
#print axioms varintBackUpto_holds
end Go.Proofs.Ythakifpjdpknhaa
