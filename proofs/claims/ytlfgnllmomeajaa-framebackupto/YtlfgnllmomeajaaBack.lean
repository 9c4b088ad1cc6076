/- For all lists l of texts and all octets rest, together at most 1048576 values: payloads come back from their frames, whatever octets that are no whole frame stand behind (the law FrameBack answers true), and no argument changes. The condition: the arguments together hold at most 1048576 values. -/
import Derived.Test.YtlfgnllmomeajaaSL
import Derived.Test.YtlfgnllmomeajaaRC
namespace Go.Proofs.Ytlfgnllmomeajaa.frameBack
open Go.ChangeShapes Go.WideShapes Go.ChangeAt Go.RowKit
open Go.ChangeMaps (open_string shut_string)

theorem frames_take_len (ls : List (List Int)) (k : Nat) : (Pl.framesOf (ls.take k)).length ≤ 15 * total ls := by
  have key : ∀ ms : List (List Int), (Pl.framesOf ms).length ≤ 15 * total ms := by
    intro ms
    induction ms with
    | nil => simp [Pl.framesOf]
    | cons p r ih =>
      have h1 := Pl.frame_len p
      have h2 := Pl.enc_len_le 9 p.length
      simp only [Pl.framesOf, List.flatMap_cons, List.length_append, total, List.map_cons, List.length_cons, List.sum_cons] at ih ⊢
      omega
  have h1 := key (ls.take k)
  have h2 : total (ls.take k) ≤ total ls := by
    conv => rhs; rw [← List.take_append_drop k ls]
    unfold total
    rw [List.length_append, List.map_append, List.sum_append]
    omega
  omega
theorem frames_succ {ls : List (List Int)} {k : Nat} (h : k < ls.length) : Pl.framesOf (ls.take (k + 1)) = Pl.framesOf (ls.take k) ++ Pl.frameOf (ls.getD k []) := by
  rw [take_succ_getD h]
  simp [Pl.framesOf]
theorem octs_frames {ls : List (List Int)} (h : ∀ p ∈ ls, Pl.fits p) : Pl.Octs (Pl.framesOf ls) := by
  intro z hz
  simp only [Pl.framesOf, List.mem_flatMap] at hz
  obtain ⟨p, hp, hz⟩ := hz
  exact octs_frame' (h p hp) z hz

theorem fits_of {p : List Int} (h : Pl.errP p = 0) (ho : Pl.Octs p) : Pl.fits p := by
  unfold Pl.errP at h
  refine ⟨?_, ?_, ho⟩ <;> (split at h <;> first | (simp at h) | (split at h <;> simp_all))
  all_goals omega
theorem bad_of {p : List Int} (h : Pl.errP p ≠ 0) : p.length = 0 ∨ 4096 < p.length := by
  by_cases h0 : p.length = 0
  · exact .inl h0
  · by_cases h1 : 4096 < p.length
    · exact .inr h1
    · exact absurd (Pl.errP_good (by omega) (by omega)) h

set_option maxHeartbeats 2000000 in
set_option maxRecDepth 4000 in
theorem walk (v0 : Value) (ls : List (List Int)) {w : World} (hs0 : Texts w v0 ls) (ho0 : ∀ l ∈ ls, ∀ z ∈ l, 0 ≤ z ∧ z ≤ 255) (v1 : Value) (r : List Int) (hs1 : Seg .u8 w v1 r) (ho1 : ∀ z ∈ r, 0 ≤ z ∧ z ≤ 255) (hlen : total ls + r.length ≤ 1048576) :
    Calls Try.prog 5 #[v0, v1] w fun e w' => e = .returned (.bool true) ∧ Below w.heap.size w w' := by
  obtain ⟨a0, c0, hv0, h1, h2, h3, h4⟩ := id hs0
  have htot : ls.length ≤ total ls := by unfold total; omega
  generalize hN : ls.length = N at hv0 h1
  have HN : Hid (ls.length = N) := hN
  subst hv0
  rw [hN] at htot
  unfold maxLen at h2
  go_enter Try.func5, Try.ntmps5
  go_wp2_with fail
  refine (alive_any w).mono ?_
  rintro e w1 ⟨rfl, hb1⟩
  clear hN
  go_wp2
  go_loopw [5, 6] (fun b i wr => ∃ k : Nat, k ≤ N ∧ i = .int .i64 k ∧ Seg .u8 wr b (Pl.framesOf (ls.take k)) ∧ Hid (∀ p ∈ ls.take k, Pl.fits p) ∧ Below w.heap.size w wr) (fun _ i _ => N - (intOf i).toNat)
  case atStart => exact ⟨0, Nat.zero_le _, rfl, by simpa [Pl.framesOf] using Seg.nil .u8 w1, fun p hp => by simp at hp, hb1⟩
  case round =>
    obtain ⟨k, hk, rfl, hsb, HF, hbel⟩ := hrel
    have hfl := frames_take_len ls k
    by_cases hlt : k < N
    · obtain ⟨g, off, rfl, hg, hc⟩ := texts_at (w := w) (ls := ls) (by rw [HN.out]; omega) h3 h4
      obtain ⟨u, hcu, hsu⟩ := hc k (by rw [HN.out]; exact hlt)
      have hcr := (hbel.cell (p := ⟨g, off + k, none⟩) hg).trans hcu
      have hou := ho0 (ls.getD k []) (by have := HN.out; simp [List.getD, show k < ls.length by omega])
      have hsr := hsu.below hbel
      have HS : Hid (Pl.framesOf (ls.take (k + 1)) = Pl.framesOf (ls.take k) ++ Pl.frameOf (ls.getD k [])) := frames_succ (by rw [HN.out]; exact hlt)
      have HT : Hid (ls.take (k + 1) = ls.take k ++ [ls.getD k []]) := take_succ_getD (by rw [HN.out]; exact hlt)
      generalize ls.getD k [] = p at *
      obtain ⟨au, cu, hvu, hu1, hu2, hu3, hu4⟩ := id hsr
      generalize hpn : p.length = pn at hvu hu1
      subst hvu
      have HPN : Hid (p.length = pn) := hpn
      clear hc hu3 hu4 hpn
      by_cases hbad : Pl.errP p = 0
      · have hfit := fits_of hbad hou
        have hput := fput_one wr.heap.size rfl hsb hsr hfit (by omega)
        rw [← HS.out] at hput
        have HF2 : Hid (∀ q ∈ ls.take (k + 1), Pl.fits q) := by
          intro q hq
          rw [HT.out] at hq
          rcases List.mem_append.1 hq with h | h
          · exact HF.out q h
          · rw [List.mem_singleton.1 h]
            exact hfit
        clear HS HT HF hsu hcu
        go_wp2_with (first
          | (go_at_call 10; refine hput.mono ?_; rintro e w2 ⟨v2, rfl, hP2, _, hb2⟩; have hs2 := hP2.seg; have hb02 := hbel.trans (hb2.mono hbel.size); clear hP2 hb2)
          | (go_at_call 17; refine (num_any _ _).mono ?_; rintro e w3 ⟨rfl, rfl⟩))
        go_roundw
        case rel => exact ⟨k + 1, by omega, by go_num, hs2, HF2, hb02⟩
        case measure => simp [intOf]; omega
      · have hbb := bad_of hbad
        rw [HPN.out] at hbb
        have hput := fput_none (v := u5) wr.heap.size rfl hsr hbad
        have hcn : ∀ w', Below wr.heap.size wr w' → w'.cell? ⟨g, off + k, none⟩ = some (.slice au pn cu) := fun w' hb => (hb.cell (p := ⟨g, off + k, none⟩) (by have := hbel.size; simp; omega)).trans hcr
        generalize Pl.errP p = ep at *
        have hbe : (ep == 0) = false := by simp; exact hbad
        clear HS HT hsu hcu
        go_wp2_with (first
          | (go_at_call 10; refine hput.mono ?_; rintro e w2 ⟨rfl, hb2⟩; have hc2 := hcn _ hb2)
          | (go_at_call 17; refine (num_any _ _).mono ?_; rintro e w3 ⟨rfl, rfl⟩))
        all_goals
          go_ret
          refine ⟨ret_bool ?_, hbel.trans (hb2.mono hbel.size)⟩
          simp
          try omega
    · have hke : k = N := by omega
      have hF : ∀ p ∈ ls, Pl.fits p := by
        have := HF.out
        rw [hke, ← HN.out, List.take_length] at this
        exact this
      rw [hke, ← HN.out, List.take_length] at hsb hfl
      have hof := octs_frames hF
      have hsr := hs1.below hbel
      obtain ⟨pr, kr, er, hG⟩ : ∃ pr kr er, Pl.getF r = (pr, kr, er) := ⟨_, _, _, rfl⟩
      have hget := rget3_is v1 r pr kr er wr hsr ho1 hG
      have hol : ∀ l ∈ ls, Pl.Octs l := ho0
      have hsame := fun (w' : World) (v' : Value) (ht : Texts w' v' ls) (hb : Below w.heap.size w w') => sameList_any v' (.slice a0 N c0) ls ls w' ht (hs0.below hb) hol hol
      rw [show (ls == ls) = true by simp] at hsame
      obtain ⟨ab, cb, hvb, hub1, hub2, hub3, hub4⟩ := id hsb
      generalize hbn : (Pl.framesOf ls).length = bn at hvb hub1 hfl
      subst hvb
      have HBN : Hid ((Pl.framesOf ls).length = bn) := hbn
      clear hke HF hub3 hub4 h3 h4 hbn
      by_cases h71 : er = 71
      · subst h71
        have HSC : Hid (Pl.scanF (Pl.framesOf ls ++ r) = (ls, bn, 0)) := by
          show _ = _
          rw [Pl.scanF_frames ls r hF (by rw [hG]), HBN.out]
        have hor := Pl.octs_app hof ho1
        have hlr : (Pl.framesOf ls ++ r).length ≤ 5864062014805 := by rw [List.length_append, HBN.out]; omega
        go_wp2_with (first
          | (go_at_call 13; refine hget.mono ?_; rintro e w2 ⟨v2, rfl, hown2, hb2⟩; have hb02 := hbel.trans (hb2.mono hbel.size); clear hown2)
          | (go_at_call 9; refine (copyBytes_any _ (Pl.framesOf ls) w2 (hsb.below hb2) (by rw [HBN.out]; omega)).mono ?_; rintro e w3 ⟨v3, rfl, hown3, hb3⟩; have hb03 := hb02.trans (hb3.mono hb02.size); have hsi3 := (Since.own hown3).mono hb02.size)
          | (at_builtin; refine wpList_append_oct _ rfl (.tmp 61) (.tmp 62) rfl v3 _ (Pl.framesOf ls) r rfl rfl (Part.own hown3) (hs1.below hb03) (by rw [HBN.out]; omega) ?_; intro v4 w4 hP4 hg4 _; have hs4 := hP4.seg; have hb04 := below_by hb03 hg4 hb03.size hsi3; clear hP4 hg4 hown3)
          | (go_at_call 14; refine (fscan_any v4 _ w4 hs4 hor hlr).mono ?_; rintro e w5 ⟨v5, rfl, hP5, hb5⟩; rw [HSC.out] at hP5 ⊢; have ht5 := hP5.texts; have hb05 := hb04.trans (hb5.mono hb04.size); clear hP5)
          | (go_at_call 17; refine (num_any _ _).mono ?_; rintro e w6 ⟨rfl, rfl⟩)
          | (go_at_call 18; refine (hsame w5 v5 ht5 hb05).mono ?_; rintro e w7 ⟨rfl, hb7⟩))
        go_ret
        exact ⟨rfl, hb05.trans (hb7.mono hb05.size)⟩
      · have hb71 : (er == 71) = false := by simp; exact h71
        have HSC : Hid (Pl.scanF (Pl.framesOf ls ++ []) = (ls, bn, 0)) := by
          show _ = _
          rw [Pl.scanF_frames ls [] hF (by rw [Pl.getF_nil]), HBN.out]
        have hor := Pl.octs_app hof Pl.octs_nil
        have hlr : (Pl.framesOf ls ++ []).length ≤ 5864062014805 := by rw [List.append_nil, HBN.out]; omega
        go_wp2_with (first
          | (go_at_call 13; refine hget.mono ?_; rintro e w2 ⟨v2, rfl, hown2, hb2⟩; have hb02 := hbel.trans (hb2.mono hbel.size); clear hown2)
          | (go_at_call 9; refine (copyBytes_any _ (Pl.framesOf ls) w2 (hsb.below hb2) (by rw [HBN.out]; omega)).mono ?_; rintro e w3 ⟨v3, rfl, hown3, hb3⟩; have hb03 := hb02.trans (hb3.mono hb02.size); have hsi3 := (Since.own hown3).mono hb02.size)
          | (at_builtin; refine wpList_append_oct _ rfl (.tmp 61) (.tmp 62) rfl v3 _ (Pl.framesOf ls) [] rfl rfl (Part.own hown3) (Seg.nil _ _) (by rw [HBN.out]; simp; omega) ?_; intro v4 w4 hP4 hg4 _; have hs4 := hP4.seg; have hb04 := below_by hb03 hg4 hb03.size hsi3; clear hP4 hg4 hown3)
          | (go_at_call 14; refine (fscan_any v4 _ w4 hs4 hor hlr).mono ?_; rintro e w5 ⟨v5, rfl, hP5, hb5⟩; rw [HSC.out] at hP5 ⊢; have ht5 := hP5.texts; have hb05 := hb04.trans (hb5.mono hb04.size); clear hP5)
          | (go_at_call 17; refine (num_any _ _).mono ?_; rintro e w6 ⟨rfl, rfl⟩)
          | (go_at_call 18; refine (hsame w5 v5 ht5 hb05).mono ?_; rintro e w7 ⟨rfl, hb7⟩))
        go_ret
        exact ⟨rfl, hb05.trans (hb7.mono hb05.size)⟩

set_option maxRecDepth 100000 in
theorem contract (H : Type) (enc : TypeId × Value → H) (W : World) (base : Nat) (args : Array Value) (ds gs : List (DataW H)) (before : List MemPlace)
    (hval : ∀ (j : Nat) t v, Try.f5.params[j]? = some t → args[j]? = some v → Value.okWide Try.prog W .any base t v)
    (hW : DataW.Whole enc Try.prog Try.f5.params.toList Rows.frameBackSpec.vars false W args.toList ds gs before) (hk : Rows.uptoSmall H (ds ++ gs) = true) :
    Calls Try.prog 5 args W fun e W' => ∃ v, e = .returned v ∧ Rows.frameBackSpec.post enc Try.prog Try.f5 false true false false W args v W' := by
  have hW' := hW
  obtain ⟨p, q, hA0, hV, rfl, hfz, hnd⟩ := hW
  have hA : DataW.TrodAll enc Try.prog W 0 (fun _ => true) true Try.f5.params.toList args.toList ds p := hA0
  rw [Try.params5] at hA hval
  obtain ⟨v0, vs0, d0, ds0, p0, q0, hargs, rfl, rfl, h0, r0⟩ := trodAll_cons hA
  obtain ⟨v1, vs1, d1, ds1, p1, q1, rfl, rfl, rfl, h1, r1⟩ := trodAll_cons r0
  obtain ⟨rfl, rfl, rfl⟩ := trodAll_nil r1
  obtain rfl : args = #[v0, v1] := by cases args; simp_all
  obtain ⟨rfl, rfl⟩ := trodVars_none hV
  have k0 := h0
  have lt0 : ∀ x ∈ p0, x.block < W.heap.size := by obtain ⟨m, hm⟩ := k0; exact DataW.trod_lt m _ _ _ hm
  obtain ⟨l0, hs0, ho0, e0⟩ := open_texts (hval 0 33 v0 rfl rfl) h0
  have k1 := h1
  have lt1 : ∀ x ∈ p1, x.block < W.heap.size := by obtain ⟨m, hm⟩ := k1; exact DataW.trod_lt m _ _ _ hm
  obtain ⟨l1, hs1, ho1, e1⟩ := open_octets (hval 1 22 v1 rfl rfl) h1
  have hlen : total l0 + l1.length ≤ 1048576 := by
    have h := bulk_bound hk
    simp only [List.append_nil, Rows.uptoBulkAll] at h
    have b0 := e0
    have b1 := octets_bulk e1
    omega
  clear hA0
  refine (walk v0 l0 hs0 ho0 v1 l1 hs1 ho1 hlen).mono fun e W' ⟨he, bel⟩ => ?_
  subst he
  exact ⟨_, rfl, _, _, _, [], _, [], hW', trodAll_mk1 (shut_bool Try.underlying4 _), (trodAll_cons_mk (Below.trod laidOut (by kernel_rfl) (of_decide_eq_true (by kernel_rfl)) k0 bel lt0) (trodAll_cons_mk (Below.trod laidOut (by kernel_rfl) (of_decide_eq_true (by kernel_rfl)) k1 bel lt1) trodAll_mk0)), rfl, bel.frame _, fun h => by cases h⟩

set_option maxRecDepth 100000 in
theorem lifted (os : Os) (started : os.Started) (H : Type) (enc : TypeId × Value → H) (F : Stop.Interp) :
    ReturnsInHanded {} Try.checked os 5 .any ((Rows.OpenSpec.upto Rows.frameBackSpec).pre6 enc Try.prog Try.f5 Rows.frameBackUptoRow.domain false) (((Rows.OpenSpec.upto Rows.frameBackSpec).at F).post enc Try.prog Try.f5 false true false false) := by
  refine returnsInHanded_of_cond (C := Try.checked) (s := Rows.OpenSpec.upto Rows.frameBackSpec) (k := Rows.uptoSmall) rfl own started (by kernel_rfl) Try.func5
    (OpenSpec.witness (enc := enc) (C := Try.checked) (s := Rows.OpenSpec.upto Rows.frameBackSpec) (k := Rows.uptoSmall) rfl false ⟨#[], #[.slice none 0 0, .slice none 0 0], []⟩ 8 (by kernel_rfl) (by kernel_rfl) (by kernel_rfl)
      (x := ([.nil, .nil], [], [])) (by kernel_rfl) rfl (by kernel_rfl)) ?_
  intro W base args ds gs before hval hW _ hk _
  exact contract H enc W base args ds gs before hval hW hk

theorem over : Rows.FrameBackUptoSaid :=
  OpenClaim.holds_of_cond 5 Try.f5 rfl rfl rfl rfl rfl rfl rfl ⟨rfl, rfl, rfl, rfl, rfl⟩ rfl rfl rfl rfl rfl (by kernel_rfl) Try.func5 (by kernel_rfl)
    (of_decide_eq_true (by kernel_rfl)) (by unfold Func.isWrapper; first | (rw [if_pos (by decide +kernel)]; kernel_rfl) | (rw [if_neg (by decide +kernel)]; exact ⟨rfl, rfl⟩))
    (fun os started H enc _ F => lifted os started H enc F)
end Go.Proofs.Ytlfgnllmomeajaa.frameBack

namespace Go.Proofs.Ytlfgnllmomeajaa
/-- THE STATEMENT. -/
theorem frameBackUpto_holds : Rows.FrameBackUptoSaid := frameBack.over
#print axioms frameBackUpto_holds
end Go.Proofs.Ytlfgnllmomeajaa
