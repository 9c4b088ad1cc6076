/- For all messages l, up to a bulk of 1048576: they come back from their octets, and from their frames (the law MessageBack answers true), and no other memory is touched. -/
import Derived.Test.YtoadcaennlfadaaMF6
namespace Go.Proofs.Ytoadcaennlfadaa.messageBack
open Go.ChangeShapes Go.WideShapes Go.ChangeAt Go.RowKit
open Go.ChangeMaps (open_string shut_string)
set_option maxRecDepth 20000

theorem frames_bound (ms : List (Mg × List Int)) (hck : ∀ p ∈ ms, ckM p.1 p.2 = 0) : (Pl.framesOf (ms.map encP)).length ≤ 1214 * ms.length := by
  induction ms with
  | nil => simp [Pl.framesOf]
  | cons p r ih =>
    have h1 := enc_bounds (hck p (List.mem_cons_self ..))
    have h2 := ih (fun q hq => hck q (List.mem_cons_of_mem _ hq))
    have h3 := Pl.frame_len (encP p)
    have h4 := Pl.enc_len_le 9 (encP p).length
    have h5 : (encP p).length ≤ 1200 := h1.2
    simp only [Pl.framesOf, List.map_cons, List.flatMap_cons, List.length_append, List.length_cons] at h2 ⊢
    omega

set_option maxHeartbeats 8000000 in
theorem walk (v : Value) (ms : List (Mg × List Int)) {w : World} (hs : MSeg w v ms) (hdo : ∀ p ∈ ms, ∀ z ∈ p.2, 0 ≤ z ∧ z ≤ 255) (hlen : ms.length ≤ 1048576) :
    Calls Try.prog 4 #[v] w fun e w' => e = .returned (.bool true) ∧ Below w.heap.size w w' := by
  have halv := malive_any w
  obtain ⟨a, cap, rfl, h1, h2, _⟩ := id hs
  unfold maxLen at h2
  obtain ⟨N, hN⟩ : ∃ N, N = ms.length := ⟨_, rfl⟩
  have HN := hid hN
  rw [← hN] at h1 hs hlen ⊢
  have HS := hid hs
  have HDO := hid hdo
  clear hN hs hdo
  go_enter Try.func4, Try.ntmps4
  go_wp2_with fail
  refine halv.mono ?_
  rintro e w1 ⟨rfl, b1⟩
  have HS1 := hid (HS.out.below b1)
  have HB1 := hid b1
  clear halv b1 HS
  go_wp2_with fail
  go_loopw [3] (fun i wr => ∃ k : Nat, k ≤ N ∧ i = .int .i64 k ∧ Hid (∀ p ∈ ms.take k, ckM p.1 p.2 = 0) ∧ Below w1.heap.size w1 wr) (fun i _ => N - (intOf i).toNat)
  case atStart => exact ⟨0, Nat.zero_le _, rfl, (fun p hp => by simp at hp), Below.refl _ _⟩
  case round =>
    obtain ⟨k, hk, rfl, hc, hbel⟩ := hrel
    by_cases hlt : k < N
    · obtain ⟨x, t, hp⟩ : ∃ x t, ms[k]? = some (x, t) := ⟨(ms[k]'(by have := HN.out; omega)).1, (ms[k]'(by have := HN.out; omega)).2, by rw [List.getElem?_eq_getElem (by have := HN.out; omega)]⟩
      obtain ⟨g, off, dv, rfl, hg, hcc, hsd⟩ := HS1.out.at k x t hp
      have hdd := HDO.out _ (List.mem_of_getElem? hp)
      have hcr := hcc.below hg hbel
      have hsr := hsd.below hbel
      obtain ⟨da, dc, hdv, _⟩ := id hsr
      by_cases hE : ckM x t = 0
      · have hen := mEncode_ok x dv t wr hsr hE
        have hde := fun bv W hs => mDecode_any bv (encM x t) W hs (enc_octs hE hdd) (by have := enc_bounds hE; omega)
        rw [dcm_enc hE] at hde
        have hc2 : Hid (∀ p ∈ ms.take (k + 1), ckM p.1 p.2 = 0) := by
          intro p hpm
          rw [List.take_add_one, hp] at hpm
          rcases List.mem_append.1 hpm with h | h
          · exact hc.out p h
          · simp at h
            subst h
            exact hE
        have HSM := hid (fun tv W (h1 : Seg .u8 W tv t) (h2 : Seg .u8 W dv t) => same_self x tv dv t W h1 h2 hdd)
        have HSR := hid hsr
        have HCR := hid hcr
        generalize hTL : t.length = TL at hdv
        clear hTL
        subst hdv
        obtain ⟨r0, r1, r2, r3, r4, r5, r6, r7, r8, r9, r10, r11⟩ := hcr
        simp only [Mg.val] at hen hde HSM
        clear hsr hsd hcc hdd hp hc hE
        go_wp2_with fail
        refine hen.mono ?_
        rintro e w2 ⟨bv, rfl, o2, b2⟩
        have hd2 := hde bv w2 (Seg.own o2)
        obtain ⟨ba, bc, rfl⟩ := own_shape8 o2
        clear r0 r1 r2 r3 r4 r5 r6 r7 r8 r9 r10 r11 hen hde o2
        go_wp2_with (go_at_call 19; refine (num_any _ _).mono ?_; rintro e w3 ⟨rfl, rfl⟩)
        refine hd2.mono ?_
        rintro e w3 ⟨tv, rfl, o3, b3⟩
        obtain ⟨ta, tc, rfl⟩ := own_shape8 o3
        have hb3 := b2.trans (b3.mono b2.size)
        have MB := Bx.new w3 (x.cells (.slice ta t.length tc)) 24
        have hal : Below w3.heap.size w3 (w3.alloc (.cells ⟨x.cells (.slice ta t.length tc)⟩ 24)) := (Below.refl _ w3).alloc (Nat.le_refl _) _
        have hb4 := hb3.trans (hal.mono hb3.size)
        have hcr4 := HCR.out.below (Nat.lt_of_lt_of_le hg hbel.size) hb4
        have HB4 := hid (hbel.trans (hb4.mono hbel.size))
        have hsm := HSM.out _ _ ((Seg.own o3).below hal) (HSR.out.below hb4)
        have hsmd := fun nq => HSM.out _ _ (((Seg.own o3).below hal).below (below_drewN (Below.refl _ _) nq)) ((HSR.out.below hb4).below (below_drewN (Below.refl _ _) nq))
        clear hd2 b2 b3 o3 hb3 hal hb4 HSM HSR HCR
        have hglt0 : g < w3.heap.size + 1 := by have := World.block_lt_of_cell? _ _ hcr4.1; simp at this; omega
        go_wp2_with fail
        obtain ⟨w4, hw4⟩ : ∃ w4, w4 = w3.alloc (.cells #[.int .i64 x.k, .int .i64 x.c, .int .i64 x.b, .int .i64 x.i, .int .i64 x.s, .int .i64 x.q, .int .i64 x.m, .int .i64 x.n, .int .i64 x.l, .int .i64 x.o, .int .i64 x.p, .slice ta t.length tc] 24) := ⟨_, rfl⟩
        have hMB : MBx w4 w3.heap.size x (.slice ta t.length tc) := by rw [hw4]; exact MB
        have hcr5 : MCells w4 g (off + k * 12) x (.slice da TL dc) := by rw [hw4]; exact hcr4
        have HB5 : Hid (Below w1.heap.size w1 w4) := by rw [hw4]; exact HB4
        have hsmd5 : ∀ nq, Calls Try.prog 20 #[.agg #[.int .i64 x.k, .int .i64 x.c, .int .i64 x.b, .int .i64 x.i, .int .i64 x.s, .int .i64 x.q, .int .i64 x.m, .int .i64 x.n, .int .i64 x.l, .int .i64 x.o, .int .i64 x.p, .slice ta t.length tc], .agg #[.int .i64 x.k, .int .i64 x.c, .int .i64 x.b, .int .i64 x.i, .int .i64 x.s, .int .i64 x.q, .int .i64 x.m, .int .i64 x.n, .int .i64 x.l, .int .i64 x.o, .int .i64 x.p, .slice da TL dc]] (w4.drewN nq) fun r w' => r = .returned (.bool true) ∧ Below (w4.drewN nq).heap.size (w4.drewN nq) w' := by rw [hw4]; exact hsmd
        have hsz4 : w4.heap.size = w3.heap.size + 1 := by rw [hw4]; simp
        have hglt : g < w4.heap.size := by omega
        rw [← hw4]
        clear hw4 hcr4 HB4 hsm hsmd MB hglt0
        obtain ⟨r0, r1, r2, r3, r4, r5, r6, r7, r8, r9, r10, r11⟩ := hMB.facts
        obtain ⟨s0, s1, s2, s3, s4, s5, s6, s7, s8, s9, s10, s11⟩ := hcr5
        have hmlt := hMB.lt
        clear hMB
        go_region_with (first | (go_at_call 19; refine (num_any _ _).mono ?_; rintro e w5 ⟨rfl, rfl⟩) | (go_at_call 20; refine (hsmd5 _).mono ?_; rintro e w6 ⟨rfl, b6⟩))
        all_goals
          go_wp2
          go_roundw
          case rel => exact ⟨k + 1, by omega, by go_num, hc2, (below_drewN HB5.out _).trans (b6.mono (Nat.le_trans HB5.out.size (Nat.le_refl _)))⟩
          case measure => simp [intOf]; omega
      · have hen := mEncode_bad x dv t wr hsr hE
        have hbe : (ckM x t == 0) = false := by simp [hE]
        have hbn : (ckM x t != 0) = true := by simp [hE]
        generalize ckM x t = E at *
        generalize hTL : t.length = TL at hdv
        clear hTL
        subst hdv
        obtain ⟨r0, r1, r2, r3, r4, r5, r6, r7, r8, r9, r10, r11⟩ := hcr
        simp only [Mg.val] at hen
        clear hsr hsd hcc hdd hp hc hE
        go_wp2_with fail
        refine hen.mono ?_
        rintro e w2 ⟨rfl, b2⟩
        clear r0 r1 r2 r3 r4 r5 r6 r7 r8 r9 r10 r11 hen
        have HB2 := hid (HB1.out.trans ((hbel.trans (b2.mono hbel.size)).mono HB1.out.size))
        go_wp2_with (go_at_call 19; refine (num_any _ _).mono ?_; rintro e w3 ⟨rfl, rfl⟩)
        go_ret
        exact ⟨rfl, HB2.out⟩
    · have hke : ms.take k = ms := List.take_of_length_le (by have := HN.out; omega)
      rw [hke] at hc
      have hfb := frames_bound ms hc.out
      rw [← HN.out] at hfb
      have hfits : ∀ p ∈ ms.map encP, Pl.fits p := by
        intro p hp
        obtain ⟨q, hq, rfl⟩ := List.mem_map.1 hp
        exact enc_fits (hc.out q hq) (HDO.out q hq)
      have hsr := HS1.out.below hbel
      have hfr := mFrames_ok _ ms wr hsr hc.out (by have := HN.out; omega) (fun W u hP _ => fput_many W u _ hP hfits (by omega))
      have hsc := Pl.scanF_frames (ms.map encP) [] hfits rfl
      rw [List.append_nil] at hsc
      have hoF : Pl.Octs (Pl.framesOf (ms.map encP)) := by
        intro z hz
        unfold Pl.framesOf at hz
        obtain ⟨p, hp, hzp⟩ := List.mem_flatMap.1 hz
        exact octs_frame' (hfits p hp) z hzp
      have HRD := hid (fun o W hs => mRead_ok o (Pl.framesOf (ms.map encP)) W hs hoF (by omega) ms hsc hc.out HDO.out (by have := HN.out; omega))
      have HSM := hid (fun o W (h1 : MSeg W o ms) (h2 : MSeg W (.slice a N cap) ms) => sameMsgs_true o (.slice a N cap) ms W h1 h2 HDO.out)
      have HSR := hid hsr
      have HB := hid (HB1.out.trans (hbel.mono HB1.out.size))
      clear hke hc hfb hfits hsr hsc hoF hbel
      go_wp2_with fail
      refine hfr.mono ?_
      rintro e w2 ⟨o, rfl, hP, hS, b2⟩
      have hrd := HRD.out o w2 (Part.seg hP)
      have hs2 := HSR.out.below b2
      have HB2 := hid (HB.out.trans (b2.mono HB.out.size))
      obtain ⟨oa, oc, hov, _⟩ := Part.seg (k := .u8) hP
      generalize (Pl.framesOf (ms.map encP)).length = FL at hov
      subst hov
      clear hfr HRD hP hS b2 HSR HB
      go_wp2_with fail
      refine hrd.mono ?_
      rintro e w3 ⟨mv, ys, rfl, hMs, b3⟩
      have hsm := HSM.out mv w3 hMs.seg (hs2.below b3)
      have HB3 := hid (HB2.out.trans (b3.mono HB2.out.size))
      clear hrd HSM hMs b3 hs2 HB2
      go_wp2_with (first | (go_at_call 19; refine (num_any _ _).mono ?_; rintro e w5 ⟨rfl, rfl⟩) | (go_at_call 21; refine hsm.mono ?_; rintro e w6 ⟨rfl, b6⟩))
      go_ret
      exact ⟨rfl, HB3.out.trans (b6.mono HB3.out.size)⟩

set_option maxRecDepth 100000 in
theorem contract (H : Type) (enc : TypeId × Value → H) (W : World) (base : Nat) (args : Array Value) (ds gs : List (DataW H)) (before : List MemPlace)
    (hval : ∀ (j : Nat) t v, Try.f4.params[j]? = some t → args[j]? = some v → Value.okWide Try.prog W .any base t v)
    (hW : DataW.Whole enc Try.prog Try.f4.params.toList Rows.messageBackSpec.vars false W args.toList ds gs before) (hk : Rows.uptoSmall H (ds ++ gs) = true) :
    Calls Try.prog 4 args W fun e W' => ∃ v, e = .returned v ∧ Rows.messageBackSpec.post enc Try.prog Try.f4 false true false false W args v W' := by
  have hW' := hW
  obtain ⟨p, q, hA0, hV, rfl, hfz, hnd⟩ := hW
  have hA : DataW.TrodAll enc Try.prog W 0 (fun _ => true) true Try.f4.params.toList args.toList ds p := hA0
  rw [Try.params4] at hA hval
  obtain ⟨v0, vs0, d0, ds0, p0, q0, hargs, rfl, rfl, h0, r0⟩ := trodAll_cons hA
  obtain ⟨rfl, rfl, rfl⟩ := trodAll_nil r0
  obtain rfl : args = #[v0] := by cases args; simp_all
  obtain ⟨rfl, rfl⟩ := trodVars_none hV
  have k0 := h0
  have lt0 : ∀ x ∈ p0, x.block < W.heap.size := by obtain ⟨m, hm⟩ := k0; exact DataW.trod_lt m _ _ _ hm
  obtain ⟨l0, hs0, ho0, e0⟩ := open_msgs (hval 0 37 v0 rfl rfl) h0
  have hlen : l0.length ≤ 1048576 := by
    have h := bulk_bound hk
    simp only [List.append_nil, Rows.uptoBulkAll] at h
    have b0 := e0
    omega
  clear hA0
  refine (walk v0 l0 hs0 ho0 hlen).mono fun e W' ⟨he, bel⟩ => ?_
  subst he
  exact ⟨_, rfl, _, _, _, [], _, [], hW', trodAll_mk1 (shut_bool Try.underlying4 _), (trodAll_cons_mk (Below.trod laidOut (by kernel_rfl) (of_decide_eq_true (by kernel_rfl)) k0 bel lt0) trodAll_mk0), rfl, bel.frame _, fun h => by cases h⟩

set_option maxRecDepth 100000 in
theorem lifted (os : Os) (started : os.Started) (H : Type) (enc : TypeId × Value → H) (F : Stop.Interp) :
    ReturnsInHanded {} Try.checked os 4 .any ((Rows.OpenSpec.upto Rows.messageBackSpec).pre6 enc Try.prog Try.f4 Rows.messageBackUptoRow.domain false) (((Rows.OpenSpec.upto Rows.messageBackSpec).at F).post enc Try.prog Try.f4 false true false false) := by
  refine returnsInHanded_of_cond (C := Try.checked) (s := Rows.OpenSpec.upto Rows.messageBackSpec) (k := Rows.uptoSmall) rfl own started (by kernel_rfl) Try.func4
    (OpenSpec.witness (enc := enc) (C := Try.checked) (s := Rows.OpenSpec.upto Rows.messageBackSpec) (k := Rows.uptoSmall) rfl false ⟨#[], #[.slice none 0 0], []⟩ 8 (by kernel_rfl) (by kernel_rfl) (by kernel_rfl)
      (x := ([.nil], [], [])) (by kernel_rfl) rfl (by kernel_rfl)) ?_
  intro W base args ds gs before hval hW _ hk _
  exact contract H enc W base args ds gs before hval hW hk

theorem over : Rows.MessageBackUptoSaid :=
  OpenClaim.holds_of_cond 4 Try.f4 rfl rfl rfl rfl rfl rfl rfl ⟨rfl, rfl, rfl, rfl, rfl⟩ rfl rfl rfl rfl rfl (by kernel_rfl) Try.func4 (by kernel_rfl)
    (of_decide_eq_true (by kernel_rfl)) (by unfold Func.isWrapper; first | (rw [if_pos (by decide +kernel)]; kernel_rfl) | (rw [if_neg (by decide +kernel)]; exact ⟨rfl, rfl⟩))
    (fun os started H enc _ F => lifted os started H enc F)
end Go.Proofs.Ytoadcaennlfadaa.messageBack

namespace Go.Proofs.Ytoadcaennlfadaa
/-- THE STATEMENT. -/
theorem messageBackUpto_holds : Rows.MessageBackUptoSaid := messageBack.over
#print axioms messageBackUpto_holds
end Go.Proofs.Ytoadcaennlfadaa
