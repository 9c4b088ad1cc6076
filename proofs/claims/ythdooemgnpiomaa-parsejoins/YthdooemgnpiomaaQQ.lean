/- parse: the parts of a declaration are gathered. -/
import Derived.Test.YthdooemgnpiomaaQM
namespace Go.Proofs.Ythdooemgnpiomaa
open Go.RowKit

theorem Try.info76 : (Try.prog.info? 76).map (fun i => (i.zero, i.size, i.bytes)) = some (some (.agg #[.string ⟨#[]⟩, .bool false, .int .i64 0, .string ⟨#[]⟩, .slice none 0 0, .int .i64 0, .string ⟨#[]⟩, .slice none 0 0]), 8, 120) := by kernel_rfl

/-- What is gathered of a declaration, in its box. -/
def InvM (n n1 sb rb : Nat) (nm : ByteArray) (xs : List Pl.Mth) (W : World) : Prop := ∃ fv, Bx W sb [.string nm, fv] 73 ∧ Rows 76 8 (MthR n1) n1 W fv xs ∧ Bx W rb [.pointer (some ⟨n, 0, none⟩)] 79

set_option maxHeartbeats 16000000 in
set_option maxRecDepth 4000 in
theorem restM (n n1 sb rb : Nat) (nm : ByteArray) (hn1 : n < n1) (hs1 : n1 ≤ sb) (hr1 : n1 ≤ rb) (sv : Value) (l : List T3) (rest : List Value) (hl : 0 < l.length) (hbig : l.length ≤ 1000000) (hG : GoodT l) (W : World) (i : Nat) (h : Pos n sv rest W i) (hS : TSeg W sv (l.map toZ)) (hi : i ≤ l.length) (hsn : ∀ g, sv.ownBlock = some g → g ≠ n) (t : T3) (ht : t ∈ l) (xs : List Pl.Mth) (hx : xs.length < 32) (hI : InvM n n1 sb rb nm xs W) :
    Calls Try.prog 57 #[tokV t, .pointer (some ⟨sb, 0, none⟩), .pointer (some ⟨rb, 0, none⟩)] W (RunsX (Xq n n1) l n sv rest W (Pl.methodP (kt3 t) ((l.drop i).map kt3)) (fun a w' => InvM n n1 sb rb nm (xs ++ [a]) w')) := by
  obtain ⟨fv, hBs, hRo, hBr⟩ := hI
  have hb1 := below_alloc W (.cells #[.int .i64 (t.1 : Int), .string t.2.1, .int .i64 (t.2.2 : Int)] 36)
  have hBX1 := Bx.new W [.int .i64 (t.1 : Int), .string t.2.1, .int .i64 (t.2.2 : Int)] 36
  have hBs1 := hBs.below hb1
  have hBr1 := hBr.below hb1
  have hP1 := h.below hb1
  have hltn := h.facts.2.2.2
  have hltr := hBr.lt
  have hlts := hBs.lt
  obtain ⟨bX, hbX⟩ : ∃ g, g = W.heap.size := ⟨_, rfl⟩
  have htk : ∀ W2, Below (W.alloc (.cells #[.int .i64 (t.1 : Int), .string t.2.1, .int .i64 (t.2.2 : Int)] 36)).heap.size (W.alloc (.cells #[.int .i64 (t.1 : Int), .string t.2.1, .int .i64 (t.2.2 : Int)] 36)) W2 → Calls Try.prog 58 #[.pointer (some ⟨n, 0, none⟩), tokV t] W2 (Runs l n sv rest W2 (Pl.methodP (kt3 t) ((l.drop i).map kt3)) (MthV W2.heap.size)) := fun W2 hb => pmethod_any n sv l rest hl hbig hG W2 i (hP1.below hb) (hS.below (below_next hb1 hb)) hi hsn t ht
  generalize Pl.methodP (kt3 t) ((l.drop i).map kt3) = RES at *
  obtain ⟨adf, cpf, hfv⟩ := hRo.shape
  unfold tokV at htk ⊢
  clear hG hsn ht hS hBs hBr
  go_enter Try.func57, Try.ntmps57
  go_wp2_with fail
  rw [← hbX] at hBX1 ⊢
  have hnX : bX ≠ n := by omega
  have hrX : rb ≠ bX := by omega
  have hsX : sb ≠ bX := by omega
  change Bx (W.alloc (.cells #[.int .i64 (t.1 : Int), .string t.2.1, .int .i64 (t.2.2 : Int)] 36)) _ _ _ at hBX1
  generalize (W.alloc (.cells #[.int .i64 (t.1 : Int), .string t.2.1, .int .i64 (t.2.2 : Int)] 36)) = w1 at *
  have HbX := hid hbX
  clear hbX
  cases RES with
  | bad r er =>
    refine wp_region_drawn2 (pred := fun jx v _ => match jx with | 0 => v = .pointer (some ⟨sb, 1, none⟩) | 1 => v = fv | 2 => v = .pointer (some ⟨n, 0, none⟩) | 3 => v = .pointer (some ⟨n, 0, none⟩) | 4 => v = .pointer (some ⟨n, 0, none⟩) | 5 => v = tokV t | 6 => False | 7 => False | 8 => False | 9 => v = .pointer (some ⟨sb, 1, none⟩) | 10 => True | _ => True) (R := fun Wx => Below w1.heap.size w1 Wx) (by kernel_rfl) (by kernel_rfl) (by kernel_rfl) (fun _ _ _ _ h _ => h) (Below.refl _ _).drew ?step ?done
    case step =>
      intro ix o ho A Wx hsz hdf hfr hdep hR
      rcases ix with _ | _ | _ | _ | _ | _ | _ | _ | _ | _ | _ | ix
      · injection ho with ho
        subst ho
        have e1 : A.eval (.tmp 1) = .pointer (some ⟨sb, 0, none⟩) := (hfr 1 (noDst_spec (by kernel_rfl))).trans rfl
        exact gOp_fld (v := .pointer (some ⟨sb, 1, none⟩)) rfl (wanted_plain rfl) rfl e1 (by go_simp) ⟨_, rfl, rfl, Below.refl _ _, hR⟩
      · injection ho with ho
        subst ho
        have e4 : A.eval (.tmp 4) = .pointer (some ⟨sb, 1, none⟩) := hdep ⟨0, .data⟩ (by simp) rfl _ _ rfl rfl
        have z1 := (hBs1.below hR).cell 1 rfl
        exact gOp_ld (v := fv) rfl (wanted_plain rfl) rfl e4 (by go_simp) ⟨_, rfl, rfl, Below.refl _ _, hR⟩
      · injection ho with ho
        subst ho
        have e2 : A.eval (.tmp 2) = .pointer (some ⟨rb, 0, none⟩) := (hfr 2 (noDst_spec (by kernel_rfl))).trans rfl
        have z1 := (hBr1.below hR).cell 0 rfl
        exact gOp_ld (v := .pointer (some ⟨n, 0, none⟩)) rfl (wanted_plain rfl) rfl e2 (by go_simp) ⟨_, rfl, rfl, Below.refl _ _, hR⟩
      · injection ho with ho
        subst ho
        have e6 : A.eval (.tmp 6) = .pointer (some ⟨n, 0, none⟩) := hdep ⟨2, .data⟩ (by simp) rfl _ _ rfl rfl
        exact gOp_nil rfl (wanted_plain rfl) rfl e6 ⟨_, rfl, rfl, Below.refl _ _, hR⟩
      · injection ho with ho
        subst ho
        have e7 : A.eval (.tmp 7) = .pointer (some ⟨n, 0, none⟩) := hdep ⟨3, .data⟩ (by simp) rfl _ _ rfl rfl
        exact gOp_fld (v := .pointer (some ⟨n, 0, none⟩)) rfl (wanted_plain rfl) rfl e7 (by go_simp) ⟨_, rfl, rfl, Below.refl _ _, hR⟩
      · injection ho with ho
        subst ho
        have e3 : A.eval (.tmp 3) = .pointer (some ⟨bX, 0, none⟩) := (hfr 3 (noDst_spec (by kernel_rfl))).trans rfl
        have z0 := (hBX1.below hR).cell 0 rfl
        have z1 := (hBX1.below hR).cell 1 rfl
        have z2 := (hBX1.below hR).cell 2 rfl
        exact gOp_ld (v := tokV t) rfl (wanted_plain rfl) rfl e3 (by unfold tokV; go_simp) ⟨_, rfl, rfl, Below.refl _ _, hR⟩
      · injection ho with ho
        subst ho
        have e8 : A.eval (.tmp 8) = .pointer (some ⟨n, 0, none⟩) := hdep ⟨4, .data⟩ (by simp) rfl _ _ rfl rfl
        have e9 : A.eval (.tmp 9) = tokV t := hdep ⟨5, .data⟩ (by simp) rfl _ _ rfl rfl
        refine gOp_dies rfl (wanted_plain rfl) 58 #[.pointer (some ⟨n, 0, none⟩), tokV t] (run_call _ (fun _ _ => rfl) _ _ rfl _ (by simp [e8, e9])) ?_
        refine (htk Wx hR).mono ?_
        rintro e w5 ⟨i5, rfl, hi5, hr5, hC5⟩
        exact ⟨_, rfl, hdf, i5, rfl, hi5, hr5, (Ch.below (below_next hb1 hR)).trans (hC5.mono (fun _ _ h => .inl h))⟩
      · injection ho with ho
        subst ho
        exact (hdep ⟨6, .data⟩ (by simp) rfl _ _ rfl rfl).elim
      · injection ho with ho
        subst ho
        exact (hdep ⟨7, .data⟩ (by simp) rfl _ _ rfl rfl).elim
      · injection ho with ho
        subst ho
        have e1 : A.eval (.tmp 1) = .pointer (some ⟨sb, 0, none⟩) := (hfr 1 (noDst_spec (by kernel_rfl))).trans rfl
        exact gOp_fld (v := .pointer (some ⟨sb, 1, none⟩)) rfl (wanted_plain rfl) rfl e1 (by go_simp) ⟨_, rfl, rfl, Below.refl _ _, hR⟩
      · injection ho with ho
        subst ho
        exact (hdep ⟨8, .data⟩ (by simp) rfl _ _ rfl rfl).elim
      · simp at ho
    case done =>
      intro A Wx _ _ _ hcome _
      exact (hcome 6 _ _ rfl rfl).elim
  | ok a5 r5 =>
    have hbD : Below w1.heap.size w1 w1.drew := (Below.refl _ _).drew
    have htk1 := htk _ hbD
    have hRo1 := hRo.ch (X := Xp n) (Ch.below hb1) (fun a c => MthR.ch (X := Xp n) (Ch.below hb1) (fun g hg => Xp.ty g hg) a c) (fun k _ hx => by have := hx.2; revert this; decide)
    obtain ⟨ps, hps, hRp, hown1⟩ := hRo1
    have hpl : xs.length = ps.length := by rw [← hps, List.length_map]
    have hp32 : ps.length < 32 := by omega
    rw [hpl] at hfv
    subst hfv
    have HPS := hid hps
    have HRP := hid hRp
    have Hb1 := hid hb1
    have hn1w : n1 ≤ w1.heap.size := by have := hb1.size; have := hBs1.lt; omega
    have z1 := hBs1.cell 1 rfl
    have z2 := hBr1.cell 0 rfl
    have z3 := hBX1.cell 0 rfl
    have z4 := hBX1.cell 1 rfl
    have z5 := hBX1.cell 2 rfl
    have hsn1 : sb ≠ n := by omega
    have hrn1 : rb ≠ n := by omega
    obtain ⟨i0, hi0, hz0, hz1, hz2⟩ := info_parts Try.info76
    clear htk hps hRp hpl hRo hx hb1
    go_region_law (first
      | (refine step_call2p (v := .pointer (some ⟨n, 0, none⟩)) (u := .agg #[.int .i64 (t.1 : Int), .string t.2.1, .int .i64 (t.2.2 : Int)]) (o := { dst := some 10, op := .call { callee := .value (.func 58), args := #[.tmp 8, .tmp 9], argTypes := #[57, 36] }, type := _, pos := _, after := _, guard := none }) 58 (fun _ _ => rfl) rfl 8 9 _ rfl (by simp [Act.put]) (by simp [Act.put]) ?_; refine htk1.mono ?_; rintro e w5 ⟨v5, i5, rfl, hi5, hr5, hP5, hV5, hC5⟩; obtain ⟨s5, k5, sn5, ad5, m5, cp5, k6, sn6, ad6, m6, cp6, hvv5, hnm5, hty5, htz5⟩ := hV5.flat; subst hvv5; refine ⟨_, rfl, ?_⟩; have hC15 := Ch.trans (X := Xp n) (Ch.below hbD) hC5; have hBs5 := hBs1.ch hC15 (fun hx => hsn1 hx.1); have hBr5 := hBr1.ch hC15 (fun hx => hrn1 hx.1); have hown5 := own_ch hown1 hC15 (fun k _ hx => by have := hx.2; revert this; decide); have y1 := hBs5.cell 1 rfl; have y2 := hBs5.frozen; have hls5 := hBs5.lt; have hn5 := hC15.size)
      | (refine step_append_lies (o := { dst := some 12, op := .call { callee := .builtin .append, args := #[.tmp 5, .tmp 11], argTypes := #[71, 71] }, type := _, pos := _, after := _, guard := none }) _ rfl (.tmp 5) (.tmp 11) 71 rfl n1 76 i0 _ 8 120 Try.underlying71 hi0 hz0 hz1 hz2 rfl (by decide) (.slice adf ps.length cpf) ps.length (ps.flatMap Prod.snd) rfl (own_ch (X := Xp n) hown5 (Ch.alloc _ _) (fun k _ hx => by have := hx.2; revert this; decide)) ⟨w5.heap.size, 0, none⟩ 1 1 [.string s5, .bool a5.once, .int .i64 k5, .string sn5, .slice ad5 m5 cp5, .int .i64 k6, .string sn6, .slice ad6 m6 cp6] rfl rfl (World.news_of_block (heap_alloc_new w5 _)) (fun u hu => by simp at hu; rcases hu with rfl | rfl | rfl | rfl | rfl | rfl | rfl | rfl <;> rfl) (by decide) (by unfold maxLen; omega) (by omega) (by simp; omega) _ rfl ?_; intro g cap w6 hown6 hgr6 hat6 hlt6; have hBsA := hBs5.alloc (.cells #[.string s5, .bool a5.once, .int .i64 k5, .string sn5, .slice ad5 m5 cp5, .int .i64 k6, .string sn6, .slice ad6 m6 cp6] 76); have hBs6 : Bx w6 sb [.string nm, .slice adf ps.length cpf] 73 := (hgr6.block sb (by simp; omega) (fun e => by obtain ⟨_, cur, hq⟩ := own_block hown5 e.symm; rw [hBs5] at hq; simp at hq)).trans hBsA; have x1 := hBs6.cell 1 rfl; have x2 := hBs6.frozen))
    all_goals
      go_wp2
      go_end0
      obtain ⟨⟨e1, e2, e3⟩, e4, e5⟩ := gather_end (R := MthR n1) (c := [.string s5, .bool a5.once, .int .i64 k5, .string sn5, .slice ad5 m5 cp5, .int .i64 k6, .string sn6, .slice ad6 m6 cp6]) a5 (fun w w' hc a c h => MthR.ch hc Xq.ty a c h) (by simp [Xs]) (by decide) (by decide) (by simp [Xs]) hn1 hs1 Hb1.out hC15 hown5 hgr6 hown6 hBs6 hBr5 hP5 HRP.out ⟨s5, k5, sn5, ad5, m5, cp5, k6, sn6, ad6, m6, cp6, rfl, hnm5, TyC.mono (by have := hbD.size; omega) _ _ _ _ hty5, TyC.mono (by have := hbD.size; omega) _ _ _ _ htz5⟩ rfl
      rw [HPS.out] at e2
      exact ⟨i5, rfl, hi5, hr5, e4, ⟨_, e1, e2, e3⟩, e5⟩
end Go.Proofs.Ythdooemgnpiomaa
