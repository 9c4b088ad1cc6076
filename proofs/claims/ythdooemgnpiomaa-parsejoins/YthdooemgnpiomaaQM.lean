/- parse: the parts of a declaration are gathered. -/
import Derived.Test.YthdooemgnpiomaaQL
namespace Go.Proofs.Ythdooemgnpiomaa
open Go.RowKit

/-- The place, and what has been made since n1. -/
def Xq (n n1 : Nat) (g : Nat) (T : TypeId) : Prop := Xp n g T ∨ (n1 ≤ g ∧ Xs g T)
theorem Xq.ty {n n1 B : Nat} : ∀ g, B ≤ g → ¬ Xq n n1 g 46 := by
  rintro g _ (h | h)
  · exact Xp.ty g (Nat.zero_le _) h
  · have := h.2
    revert this
    unfold Xs
    decide
theorem Xq.ptr {n n1 : Nat} (g : Nat) : ¬ Xq n n1 g 79 := by
  rintro (h | h)
  · have := h.2
    revert this
    decide
  · have := h.2
    revert this
    unfold Xs
    decide

/-- One part more has been gathered. -/
theorem gather_end {α : Type} {T bT : TypeId} {m n n1 sb rb i5 : Nat} {sv : Value} {rest : List Value} {R : α → List Value → World → Prop} {W w1 w5 w6 : World} {nm : ByteArray} {v u : Value} {ps : List (α × List Value)} {c : List Value} {o : Obj} (a5 : α)
    (hst : ∀ w w', Ch (Xq n n1) w w' → ∀ a c, R a c w → R a c w') (hT : Xs 0 T) (hT1 : T ≠ 59) (hT2 : T ≠ bT) (hbT : Xs 0 bT) (hn1 : n < n1) (hs1 : n1 ≤ sb)
    (hb1 : Below W.heap.size W w1) (hC15 : Ch (Xp n) w1 w5) (hown5 : w5.ownsRow n1 T m v ps.length (ps.flatMap Prod.snd)) (hgr : (w5.alloc o).grownBy w6 v.ownBlock) (hown6 : w6.ownsRow n1 T m u (ps.length + 1) (ps.flatMap Prod.snd ++ c))
    (hBs6 : Bx w6 sb [.string nm, v] bT) (hBr5 : Bx w5 rb [.pointer (some ⟨n, 0, none⟩)] 79) (hP5 : Pos n sv rest w5 i5) (hRP : ∀ p ∈ ps, R p.1 p.2 w1 ∧ p.2.length = m) (hnew : R a5 c w5) (hc : c.length = m) :
    (Bx (w6.setCell ⟨sb, 1, none⟩ u) sb [.string nm, u] bT ∧ Rows T m R n1 (w6.setCell ⟨sb, 1, none⟩ u) u (ps.map Prod.fst ++ [a5]) ∧ Bx (w6.setCell ⟨sb, 1, none⟩ u) rb [.pointer (some ⟨n, 0, none⟩)] 79) ∧ Pos n sv rest (w6.setCell ⟨sb, 1, none⟩ u) i5 ∧ Ch (Xq n n1) W (w6.setCell ⟨sb, 1, none⟩ u) := by
  have hX : ∀ k, n1 ≤ k → Xq n n1 k T := fun k hk => .inr ⟨hk, hT⟩
  have hownA := own_ch (X := Xp n) hown5 (Ch.alloc w5 o) (fun k _ hx => hT1 hx.2)
  have hC56 : Ch (Xq n n1) w5 w6 := grown_ch hownA (Ch.alloc w5 o) hgr hX
  have hCs : Ch (fun g T' => g = sb ∧ T' = bT) w6 (w6.setCell ⟨sb, 1, none⟩ u) := Ch.set hBs6 ⟨rfl, rfl⟩ u
  have hCs' : Ch (Xq n n1) w6 (w6.setCell ⟨sb, 1, none⟩ u) := hCs.mono (fun g T' h => .inr ⟨by rw [h.1]; exact hs1, by rw [h.2]; exact hbT⟩)
  have hC16 : Ch (Xq n n1) w1 w6 := (hC15.mono (fun _ _ h => .inl h)).trans hC56
  have hPA : Bx (w5.alloc o) n _ _ := Bx.alloc hP5 o
  have hP6 : Pos n sv rest w6 i5 := (hgr.block n (by have := hP5.facts.2.2.2; simp; omega) (fun e => by
    obtain ⟨_, cur, hq⟩ := own_block hownA e.symm
    rw [hPA] at hq
    simp at hq
    exact hT1 hq.2.symm)).trans hPA
  refine ⟨⟨hBs6.set 1 u, ?_, (hBr5.ch hC56 (Xq.ptr _)).ch hCs' (Xq.ptr _)⟩, hP6.other (by omega) u, ((Ch.below hb1).trans hC16).trans hCs'⟩
  exact (Rows.more hRP (hst _ _ hC16) a5 c (hst _ _ hC56 _ _ hnew) hc hown6).ch hCs (hst _ _ hCs') (fun k _ hx => hT2 hx.2)

theorem Try.info48 : (Try.prog.info? 48).map (fun i => (i.zero, i.size, i.bytes)) = some (some (.agg #[.string ⟨#[]⟩, .int .i64 0, .int .i64 0, .string ⟨#[]⟩, .slice none 0 0]), 5, 72) := by kernel_rfl

/-- What is gathered of a declaration, in its box. -/
def InvF (n n1 sb rb : Nat) (nm : ByteArray) (xs : List Pl.Fld) (W : World) : Prop := ∃ fv, Bx W sb [.string nm, fv] 43 ∧ Rows 48 5 (FldR n1) n1 W fv xs ∧ Bx W rb [.pointer (some ⟨n, 0, none⟩)] 79

set_option maxHeartbeats 16000000 in
set_option maxRecDepth 4000 in
theorem restF (n n1 sb rb : Nat) (nm : ByteArray) (hn1 : n < n1) (hs1 : n1 ≤ sb) (hr1 : n1 ≤ rb) (sv : Value) (l : List T3) (rest : List Value) (hl : 0 < l.length) (hbig : l.length ≤ 1000000) (hG : GoodT l) (W : World) (i : Nat) (h : Pos n sv rest W i) (hS : TSeg W sv (l.map toZ)) (hi : i ≤ l.length) (hsn : ∀ g, sv.ownBlock = some g → g ≠ n) (t : T3) (ht : t ∈ l) (hk : t.1 = 2) (xs : List Pl.Fld) (hx : xs.length < 32) (hI : InvF n n1 sb rb nm xs W) :
    Calls Try.prog 53 #[tokV t, .pointer (some ⟨sb, 0, none⟩), .pointer (some ⟨rb, 0, none⟩)] W (RunsX (Xq n n1) l n sv rest W (Pl.fieldP (kt3 t) ((l.drop i).map kt3)) (fun a w' => InvF n n1 sb rb nm (xs ++ [a]) w')) := by
  obtain ⟨fv, hBs, hRo, hBr⟩ := hI
  have hb1 := below_alloc W (.cells #[.int .i64 (t.1 : Int), .string t.2.1, .int .i64 (t.2.2 : Int)] 36)
  have hBX1 := Bx.new W [.int .i64 (t.1 : Int), .string t.2.1, .int .i64 (t.2.2 : Int)] 36
  have hBs1 := hBs.below hb1
  have hBr1 := hBr.below hb1
  have hP1 := h.below hb1
  have hltn := h.facts.2.2.2
  have hltr := hBr.lt
  have hlts := hBs.lt
  obtain ⟨bX, hbX⟩ : ∃ g, g = W.heap.size := ⟨_, rfl⟩
  have htk : ∀ W2, Below (W.alloc (.cells #[.int .i64 (t.1 : Int), .string t.2.1, .int .i64 (t.2.2 : Int)] 36)).heap.size (W.alloc (.cells #[.int .i64 (t.1 : Int), .string t.2.1, .int .i64 (t.2.2 : Int)] 36)) W2 → Calls Try.prog 54 #[.pointer (some ⟨n, 0, none⟩), tokV t] W2 (Runs l n sv rest W2 (Pl.fieldP (kt3 t) ((l.drop i).map kt3)) (FldV W2.heap.size)) := fun W2 hb => pfield_any n sv l rest hl hbig hG W2 i (hP1.below hb) (hS.below (below_next hb1 hb)) hi hsn t ht hk
  generalize Pl.fieldP (kt3 t) ((l.drop i).map kt3) = RES at *
  obtain ⟨adf, cpf, hfv⟩ := hRo.shape
  unfold tokV at htk ⊢
  clear hG hsn ht hS hBs hBr hk
  go_enter Try.func53, Try.ntmps53
  go_wp2_with fail
  rw [← hbX] at hBX1 ⊢
  have hnX : bX ≠ n := by omega
  have hrX : rb ≠ bX := by omega
  have hsX : sb ≠ bX := by omega
  change Bx (W.alloc (.cells #[.int .i64 (t.1 : Int), .string t.2.1, .int .i64 (t.2.2 : Int)] 36)) _ _ _ at hBX1
  generalize (W.alloc (.cells #[.int .i64 (t.1 : Int), .string t.2.1, .int .i64 (t.2.2 : Int)] 36)) = w1 at *
  have HbX := hid hbX
  clear hbX
  cases RES with
  | bad r er =>
    refine wp_region_drawn2 (pred := fun jx v _ => match jx with | 0 => v = .pointer (some ⟨sb, 1, none⟩) | 1 => v = fv | 2 => v = .pointer (some ⟨n, 0, none⟩) | 3 => v = .pointer (some ⟨n, 0, none⟩) | 4 => v = .pointer (some ⟨n, 0, none⟩) | 5 => v = tokV t | 6 => False | 7 => False | 8 => False | 9 => v = .pointer (some ⟨sb, 1, none⟩) | 10 => True | _ => True) (R := fun Wx => Below w1.heap.size w1 Wx) (by kernel_rfl) (by kernel_rfl) (by kernel_rfl) (fun _ _ _ _ h _ => h) (Below.refl _ _).drew ?step ?done
    case step =>
      intro ix o ho A Wx hsz hdf hfr hdep hR
      rcases ix with _ | _ | _ | _ | _ | _ | _ | _ | _ | _ | _ | ix
      · injection ho with ho
        subst ho
        have e1 : A.eval (.tmp 1) = .pointer (some ⟨sb, 0, none⟩) := (hfr 1 (noDst_spec (by kernel_rfl))).trans rfl
        exact gOp_fld (v := .pointer (some ⟨sb, 1, none⟩)) rfl (wanted_plain rfl) rfl e1 (by go_simp) ⟨_, rfl, rfl, Below.refl _ _, hR⟩
      · injection ho with ho
        subst ho
        have e4 : A.eval (.tmp 4) = .pointer (some ⟨sb, 1, none⟩) := hdep ⟨0, .data⟩ (by simp) rfl _ _ rfl rfl
        have z1 := (hBs1.below hR).cell 1 rfl
        exact gOp_ld (v := fv) rfl (wanted_plain rfl) rfl e4 (by go_simp) ⟨_, rfl, rfl, Below.refl _ _, hR⟩
      · injection ho with ho
        subst ho
        have e2 : A.eval (.tmp 2) = .pointer (some ⟨rb, 0, none⟩) := (hfr 2 (noDst_spec (by kernel_rfl))).trans rfl
        have z1 := (hBr1.below hR).cell 0 rfl
        exact gOp_ld (v := .pointer (some ⟨n, 0, none⟩)) rfl (wanted_plain rfl) rfl e2 (by go_simp) ⟨_, rfl, rfl, Below.refl _ _, hR⟩
      · injection ho with ho
        subst ho
        have e6 : A.eval (.tmp 6) = .pointer (some ⟨n, 0, none⟩) := hdep ⟨2, .data⟩ (by simp) rfl _ _ rfl rfl
        exact gOp_nil rfl (wanted_plain rfl) rfl e6 ⟨_, rfl, rfl, Below.refl _ _, hR⟩
      · injection ho with ho
        subst ho
        have e7 : A.eval (.tmp 7) = .pointer (some ⟨n, 0, none⟩) := hdep ⟨3, .data⟩ (by simp) rfl _ _ rfl rfl
        exact gOp_fld (v := .pointer (some ⟨n, 0, none⟩)) rfl (wanted_plain rfl) rfl e7 (by go_simp) ⟨_, rfl, rfl, Below.refl _ _, hR⟩
      · injection ho with ho
        subst ho
        have e3 : A.eval (.tmp 3) = .pointer (some ⟨bX, 0, none⟩) := (hfr 3 (noDst_spec (by kernel_rfl))).trans rfl
        have z0 := (hBX1.below hR).cell 0 rfl
        have z1 := (hBX1.below hR).cell 1 rfl
        have z2 := (hBX1.below hR).cell 2 rfl
        exact gOp_ld (v := tokV t) rfl (wanted_plain rfl) rfl e3 (by unfold tokV; go_simp) ⟨_, rfl, rfl, Below.refl _ _, hR⟩
      · injection ho with ho
        subst ho
        have e8 : A.eval (.tmp 8) = .pointer (some ⟨n, 0, none⟩) := hdep ⟨4, .data⟩ (by simp) rfl _ _ rfl rfl
        have e9 : A.eval (.tmp 9) = tokV t := hdep ⟨5, .data⟩ (by simp) rfl _ _ rfl rfl
        refine gOp_dies rfl (wanted_plain rfl) 54 #[.pointer (some ⟨n, 0, none⟩), tokV t] (run_call _ (fun _ _ => rfl) _ _ rfl _ (by simp [e8, e9])) ?_
        refine (htk Wx hR).mono ?_
        rintro e w5 ⟨i5, rfl, hi5, hr5, hC5⟩
        exact ⟨_, rfl, hdf, i5, rfl, hi5, hr5, (Ch.below (below_next hb1 hR)).trans (hC5.mono (fun _ _ h => .inl h))⟩
      · injection ho with ho
        subst ho
        exact (hdep ⟨6, .data⟩ (by simp) rfl _ _ rfl rfl).elim
      · injection ho with ho
        subst ho
        exact (hdep ⟨7, .data⟩ (by simp) rfl _ _ rfl rfl).elim
      · injection ho with ho
        subst ho
        have e1 : A.eval (.tmp 1) = .pointer (some ⟨sb, 0, none⟩) := (hfr 1 (noDst_spec (by kernel_rfl))).trans rfl
        exact gOp_fld (v := .pointer (some ⟨sb, 1, none⟩)) rfl (wanted_plain rfl) rfl e1 (by go_simp) ⟨_, rfl, rfl, Below.refl _ _, hR⟩
      · injection ho with ho
        subst ho
        exact (hdep ⟨8, .data⟩ (by simp) rfl _ _ rfl rfl).elim
      · simp at ho
    case done =>
      intro A Wx _ _ _ hcome _
      exact (hcome 6 _ _ rfl rfl).elim
  | ok a5 r5 =>
    have hbD : Below w1.heap.size w1 w1.drew := (Below.refl _ _).drew
    have htk1 := htk _ hbD
    have hRo1 := hRo.ch (X := Xp n) (Ch.below hb1) (fun a c => FldR.ch (X := Xp n) (Ch.below hb1) (fun g hg => Xp.ty g hg) a c) (fun k _ hx => by have := hx.2; revert this; decide)
    obtain ⟨ps, hps, hRp, hown1⟩ := hRo1
    have hpl : xs.length = ps.length := by rw [← hps, List.length_map]
    have hp32 : ps.length < 32 := by omega
    rw [hpl] at hfv
    subst hfv
    have HPS := hid hps
    have HRP := hid hRp
    have Hb1 := hid hb1
    have hn1w : n1 ≤ w1.heap.size := by have := hb1.size; have := hBs1.lt; omega
    have z1 := hBs1.cell 1 rfl
    have z2 := hBr1.cell 0 rfl
    have z3 := hBX1.cell 0 rfl
    have z4 := hBX1.cell 1 rfl
    have z5 := hBX1.cell 2 rfl
    have hsn1 : sb ≠ n := by omega
    have hrn1 : rb ≠ n := by omega
    obtain ⟨i0, hi0, hz0, hz1, hz2⟩ := info_parts Try.info48
    clear htk hps hRp hpl hRo hx hb1
    go_region_law (first
      | (refine step_call2p (v := .pointer (some ⟨n, 0, none⟩)) (u := .agg #[.int .i64 (t.1 : Int), .string t.2.1, .int .i64 (t.2.2 : Int)]) (o := { dst := some 10, op := .call { callee := .value (.func 54), args := #[.tmp 8, .tmp 9], argTypes := #[57, 36] }, type := _, pos := _, after := _, guard := none }) 54 (fun _ _ => rfl) rfl 8 9 _ rfl (by simp [Act.put]) (by simp [Act.put]) ?_; refine htk1.mono ?_; rintro e w5 ⟨v5, i5, rfl, hi5, hr5, hP5, hV5, hC5⟩; obtain ⟨s5, k5, sn5, ad5, m5, cp5, hvv5, hnm5, hty5⟩ := hV5.flat; subst hvv5; refine ⟨_, rfl, ?_⟩; have hC15 := Ch.trans (X := Xp n) (Ch.below hbD) hC5; have hBs5 := hBs1.ch hC15 (fun hx => hsn1 hx.1); have hBr5 := hBr1.ch hC15 (fun hx => hrn1 hx.1); have hown5 := own_ch hown1 hC15 (fun k _ hx => by have := hx.2; revert this; decide); have y1 := hBs5.cell 1 rfl; have y2 := hBs5.frozen; have hls5 := hBs5.lt; have hn5 := hC15.size)
      | (refine step_append_lies (o := { dst := some 12, op := .call { callee := .builtin .append, args := #[.tmp 5, .tmp 11], argTypes := #[41, 41] }, type := _, pos := _, after := _, guard := none }) _ rfl (.tmp 5) (.tmp 11) 41 rfl n1 48 i0 _ 5 72 Try.underlying41 hi0 hz0 hz1 hz2 rfl (by decide) (.slice adf ps.length cpf) ps.length (ps.flatMap Prod.snd) rfl (own_ch (X := Xp n) hown5 (Ch.alloc _ _) (fun k _ hx => by have := hx.2; revert this; decide)) ⟨w5.heap.size, 0, none⟩ 1 1 [.string s5, .int .i64 (a5.num : Int), .int .i64 k5, .string sn5, .slice ad5 m5 cp5] rfl rfl (World.news_of_block (heap_alloc_new w5 _)) (fun u hu => by simp at hu; rcases hu with rfl | rfl | rfl | rfl | rfl <;> rfl) (by decide) (by unfold maxLen; omega) (by omega) (by simp; omega) _ rfl ?_; intro g cap w6 hown6 hgr6 hat6 hlt6; have hBsA := hBs5.alloc (.cells #[.string s5, .int .i64 (a5.num : Int), .int .i64 k5, .string sn5, .slice ad5 m5 cp5] 48); have hBs6 : Bx w6 sb [.string nm, .slice adf ps.length cpf] 43 := (hgr6.block sb (by simp; omega) (fun e => by obtain ⟨_, cur, hq⟩ := own_block hown5 e.symm; rw [hBs5] at hq; simp at hq)).trans hBsA; have x1 := hBs6.cell 1 rfl; have x2 := hBs6.frozen))
    all_goals
      go_wp2
      go_end0
      obtain ⟨⟨e1, e2, e3⟩, e4, e5⟩ := gather_end (R := FldR n1) (c := [.string s5, .int .i64 (a5.num : Int), .int .i64 k5, .string sn5, .slice ad5 m5 cp5]) a5 (fun w w' hc a c h => FldR.ch hc Xq.ty a c h) (by simp [Xs]) (by decide) (by decide) (by simp [Xs]) hn1 hs1 Hb1.out hC15 hown5 hgr6 hown6 hBs6 hBr5 hP5 HRP.out ⟨s5, k5, sn5, ad5, m5, cp5, rfl, hnm5, TyC.mono (by have := hbD.size; omega) _ _ _ _ hty5⟩ rfl
      rw [HPS.out] at e2
      exact ⟨i5, rfl, hi5, hr5, e4, ⟨_, e1, e2, e3⟩, e5⟩
end Go.Proofs.Ythdooemgnpiomaa
