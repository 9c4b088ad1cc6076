/- parse: a enum is read. -/
import Derived.Test.YthdooemgnpiomaaQR
namespace Go.Proofs.Ythdooemgnpiomaa
open Go.RowKit

theorem Try.info68 : (Try.prog.info? 68).map (fun i => (i.zero, i.size, i.bytes)) = some (some (.agg #[.string ⟨#[]⟩, .slice none 0 0]), 2, 40) := by kernel_rfl

set_option maxHeartbeats 16000000 in
set_option maxRecDepth 4000 in
theorem readC (B n : Nat) (sv : Value) (l : List T3) (s1 s2 s3 : Value) (hl : 0 < l.length) (hbig : l.length ≤ 1000000) (hG : GoodT l) (W : World) (i : Nat) (h : Pos n sv [s1, s2, s3] W i) (hS : TSeg W sv (l.map toZ)) (hi : i ≤ l.length) (hBn : B ≤ n) (hsB : ∀ g, sv.ownBlock = some g → g < B) (xs : List (List Nat × List Pl.Cas)) (hx : xs.length < 100) (hRo : Rows 68 2 (EnmR B) B W s2 xs) :
    Calls Try.prog 31 #[.pointer (some ⟨n, 0, none⟩)] W (ReadD n B 68 l sv (fun u' => [s1, u', s3]) (EnmR B) xs W (Pl.bodyP Pl.numT Pl.caseP ((l.drop i).map kt3))) := by
  have hpure : Pl.bodyP Pl.numT Pl.caseP ((l.drop i).map kt3) = (Pl.takeP Pl.nameT ((l.drop i).map kt3)).bind fun nn r => ((Pl.takeP (Pl.isT [123]) r).bind fun _ r => Pl.partsP Pl.numT Pl.caseP 32 r).bind fun xs r => .ok (nn.2, xs) r := by
    unfold Pl.bodyP
    congr 1
    funext nn r
    rw [bind_assoc]
  rw [hpure]
  generalize hRES : ((Pl.takeP Pl.nameT ((l.drop i).map kt3)).bind fun nn r => ((Pl.takeP (Pl.isT [123]) r).bind fun _ r => Pl.partsP Pl.numT Pl.caseP 32 r).bind fun xs r => Pl.Res.ok (nn.2, xs) r) = RES
  have HR := hid hRES
  have HS := hid hS
  have HG := hid hG
  obtain ⟨n1, hn1⟩ : ∃ n1, n1 = W.heap.size := ⟨_, rfl⟩
  have hlt : n < W.heap.size := h.facts.2.2.2
  have HNN : Hid (n < n1) := by rw [hn1]; exact hlt
  have HN : Hid (∀ g, sv.ownBlock = some g → g ≠ n) := fun g hg => by have := hsB g hg; omega
  have HNq : Hid (∀ g, sv.ownBlock = some g → ∀ T, ¬ Xq n n1 g T) := fun g hg T hq => by
    have := hsB g hg
    rcases hq with hq | hq
    · have := hq.1
      omega
    · have := HNN.out
      omega
  have hmf : ∀ (fn : Fn) (first cap : Array Value) (w : World), (Instr.makeFunc fn first cap).run Try.prog w = .ok (.func fn first cap) w := fun _ _ _ _ => rfl
  clear hRES hpure hG
  go_enter Try.func31, Try.ntmps31
  go_wp2_with fail
  have hb1 := below_alloc W (.cells #[.pointer (some ⟨n, 0, none⟩)] 79)
  have hBr1 := Bx.new W [.pointer (some ⟨n, 0, none⟩)] 79
  obtain ⟨rb, hrb⟩ : ∃ rb, rb = W.heap.size := ⟨_, rfl⟩
  rw [← hrb] at hBr1 ⊢
  have HRB : Hid (n1 ≤ rb) := by rw [hn1, hrb]; exact Nat.le_refl _
  have hnr : rb ≠ n := by omega
  have hP1 := h.below hb1
  have hC1 : Ch (Xp n) W _ := Ch.below hb1
  change Bx (W.alloc (.cells #[.pointer (some ⟨n, 0, none⟩)] 79)) _ _ _ at hBr1
  generalize (W.alloc (.cells #[.pointer (some ⟨n, 0, none⟩)] 79)) = w1 at *
  have htn := ptakeName_any n sv l [s1, s2, s3] w1 i hP1 (HS.out.pos hC1 HN.out) hl hbig hi HG.out
  have Hn1 := hid hn1
  clear hrb hb1 hP1 hS h hn1
  have HX1 := HR.out
  clear HR
  refine htn.mono ?_
  clear htn
  generalize Pl.takeP Pl.nameT ((l.drop i).map kt3) = R1 at *
  cases R1 with
  | bad r er =>
    rintro e wz ⟨iz, rfl, hiz, hrz, hCz⟩
    subst HX1
    exact ⟨rfl, iz, rfl, hiz, hrz, (hC1.trans hCz).mono (fun _ _ h => .inl h)⟩
  | ok kk1 r1 =>
    simp only [ok_bind] at HX1
    rintro e w2 ⟨v2, i3, rfl, hi3, rfl, hP2, ⟨nm, rfl, hnm⟩, hc2⟩
    have HR := hid HX1
    have Hnm := hid hnm
    clear HX1 hnm
    have hC2 := hC1.trans hc2
    have hBr2 := hBr1.ch hc2 (fun hx => hnr hx.1)
    clear hC1 hc2 hBr1
    have y0 := (hBr2.alloc (.cells #[.string nm, .slice none 0 0] 68)).cell 0 rfl
    have hb4 := below_alloc w2 (.cells #[.string nm, .slice none 0 0] 68)
    have hBs4 := Bx.new w2 [.string nm, .slice none 0 0] 68
    obtain ⟨sb, hsb⟩ : ∃ sb, sb = w2.heap.size := ⟨_, rfl⟩
    have hlr2 := hBr2.lt
    have hw2 := hC2.size
    have hPl2 := hP2.facts.2.2.2
    have hsbn : sb ≠ n := by omega
    have HSB : Hid (n1 ≤ sb) := by rw [Hn1.out, hsb]; exact hw2
    rw [← hsb] at hBs4
    have hP4 := hP2.below hb4
    have hBr4 := hBr2.below hb4
    have hCq4 : Ch (Xq n n1) W _ := (hC2.bel hb4).mono (fun _ _ h => .inl h)
    have hI4 : InvC n n1 sb rb nm [] _ := ⟨_, hBs4, Rows.nil _ _ _ _ _, hBr4⟩
    have hpp := pparts_any (Xq n n1) n sv l [s1, s2, s3] hl hbig _ i3 hP4 (HS.out.ch hCq4 HNq.out) hi3 (fun _ _ h => .inl h) (fun g T h => h.elim (fun h => Xp.s g T h) (fun h => h.2)) HNq.out Pl.numT _ (fits_number _) Pl.caseP (InvC n n1 sb rb nm) hI4 (fun xs W W' h hc => InvC.keep hsbn xs W W' h hc) 55 #[.pointer (some ⟨sb, 0, none⟩), .pointer (some ⟨rb, 0, none⟩)] (fun _ _ => rfl)
      (fun xs W j t hC hI hP hj ht hbt hx => restC n n1 sb rb nm HNN.out HSB.out HRB.out sv l [s1, s2, s3] hl hbig HG.out W j hP (HS.out.ch (hCq4.trans hC) HNq.out) hj HN.out t ht (of_decide_eq_true hbt) xs hx hI)
    go_wp2_with fail
    rw [← hsb]
    clear hsb
    refine hpp.mono ?_
    clear hpp
    have HX4 := HR.out
    clear HR
    generalize ((Pl.takeP (Pl.isT [123]) ((l.drop i3).map kt3)).bind fun _ r => Pl.partsP Pl.numT Pl.caseP 32 r) = R4 at *
    cases R4 with
    | bad r er =>
      rintro e wz ⟨iz, rfl, hiz, hrz, hCz⟩
      subst HX4
      have hCC : Ch (Xp n) W wz := by have := hCq4.trans hCz; rw [Hn1.out] at this; exact this.old
      exact ⟨rfl, iz, rfl, hiz, hrz, hCC.mono (fun _ _ h => .inl h)⟩
    | ok fl r =>
      rintro e w5 ⟨i5, rfl, hi5, rfl, hP5, ⟨fv, hBs5, hRf5, hBr5⟩, hC45⟩
      simp only [ok_bind] at HX4
      have HR5 := hid HX4
      have hC5 : Ch (Xp n) W w5 := by have := hCq4.trans hC45; rw [Hn1.out] at this; exact this.old
      obtain ⟨ps, hps, hRp, hown⟩ := hRo
      have hown5 := own_ch hown hC5 (fun k _ hx => by have := hx.2; revert this; decide)
      obtain ⟨adf, cpf, rfl⟩ := hRf5.shape
      have hpl : xs.length = ps.length := by rw [← hps, List.length_map]
      have hp100 : ps.length < 100 := by omega
      obtain ⟨ad1, cp1, hs1⟩ : ∃ ad cp, s2 = .slice ad ps.length cp := by
        rcases hown.2 with ⟨rfl, h0⟩ | ⟨g, cap, cur, rfl, _⟩
        · exact ⟨none, 0, by rw [h0]⟩
        · exact ⟨_, _, rfl⟩
      have HPS := hid hps
      have HRP := hid hRp
      have HRF := hid hRf5
      have hBw : B ≤ w5.heap.size := by have := hP5.facts.2.2.2; omega
      have y1 := hBr5.cell 0 rfl
      have y2 := hBs5.cell 0 rfl
      have y3 := hBs5.cell 1 rfl
      have c2 := Bx.cell hP5 2 rfl
      have c3 := Bx.cell hP5 3 rfl
      have c4 := Bx.cell hP5 4 rfl
      have cf := Bx.frozen hP5
      have hln5 := hP5.facts.2.2.2
      have hltr5 := hBr5.lt
      have hlts5 := hBs5.lt
      obtain ⟨i0, hi0, hz0, hz1, hz2⟩ := info_parts Try.info68
      subst hs1
      clear HX4 hps hRp hpl hown hRf5 hx
      generalize fl.length = fln at *
      go_wp2_with fail
      go_region_law (first
        | (refine step_append_lies (o := { dst := some 21, op := .call { callee := .builtin .append, args := #[.tmp 18, .tmp 20], argTypes := #[27, 27] }, type := _, pos := _, after := _, guard := none }) _ rfl (.tmp 18) (.tmp 20) 27 rfl B 68 i0 _ 2 40 Try.underlying27 hi0 hz0 hz1 hz2 rfl (by decide) (.slice ad1 ps.length cp1) ps.length (ps.flatMap Prod.snd) rfl (own_ch (X := Xp n) hown5 (Ch.bel (Ch.alloc _ _) (Below.refl _ _).drew) (fun k _ hx => by have := hx.2; revert this; decide)) ⟨w5.heap.size, 0, none⟩ 1 1 [.string nm, .slice adf fln cpf] rfl rfl (World.news_of_block (heap_alloc_new w5 _)) (fun u hu => by simp at hu; rcases hu with rfl | rfl <;> rfl) (by decide) (by unfold maxLen; omega) (by omega) (by simp; omega) _ rfl ?_; intro g cap w6 hown6 hgr6 hat6 hlt6; have hP6 : Pos n sv [s1, .slice ad1 ps.length cp1, s3] w6 i5 := (hgr6.block n (by simp; omega) (fun e => by obtain ⟨_, cur, hq⟩ := own_block hown5 e.symm; rw [show w5.heap[n]? = _ from hP5] at hq; simp at hq)).trans (Bx.alloc hP5 _); have hBr6 : Bx w6 rb [.pointer (some ⟨n, 0, none⟩)] 79 := (hgr6.block rb (by simp; omega) (fun e => by obtain ⟨_, cur, hq⟩ := own_block hown5 e.symm; rw [show w5.heap[rb]? = _ from hBr5] at hq; simp at hq)).trans (Bx.alloc hBr5 _); have x5 := hBr6.cell 0 rfl; have x2 := Bx.cell hP6 2 rfl; have x3 := Bx.cell hP6 3 rfl; have x4 := Bx.cell hP6 4 rfl; have xf := Bx.frozen hP6))
      all_goals
        go_wp2
        go_end0
        rw [← HR5.out]
        obtain ⟨d1, d2, d3⟩ := decl_end (R := EnmR B) (rest' := [s1, .slice (some ⟨g, 0, none⟩) (ps.length + 1) cap, s3]) (c := [.string nm, .slice adf fln cpf]) (k := 3) (kk1.2, fl) (.inr (.inl rfl)) (fun w w' hc a c h => EnmR.ch (.inr (.inl rfl)) hc a c h) hC5 HRP.out hown5 (below_alloc w5 _).drew hgr6 hown6 hP6 rfl ⟨nm, adf, fln, cpf, rfl, Hnm.out, HRF.out.mono (by have := Hn1.out; have := HNN.out; omega) (fun a c h => h)⟩ rfl
        rw [HPS.out] at d2
        exact ⟨i5, _, rfl, hi5, rfl, d1, d2, d3⟩

end Go.Proofs.Ythdooemgnpiomaa
