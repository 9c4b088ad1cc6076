/- parse: Text; alive. -/
import Derived.Test.YthdooemgnpiomaaQY
import Derived.Test.YthdooemgnpiomaaPX
namespace Go.Proofs.Ythdooemgnpiomaa
open Go.RowKit

theorem cons_count (t : Pl.Tok) (x : List Pl.Tok × Nat × Int) : (Pl.tokCons t x).1.length ≤ x.1.length + 1 := by
  unfold Pl.tokCons
  split
  · simp
  · simp
theorem tok_count (f : Nat) : ∀ (l : List Nat) (ln : Nat), (Pl.tokS f l ln).1.length ≤ l.length := by
  induction f with
  | zero => intro l ln; exact Nat.zero_le _
  | succ f ih =>
    intro l ln
    cases l with
    | nil => exact Nat.le_refl _
    | cons c r =>
      simp only [Pl.tokS, List.length_cons]
      split
      · have := ih r (ln + 1); omega
      · split
        · have := ih r ln; omega
        · split
          · have h1 := ih (r.dropWhile (fun d => d != 10)) ln
            have := Pl.dropWhile_le (fun d => d != 10) r
            omega
          · split
            · have h1 := ih r ln
              have := cons_count ⟨3, [c], ln⟩ (Pl.tokS f r ln)
              omega
            · split
              · rename_i hp
                split
                · have h1 := ih ((c :: r).dropWhile Pl.isPart) ln
                  have h2 := Pl.part_drop c r hp
                  have := cons_count ⟨(Pl.wordE ((c :: r).takeWhile Pl.isPart)).1, (c :: r).takeWhile Pl.isPart, ln⟩ (Pl.tokS f ((c :: r).dropWhile Pl.isPart) ln)
                  omega
                · simp
              · simp

/-- The tokens of a text may be. -/
theorem text_good (s : ByteArray) (tl : List T3) (h : tl.map asTok = (tokA s).1) : GoodT tl ∧ tl.length ≤ 65536 ∧ tl.map kt3 = (tokA s).1.map Pl.kt := by
  have hkt : tl.map kt3 = (tokA s).1.map Pl.kt := by
    rw [← h, List.map_map]
    exact List.map_congr_left fun t _ => rfl
  have hl : tl.length = (tokA s).1.length := by rw [← h, List.length_map]
  unfold tokA at h hl
  split at h
  · have : tl = [] := by simpa using h
    subst this
    exact ⟨(fun t ht => by cases ht), by simp, hkt⟩
  · rename_i hs
    rw [if_neg hs] at hl
    refine ⟨fun t ht => ?_, ?_, hkt⟩
    · have hm : asTok t ∈ (Pl.tok (bl s) 1).1 := by rw [← h]; exact List.mem_map_of_mem ht
      have hok := Pl.tok_ok _ _ _ _ hm
      have hw := ((Pl.tok_within _ _ _).1 _ hm).1
      have hn := Pl.ok_next _ hok
      have hk := Pl.ok_kind _ hok
      obtain ⟨k, x, ln⟩ := t
      simp only [asTok] at hn hk hw
      unfold checkZ toZ just
      simp only
      rw [hn, bl_length]
      rw [if_neg (by omega)]
      simp only [decide_true, Bool.and_self, Bool.true_eq_false, if_false]
      rw [if_neg (by omega)]
    · rw [hl]
      have := tok_count ((bl s).length + 1) (bl s) 1
      rw [bl_length] at this
      unfold Pl.tok
      rw [bl_length]
      omega

def nilSch : Value := .agg #[.slice none 0 0, .slice none 0 0, .slice none 0 0]

def TextR (w : World) (s : ByteArray) (e : Ending) (w' : World) : Prop :=
  ((tokA s).2.2 ≠ 0 ∧ e = .returned (.tuple #[nilSch, .int .i64 ((tokA s).2.1 : Int), .int .i64 (tokA s).2.2]) ∧ Below w.heap.size w w') ∨
  ((tokA s).2.2 = 0 ∧ ∃ tl : List T3, tl.map asTok = (tokA s).1 ∧ ParseR w.heap.size tl w (Pl.declsP 64 ((tokA s).1.map Pl.kt)) e w')

theorem ret_text10 {W : World} {tmps : Array Value} {b : Nat} {x y z p q : Value} (ht : tmps.getD 2 undef = .pointer (some ⟨b, 0, none⟩)) (h3 : tmps.getD 3 undef = p) (h4 : tmps.getD 4 undef = q) (h0 : W.cell? ⟨b, 0, none⟩ = some x) (h1 : W.cell? ⟨b, 1, none⟩ = some y) (h2 : W.cell? ⟨b, 2, none⟩ = some z) :
    (results Try.f10 tmps).run Try.prog W = .ok (.tuple #[.agg #[x, y, z], p, q]) W := by
  have ht' : tmps[2]?.getD undef = .pointer (some ⟨b, 0, none⟩) := by rw [← Array.getD_eq_getD_getElem?]; exact ht
  have h3' : tmps[3]?.getD undef = p := by rw [← Array.getD_eq_getD_getElem?]; exact h3
  have h4' : tmps[4]?.getD undef = q := by rw [← Array.getD_eq_getD_getElem?]; exact h4
  simp [results, Try.results10]
  go_simp

theorem SchV.shape {B : Nat} {ds : List Pl.Decl} {s1 s2 s3 : Value} {w : World} (h : SchV B ds s1 s2 s3 w) : ∃ a1 c1 a2 c2 a3 c3, s1 = .slice a1 (stOf ds).length c1 ∧ s2 = .slice a2 (enOf ds).length c2 ∧ s3 = .slice a3 (svOf ds).length c3 := by
  obtain ⟨a1, c1, e1⟩ := h.1.shape
  obtain ⟨a2, c2, e2⟩ := h.2.1.shape
  obtain ⟨a3, c3, e3⟩ := h.2.2.shape
  exact ⟨a1, c1, a2, c2, a3, c3, e1, e2, e3⟩

set_option maxHeartbeats 8000000 in
set_option maxRecDepth 4000 in
theorem text_any (s : ByteArray) (w : World) : Calls Try.prog 10 #[.string s] w (TextR w s) := by
  have ht := fun w => tokens_any s w
  obtain ⟨b, hbe⟩ : ∃ b, b = w.heap.size := ⟨_, rfl⟩
  have hb0 := below_alloc w (.cells #[.slice none 0 0, .slice none 0 0, .slice none 0 0] 30)
  have hB0 := Bx.new w [.slice none 0 0, .slice none 0 0, .slice none 0 0] 30
  rw [← hbe] at hB0
  change Bx (w.alloc (.cells #[.slice none 0 0, .slice none 0 0, .slice none 0 0] 30)) _ _ _ at hB0
  obtain ⟨TL, LN, ER, hA⟩ : ∃ TL LN ER, tokA s = (TL, LN, ER) := ⟨_, _, _, rfl⟩
  have HA := hid hA
  rw [hA] at ht
  simp only at ht
  clear hA
  have ht0 := ht (w.alloc (.cells #[.slice none 0 0, .slice none 0 0, .slice none 0 0] 30))
  go_enter Try.func10, Try.ntmps10
  go_wp2_with fail
  rw [← hbe]
  have HB := hid hbe
  clear hbe ht
  generalize w.alloc (.cells #[.slice none 0 0, .slice none 0 0, .slice none 0 0] 30) = w0 at *
  refine ht0.mono ?_
  rintro e w1 ⟨v, tl, rfl, hT, hm, hb1⟩
  have hB1 := hB0.below hb1
  have hbw := below_next hb0 hb1
  have hge : w.heap.size ≤ b := by rw [HB.out]; exact Nat.le_refl _
  obtain ⟨ad, cp, rfl⟩ := hT.shape
  have hS := hT.seg
  have HM := hid hm
  clear ht0 hm hT
  by_cases her : ER = 0
  · subst her
    have hm2 : tl.map asTok = (tokA s).1 := by rw [HA.out]; exact HM.out
    obtain ⟨hG, htl, hkt⟩ := text_good s tl hm2
    have hpa := parse_any _ tl (by omega) hG w1 hS
    rw [hkt] at hpa
    have HM2 := hid hm2
    have HK : Hid ((tokA s).2.2 = 0) := by rw [HA.out]; exact rfl
    generalize hRES : Pl.declsP 64 ((tokA s).1.map Pl.kt) = RES at *
    have HR := hid hRES
    clear hRES hkt hG hS hm2 HA HM
    generalize tl.length = m at *
    go_wp2_with fail
    refine hpa.mono ?_
    clear hpa
    cases RES with
    | ok ds r =>
      rintro e w2 ⟨s1, s2, s3, rfl, hV, hb2⟩
      obtain ⟨a1, c1, a2, c2, a3, c3, rfl, rfl, rfl⟩ := hV.shape
      generalize (stOf ds).length = m1 at *
      generalize (enOf ds).length = m2 at *
      generalize (svOf ds).length = m3 at *
      have hB2 := hB1.below hb2
      have hbw2 := below_next hbw hb2
      have d0 := hB2.cell 0 rfl
      have d1 := hB2.cell 1 rfl
      have d2 := hB2.cell 2 rfl
      have df := hB2.frozen
      go_wp2
      have hB6 := ((hB2.set 0 (.slice a1 m1 c1)).set 1 (.slice a2 m2 c2)).set 2 (.slice a3 m3 c3)
      refine bodyPost_ret (ret_text10 rfl rfl rfl (hB6.cell 0 rfl) (hB6.cell 1 rfl) (hB6.cell 2 rfl)) rfl ?_
      have hX6 : Ch (fun g T => g = b ∧ T = 30) w2 (((w2.setCell ⟨b, 0, none⟩ (.slice a1 m1 c1)).setCell ⟨b, 1, none⟩ (.slice a2 m2 c2)).setCell ⟨b, 2, none⟩ (.slice a3 m3 c3)) := ((Ch.set hB2 ⟨rfl, rfl⟩ _).trans (Ch.set (hB2.set 0 (.slice a1 m1 c1)) ⟨rfl, rfl⟩ _)).trans (Ch.set ((hB2.set 0 (.slice a1 m1 c1)).set 1 (.slice a2 m2 c2)) ⟨rfl, rfl⟩ _)
      have hV6 := hV.ch hX6 (fun g T h => by rw [h.2]; decide)
      refine .inr ⟨HK.out, tl, HM2.out, ?_⟩
      rw [HR.out]
      exact ⟨_, _, _, rfl, hV6.mono hbw.size, ((hbw2.setCell (p := ⟨b, 0, none⟩) hge _).setCell (p := ⟨b, 1, none⟩) hge _).setCell (p := ⟨b, 2, none⟩) hge _⟩
    | bad r er =>
      rintro e w2 ⟨i5, hr5, hi5, rfl, hb2⟩
      have hB2 := hB1.below hb2
      have hbw2 := below_next hbw hb2
      have d0 := hB2.cell 0 rfl
      have d1 := hB2.cell 1 rfl
      have d2 := hB2.cell 2 rfl
      have df := hB2.frozen
      have HR5 := hid hr5
      clear hr5
      go_wp2
      have hB6 := ((hB2.set 0 (.slice none 0 0)).set 1 (.slice none 0 0)).set 2 (.slice none 0 0)
      refine bodyPost_ret (ret_text10 rfl rfl rfl (hB6.cell 0 rfl) (hB6.cell 1 rfl) (hB6.cell 2 rfl)) rfl ?_
      refine .inr ⟨HK.out, tl, HM2.out, ?_⟩
      rw [HR.out]
      exact ⟨i5, HR5.out, hi5, rfl, ((hbw2.setCell (p := ⟨b, 0, none⟩) hge _).setCell (p := ⟨b, 1, none⟩) hge _).setCell (p := ⟨b, 2, none⟩) hge _⟩
  · have her' : (ER == 0) = false := by simp [her]
    have HE := hid her
    generalize tl.length = m at *
    have d0 := hB1.cell 0 rfl
    have d1 := hB1.cell 1 rfl
    have d2 := hB1.cell 2 rfl
    have df := hB1.frozen
    clear hS
    go_wp2
    have hB6 := ((hB1.set 0 (.slice none 0 0)).set 1 (.slice none 0 0)).set 2 (.slice none 0 0)
    refine bodyPost_ret (ret_text10 rfl rfl rfl (hB6.cell 0 rfl) (hB6.cell 1 rfl) (hB6.cell 2 rfl)) rfl ?_
    refine .inl ?_
    rw [HA.out]
    exact ⟨HE.out, rfl, ((hbw.setCell (p := ⟨b, 0, none⟩) hge _).setCell (p := ⟨b, 1, none⟩) hge _).setCell (p := ⟨b, 2, none⟩) hge _⟩
end Go.Proofs.Ythdooemgnpiomaa
