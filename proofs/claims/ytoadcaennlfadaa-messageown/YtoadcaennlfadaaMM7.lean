/- message: takeText. -/
import Derived.Test.YtoadcaennlfadaaMM6
namespace Go.Proofs.Ytoadcaennlfadaa
open Go.RowKit
set_option maxRecDepth 20000

set_option maxHeartbeats 2000000 in
theorem takeText_any (n : Nat) (bv : Value) (l t : List Int) (p q er : Int) (w : World) (h : Rdg w n bv l p) (ho : ∀ z ∈ l, 0 ≤ z ∧ z ≤ 255) (hlen : l.length ≤ 140737488355328) (hp0 : 0 ≤ p) (hp1 : p ≤ l.length) (hg : Pl.textI l p 1024 = (t, q, er)) (ht : t.length ≤ 1024) :
    Calls Try.prog 54 #[.pointer (some ⟨n, 0, none⟩)] w fun e w' => Ch (Xn n) w w' ∧ (er ≠ 0 ∧ e = .panicked (errp er) ∨ er = 0 ∧ ∃ tv, e = .returned tv ∧ Rdg w' n bv l q ∧ w'.ownsRow w.heap.size 5 1 tv t.length (u8s t)) := by
  have c0 := h.box.cell 0 rfl
  have c1 := h.box.cell 1 rfl
  have hf := h.box.frozen
  have hlt := h.box.lt
  obtain ⟨a, cap, rfl, h1, h2, h3, h4⟩ := id h.seg
  unfold maxLen at h2
  have HR := hid h
  have HG := hid hg
  clear h h3 h4 hg
  have hgd : ∀ nq, Calls Try.prog 68 #[.slice a l.length cap, .int .i64 p, .int .i64 1024] (w.drewN nq) fun e w' => ∃ v', e = .returned (.tuple #[v', .int .i64 q, .int .i64 er]) ∧ w'.ownsRow w.heap.size 5 1 v' t.length (u8s t) ∧ Below w.heap.size w w' := fun nq => by
    have hbd := below_drewN (Below.refl w.heap.size w) nq
    have := text_any _ l p 1024 (w.drewN nq) (HR.out.seg.below hbd) ho hlen (by omega) (by omega) (by omega) (by omega)
    rw [HG.out] at this
    refine this.mono ?_
    rintro e w' ⟨v', rfl, ho, hb⟩
    exact ⟨v', rfl, ho, hbd.trans hb⟩
  by_cases h0 : er = 0
  · subst h0
    have hnt := mneed_true 0
    go_enter Try.func54, Try.ntmps54
    go_wp2_with fail
    go_region_with (go_at_call 68; refine (hgd _).mono ?_; rintro e w1 ⟨v1, rfl, hown, hb1⟩)
    all_goals
      have B1 := HR.out.box.below hb1
      have hf1 := B1.frozen
      have hlt1 := B1.lt
      have d1 := B1.cell 1 rfl
      obtain ⟨a1, cap1, rfl⟩ := own_shape8 hown
      go_wp2_with fail
      refine (hnt _).mono ?_
      rintro e w2 ⟨rfl, rfl⟩
      have hne1 : (Value.slice a1 t.length cap1).ownBlock ≠ some n := fun he => by have := (hown.lt _ he).1; omega
      have hcs : Ch (Xn n) w2 (w2.setCell ⟨n, 1, none⟩ (.int .i64 q)) := Ch.set B1 rfl _
      have hsw : Seg .u8 (w2.setCell ⟨n, 1, none⟩ (.int .i64 q)) (.slice a1 t.length cap1) t := (Seg.own hown).other hcs (fun _ => hne1)
      have hszw : (w2.setCell ⟨n, 1, none⟩ (.int .i64 q)).heap.size = w2.heap.size := by simp
      have HB3 := hid (B1.set 1 (.int .i64 q))
      go_wp2_with (at_builtin; refine wpList_append_seg _ rfl _ _ rfl w2.heap.size _ _ [] t rfl (World.ownsRow_nil _ _ _ _) rfl hsw (by simp; omega) (by rw [hszw]; exact Nat.le_refl _) ?_; intro v3 w3 hown3 hb3; have HO3 := hid hown3; clear hown3)
      go_ret
      have hb3' : Below (w2.setCell ⟨n, 1, none⟩ (.int .i64 q)).heap.size (w2.setCell ⟨n, 1, none⟩ (.int .i64 q)) w3 := by rw [hszw]; exact hb3
      have hch : Ch (Xn n) w w3 := ((Ch.below hb1).trans hcs).trans (Ch.below hb3')
      exact ⟨hch, .inr ⟨(by first | rfl | trivial), _, rfl, HR.out.step hch (HB3.out.below hb3'), ownsRow_lower (by simpa using HO3.out) hb1.size⟩⟩
  · have hnt := mneed_false er
    have hbe : (er == 0) = false := by simp [h0]
    go_enter Try.func54, Try.ntmps54
    go_wp2_with fail
    go_region_with (go_at_call 68; refine (hgd _).mono ?_; rintro e w1 ⟨v1, rfl, hown, hb1⟩)
    all_goals
      go_wp2_with fail
      refine (hnt _).mono ?_
      rintro e w2 ⟨rfl, rfl⟩
      exact ⟨rfl, Ch.below hb1, .inl ⟨h0, rfl⟩⟩
end Go.Proofs.Ytoadcaennlfadaa
