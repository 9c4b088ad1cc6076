/- message: Check, written, Encode. -/
import Derived.Test.YtoadcaennlfadaaMM3
import Derived.Test.YtoadcaennlfadaaGF
namespace Go.Proofs.Ytoadcaennlfadaa
open Go.RowKit
set_option maxRecDepth 20000

set_option maxHeartbeats 2000000 in
theorem check1_any (b : Nat) (x : Mg) (v : Value) (d : List Int) (w : World) (hM : MBx w b x v) (hs : Seg .u8 w v d) :
    Calls Try.prog 43 #[.pointer (some ⟨b, 0, none⟩)] w fun e w' => e = endM (ckM x d) ∧ Below w.heap.size w w' := by
  obtain ⟨c0, c1, c2, c3, c4, c5, c6, c7, c8, c9, c10, c11⟩ := hM.facts
  have hn := needMayBe_any x v d w hs
  unfold Mg.val at hn
  obtain ⟨E, hE⟩ : ∃ E, E = ckM x d := ⟨_, rfl⟩
  rw [← hE] at hn ⊢
  clear hE
  by_cases h0 : E = 0
  · subst h0
    go_enter Try.func43, Try.ntmps43
    go_wp2_with fail
    refine hn.mono ?_
    rintro e w1 ⟨rfl, hb⟩
    simp only [endM, if_true]
    go_wp2
    go_end0
    exact ⟨rfl, hb⟩
  · go_enter Try.func43, Try.ntmps43
    go_wp2_with fail
    refine hn.mono ?_
    rintro e w1 ⟨rfl, hb⟩
    have he : endM E = .panicked (errp E) := by simp [endM, h0]
    rw [he]
    exact ⟨rfl, he.symm, hb⟩

set_option maxHeartbeats 2000000 in
theorem mCheck_any (x : Mg) (v : Value) (d : List Int) (w : World) (hs : Seg .u8 w v d) :
    Calls Try.prog 22 #[x.val v] w fun e w' => e = .returned (.int .i64 (ckM x d)) ∧ Below w.heap.size w w' := by
  have hMB : MBx (w.alloc (.cells ⟨x.cells v⟩ 24)) w.heap.size x v := Bx.new _ _ _
  have hB1 : Below w.heap.size w (w.alloc (.cells ⟨x.cells v⟩ 24)) := (Below.refl _ w).alloc (Nat.le_refl _) _
  have hB2 : Below (w.alloc (.cells ⟨x.cells v⟩ 24)).heap.size (w.alloc (.cells ⟨x.cells v⟩ 24)) ((w.alloc (.cells ⟨x.cells v⟩ 24)).alloc (.cells #[.int .i64 0] 26)) := (Below.refl _ _).alloc (Nat.le_refl _) _
  have hEB := Bx.new (w.alloc (.cells ⟨x.cells v⟩ 24)) [.int .i64 0] 26
  have hw := check1_any w.heap.size x v d _ (hMB.below hB2) ((hs.below hB1).below hB2)
  have hcaught : Calls Try.prog 33 #[.func (.func 43) #[] #[.pointer (some ⟨w.heap.size, 0, none⟩)]] (w.alloc (.cells ⟨x.cells v⟩ 24)) fun e w' => e = .returned (.int .i64 (ckM x d)) ∧ Below w.heap.size w w' := by
    have hle : w.heap.size ≤ (w.alloc (.cells ⟨x.cells v⟩ 24)).heap.size := by simp
    generalize w.alloc (.cells ⟨x.cells v⟩ 24) = w1 at *
    by_cases h0 : ckM x d = 0
    · rw [h0] at hw ⊢
      refine (mcaught_ok 43 _ (fun _ _ => rfl) w1 (fun W => Below (w1.alloc (.cells #[.int .i64 0] 26)).heap.size (w1.alloc (.cells #[.int .i64 0] 26)) W) (fun W hW => hEB.below hW) (hw.mono fun e w' h => ⟨h.1, h.2⟩)).mono ?_
      rintro e w' ⟨rfl, W, hW, rfl⟩
      exact ⟨rfl, ((hB1.trans (hB2.mono hle)).trans (hW.mono (by simp; omega))).setCell hle _⟩
    · refine (mcaught_bad 43 _ (fun _ _ => rfl) w1 (fun er => er = ckM x d) (fun W => Below (w1.alloc (.cells #[.int .i64 0] 26)).heap.size (w1.alloc (.cells #[.int .i64 0] 26)) W) (fun W hW => hEB.below hW) (hw.mono fun e w' h => ⟨ckM x d, rfl, by rw [h.1, endM, if_neg h0], h.2⟩)).mono ?_
      rintro e w' ⟨er, rfl, rfl, W, hW, rfl⟩
      exact ⟨rfl, ((hB1.trans (hB2.mono hle)).trans (hW.mono (by simp; omega))).setCell hle _⟩
  have hmf : ∀ (fn : Fn) (first cap : Array Value) (w : World), (Instr.makeFunc fn first cap).run Try.prog w = .ok (.func fn first cap) w := fun _ _ _ _ => rfl
  clear hw hEB hB2 hB1 hMB
  unfold Mg.cells at hcaught
  generalize ckM x d = E at *
  unfold Mg.val
  go_enter Try.func22, Try.ntmps22
  go_wp2_with fail
  refine hcaught.mono ?_
  rintro e w1 ⟨rfl, hb⟩
  clear hcaught
  go_wp2
  go_ret
  exact ⟨rfl, hb⟩

/-- One number behind octets, as it is handed over. -/
theorem mput_one (v : Value) (l : List Int) (n : Int) (w : World) (k : Nat) (hk : w.heap.size = k) (hs : Seg .u8 w v l) (h0 : 0 ≤ n) (h1 : n ≤ 18446744073709551615) (hl : l.length ≤ 100000) :
    Calls Try.prog 48 #[v, .slice (some ⟨k, 0, none⟩) 1 1] (w.alloc (.cells #[.int .u64 n] 58)) fun e w' => ∃ v', e = .returned v' ∧ w'.ownsRow k 5 1 v' (l ++ Pl.enc 9 n).length (u8s (l ++ Pl.enc 9 n)) ∧ Below k w w' := by
  subst hk
  have hal := (Below.refl w.heap.size w).alloc (Nat.le_refl _) (.cells #[.int .u64 n] 58)
  refine (put_any _ _ l [n] _ (hs.below hal) (seg_one w n) (by intro z hz; simp at hz; omega) (by simp; omega)).mono ?_
  rintro e w' ⟨v', rfl, ho, hb⟩
  have he : l ++ encs [n] = l ++ Pl.enc 9 n := by simp [encs]
  rw [he] at ho
  exact ⟨v', rfl, ownsRow_lower ho (by simp), hal.trans (hb.mono (by simp))⟩

/-- One text behind octets, as it is handed over. -/
theorem mtext_one (v u : Value) (l t : List Int) (w : World) (k : Nat) (hk : w.heap.size = k) (hs : Seg .u8 w v l) (hu : Seg .u8 w u t) (hl : l.length ≤ 100000) (ht : t.length ≤ 1024) :
    Calls Try.prog 50 #[v, .slice (some ⟨k, 0, none⟩) 1 1] (w.alloc (.cells #[u] 22)) fun e w' => ∃ v', e = .returned v' ∧ w'.ownsRow k 5 1 v' (l ++ (Pl.enc 9 t.length ++ t)).length (u8s (l ++ (Pl.enc 9 t.length ++ t))) ∧ Below k w w' := by
  subst hk
  have hal := (Below.refl w.heap.size w).alloc (Nat.le_refl _) (.cells #[u] 22)
  have hB := Bx.new w [u] 22
  have hte : textsOf [t] = Pl.enc 9 t.length ++ t := by simp [textsOf]
  have hel := Pl.enc_len_le 9 t.length
  refine (texts_any v l w.heap.size 0 1 [u] [t] _ (hs.below hal) (by simp) (fun i hi => ?_) rfl (fun i hi => ?_) (by simp) (by decide) (by rw [hte]; simp only [List.length_append]; omega)).mono ?_
  · have : i = 0 := by simp at hi; omega
    subst this
    exact hB.cell 0 rfl
  · have : i = 0 := by simp at hi; omega
    subst this
    exact hu.below hal
  rintro e w' ⟨v', rfl, ho, hb⟩
  rw [hte] at ho
  exact ⟨v', rfl, ownsRow_lower ho (by simp), hal.trans (hb.mono (by simp))⟩
end Go.Proofs.Ytoadcaennlfadaa
