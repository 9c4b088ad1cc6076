/- message: Encode; reading: takeNumber, takeText. -/
import Derived.Test.YtoadcaennlfadaaMM5
import Derived.Deep.RegionWith
namespace Go.Proofs.Ytoadcaennlfadaa
open Go.RowKit
set_option maxRecDepth 20000

theorem ck_zero {x : Mg} {d : List Int} (h : ckM x d = 0) : usedP x.k ≠ [] ∧ x.nums.any badN = false ∧ d.length ≤ 1024 ∧ okTo x 10 ∧ (d = [] ∨ (usedP x.k).any (10 == ·) = true) := by
  unfold ckM at h
  by_cases h1 : usedP x.k = []
  · rw [if_pos h1] at h; cases h
  rw [if_neg h1] at h
  by_cases h2 : x.nums.any badN = true
  · rw [if_pos h2] at h; cases h
  rw [if_neg h2] at h
  by_cases h3 : 1024 < d.length
  · rw [if_pos h3] at h; cases h
  rw [if_neg h3] at h
  by_cases h4 : (okF x 0 && okF x 1 && okF x 2 && okF x 3 && okF x 4 && okF x 5 && okF x 6 && okF x 7 && okF x 8 && okF x 9 && (d.isEmpty || (usedP x.k).any (10 == ·))) = true
  · simp only [Bool.and_eq_true] at h4
    obtain ⟨⟨⟨⟨⟨⟨⟨⟨⟨⟨g0, g1⟩, g2⟩, g3⟩, g4⟩, g5⟩, g6⟩, g7⟩, g8⟩, g9⟩, g10⟩ := h4
    refine ⟨h1, by simpa using h2, by omega, ?_, ?_⟩
    · intro j hj
      have : j = 0 ∨ j = 1 ∨ j = 2 ∨ j = 3 ∨ j = 4 ∨ j = 5 ∨ j = 6 ∨ j = 7 ∨ j = 8 ∨ j = 9 := by omega
      rcases this with rfl | rfl | rfl | rfl | rfl | rfl | rfl | rfl | rfl | rfl <;> assumption
    · rcases Bool.or_eq_true _ _ ▸ g10 with g | g
      · left; simpa using g
      · right; exact g
  · rw [if_neg h4] at h; cases h

set_option maxHeartbeats 2000000 in
theorem mEncode_bad (x : Mg) (v : Value) (d : List Int) (w : World) (hs : Seg .u8 w v d) (h : ckM x d ≠ 0) :
    Calls Try.prog 10 #[x.val v] w fun e w' => e = .returned (.tuple #[.slice none 0 0, .int .i64 (ckM x d)]) ∧ Below w.heap.size w w' := by
  have hc := fun w hs => mCheck_any x v d w hs
  obtain ⟨va, vcap, rfl, _⟩ := id hs
  have hbe : (ckM x d == 0) = false := by simp [h]
  generalize ckM x d = E at *
  have hal : ∀ o, Below w.heap.size w (w.alloc o) := fun o => (Below.refl _ w).alloc (Nat.le_refl _) o
  have hch := hc _ (hs.below (hal (.cells ⟨x.cells (.slice va d.length vcap)⟩ 24)))
  unfold Mg.val Mg.cells at *
  clear h hc
  go_enter Try.func10, Try.ntmps10
  go_wp2_with fail
  refine hch.mono ?_
  rintro e w1 ⟨rfl, hb⟩
  have hb1 : Below w.heap.size w w1 := (hal _).trans (hb.mono (by simp))
  clear hch hb
  go_wp2
  go_ret2
  exact ⟨rfl, hb1⟩

set_option maxHeartbeats 2000000 in
theorem mEncode_ok (x : Mg) (v : Value) (d : List Int) (w : World) (hs : Seg .u8 w v d) (h : ckM x d = 0) :
    Calls Try.prog 10 #[x.val v] w fun e w' => ∃ v', e = .returned (.tuple #[v', .int .i64 0]) ∧ w'.ownsRow w.heap.size 5 1 v' (encM x d).length (u8s (encM x d)) ∧ Below w.heap.size w w' := by
  have hc := fun w hs => mCheck_any x v d w hs
  obtain ⟨va, vcap, rfl, _⟩ := id hs
  obtain ⟨k1, k2, k3, _, _⟩ := ck_zero h
  have hwr := fun w hs => written_any x (.slice va d.length vcap) d w hs k1 k2 k3
  rw [h] at hc
  have hal : ∀ o, Below w.heap.size w (w.alloc o) := fun o => (Below.refl _ w).alloc (Nat.le_refl _) o
  have hch := hc _ (hs.below (hal (.cells ⟨x.cells (.slice va d.length vcap)⟩ 24)))
  have hMB : MBx (w.alloc (.cells ⟨x.cells (.slice va d.length vcap)⟩ 24)) w.heap.size x (.slice va d.length vcap) := Bx.new _ _ _
  generalize encM x d = EN at *
  unfold Mg.val at *
  have hcells : x.cells (.slice va d.length vcap) = [.int .i64 x.k, .int .i64 x.c, .int .i64 x.b, .int .i64 x.i, .int .i64 x.s, .int .i64 x.q, .int .i64 x.m, .int .i64 x.n, .int .i64 x.l, .int .i64 x.o, .int .i64 x.p, .slice va d.length vcap] := rfl
  rw [hcells] at hch hMB
  have HS := hid (hs.below (hal (.cells ⟨x.cells (.slice va d.length vcap)⟩ 24)))
  rw [hcells] at HS
  clear h hc k1 k2 k3 hs hcells
  go_enter Try.func10, Try.ntmps10
  go_wp2_with fail
  refine hch.mono ?_
  rintro e w1 ⟨rfl, hb⟩
  have hb1 : Below w.heap.size w w1 := (hal _).trans (hb.mono (by simp))
  have hM1 := hMB.below hb
  have h2 := hwr w1 (HS.out.below hb)
  obtain ⟨c0, c1, c2, c3, c4, c5, c6, c7, c8, c9, c10, c11⟩ := hM1.facts
  clear hch hb hMB hwr hal HS
  go_wp2_with fail
  refine h2.mono ?_
  rintro e w2 ⟨v', rfl, ho, hb2⟩
  have HO := hid (ownsRow_lower ho hb1.size)
  have hb3 := hb1.trans (hb2.mono hb1.size)
  clear ho hb2 h2 c0 c1 c2 c3 c4 c5 c6 c7 c8 c9 c10 c11
  go_wp2
  go_ret2
  exact ⟨v', rfl, HO.out, hb3⟩

theorem own_shape8 {w : World} {B : Nat} {e : TypeId} {v : Value} {n : Nat} {xs : List Value} (h : w.ownsRow B e 1 v n xs) : ∃ a c, v = .slice a n c := by
  rcases h.2 with ⟨rfl, rfl⟩ | ⟨g, cap, cur, rfl, _⟩
  · exact ⟨none, 0, rfl⟩
  · exact ⟨_, cap, rfl⟩

/-- Octets on their way into a message. -/
def Xn (n : Nat) (g : Nat) (_ : TypeId) : Prop := g = n
structure Rdg (w : World) (n : Nat) (bv : Value) (l : List Int) (p : Int) : Prop where
  box : Bx w n [bv, .int .i64 p] 66
  seg : Seg .u8 w bv l
  apart : 0 < l.length → bv.ownBlock ≠ some n

theorem cell_heap {w w' : World} {b : Nat} (h : w'.heap[b]? = w.heap[b]?) (k : Nat) : w'.cell? ⟨b, k, none⟩ = w.cell? ⟨b, k, none⟩ := by
  unfold World.cell?
  rw [h]

theorem Seg.other {k : IntKind} {w w' : World} {v : Value} {l : List Int} {n : Nat} (h : Seg k w v l) (hc : Ch (Xn n) w w') (hne : 0 < l.length → v.ownBlock ≠ some n) : Seg k w' v l := by
  obtain ⟨a, cap, rfl, h1, h2, h3, h4⟩ := h
  refine ⟨a, cap, rfl, h1, h2, h3, ?_⟩
  intro y hy i hi
  obtain ⟨b, off, rfl, hb, hcell⟩ := seg_at (by omega) h3 h4
  cases hy
  have hbn : b ≠ n := fun e => hne (by omega) (by simp [Value.ownBlock, e])
  rw [add_plain, cell_heap (w := w) (w' := w')]
  · exact hcell i hi
  · obtain ⟨o, ho⟩ : ∃ o, w.heap[b]? = some o := ⟨w.heap[b], by simp [hb]⟩
    rw [ho]
    exact hc.block b o ho (fun _ _ _ _ => hbn)

theorem Seg.lt {k : IntKind} {w : World} {v : Value} {l : List Int} (h : Seg k w v l) (hl : 0 < l.length) : ∀ b, v.ownBlock = some b → b < w.heap.size := by
  obtain ⟨a, cap, rfl, h1, h2, h3, h4⟩ := h
  obtain ⟨b, off, rfl, hb, hcell⟩ := seg_at hl h3 h4
  intro c hc
  simp [Value.ownBlock] at hc
  omega
theorem Rdg.below {w w' : World} {n : Nat} {bv : Value} {l : List Int} {p : Int} (h : Rdg w n bv l p) (hb : Below w.heap.size w w') : Rdg w' n bv l p := ⟨h.box.below hb, h.seg.below hb, h.apart⟩
theorem Rdg.step {w w' : World} {n : Nat} {bv : Value} {l : List Int} {p q : Int} (h : Rdg w n bv l p) (hc : Ch (Xn n) w w') (hb : Bx w' n [bv, .int .i64 q] 66) : Rdg w' n bv l q :=
  ⟨hb, h.seg.other hc h.apart, h.apart⟩

theorem take_leaf {w : World} {n : Nat} {bv : Value} {l : List Int} {p q : Int} (h : Rdg w n bv l p) (k : Nat) :
    Ch (Xn n) w ((w.drewN k).setCell ⟨n, 1, none⟩ (.int .i64 q)) ∧ Rdg ((w.drewN k).setCell ⟨n, 1, none⟩ (.int .i64 q)) n bv l q := by
  have hb := h.box.below (below_drewN (Below.refl _ _) k)
  have hc : Ch (Xn n) w ((w.drewN k).setCell ⟨n, 1, none⟩ (.int .i64 q)) := (Ch.drewN _ _).trans (Ch.set hb rfl _)
  exact ⟨hc, h.step hc (hb.set 1 _)⟩

set_option maxHeartbeats 2000000 in
theorem takeNumber_any (n : Nat) (bv : Value) (l : List Int) (p m q er : Int) (w : World) (h : Rdg w n bv l p) (ho : ∀ z ∈ l, 0 ≤ z ∧ z ≤ 255) (hp0 : 0 ≤ p) (hp1 : p ≤ l.length) (hg : Pl.getI l p = (m, q, er)) :
    Calls Try.prog 53 #[.pointer (some ⟨n, 0, none⟩)] w fun e w' => Ch (Xn n) w w' ∧ (er ≠ 0 ∧ e = .panicked (errp er) ∨ er = 0 ∧ e = .returned (.int .u64 m) ∧ Rdg w' n bv l q) := by
  have c0 := h.box.cell 0 rfl
  have c1 := h.box.cell 1 rfl
  have hf := h.box.frozen
  have hlt := h.box.lt
  obtain ⟨a, cap, rfl, h1, h2, h3, h4⟩ := id h.seg
  unfold maxLen at h2
  have HR := hid h
  have HG := hid hg
  clear h h3 h4 hg
  have hgd := fun nq => get_is _ l p m q er (w.drewN nq) (HR.out.seg.below (below_drewN (Below.refl _ _) nq)) ho HG.out (by omega) (by omega)
  by_cases h0 : er = 0
  · subst h0
    have hnt := mneed_true 0
    go_enter Try.func53, Try.ntmps53
    go_wp2_with fail
    go_region_with (go_at_call 67; refine (hgd _).mono ?_; rintro e w1 ⟨rfl, rfl⟩)
    all_goals
      go_wp2_with fail
      refine (hnt _).mono ?_
      rintro e w2 ⟨rfl, rfl⟩
      go_wp2
      go_ret
      have hl := take_leaf (q := q) HR.out 1
      exact ⟨hl.1, .inr ⟨(by first | rfl | trivial), rfl, hl.2⟩⟩
  · have hnt := mneed_false er
    have hbe : (er == 0) = false := by simp [h0]
    go_enter Try.func53, Try.ntmps53
    go_wp2_with fail
    go_region_with (go_at_call 67; refine (hgd _).mono ?_; rintro e w1 ⟨rfl, rfl⟩)
    all_goals
      go_wp2_with fail
      refine (hnt _).mono ?_
      rintro e w2 ⟨rfl, rfl⟩
      exact ⟨rfl, Ch.drewN _ _, .inl ⟨h0, rfl⟩⟩

end Go.Proofs.Ytoadcaennlfadaa
