/- message: written, Encode. message: Encode; reading: takeNumber, takeText. message: takeText. message: what is read, on lists; the method message. message: takeMessage. message: takeMessage, walked. message: Decode. message: alive. -/
import Derived.Test.YtoadcaennlfadaaMM4
import Derived.Deep.RegionWith
namespace Go.Proofs.Ytoadcaennlfadaa
open Go.RowKit
set_option maxRecDepth 20000

theorem MBx.lt {w : World} {b : Nat} {x : Mg} {v : Value} (h : MBx w b x v) : b < w.heap.size := Bx.lt h
def encF (x : Mg) (d : List Int) (f : Int) : List Int := if f = 10 then Pl.enc 9 d.length ++ d else Pl.enc 9 (x.nums.getD f.toNat 0)
def encM (x : Mg) (d : List Int) : List Int := Pl.enc 9 x.k ++ (usedP x.k).flatMap (encF x d)

theorem encF_len (x : Mg) (d : List Int) (f : Int) (h : d.length ≤ 1024) : (encF x d f).length ≤ 1034 := by
  unfold encF
  split
  · have := Pl.enc_len_le 9 d.length
    simp only [List.length_append]
    omega
  · have := Pl.enc_len_le 9 (x.nums.getD f.toNat 0)
    omega
theorem encFs_len (x : Mg) (d : List Int) (h : d.length ≤ 1024) (l : List Int) : (l.flatMap (encF x d)).length ≤ 1034 * l.length := by
  induction l with
  | nil => simp
  | cons f r ih =>
    have := encF_len x d f h
    simp only [List.flatMap_cons, List.length_append, List.length_cons]
    omega
theorem used_len (k : Int) : (usedP k).length ≤ 8 := by
  unfold usedP
  repeat' split
  all_goals decide
theorem used_mem (k : Int) : ∀ f ∈ usedP k, 0 ≤ f ∧ f ≤ 10 := by
  unfold usedP
  repeat' split
  all_goals decide
theorem used_kind {k : Int} (h : usedP k ≠ []) : 1 ≤ k ∧ k ≤ 8 := by
  by_cases h1 : 1 ≤ k ∧ k ≤ 8
  · exact h1
  · exfalso
    apply h
    unfold usedP
    rw [if_neg (by omega), if_neg (by omega), if_neg (by omega), if_neg (by omega), if_neg (by omega), if_neg (by omega), if_neg (by omega), if_neg (by omega)]
theorem flat_take_succ (g : Int → List Int) (l : List Int) (k : Nat) (h : k < l.length) : (l.take (k + 1)).flatMap g = (l.take k).flatMap g ++ g (l.getD k 0) := by
  rw [List.take_succ_eq_append_getElem h]
  simp only [List.flatMap_append, List.flatMap_cons, List.flatMap_nil, List.append_nil, getD_at h]
theorem num_bd {x : Mg} (h : x.nums.any badN = false) (j : Nat) : 0 ≤ x.nums.getD j 0 ∧ x.nums.getD j 0 ≤ 2147483647 := by
  rcases Nat.lt_or_ge j x.nums.length with hj | hj
  · have hm := getD_mem hj
    rw [List.any_eq_false] at h
    have := h _ hm
    simp only [badN, Bool.or_eq_true, decide_eq_true_eq, not_or] at this
    omega
  · simp [List.getD, hj]

set_option maxHeartbeats 4000000 in
theorem written_any (x : Mg) (v : Value) (d : List Int) (w : World) (hs : Seg .u8 w v d) (hk : usedP x.k ≠ []) (hr : x.nums.any badN = false) (hd : d.length ≤ 1024) :
    Calls Try.prog 28 #[x.val v] w fun e w' => ∃ v', e = .returned v' ∧ w'.ownsRow w.heap.size 5 1 v' (encM x d).length (u8s (encM x d)) ∧ Below w.heap.size w w' := by
  have hn := fun w => numbersOf_any x v w
  obtain ⟨va, vcap, rfl, _⟩ := id hs
  have hu := usedBy_any x.k
  have hnv : numV x.nums = .agg #[.int .i64 x.c, .int .i64 x.b, .int .i64 x.i, .int .i64 x.s, .int .i64 x.q, .int .i64 x.m, .int .i64 x.n, .int .i64 x.l, .int .i64 x.o, .int .i64 x.p] := rfl
  rw [hnv] at hn
  obtain ⟨hk1, hk8⟩ := used_kind hk
  have hwk : IntKind.u64.wrap x.k = x.k := wrap_u64 _ (by omega) (by omega)
  have HR := hid hr
  have HSEG := hid hs
  have HENC : Hid (encM x d = Pl.enc 9 x.k ++ (usedP x.k).flatMap (encF x d)) := rfl
  generalize encM x d = EN at *
  clear hk hnv hr hs
  unfold Mg.val at hn ⊢
  go_enter Try.func28, Try.ntmps28
  go_wp2_with fail
  refine (hn _).mono ?_
  rintro e w3 ⟨rfl, b3⟩
  have B3 : MBx w3 w.heap.size x _ := Bx.below (Bx.new w (x.cells (.slice va d.length vcap)) 24) b3
  have hb3 : Below w.heap.size w w3 := ((Below.refl _ w).alloc (Nat.le_refl _) _).trans (b3.mono (by simp))
  clear hn b3
  have hal : Below w3.heap.size w3 (w3.alloc (.cells ⟨x.nums.map (Value.int .i64)⟩ 83)) := (Below.refl _ w3).alloc (Nat.le_refl _) _
  have L4 := Bx.new w3 (x.nums.map (Value.int .i64)) 83
  have B4 := B3.below hal
  have hb4 : Below w.heap.size w _ := hb3.trans (hal.mono hb3.size)
  have hsz4 : (w3.alloc (.cells ⟨x.nums.map (Value.int .i64)⟩ 83)).heap.size = w3.heap.size + 1 := by simp
  have hput := mput_one (.slice none 0 0) [] x.k (w3.alloc (.cells ⟨x.nums.map (Value.int .i64)⟩ 83)) (w3.heap.size + 1) hsz4 (Seg.nil _ _) (by omega) (by omega) (by simp)
  have c0 := B3.facts.1
  have hlt3 : w.heap.size < w3.heap.size := B3.lt
  go_wp2_with fail
  refine hput.mono ?_
  rintro e w5 ⟨o, rfl, hown, b5⟩
  have b5' : Below (w3.alloc (.cells ⟨x.nums.map (Value.int .i64)⟩ 83)).heap.size (w3.alloc (.cells ⟨x.nums.map (Value.int .i64)⟩ 83)) w5 := by rw [hsz4]; exact b5
  have B5 := B4.below b5'
  have L5 := L4.below b5'
  have hb5 : Below w.heap.size w w5 := hb4.trans (b5'.mono hb4.size)
  have OW : Hid (w5.ownsRow w.heap.size 5 1 o (Pl.enc 9 x.k).length (u8s (Pl.enc 9 x.k))) := ownsRow_lower hown (by have := hb3.size; omega)
  clear hput hal L4 B4 hb4 hsz4 c0 hlt3 b5 b5' hown B3 hb3
  generalize w3.heap.size = b3 at *
  have c0 := B5.facts.1
  go_wp2_with fail
  refine (hu _).mono ?_
  rintro e w6 ⟨u, rfl, su, b6⟩
  have B6 := B5.below b6
  have L6 := L5.below b6
  have hb6 : Below w.heap.size w w6 := hb5.trans (b6.mono hb5.size)
  have OW6 : Hid (w6.ownsRow w.heap.size 5 1 o (Pl.enc 9 x.k).length (u8s (Pl.enc 9 x.k))) := ownsRow_below OW.out b6
  have SU := hid su
  obtain ⟨ua, ucap, rfl, u1, u2, p3, p4⟩ := id su
  unfold maxLen at u2
  clear b6 B5 L5 hb5 OW c0 hu su
  have HULN := hid (used_len x.k)
  obtain ⟨UL, hUL⟩ : ∃ UL, UL = (usedP x.k).length := ⟨_, rfl⟩
  have HUL := hid hUL
  rw [← hUL] at u1 ⊢ p4
  clear hUL
  go_wp2_with fail
  go_loopw [4, 18] (fun a i wr => ∃ k : Nat, k ≤ UL ∧ i = .int .i64 k ∧ Hid (wr.ownsRow w.heap.size 5 1 a (Pl.enc 9 x.k ++ ((usedP x.k).take k).flatMap (encF x d)).length (u8s (Pl.enc 9 x.k ++ ((usedP x.k).take k).flatMap (encF x d)))) ∧ Below w6.heap.size w6 wr) (fun _ i _ => UL - (intOf i).toNat)
  case atStart => exact ⟨0, Nat.zero_le _, rfl, by simpa using OW6, Below.refl _ _⟩
  case round =>
    obtain ⟨k, hk, rfl, hown, hb⟩ := hrel
    by_cases hlt : k < UL
    · obtain ⟨g, off, rfl, hg, hcell⟩ := seg_at (l := usedP x.k) (by have := HUL.out; omega) p3 (by rw [← HUL.out]; exact p4)
      have Q := (hb.cell (p := ⟨g, off + k, none⟩) hg).trans (hcell k (by have := HUL.out; omega))
      have hm := used_mem x.k _ (getD_mem (l := usedP x.k) (i := k) (by have := HUL.out; omega))
      have HT := hid (flat_take_succ (encF x d) (usedP x.k) k (by have := HUL.out; omega))
      have HLN := hid (encFs_len x d hd ((usedP x.k).take k))
      have Br := B6.below hb
      have Lr := L6.below hb
      have c11 := Br.facts.2.2.2.2.2.2.2.2.2.2.2
      have hsd : Seg .u8 wr _ d := HSEG.out.below (hb6.trans (hb.mono hb6.size))
      have hlen0 : (Pl.enc 9 x.k ++ ((usedP x.k).take k).flatMap (encF x d)).length ≤ 100000 := by
        have h1 := HLN.out
        have h2 := HULN.out
        have h3 := Pl.enc_len_le 9 x.k
        have h4 : ((usedP x.k).take k).length ≤ (usedP x.k).length := by rw [List.length_take]; omega
        simp only [List.length_append]
        omega
      clear p3 p4 hcell HLN
      generalize hF : (usedP x.k).getD k 0 = f at *
      clear hF
      have HT1 := hid (show Pl.enc 9 x.k ++ ((usedP x.k).take (k + 1)).flatMap (encF x d) = (Pl.enc 9 x.k ++ ((usedP x.k).take k).flatMap (encF x d)) ++ encF x d f by rw [HT.out, List.append_assoc])
      clear HT
      generalize Pl.enc 9 x.k ++ ((usedP x.k).take k).flatMap (encF x d) = LK at *
      have hso := Seg.own hown.out
      have hszr : w.heap.size ≤ wr.heap.size := Nat.le_trans hb6.size hb.size
      by_cases h10 : f = 10
      · subst h10
        have htx := mtext_one u4 _ LK d wr wr.heap.size rfl hso hsd hlen0 hd
        have HT2 : Hid (LK ++ (Pl.enc 9 d.length ++ d) = Pl.enc 9 x.k ++ ((usedP x.k).take (k + 1)).flatMap (encF x d)) := by
          show _ = _
          rw [HT1.out]
          simp [encF]
        clear HT1 hso hown
        go_wp2_with fail
        refine htx.mono ?_
        rintro e w7 ⟨o2, rfl, hown2, hb7⟩
        have HO : Hid (w7.ownsRow w.heap.size 5 1 o2 (Pl.enc 9 x.k ++ ((usedP x.k).take (k + 1)).flatMap (encF x d)).length (u8s (Pl.enc 9 x.k ++ ((usedP x.k).take (k + 1)).flatMap (encF x d)))) := by rw [← HT2.out]; exact ownsRow_lower hown2 hszr
        have hbb := hb.trans (hb7.mono hb.size)
        clear hown2 htx HT2
        go_wp2
        go_roundw
        case rel => exact ⟨k + 1, by omega, by go_num, HO, hbb⟩
        case measure => simp [intOf]; omega
      · obtain ⟨j, rfl⟩ : ∃ j : Nat, f = (j : Int) := ⟨f.toNat, by omega⟩
        have hj : j < 10 := by omega
        have hbe : ((j : Int) == 10) = false := by simp; omega
        obtain ⟨hn0, hn1⟩ := num_bd HR.out j
        have hcj : wr.cell? ⟨b3, j, none⟩ = some (.int .i64 (x.nums.getD j 0)) := Lr.cell j (by have hl : x.nums.length = 10 := rfl; rw [List.getElem?_map, List.getElem?_eq_getElem (by omega)]; simp [List.getD, hl, hj])
        have hwr : IntKind.u64.wrap (x.nums.getD j 0) = x.nums.getD j 0 := wrap_u64 _ (by omega) (by omega)
        have htx := mput_one u4 LK (x.nums.getD j 0) wr wr.heap.size rfl hso (by omega) (by omega) hlen0
        have HT2 : Hid (LK ++ Pl.enc 9 (x.nums.getD j 0) = Pl.enc 9 x.k ++ ((usedP x.k).take (k + 1)).flatMap (encF x d)) := by
          show _ = _
          rw [HT1.out]
          simp [encF, h10]
        clear HT1 hso hown
        generalize x.nums.getD j 0 = y at *
        go_wp2_with fail
        refine htx.mono ?_
        rintro e w7 ⟨o2, rfl, hown2, hb7⟩
        have HO : Hid (w7.ownsRow w.heap.size 5 1 o2 (Pl.enc 9 x.k ++ ((usedP x.k).take (k + 1)).flatMap (encF x d)).length (u8s (Pl.enc 9 x.k ++ ((usedP x.k).take (k + 1)).flatMap (encF x d)))) := by rw [← HT2.out]; exact ownsRow_lower hown2 hszr
        have hbb := hb.trans (hb7.mono hb.size)
        clear hown2 htx HT2
        go_wp2
        go_roundw
        case rel => exact ⟨k + 1, by omega, by go_num, HO, hbb⟩
        case measure => simp [intOf]; omega
    · have hke : (usedP x.k).take k = usedP x.k := List.take_of_length_le (by have := HUL.out; omega)
      rw [hke, ← HENC.out] at hown
      clear p3 p4 hke
      have HB := hid (hb6.trans (hb.mono hb6.size))
      clear hb
      go_wp2
      go_ret
      exact ⟨_, rfl, hown.out, HB.out⟩
end Go.Proofs.Ytoadcaennlfadaa

namespace Go.Proofs.Ytoadcaennlfadaa
open Go.RowKit
set_option maxRecDepth 20000

theorem ck_zero {x : Mg} {d : List Int} (h : ckM x d = 0) : usedP x.k ≠ [] ∧ x.nums.any badN = false ∧ d.length ≤ 1024 ∧ okTo x 10 ∧ (d = [] ∨ (usedP x.k).any (10 == ·) = true) := by
  unfold ckM at h
  by_cases h1 : usedP x.k = []
  · rw [if_pos h1] at h; cases h
  rw [if_neg h1] at h
  by_cases h2 : x.nums.any badN = true
  · rw [if_pos h2] at h; cases h
  rw [if_neg h2] at h
  by_cases h3 : 1024 < d.length
  · rw [if_pos h3] at h; cases h
  rw [if_neg h3] at h
  by_cases h4 : (okF x 0 && okF x 1 && okF x 2 && okF x 3 && okF x 4 && okF x 5 && okF x 6 && okF x 7 && okF x 8 && okF x 9 && (d.isEmpty || (usedP x.k).any (10 == ·))) = true
  · simp only [Bool.and_eq_true] at h4
    obtain ⟨⟨⟨⟨⟨⟨⟨⟨⟨⟨g0, g1⟩, g2⟩, g3⟩, g4⟩, g5⟩, g6⟩, g7⟩, g8⟩, g9⟩, g10⟩ := h4
    refine ⟨h1, by simpa using h2, by omega, ?_, ?_⟩
    · intro j hj
      have : j = 0 ∨ j = 1 ∨ j = 2 ∨ j = 3 ∨ j = 4 ∨ j = 5 ∨ j = 6 ∨ j = 7 ∨ j = 8 ∨ j = 9 := by omega
      rcases this with rfl | rfl | rfl | rfl | rfl | rfl | rfl | rfl | rfl | rfl <;> assumption
    · rcases Bool.or_eq_true _ _ ▸ g10 with g | g
      · left; simpa using g
      · right; exact g
  · rw [if_neg h4] at h; cases h

set_option maxHeartbeats 2000000 in
theorem mEncode_bad (x : Mg) (v : Value) (d : List Int) (w : World) (hs : Seg .u8 w v d) (h : ckM x d ≠ 0) :
    Calls Try.prog 10 #[x.val v] w fun e w' => e = .returned (.tuple #[.slice none 0 0, .int .i64 (ckM x d)]) ∧ Below w.heap.size w w' := by
  have hc := fun w hs => mCheck_any x v d w hs
  obtain ⟨va, vcap, rfl, _⟩ := id hs
  have hbe : (ckM x d == 0) = false := by simp [h]
  generalize ckM x d = E at *
  have hal : ∀ o, Below w.heap.size w (w.alloc o) := fun o => (Below.refl _ w).alloc (Nat.le_refl _) o
  have hch := hc _ (hs.below (hal (.cells ⟨x.cells (.slice va d.length vcap)⟩ 24)))
  unfold Mg.val Mg.cells at *
  clear h hc
  go_enter Try.func10, Try.ntmps10
  go_wp2_with fail
  refine hch.mono ?_
  rintro e w1 ⟨rfl, hb⟩
  have hb1 : Below w.heap.size w w1 := (hal _).trans (hb.mono (by simp))
  clear hch hb
  go_wp2
  go_ret2
  exact ⟨rfl, hb1⟩

set_option maxHeartbeats 2000000 in
theorem mEncode_ok (x : Mg) (v : Value) (d : List Int) (w : World) (hs : Seg .u8 w v d) (h : ckM x d = 0) :
    Calls Try.prog 10 #[x.val v] w fun e w' => ∃ v', e = .returned (.tuple #[v', .int .i64 0]) ∧ w'.ownsRow w.heap.size 5 1 v' (encM x d).length (u8s (encM x d)) ∧ Below w.heap.size w w' := by
  have hc := fun w hs => mCheck_any x v d w hs
  obtain ⟨va, vcap, rfl, _⟩ := id hs
  obtain ⟨k1, k2, k3, _, _⟩ := ck_zero h
  have hwr := fun w hs => written_any x (.slice va d.length vcap) d w hs k1 k2 k3
  rw [h] at hc
  have hal : ∀ o, Below w.heap.size w (w.alloc o) := fun o => (Below.refl _ w).alloc (Nat.le_refl _) o
  have hch := hc _ (hs.below (hal (.cells ⟨x.cells (.slice va d.length vcap)⟩ 24)))
  have hMB : MBx (w.alloc (.cells ⟨x.cells (.slice va d.length vcap)⟩ 24)) w.heap.size x (.slice va d.length vcap) := Bx.new _ _ _
  generalize encM x d = EN at *
  unfold Mg.val at *
  have hcells : x.cells (.slice va d.length vcap) = [.int .i64 x.k, .int .i64 x.c, .int .i64 x.b, .int .i64 x.i, .int .i64 x.s, .int .i64 x.q, .int .i64 x.m, .int .i64 x.n, .int .i64 x.l, .int .i64 x.o, .int .i64 x.p, .slice va d.length vcap] := rfl
  rw [hcells] at hch hMB
  have HS := hid (hs.below (hal (.cells ⟨x.cells (.slice va d.length vcap)⟩ 24)))
  rw [hcells] at HS
  clear h hc k1 k2 k3 hs hcells
  go_enter Try.func10, Try.ntmps10
  go_wp2_with fail
  refine hch.mono ?_
  rintro e w1 ⟨rfl, hb⟩
  have hb1 : Below w.heap.size w w1 := (hal _).trans (hb.mono (by simp))
  have hM1 := hMB.below hb
  have h2 := hwr w1 (HS.out.below hb)
  obtain ⟨c0, c1, c2, c3, c4, c5, c6, c7, c8, c9, c10, c11⟩ := hM1.facts
  clear hch hb hMB hwr hal HS
  go_wp2_with fail
  refine h2.mono ?_
  rintro e w2 ⟨v', rfl, ho, hb2⟩
  have HO := hid (ownsRow_lower ho hb1.size)
  have hb3 := hb1.trans (hb2.mono hb1.size)
  clear ho hb2 h2 c0 c1 c2 c3 c4 c5 c6 c7 c8 c9 c10 c11
  go_wp2
  go_ret2
  exact ⟨v', rfl, HO.out, hb3⟩

theorem own_shape8 {w : World} {B : Nat} {e : TypeId} {v : Value} {n : Nat} {xs : List Value} (h : w.ownsRow B e 1 v n xs) : ∃ a c, v = .slice a n c := by
  rcases h.2 with ⟨rfl, rfl⟩ | ⟨g, cap, cur, rfl, _⟩
  · exact ⟨none, 0, rfl⟩
  · exact ⟨_, cap, rfl⟩

/-- Octets on their way into a message. -/
def Xn (n : Nat) (g : Nat) (_ : TypeId) : Prop := g = n
structure Rdg (w : World) (n : Nat) (bv : Value) (l : List Int) (p : Int) : Prop where
  box : Bx w n [bv, .int .i64 p] 66
  seg : Seg .u8 w bv l
  apart : 0 < l.length → bv.ownBlock ≠ some n

theorem cell_heap {w w' : World} {b : Nat} (h : w'.heap[b]? = w.heap[b]?) (k : Nat) : w'.cell? ⟨b, k, none⟩ = w.cell? ⟨b, k, none⟩ := by
  unfold World.cell?
  rw [h]

theorem Seg.other {k : IntKind} {w w' : World} {v : Value} {l : List Int} {n : Nat} (h : Seg k w v l) (hc : Ch (Xn n) w w') (hne : 0 < l.length → v.ownBlock ≠ some n) : Seg k w' v l := by
  obtain ⟨a, cap, rfl, h1, h2, h3, h4⟩ := h
  refine ⟨a, cap, rfl, h1, h2, h3, ?_⟩
  intro y hy i hi
  obtain ⟨b, off, rfl, hb, hcell⟩ := seg_at (by omega) h3 h4
  cases hy
  have hbn : b ≠ n := fun e => hne (by omega) (by simp [Value.ownBlock, e])
  rw [add_plain, cell_heap (w := w) (w' := w')]
  · exact hcell i hi
  · obtain ⟨o, ho⟩ : ∃ o, w.heap[b]? = some o := ⟨w.heap[b], by simp [hb]⟩
    rw [ho]
    exact hc.block b o ho (fun _ _ _ _ => hbn)

theorem Seg.lt {k : IntKind} {w : World} {v : Value} {l : List Int} (h : Seg k w v l) (hl : 0 < l.length) : ∀ b, v.ownBlock = some b → b < w.heap.size := by
  obtain ⟨a, cap, rfl, h1, h2, h3, h4⟩ := h
  obtain ⟨b, off, rfl, hb, hcell⟩ := seg_at hl h3 h4
  intro c hc
  simp [Value.ownBlock] at hc
  omega
theorem Rdg.below {w w' : World} {n : Nat} {bv : Value} {l : List Int} {p : Int} (h : Rdg w n bv l p) (hb : Below w.heap.size w w') : Rdg w' n bv l p := ⟨h.box.below hb, h.seg.below hb, h.apart⟩
theorem Rdg.step {w w' : World} {n : Nat} {bv : Value} {l : List Int} {p q : Int} (h : Rdg w n bv l p) (hc : Ch (Xn n) w w') (hb : Bx w' n [bv, .int .i64 q] 66) : Rdg w' n bv l q :=
  ⟨hb, h.seg.other hc h.apart, h.apart⟩

theorem take_leaf {w : World} {n : Nat} {bv : Value} {l : List Int} {p q : Int} (h : Rdg w n bv l p) (k : Nat) :
    Ch (Xn n) w ((w.drewN k).setCell ⟨n, 1, none⟩ (.int .i64 q)) ∧ Rdg ((w.drewN k).setCell ⟨n, 1, none⟩ (.int .i64 q)) n bv l q := by
  have hb := h.box.below (below_drewN (Below.refl _ _) k)
  have hc : Ch (Xn n) w ((w.drewN k).setCell ⟨n, 1, none⟩ (.int .i64 q)) := (Ch.drewN _ _).trans (Ch.set hb rfl _)
  exact ⟨hc, h.step hc (hb.set 1 _)⟩

set_option maxHeartbeats 2000000 in
theorem takeNumber_any (n : Nat) (bv : Value) (l : List Int) (p m q er : Int) (w : World) (h : Rdg w n bv l p) (ho : ∀ z ∈ l, 0 ≤ z ∧ z ≤ 255) (hp0 : 0 ≤ p) (hp1 : p ≤ l.length) (hg : Pl.getI l p = (m, q, er)) :
    Calls Try.prog 53 #[.pointer (some ⟨n, 0, none⟩)] w fun e w' => Ch (Xn n) w w' ∧ (er ≠ 0 ∧ e = .panicked (errp er) ∨ er = 0 ∧ e = .returned (.int .u64 m) ∧ Rdg w' n bv l q) := by
  have c0 := h.box.cell 0 rfl
  have c1 := h.box.cell 1 rfl
  have hf := h.box.frozen
  have hlt := h.box.lt
  obtain ⟨a, cap, rfl, h1, h2, h3, h4⟩ := id h.seg
  unfold maxLen at h2
  have HR := hid h
  have HG := hid hg
  clear h h3 h4 hg
  have hgd := fun nq => get_is _ l p m q er (w.drewN nq) (HR.out.seg.below (below_drewN (Below.refl _ _) nq)) ho HG.out (by omega) (by omega)
  by_cases h0 : er = 0
  · subst h0
    have hnt := mneed_true 0
    go_enter Try.func53, Try.ntmps53
    go_wp2_with fail
    go_region_with (go_at_call 67; refine (hgd _).mono ?_; rintro e w1 ⟨rfl, rfl⟩)
    all_goals
      go_wp2_with fail
      refine (hnt _).mono ?_
      rintro e w2 ⟨rfl, rfl⟩
      go_wp2
      go_ret
      have hl := take_leaf (q := q) HR.out 1
      exact ⟨hl.1, .inr ⟨(by first | rfl | trivial), rfl, hl.2⟩⟩
  · have hnt := mneed_false er
    have hbe : (er == 0) = false := by simp [h0]
    go_enter Try.func53, Try.ntmps53
    go_wp2_with fail
    go_region_with (go_at_call 67; refine (hgd _).mono ?_; rintro e w1 ⟨rfl, rfl⟩)
    all_goals
      go_wp2_with fail
      refine (hnt _).mono ?_
      rintro e w2 ⟨rfl, rfl⟩
      exact ⟨rfl, Ch.drewN _ _, .inl ⟨h0, rfl⟩⟩

end Go.Proofs.Ytoadcaennlfadaa

namespace Go.Proofs.Ytoadcaennlfadaa
open Go.RowKit
set_option maxRecDepth 20000

set_option maxHeartbeats 2000000 in
theorem takeText_any (n : Nat) (bv : Value) (l t : List Int) (p q er : Int) (w : World) (h : Rdg w n bv l p) (ho : ∀ z ∈ l, 0 ≤ z ∧ z ≤ 255) (hlen : l.length ≤ 140737488355328) (hp0 : 0 ≤ p) (hp1 : p ≤ l.length) (hg : Pl.textI l p 1024 = (t, q, er)) (ht : t.length ≤ 1024) :
    Calls Try.prog 54 #[.pointer (some ⟨n, 0, none⟩)] w fun e w' => Ch (Xn n) w w' ∧ (er ≠ 0 ∧ e = .panicked (errp er) ∨ er = 0 ∧ ∃ tv, e = .returned tv ∧ Rdg w' n bv l q ∧ w'.ownsRow w.heap.size 5 1 tv t.length (u8s t)) := by
  have c0 := h.box.cell 0 rfl
  have c1 := h.box.cell 1 rfl
  have hf := h.box.frozen
  have hlt := h.box.lt
  obtain ⟨a, cap, rfl, h1, h2, h3, h4⟩ := id h.seg
  unfold maxLen at h2
  have HR := hid h
  have HG := hid hg
  clear h h3 h4 hg
  have hgd : ∀ nq, Calls Try.prog 68 #[.slice a l.length cap, .int .i64 p, .int .i64 1024] (w.drewN nq) fun e w' => ∃ v', e = .returned (.tuple #[v', .int .i64 q, .int .i64 er]) ∧ w'.ownsRow w.heap.size 5 1 v' t.length (u8s t) ∧ Below w.heap.size w w' := fun nq => by
    have hbd := below_drewN (Below.refl w.heap.size w) nq
    have := text_any _ l p 1024 (w.drewN nq) (HR.out.seg.below hbd) ho hlen (by omega) (by omega) (by omega) (by omega)
    rw [HG.out] at this
    refine this.mono ?_
    rintro e w' ⟨v', rfl, ho, hb⟩
    exact ⟨v', rfl, ho, hbd.trans hb⟩
  by_cases h0 : er = 0
  · subst h0
    have hnt := mneed_true 0
    go_enter Try.func54, Try.ntmps54
    go_wp2_with fail
    go_region_with (go_at_call 68; refine (hgd _).mono ?_; rintro e w1 ⟨v1, rfl, hown, hb1⟩)
    all_goals
      have B1 := HR.out.box.below hb1
      have hf1 := B1.frozen
      have hlt1 := B1.lt
      have d1 := B1.cell 1 rfl
      obtain ⟨a1, cap1, rfl⟩ := own_shape8 hown
      go_wp2_with fail
      refine (hnt _).mono ?_
      rintro e w2 ⟨rfl, rfl⟩
      have hne1 : (Value.slice a1 t.length cap1).ownBlock ≠ some n := fun he => by have := (hown.lt _ he).1; omega
      have hcs : Ch (Xn n) w2 (w2.setCell ⟨n, 1, none⟩ (.int .i64 q)) := Ch.set B1 rfl _
      have hsw : Seg .u8 (w2.setCell ⟨n, 1, none⟩ (.int .i64 q)) (.slice a1 t.length cap1) t := (Seg.own hown).other hcs (fun _ => hne1)
      have hszw : (w2.setCell ⟨n, 1, none⟩ (.int .i64 q)).heap.size = w2.heap.size := by simp
      have HB3 := hid (B1.set 1 (.int .i64 q))
      go_wp2_with (at_builtin; refine wpList_append_seg _ rfl _ _ rfl w2.heap.size _ _ [] t rfl (World.ownsRow_nil _ _ _ _) rfl hsw (by simp; omega) (by rw [hszw]; exact Nat.le_refl _) ?_; intro v3 w3 hown3 hb3; have HO3 := hid hown3; clear hown3)
      go_ret
      have hb3' : Below (w2.setCell ⟨n, 1, none⟩ (.int .i64 q)).heap.size (w2.setCell ⟨n, 1, none⟩ (.int .i64 q)) w3 := by rw [hszw]; exact hb3
      have hch : Ch (Xn n) w w3 := ((Ch.below hb1).trans hcs).trans (Ch.below hb3')
      exact ⟨hch, .inr ⟨(by first | rfl | trivial), _, rfl, HR.out.step hch (HB3.out.below hb3'), ownsRow_lower (by simpa using HO3.out) hb1.size⟩⟩
  · have hnt := mneed_false er
    have hbe : (er == 0) = false := by simp [h0]
    go_enter Try.func54, Try.ntmps54
    go_wp2_with fail
    go_region_with (go_at_call 68; refine (hgd _).mono ?_; rintro e w1 ⟨v1, rfl, hown, hb1⟩)
    all_goals
      go_wp2_with fail
      refine (hnt _).mono ?_
      rintro e w2 ⟨rfl, rfl⟩
      exact ⟨rfl, Ch.below hb1, .inl ⟨h0, rfl⟩⟩
end Go.Proofs.Ytoadcaennlfadaa

namespace Go.Proofs.Ytoadcaennlfadaa
open Go.RowKit
set_option maxRecDepth 20000

def decFs (l : List Int) : List Int → Int → List Int → List Int → List Int × List Int × Int × Int
  | [], p, ns, t => (ns, t, p, 0)
  | f :: r, p, ns, t =>
    if f = 10 then
      (if (Pl.textI l p 1024).2.2 = 0 then decFs l r (Pl.textI l p 1024).2.1 ns (Pl.textI l p 1024).1 else (ns, t, p, (Pl.textI l p 1024).2.2))
    else
      (if (Pl.getI l p).2.2 = 0 then (if (Pl.getI l p).1 ≤ 2147483647 then decFs l r (Pl.getI l p).2.1 (ns.set f.toNat (Pl.getI l p).1) t else (ns, t, p, 4)) else (ns, t, p, (Pl.getI l p).2.2))

def zeros : List Int := [0, 0, 0, 0, 0, 0, 0, 0, 0, 0]
/-- The kind, the numbers, the text, where it ends; the error. -/
def tkm (l : List Int) : (Int × List Int × List Int × Int) × Int :=
  if (Pl.getI l 0).2.2 = 0 then
    (if 1 ≤ (Pl.getI l 0).1 ∧ (Pl.getI l 0).1 ≤ 8 then
      (((Pl.getI l 0).1, (decFs l (usedP (Pl.getI l 0).1) (Pl.getI l 0).2.1 zeros []).1, (decFs l (usedP (Pl.getI l 0).1) (Pl.getI l 0).2.1 zeros []).2.1, (decFs l (usedP (Pl.getI l 0).1) (Pl.getI l 0).2.1 zeros []).2.2.1), (decFs l (usedP (Pl.getI l 0).1) (Pl.getI l 0).2.1 zeros []).2.2.2)
    else ((0, [], [], 0), 23))
  else ((0, [], [], 0), (Pl.getI l 0).2.2)
def mgOf (k : Int) (ns : List Int) : Mg := ⟨k, ns.getD 0 0, ns.getD 1 0, ns.getD 2 0, ns.getD 3 0, ns.getD 4 0, ns.getD 5 0, ns.getD 6 0, ns.getD 7 0, ns.getD 8 0, ns.getD 9 0⟩

theorem textI_ok {l t : List Int} {p q : Int} (ho : ∀ z ∈ l, 0 ≤ z ∧ z ≤ 255) (h : Pl.textI l p 1024 = (t, q, 0)) : p < q ∧ q ≤ l.length ∧ t.length ≤ 1024 ∧ (∀ z ∈ t, 0 ≤ z ∧ z ≤ 255) ∧ 0 ≤ p ∧ ∃ r, l.drop p.toNat = Pl.enc 9 t.length ++ t ++ r ∧ q = p + ((Pl.enc 9 t.length).length : Int) + t.length := by
  obtain ⟨m, s, er, hg⟩ : ∃ m s er, Pl.getI l p = (m, s, er) := ⟨_, _, _, rfl⟩
  unfold Pl.textI at h
  rw [hg] at h
  simp only at h
  by_cases h0 : er = 0
  · subst h0
    rw [if_pos rfl] at h
    by_cases h1 : (1024 : Int) < 0 ∨ 1024 < m
    · rw [if_pos h1] at h; cases h
    rw [if_neg h1] at h
    by_cases h2 : (l.length : Int) - s < m
    · rw [if_pos h2] at h; cases h
    rw [if_neg h2] at h
    obtain ⟨p0, m0, m1, ps, sl, r, hr, hs⟩ := Pl.getI_ok l p m s ho hg
    simp only [Prod.mk.injEq, and_true] at h
    obtain ⟨rfl, rfl⟩ := h
    have hlen : ((l.drop s.toNat).take m.toNat).length = m.toNat := by rw [List.length_take, List.length_drop]; omega
    refine ⟨by omega, by omega, by rw [hlen]; omega, fun z hz => ho z (List.mem_of_mem_drop (List.mem_of_mem_take hz)), p0, (l.drop s.toNat).drop m.toNat, ?_, ?_⟩
    · rw [hlen]
      have hmm : ((m.toNat : Nat) : Int) = m := by omega
      rw [hmm, hr]
      have : l.drop s.toNat = r := by
        have h5 : s.toNat = p.toNat + (Pl.enc 9 m).length := by omega
        rw [h5, ← List.drop_drop, hr]
        simp
      rw [this, List.append_assoc, List.take_append_drop]
    · rw [hlen]
      have hmm : ((m.toNat : Nat) : Int) = m := by omega
      rw [hmm]
      omega
  · rw [if_neg h0] at h
    simp only [Prod.mk.injEq] at h
    exact absurd h.2.2 h0

theorem ret_msg {W : World} {tmps : Array Value} {b : Nat} {x : Mg} {v : Value} (ht : tmps.getD 6 undef = .pointer (some ⟨b, 0, none⟩)) (hB : MBx W b x v) :
    (results Try.f55 tmps).run Try.prog W = .ok (x.val v) W := by
  rw [Array.getD_eq_getD_getElem?] at ht
  obtain ⟨c0, c1, c2, c3, c4, c5, c6, c7, c8, c9, c10, c11⟩ := hB.facts
  simp [results, Try.results55, Mg.val]
  go_simp
theorem ret_take {W : World} {tmps : Array Value} {b : Nat} {x : Mg} {v : Value} (ht : tmps.getD 2 undef = .pointer (some ⟨b, 0, none⟩)) (hB : MBx W b x v) :
    (results Try.f35 tmps).run Try.prog W = .ok (x.val v) W := by
  rw [Array.getD_eq_getD_getElem?] at ht
  obtain ⟨c0, c1, c2, c3, c4, c5, c6, c7, c8, c9, c10, c11⟩ := hB.facts
  simp [results, Try.results35, Mg.val]
  go_simp

set_option maxHeartbeats 2000000 in
theorem message_any (x : Mg) (a : Option Addr) (n c : Nat) (w : World) :
    Calls Try.prog 55 #[.agg #[.int .i64 x.c, .int .i64 x.b, .int .i64 x.i, .int .i64 x.s, .int .i64 x.q, .int .i64 x.m, .int .i64 x.n, .int .i64 x.l, .int .i64 x.o, .int .i64 x.p], .int .i64 x.k, .slice a n c] w fun e w' => e = .returned (x.val (.slice a n c)) ∧ Below w.heap.size w w' := by
  go_enter Try.func55, Try.ntmps55
  go_wp2
  have hB := Bx.new (w.alloc (.cells #[.int .i64 x.c, .int .i64 x.b, .int .i64 x.i, .int .i64 x.s, .int .i64 x.q, .int .i64 x.m, .int .i64 x.n, .int .i64 x.l, .int .i64 x.o, .int .i64 x.p] 83)) (x.cells (.slice a n c)) 24
  have hsz : (w.alloc (.cells #[.int .i64 x.c, .int .i64 x.b, .int .i64 x.i, .int .i64 x.s, .int .i64 x.q, .int .i64 x.m, .int .i64 x.n, .int .i64 x.l, .int .i64 x.o, .int .i64 x.p] 83)).heap.size = w.heap.size + 1 := by simp
  rw [hsz] at hB
  refine bodyPost_ret (ret_msg (b := w.heap.size + 1) (x := x) (v := .slice a n c) rfl hB) rfl ?_
  exact ⟨rfl, (((Below.refl _ w).alloc (Nat.le_refl _) _).alloc (by simp) _)⟩
end Go.Proofs.Ytoadcaennlfadaa

namespace Go.Proofs.Ytoadcaennlfadaa
open Go.RowKit
set_option maxRecDepth 20000

theorem Seg.ch {X : Nat → TypeId → Prop} {k : IntKind} {w w' : World} {v : Value} {l : List Int} (h : Seg k w v l) (hc : Ch X w w') (hne : ∀ b T, v.ownBlock = some b → ¬ X b T) : Seg k w' v l := by
  obtain ⟨a, cap, rfl, h1, h2, h3, h4⟩ := h
  refine ⟨a, cap, rfl, h1, h2, h3, ?_⟩
  intro y hy i hi
  obtain ⟨b, off, rfl, hb, hcell⟩ := seg_at (by omega) h3 h4
  cases hy
  rw [add_plain, cell_heap (w := w) (w' := w')]
  · exact hcell i hi
  · obtain ⟨o, ho⟩ : ∃ o, w.heap[b]? = some o := ⟨w.heap[b], by simp [hb]⟩
    rw [ho]
    exact hc.block b o ho (fun _ T _ _ => hne b T (by simp [Value.ownBlock]))
theorem Ch.grownBy {n : Nat} {w w' : World} (h : Ch (Xn n) w w') : w.grownBy w' (some n) :=
  ⟨h.os, h.tape, h.output, h.size, fun g hg hne => by
    obtain ⟨o, ho⟩ : ∃ o, w.heap[g]? = some o := ⟨w.heap[g], by simp [hg]⟩
    rw [ho]
    exact h.block g o ho (fun _ _ _ _ => fun e => hne (by rw [e]))⟩

/-- Blocks that takeMessage turns. -/
def Xr (n b : Nat) (g : Nat) (_ : TypeId) : Prop := g = n ∨ g = b

/-- How far it has come. -/
structure Tk (w1 wr : World) (n b : Nat) (bv : Value) (l : List Int) (p : Int) (ns t : List Int) (tv : Value) : Prop where
  ch : Ch (Xr n b) w1 wr
  rdg : Rdg wr n bv l p
  box : Bx wr b (ns.map (Value.int .i64)) 83
  len : ns.length = 10
  own : wr.ownsRow w1.heap.size 5 1 tv t.length (u8s t)
  p0 : 0 ≤ p
  p1 : p ≤ l.length

theorem Xn.r {n b : Nat} : ∀ g T, Xn n g T → Xr n b g T := fun _ _ h => .inl h
theorem Tk.text {w1 wr w2 : World} {n b : Nat} {bv : Value} {l : List Int} {p q : Int} {ns t t2 : List Int} {tv tv2 : Value} (h : Tk w1 wr n b bv l p ns t tv) (hnb : n ≠ b) (hc : Ch (Xn n) wr w2) (hr : Rdg w2 n bv l q) (ho : w2.ownsRow wr.heap.size 5 1 tv2 t2.length (u8s t2)) (q0 : 0 ≤ q) (q1 : q ≤ l.length) :
    Tk w1 w2 n b bv l q ns t2 tv2 :=
  ⟨h.ch.trans (hc.mono Xn.r), hr, h.box.ch hc (fun e => hnb e.symm), h.len, ownsRow_lower ho h.ch.size, q0, q1⟩
theorem Tk.number {w1 wr w2 : World} {n b : Nat} {bv : Value} {l : List Int} {p q y : Int} {ns t : List Int} {tv : Value} (h : Tk w1 wr n b bv l p ns t tv) (hnb : n ≠ b) (hn1 : n < w1.heap.size) (hb1 : b < w1.heap.size) (hc : Ch (Xn n) wr w2) (hr : Rdg w2 n bv l q) (q0 : 0 ≤ q) (q1 : q ≤ l.length) (j : Nat)  (hbv : 0 < l.length → bv.ownBlock ≠ some b) :
    Tk w1 (w2.setCell ⟨b, j, none⟩ (.int .i64 y)) n b bv l q (ns.set j y) t tv := by
  have hB := h.box.ch hc (fun e => hnb e.symm)
  have hcs : Ch (Xr n b) w2 (w2.setCell ⟨b, j, none⟩ (.int .i64 y)) := Ch.set hB (.inr rfl) _
  have hcn : Ch (Xn b) w2 (w2.setCell ⟨b, j, none⟩ (.int .i64 y)) := Ch.set hB rfl _
  have ho2 := h.own.kept hc.grownBy (.inr fun he => by have := (h.own.lt _ he).1; omega)
  refine ⟨(h.ch.trans (hc.mono Xn.r)).trans hcs, ⟨hr.box.other hnb _, hr.seg.other hcn hbv, hr.apart⟩, ?_, by rw [List.length_set]; exact h.len, ?_, q0, q1⟩
  · have := hB.set j (.int .i64 y)
    rw [List.map_set]
    exact this
  · exact ownsRow_setCell_other ho2 (fun he => by have := (ho2.lt _ he).1; simp at this; omega) _

/-- What is new may turn, and the block n. -/
def Xw (w : World) (n : Nat) (g : Nat) (_ : TypeId) : Prop := g = n ∨ w.heap.size ≤ g
theorem Ch.shrink {w w' : World} {n : Nat} (h : Ch (Xw w n) w w') : Ch (Xn n) w w' :=
  ⟨h.os, h.tape, h.output, h.size, fun g o ho hx => h.block g o ho (fun cs T r e hX => by
    rcases hX with hX | hX
    · exact hx cs T r e hX
    · have := lt_of_some ho
      omega)⟩
theorem Xw.n {w : World} {n : Nat} : ∀ g T, Xn n g T → Xw w n g T := fun _ _ h => .inl h
theorem Xw.r {w : World} {n b : Nat} (hb : w.heap.size ≤ b) : ∀ g T, Xr n b g T → Xw w n g T := fun _ _ h => h.elim .inl fun h => .inr (by rw [h]; exact hb)
theorem own_here (k n c : Nat) : ∀ b, (Value.slice (some ⟨k, 0, none⟩) n c).ownBlock = some b → k ≤ b := fun b hb => by simp [Value.ownBlock] at hb; omega
set_option maxHeartbeats 4000000 in
theorem usedBy_own (k : Int) (w : World) : Calls Try.prog 49 #[.int .i64 k] w fun e w' => ∃ u, e = .returned u ∧ Seg .i64 w' u (usedP k) ∧ Below w.heap.size w w' ∧ ∀ b, u.ownBlock = some b → w.heap.size ≤ b := by
  have hal : ∀ o, Below w.heap.size w (w.alloc o) := fun o => (Below.refl _ w).alloc (Nat.le_refl _) o
  by_cases h1 : k = 1
  · subst h1
    have hu : usedP 1 = [1, 0, 6] := rfl
    rw [hu]
    have hsg := seg_of_row .i64 w [1, 0, 6] 3 (by decide)
    clear hu
    go_enter Try.func49, Try.ntmps49
    go_wp2
    all_goals (go_ret; exact ⟨_, rfl, hsg, hal _, own_here _ _ _⟩)
  by_cases h8 : k = 8
  · subst h8
    have hu : usedP 8 = [1, 0, 6] := rfl
    rw [hu]
    have hsg := seg_of_row .i64 w [1, 0, 6] 3 (by decide)
    clear hu
    go_enter Try.func49, Try.ntmps49
    go_wp2
    all_goals (go_ret; exact ⟨_, rfl, hsg, hal _, own_here _ _ _⟩)
  by_cases h2 : k = 2
  · subst h2
    have hu : usedP 2 = [1, 0, 2, 3, 6] := rfl
    rw [hu]
    have hsg := seg_of_row .i64 w [1, 0, 2, 3, 6] 3 (by decide)
    clear hu
    go_enter Try.func49, Try.ntmps49
    go_wp2
    all_goals (go_ret; exact ⟨_, rfl, hsg, hal _, own_here _ _ _⟩)
  by_cases h3 : k = 3
  · subst h3
    have hu : usedP 3 = [1, 0, 2, 3, 4, 5, 7, 10] := rfl
    rw [hu]
    have hsg := seg_of_row .i64 w [1, 0, 2, 3, 4, 5, 7, 10] 3 (by decide)
    clear hu
    go_enter Try.func49, Try.ntmps49
    go_wp2
    all_goals (go_ret; exact ⟨_, rfl, hsg, hal _, own_here _ _ _⟩)
  by_cases h4 : k = 4
  · subst h4
    have hu : usedP 4 = [1, 0, 2, 3, 4, 8, 9, 10] := rfl
    rw [hu]
    have hsg := seg_of_row .i64 w [1, 0, 2, 3, 4, 8, 9, 10] 3 (by decide)
    clear hu
    go_enter Try.func49, Try.ntmps49
    go_wp2
    all_goals (go_ret; exact ⟨_, rfl, hsg, hal _, own_here _ _ _⟩)
  by_cases h5 : k = 5
  · subst h5
    have hu : usedP 5 = [1, 0, 2, 3, 4, 5] := rfl
    rw [hu]
    have hsg := seg_of_row .i64 w [1, 0, 2, 3, 4, 5] 3 (by decide)
    clear hu
    go_enter Try.func49, Try.ntmps49
    go_wp2
    all_goals (go_ret; exact ⟨_, rfl, hsg, hal _, own_here _ _ _⟩)
  by_cases h6 : k = 6
  · subst h6
    have hu : usedP 6 = [1, 0, 2, 3, 4] := rfl
    rw [hu]
    have hsg := seg_of_row .i64 w [1, 0, 2, 3, 4] 3 (by decide)
    clear hu
    go_enter Try.func49, Try.ntmps49
    go_wp2
    all_goals (go_ret; exact ⟨_, rfl, hsg, hal _, own_here _ _ _⟩)
  by_cases h7 : k = 7
  · subst h7
    have hu : usedP 7 = [1, 0, 2, 3, 4] := rfl
    rw [hu]
    have hsg := seg_of_row .i64 w [1, 0, 2, 3, 4] 3 (by decide)
    clear hu
    go_enter Try.func49, Try.ntmps49
    go_wp2
    all_goals (go_ret; exact ⟨_, rfl, hsg, hal _, own_here _ _ _⟩)
  have hu : usedP k = [] := by simp [usedP, h1, h2, h3, h4, h5, h6, h7, h8]
  rw [hu]
  go_enter Try.func49, Try.ntmps49
  go_wp2
  all_goals (go_ret; exact ⟨_, rfl, Seg.nil _ _, Below.refl _ _, fun b hb => by simp [Value.ownBlock] at hb⟩)

theorem textI_len (l : List Int) (p : Int) : (Pl.textI l p 1024).1.length ≤ 1024 := by
  unfold Pl.textI
  repeat' split
  · simp
  · simp
  · rw [List.length_take]; omega
  · simp
theorem decFs_text {l r t t2 ns : List Int} {p q : Int} (h : Pl.textI l p 1024 = (t2, q, 0)) : decFs l (10 :: r) p ns t = decFs l r q ns t2 := by
  rw [decFs, if_pos rfl, h]
  rfl
theorem decFs_textE {l r t t2 ns : List Int} {p q er : Int} (h : Pl.textI l p 1024 = (t2, q, er)) (h0 : er ≠ 0) : decFs l (10 :: r) p ns t = (ns, t, p, er) := by
  rw [decFs, if_pos rfl, h]
  simp only
  rw [if_neg h0]
theorem decFs_num {l r t ns : List Int} {p q m : Int} {j : Nat} (hj : (j : Int) ≠ 10) (h : Pl.getI l p = (m, q, 0)) (hm : m ≤ 2147483647) : decFs l ((j : Int) :: r) p ns t = decFs l r q (ns.set j m) t := by
  rw [decFs, if_neg hj, h]
  simp only
  rw [if_pos trivial, if_pos hm]
  rfl
theorem decFs_numB {l r t ns : List Int} {p q m : Int} {j : Nat} (hj : (j : Int) ≠ 10) (h : Pl.getI l p = (m, q, 0)) (hm : ¬ m ≤ 2147483647) : decFs l ((j : Int) :: r) p ns t = (ns, t, p, 4) := by
  rw [decFs, if_neg hj, h]
  simp only
  rw [if_pos trivial, if_neg hm]
theorem decFs_numE {l r t ns : List Int} {p q m er : Int} {j : Nat} (hj : (j : Int) ≠ 10) (h : Pl.getI l p = (m, q, er)) (h0 : er ≠ 0) : decFs l ((j : Int) :: r) p ns t = (ns, t, p, er) := by
  rw [decFs, if_neg hj, h]
  simp only
  rw [if_neg h0]
theorem drop_cons {l : List Int} {k : Nat} (h : k < l.length) : l.drop k = l.getD k 0 :: l.drop (k + 1) := by
  rw [List.drop_eq_getElem_cons h, getD_at h]
end Go.Proofs.Ytoadcaennlfadaa

namespace Go.Proofs.Ytoadcaennlfadaa
open Go.RowKit
set_option maxRecDepth 20000

def zmg : Mg := ⟨0, 0, 0, 0, 0, 0, 0, 0, 0, 0, 0⟩
theorem mg_nums (k : Int) {ns : List Int} (h : ns.length = 10) : (mgOf k ns).nums = ns := by
  match ns, h with
  | [a, b, c, d, e, f, g, i, j, m], _ => rfl

/-- A message stored into a box. -/
def putMsg (w : World) (b : Nat) (x : Mg) (v : Value) : World :=
  (((((((((((w.setCell ⟨b, 0, none⟩ (.int .i64 x.k)).setCell ⟨b, 1, none⟩ (.int .i64 x.c)).setCell ⟨b, 2, none⟩ (.int .i64 x.b)).setCell ⟨b, 3, none⟩ (.int .i64 x.i)).setCell ⟨b, 4, none⟩ (.int .i64 x.s)).setCell ⟨b, 5, none⟩ (.int .i64 x.q)).setCell ⟨b, 6, none⟩ (.int .i64 x.m)).setCell ⟨b, 7, none⟩ (.int .i64 x.n)).setCell ⟨b, 8, none⟩ (.int .i64 x.l)).setCell ⟨b, 9, none⟩ (.int .i64 x.o)).setCell ⟨b, 10, none⟩ (.int .i64 x.p)).setCell ⟨b, 11, none⟩ v
theorem putMsg_box {w : World} {b : Nat} {x y : Mg} {v u : Value} (h : MBx w b y u) : MBx (putMsg w b x v) b x v := by
  have := (((((((((((h.set 0 (.int .i64 x.k)).set 1 (.int .i64 x.c)).set 2 (.int .i64 x.b)).set 3 (.int .i64 x.i)).set 4 (.int .i64 x.s)).set 5 (.int .i64 x.q)).set 6 (.int .i64 x.m)).set 7 (.int .i64 x.n)).set 8 (.int .i64 x.l)).set 9 (.int .i64 x.o)).set 10 (.int .i64 x.p)).set 11 v
  exact this
theorem putMsg_ch {w : World} {b : Nat} {x y : Mg} {v u : Value} (h : MBx w b y u) : Ch (Xn b) w (putMsg w b x v) := by
  have c0 := Ch.set (X := Xn b) (k := 0) h rfl (.int .i64 x.k)
  have h0 := Bx.set h 0 (.int .i64 x.k)
  have c1 := Ch.set (X := Xn b) (k := 1) h0 rfl (.int .i64 x.c)
  have h1 := h0.set 1 (.int .i64 x.c)
  have c2 := Ch.set (X := Xn b) (k := 2) h1 rfl (.int .i64 x.b)
  have h2 := h1.set 2 (.int .i64 x.b)
  have c3 := Ch.set (X := Xn b) (k := 3) h2 rfl (.int .i64 x.i)
  have h3 := h2.set 3 (.int .i64 x.i)
  have c4 := Ch.set (X := Xn b) (k := 4) h3 rfl (.int .i64 x.s)
  have h4 := h3.set 4 (.int .i64 x.s)
  have c5 := Ch.set (X := Xn b) (k := 5) h4 rfl (.int .i64 x.q)
  have h5 := h4.set 5 (.int .i64 x.q)
  have c6 := Ch.set (X := Xn b) (k := 6) h5 rfl (.int .i64 x.m)
  have h6 := h5.set 6 (.int .i64 x.m)
  have c7 := Ch.set (X := Xn b) (k := 7) h6 rfl (.int .i64 x.n)
  have h7 := h6.set 7 (.int .i64 x.n)
  have c8 := Ch.set (X := Xn b) (k := 8) h7 rfl (.int .i64 x.l)
  have h8 := h7.set 8 (.int .i64 x.l)
  have c9 := Ch.set (X := Xn b) (k := 9) h8 rfl (.int .i64 x.o)
  have h9 := h8.set 9 (.int .i64 x.o)
  have c10 := Ch.set (X := Xn b) (k := 10) h9 rfl (.int .i64 x.p)
  have h10 := h9.set 10 (.int .i64 x.p)
  have c11 := Ch.set (X := Xn b) (k := 11) h10 rfl v
  have h11 := h10.set 11 v
  exact (((((((((((c0.trans c1).trans c2).trans c3).trans c4).trans c5).trans c6).trans c7).trans c8).trans c9).trans c10).trans c11)

set_option maxHeartbeats 8000000 in
theorem takeMessage_any (n : Nat) (bv : Value) (l : List Int) (w : World) (h : Rdg w n bv l 0) (ho : ∀ z ∈ l, 0 ≤ z ∧ z ≤ 255) (hlen : l.length ≤ 140737488355328) :
    Calls Try.prog 35 #[.pointer (some ⟨n, 0, none⟩)] w fun e w' => Ch (Xn n) w w' ∧ ((tkm l).2 ≠ 0 ∧ e = .panicked (errp (tkm l).2) ∨ (tkm l).2 = 0 ∧ ∃ tv, e = .returned ((mgOf (tkm l).1.1 (tkm l).1.2.1).val tv) ∧ Rdg w' n bv l (tkm l).1.2.2.2 ∧ w'.ownsRow w.heap.size 5 1 tv (tkm l).1.2.2.1.length (u8s (tkm l).1.2.2.1)) := by
  obtain ⟨kd, q0, er0, hg⟩ : ∃ kd q0 er0, Pl.getI l 0 = (kd, q0, er0) := ⟨_, _, _, rfl⟩
  have HT0 : Hid (tkm l = if er0 = 0 then (if 1 ≤ kd ∧ kd ≤ 8 then ((kd, (decFs l (usedP kd) q0 zeros []).1, (decFs l (usedP kd) q0 zeros []).2.1, (decFs l (usedP kd) q0 zeros []).2.2.1), (decFs l (usedP kd) q0 zeros []).2.2.2) else ((0, [], [], 0), 23)) else ((0, [], [], 0), er0)) := by
    show tkm l = _
    unfold tkm
    rw [hg]
  generalize tkm l = TK at *
  have hal : Below w.heap.size w (w.alloc (.cells ⟨zmg.cells (.slice none 0 0)⟩ 24)) := (Below.refl _ w).alloc (Nat.le_refl _) _
  have RB0 : MBx (w.alloc (.cells ⟨zmg.cells (.slice none 0 0)⟩ 24)) w.heap.size zmg (.slice none 0 0) := Bx.new _ _ _
  have hta := takeNumber_any n bv l 0 kd q0 er0 _ (h.below hal) ho (by omega) (by omega) hg
  have hnw := h.box.lt
  have HRD := hid h
  have HG := hid hg
  clear h hg
  simp only [Mg.cells, zmg] at hta
  by_cases h0 : er0 = 0
  · subst h0
    obtain ⟨_, k0, k1, q1, q2, _⟩ := Pl.getI_ok l 0 kd q0 ho HG.out
    by_cases hk : 1 ≤ kd ∧ kd ≤ 8
    · have HT : Hid (TK = ((kd, (decFs l (usedP kd) q0 zeros []).1, (decFs l (usedP kd) q0 zeros []).2.1, (decFs l (usedP kd) q0 zeros []).2.2.1), (decFs l (usedP kd) q0 zeros []).2.2.2)) := by
        show TK = _
        rw [HT0.out, if_pos rfl, if_pos hk]
      clear HT0
      obtain ⟨hk1, hk8⟩ := hk
      have hnt := mneed_true 23
      go_enter Try.func35, Try.ntmps35
      go_wp2_with fail
      refine hta.mono ?_
      rintro e w2 ⟨hc2, ⟨hx, _⟩ | ⟨_, rfl, R2⟩⟩
      · exact absurd rfl hx
      clear hta
      have RB2 : MBx w2 w.heap.size zmg (.slice none 0 0) := Bx.ch RB0 hc2 (fun e => by simp [Xn] at e; omega)
      have HC2 := hid (show Ch (Xw w n) w w2 from (Ch.below hal).trans (hc2.mono Xw.n))
      have hlt2 := RB2.lt
      go_wp2_with fail
      refine (hnt _).mono ?_
      rintro e w2' ⟨rfl, h22⟩
      subst w2'
      clear hal RB0 hc2
      have hal3 : Below w2.heap.size w2 (w2.alloc (.cells ⟨zeros.map (Value.int .i64)⟩ 83)) := (Below.refl _ w2).alloc (Nat.le_refl _) _
      have NB3 := Bx.new w2 (zeros.map (Value.int .i64)) 83
      have R3 := R2.below hal3
      have RB3 := RB2.below hal3
      have HC3 := hid (HC2.out.trans (Ch.below hal3))
      have hu := usedBy_own kd (w2.alloc (.cells ⟨zeros.map (Value.int .i64)⟩ 83))
      have hwk : IntKind.i64.wrap kd = kd := by simp [IntKind.wrap, IntKind.signed, IntKind.bits]; omega
      go_wp2_with fail
      refine hu.mono ?_
      rintro e w4 ⟨u, rfl, su, b4, hou⟩
      have R4 := R3.below b4
      have RB4 := RB3.below b4
      have NB4 := NB3.below b4
      have HC4 := hid (HC3.out.trans (Ch.below b4))
      have hsz4 : w2.heap.size + 1 ≤ w4.heap.size := by have := b4.size; simpa using this
      have hlb : w.heap.size < w2.heap.size := hlt2
      have hown0 : w4.ownsRow w4.heap.size 5 1 (.slice none 0 0) ([] : List Int).length (u8s []) := World.ownsRow_nil _ _ _ _
      have TK0 : Hid (Tk w4 w4 n w2.heap.size bv l q0 zeros [] (.slice none 0 0)) := ⟨Ch.refl _ _, R4, NB4, rfl, hown0, by omega, by omega⟩
      have hbv : Hid (0 < l.length → ∀ b, bv.ownBlock = some b → b < w.heap.size) := fun h => HRD.out.seg.lt h
      have hub : Hid (∀ b (T : TypeId), u.ownBlock = some b → ¬ Xr n w2.heap.size b T) := fun b T hb hX => by
        have := hou b hb
        simp at this
        rcases hX with hX | hX <;> omega
      clear hu hou b4 R3 RB3 NB3 HC3 hal3 R2 RB2 HC2 R4 NB4 hown0 hlt2 HG
      generalize w2.heap.size = nb at *
      have SU := hid su
      obtain ⟨ua, ucap, rfl, u1, u2, p3, p4⟩ := id su
      unfold maxLen at u2
      obtain ⟨UL, hUL⟩ : ∃ UL, UL = (usedP kd).length := ⟨_, rfl⟩
      have HUL := hid hUL
      rw [← hUL] at u1 ⊢
      clear hUL su p3 p4
      go_wp2_with fail
      go_loopw [5, 22] (fun a i wr => ∃ (k : Nat) (p : Int) (ns t : List Int), k ≤ UL ∧ i = .int .i64 k ∧ Hid (Tk w4 wr n nb bv l p ns t a) ∧ Hid (decFs l ((usedP kd).drop k) p ns t = decFs l (usedP kd) q0 zeros [])) (fun _ i _ => UL - (intOf i).toNat)
      case atStart => exact ⟨0, q0, zeros, [], Nat.zero_le _, rfl, TK0, by simp [Hid]⟩
      case round =>
        obtain ⟨k, p, ns, t, hk, rfl, hTK, hDE⟩ := hrel
        clear TK0
        by_cases hlt : k < UL
        · have sur := SU.out.ch hTK.out.ch hub.out
          obtain ⟨ua', ucap', hv, _, _, p3, p4⟩ := sur
          simp only [Value.slice.injEq] at hv
          obtain ⟨rfl, _, rfl⟩ := hv
          obtain ⟨g, off, rfl, hg, hcell⟩ := seg_at (l := usedP kd) (by have := HUL.out; omega) p3 p4
          have Q := hcell k (by have := HUL.out; omega)
          have hm := used_mem kd _ (getD_mem (l := usedP kd) (i := k) (by have := HUL.out; omega))
          have HDC := hid (drop_cons (l := usedP kd) (k := k) (by have := HUL.out; omega))
          clear p3 p4 hcell SU
          generalize hF : (usedP kd).getD k 0 = f at *
          clear hF
          have hR := hTK.out.rdg
          have hp0 := hTK.out.p0
          have hp1 := hTK.out.p1
          have hcw : Hid (Ch (Xn n) w wr) := (HC4.out.trans (hTK.out.ch.mono (Xw.r (by omega)))).shrink
          by_cases h10 : f = 10
          · subst h10
            obtain ⟨t2, q, er, htx⟩ : ∃ t2 q er, Pl.textI l p 1024 = (t2, q, er) := ⟨_, _, _, rfl⟩
            have htl : t2.length ≤ 1024 := by have := textI_len l p; rw [htx] at this; exact this
            have hte := takeText_any n bv l t2 p q er wr hR ho hlen hp0 hp1 htx htl
            by_cases he : er = 0
            · subst he
              obtain ⟨x1, x2, _, _, _, _⟩ := textI_ok ho htx
              have HD2 : Hid (decFs l ((usedP kd).drop (k + 1)) q ns t2 = decFs l (usedP kd) q0 zeros []) := by
                show _ = _
                rw [← hDE.out, HDC.out, decFs_text htx]
              clear hDE HDC
              go_wp2_with fail
              refine hte.mono ?_
              rintro e w5 ⟨hc5, ⟨hx, _⟩ | ⟨_, tv, rfl, R5, O5⟩⟩
              · exact absurd rfl hx
              have hT5 : Hid (Tk w4 w5 n nb bv l q ns t2 tv) := hTK.out.text (by omega) hc5 R5 O5 (by omega) x2
              obtain ⟨a5, c5, rfl⟩ := own_shape8 O5
              clear hte O5 R5 hTK hR hc5 hcw
              go_wp2
              go_roundw
              case rel => exact ⟨k + 1, q, ns, t2, by omega, by go_num, hT5, HD2⟩
              case measure => simp [intOf]; omega
            · have HE : Hid (TK.2 = er) := by
                show TK.2 = er
                rw [HT.out, ← hDE.out, HDC.out, decFs_textE htx he]
              clear hDE HDC
              go_wp2_with fail
              refine hte.mono ?_
              rintro e w5 ⟨hc5, ⟨_, rfl⟩ | ⟨hx, _⟩⟩
              · exact ⟨rfl, hcw.out.trans hc5, .inl (by rw [HE.out]; exact ⟨he, rfl⟩)⟩
              · exact absurd hx he
          · obtain ⟨j, rfl⟩ : ∃ j : Nat, f = (j : Int) := ⟨f.toNat, by omega⟩
            have hj : j < 10 := by omega
            have hbe : ((j : Int) == 10) = false := by simp; omega
            obtain ⟨m, q, er, hgx⟩ : ∃ m q er, Pl.getI l p = (m, q, er) := ⟨_, _, _, rfl⟩
            have hte := takeNumber_any n bv l p m q er wr hR ho hp0 hp1 hgx
            by_cases he : er = 0
            · subst he
              obtain ⟨_, m0, m1, x1, x2, _⟩ := Pl.getI_ok l p m q ho hgx
              by_cases hmx : m ≤ 2147483647
              · have HD2 : Hid (decFs l ((usedP kd).drop (k + 1)) q (ns.set j m) t = decFs l (usedP kd) q0 zeros []) := by
                  show _ = _
                  rw [← hDE.out, HDC.out, decFs_num h10 hgx hmx]
                have hn4 := mneed_true 4
                have hwm : IntKind.i64.wrap m = m := by simp [IntKind.wrap, IntKind.signed, IntKind.bits]; omega
                clear hDE HDC
                go_wp2_with fail
                refine hte.mono ?_
                rintro e w5 ⟨hc5, ⟨hx, _⟩ | ⟨_, rfl, R5⟩⟩
                · exact absurd rfl hx
                clear hte
                go_wp2_with fail
                refine (hn4 _).mono ?_
                rintro e w6 ⟨rfl, h66⟩
                subst w6
                have NB5 := hTK.out.box.ch hc5 (fun e => by simp [Xn] at e; omega)
                have hfz := NB5.frozen
                have hltn := NB5.lt
                have hcj := NB5.cell j (u := .int .i64 (ns.getD j 0)) (by have hl := hTK.out.len; rw [List.getElem?_map, List.getElem?_eq_getElem (by omega)]; simp [List.getD, hl, hj])
                have hT5 : Hid (Tk w4 (w5.setCell ⟨nb, j, none⟩ (.int .i64 m)) n nb bv l q (ns.set j m) t u5) := hTK.out.number (by omega) (by omega) (by omega) hc5 R5 (by omega) x2 j (fun hl hb => by have := hbv.out hl _ hb; omega)
                clear hR R5 hTK hc5 hcw
                go_wp2
                exact ⟨⟨k + 1, q, ns.set j m, t, by omega, by go_num, hT5, HD2⟩, by simp [intOf]; omega⟩
              · have HE : Hid (TK.2 = 4) := by
                  show TK.2 = 4
                  rw [HT.out, ← hDE.out, HDC.out, decFs_numB h10 hgx hmx]
                have hn4 := mneed_false 4
                have hdm : decide (m ≤ 2147483647) = false := by simp; omega
                clear hDE HDC
                go_wp2_with fail
                refine hte.mono ?_
                rintro e w5 ⟨hc5, ⟨hx, _⟩ | ⟨_, rfl, R5⟩⟩
                · exact absurd rfl hx
                clear hte
                go_wp2_with fail
                refine (hn4 _).mono ?_
                rintro e w6 ⟨rfl, h66⟩
                subst w6
                exact ⟨rfl, hcw.out.trans hc5, .inl (by rw [HE.out]; exact ⟨by decide, rfl⟩)⟩
            · have HE : Hid (TK.2 = er) := by
                show TK.2 = er
                rw [HT.out, ← hDE.out, HDC.out, decFs_numE h10 hgx he]
              clear hDE HDC
              go_wp2_with fail
              refine hte.mono ?_
              rintro e w5 ⟨hc5, ⟨_, rfl⟩ | ⟨hx, _⟩⟩
              · exact ⟨rfl, hcw.out.trans hc5, .inl (by rw [HE.out]; exact ⟨he, rfl⟩)⟩
              · exact absurd hx he
        · have hke : (usedP kd).drop k = [] := List.drop_eq_nil_of_le (by have := HUL.out; omega)
          have HTK : Hid (TK = ((kd, ns, t, p), 0)) := by
            show TK = _
            rw [HT.out, ← hDE.out, hke]
            rfl
          clear HT hDE hke
          obtain ⟨a5, c5, rfl⟩ := own_shape8 hTK.out.own
          obtain ⟨y0, y1, y2, y3, y4, y5, y6, y7, y8, y9, rfl⟩ : ∃ y0 y1 y2 y3 y4 y5 y6 y7 y8 y9, ns = [y0, y1, y2, y3, y4, y5, y6, y7, y8, y9] := by
            have := hTK.out.len
            match ns, this with
            | [a, b, c, d, e, f, g, i, j, m], _ => exact ⟨_, _, _, _, _, _, _, _, _, _, rfl⟩
          have NB := hTK.out.box
          have d0 := NB.cell 0 rfl
          have d1 := NB.cell 1 rfl
          have d2 := NB.cell 2 rfl
          have d3 := NB.cell 3 rfl
          have d4 := NB.cell 4 rfl
          have d5 := NB.cell 5 rfl
          have d6 := NB.cell 6 rfl
          have d7 := NB.cell 7 rfl
          have d8 := NB.cell 8 rfl
          have d9 := NB.cell 9 rfl
          have hms := message_any ⟨kd, y0, y1, y2, y3, y4, y5, y6, y7, y8, y9⟩ a5 t.length c5 wr
          go_wp2_with fail
          refine hms.mono ?_
          rintro e w6 ⟨rfl, b6⟩
          clear hms d0 d1 d2 d3 d4 d5 d6 d7 d8 d9 NB
          have RB5 : MBx wr w.heap.size zmg (.slice none 0 0) := Bx.ch RB4 hTK.out.ch (fun e => by rcases e with e | e <;> omega)
          have RB6 := RB5.below b6
          obtain ⟨r0, r1, r2, r3, r4, r5, r6, r7, r8, r9, r10, r11⟩ := RB6.facts
          have rf := Bx.frozen RB6
          have rl := RB6.lt
          unfold Mg.val
          go_wp2_with fail
          have hpc := putMsg_ch (x := ⟨kd, y0, y1, y2, y3, y4, y5, y6, y7, y8, y9⟩) (v := .slice a5 t.length c5) RB6
          have hfin : Ch (Xn n) w (putMsg w6 w.heap.size ⟨kd, y0, y1, y2, y3, y4, y5, y6, y7, y8, y9⟩ (.slice a5 t.length c5)) :=
            (((HC4.out.trans (hTK.out.ch.mono (Xw.r (by omega)))).trans (Ch.below b6)).trans (hpc.mono (fun g T e => .inr (by simp [Xn] at e; omega)))).shrink
          have R6 := hTK.out.rdg.below b6
          have R7 : Rdg (putMsg w6 w.heap.size ⟨kd, y0, y1, y2, y3, y4, y5, y6, y7, y8, y9⟩ (.slice a5 t.length c5)) n bv l p := ⟨R6.box.ch hpc (fun e => by simp [Xn] at e; omega), R6.seg.other hpc (fun hl hb => by have := hbv.out hl _ hb; omega), R6.apart⟩
          have O6 := ownsRow_below hTK.out.own b6
          have O7 := O6.kept hpc.grownBy (.inr fun he => by have := (O6.lt _ he).1; omega)
          have O8 := ownsRow_lower (C := w.heap.size) O7 (by omega)
          have hbx := putMsg_box (x := ⟨kd, y0, y1, y2, y3, y4, y5, y6, y7, y8, y9⟩) (v := .slice a5 t.length c5) RB6
          clear hpc R6 O6 O7 RB6 RB5 r0 r1 r2 r3 r4 r5 r6 r7 r8 r9 r10 r11 rf hTK
          generalize hW : putMsg w6 w.heap.size ⟨kd, y0, y1, y2, y3, y4, y5, y6, y7, y8, y9⟩ (.slice a5 t.length c5) = W at *
          simp only [putMsg] at hW
          rw [hW]
          refine bodyPost_ret (ret_take (b := w.heap.size) (x := ⟨kd, y0, y1, y2, y3, y4, y5, y6, y7, y8, y9⟩) (v := .slice a5 t.length c5) rfl hbx) rfl ?_
          rw [HTK.out]
          exact ⟨hfin, .inr ⟨rfl, _, rfl, R7, O8⟩⟩
    · have HE : Hid (TK.2 = 23) := by
        show TK.2 = 23
        rw [HT0.out, if_pos rfl, if_neg hk]
      have hnf := mneed_false 23
      clear HT0
      by_cases hk1 : 1 ≤ kd
      · have hk8 : ¬ kd ≤ 8 := fun h => hk ⟨hk1, h⟩
        have hdm : decide (kd ≤ 8) = false := by simp; omega
        clear hk
        go_enter Try.func35, Try.ntmps35
        go_wp2_with fail
        refine hta.mono ?_
        rintro e w2 ⟨hc2, ⟨hx, _⟩ | ⟨_, rfl, R2⟩⟩
        · exact absurd rfl hx
        clear hta
        have HC2 := hid ((show Ch (Xw w n) w w2 from (Ch.below hal).trans (hc2.mono Xw.n)).shrink)
        go_wp2_with fail
        refine (hnf _).mono ?_
        rintro e w3 ⟨rfl, h33⟩
        subst w3
        exact ⟨rfl, HC2.out, .inl (by rw [HE.out]; exact ⟨by decide, rfl⟩)⟩
      · have hdm : decide (1 ≤ kd) = false := by simp; omega
        clear hk
        go_enter Try.func35, Try.ntmps35
        go_wp2_with fail
        refine hta.mono ?_
        rintro e w2 ⟨hc2, ⟨hx, _⟩ | ⟨_, rfl, R2⟩⟩
        · exact absurd rfl hx
        clear hta
        have HC2 := hid ((show Ch (Xw w n) w w2 from (Ch.below hal).trans (hc2.mono Xw.n)).shrink)
        go_wp2_with fail
        refine (hnf _).mono ?_
        rintro e w3 ⟨rfl, h33⟩
        subst w3
        exact ⟨rfl, HC2.out, .inl (by rw [HE.out]; exact ⟨by decide, rfl⟩)⟩
  · have HE : Hid (TK.2 = er0) := by
      show TK.2 = er0
      rw [HT0.out, if_neg h0]
    clear HT0
    go_enter Try.func35, Try.ntmps35
    go_wp2_with fail
    refine hta.mono ?_
    rintro e w2 ⟨hc2, ⟨_, rfl⟩ | ⟨hx, _⟩⟩
    · have HC2 := ((show Ch (Xw w n) w w2 from (Ch.below hal).trans (hc2.mono Xw.n)).shrink)
      exact ⟨rfl, HC2, .inl (by rw [HE.out]; exact ⟨h0, rfl⟩)⟩
    · exact absurd hx h0
end Go.Proofs.Ytoadcaennlfadaa

namespace Go.Proofs.Ytoadcaennlfadaa
open Go.RowKit
set_option maxRecDepth 20000

/-- What Decode tells: the numbers, the text, the error. -/
def dcm (l : List Int) : Mg × List Int × Int :=
  if (tkm l).2 = 0 then (if (tkm l).1.2.2.2 = l.length then (mgOf (tkm l).1.1 (tkm l).1.2.1, (tkm l).1.2.2.1, 0) else (zmg, [], 22)) else (zmg, [], (tkm l).2)

theorem Ch.toBelow {X : Nat → TypeId → Prop} {B : Nat} {w w1 w2 : World} (h : Ch X w1 w2) (hb : Below B w w1) (hB : B ≤ w.heap.size) (hX : ∀ g T, X g T → B ≤ g) : Below B w w2 :=
  ⟨h.os.trans hb.os, h.tape.trans hb.tape, h.output.trans hb.output, Nat.le_trans hb.size h.size, fun k hk => by
    have h1 := hb.block k hk
    obtain ⟨o, ho⟩ : ∃ o, w.heap[k]? = some o := ⟨w.heap[k]'(by omega), by simp⟩
    rw [ho] at h1 ⊢
    exact h.block k o h1 (fun _ T _ _ hx => by have := hX k T hx; omega)⟩

set_option maxHeartbeats 8000000 in
theorem decode1_any (bo bm : Nat) (bv : Value) (l : List Int) (w : World) (hO : Bx w bo [bv] 22) (hM : MBx w bm zmg (.slice none 0 0)) (hs : Seg .u8 w bv l) (ho : ∀ z ∈ l, 0 ≤ z ∧ z ≤ 255) (hlen : l.length ≤ 140737488355328) :
    Calls Try.prog 34 #[.pointer (some ⟨bo, 0, none⟩), .pointer (some ⟨bm, 0, none⟩)] w fun e w' => Ch (Xn bm) w w' ∧ ((dcm l).2.2 ≠ 0 ∧ e = .panicked (errp (dcm l).2.2) ∧ MBx w' bm zmg (.slice none 0 0) ∨ (dcm l).2.2 = 0 ∧ e = .returned (.tuple #[]) ∧ ∃ tv, MBx w' bm (dcm l).1 tv ∧ w'.ownsRow w.heap.size 5 1 tv (dcm l).2.1.length (u8s (dcm l).2.1)) := by
  have c0 := hO.cell 0 rfl
  have hbl := hO.lt
  obtain ⟨a, cap, rfl, h1, h2, h3, h4⟩ := id hs
  unfold maxLen at h2
  obtain ⟨N, hN⟩ : ∃ N, N = l.length := ⟨_, rfl⟩
  have HN := hid hN
  have hal : Below w.heap.size w (w.alloc (.cells #[.slice a l.length cap, .int .i64 0] 66)) := (Below.refl _ w).alloc (Nat.le_refl _) _
  have hRd : Rdg (w.alloc (.cells #[.slice a l.length cap, .int .i64 0] 66)) w.heap.size (.slice a l.length cap) l 0 := ⟨Bx.new _ _ _, hs.below hal, fun hl hb => by have := hs.lt hl _ hb; omega⟩
  have htm := takeMessage_any w.heap.size _ l _ hRd ho hlen
  obtain ⟨kd, ns, t, p, er, htk⟩ : ∃ kd ns t p er, tkm l = ((kd, ns, t, p), er) := ⟨_, _, _, _, _, rfl⟩
  rw [htk] at htm
  have HD : Hid (dcm l = if er = 0 then (if p = (N : Int) then (mgOf kd ns, t, 0) else (zmg, [], 22)) else (zmg, [], er)) := by
    show dcm l = _
    unfold dcm
    rw [htk, hN]
  generalize dcm l = DC at *
  rw [← hN] at htm h1 hRd hal c0 hO hs
  clear htk hN h3 h4 hRd
  have hsz : (w.alloc (.cells #[.slice a N cap, .int .i64 0] 66)).heap.size = w.heap.size + 1 := by simp
  have hO1 := hO.below hal
  have hM1 := hM.below hal
  by_cases h0 : er = 0
  · subst h0
    simp only at htm
    generalize mgOf kd ns = x at *
    have hnt := mneed_true 22
    have hnf := mneed_false 22
    have hset : ∀ (W : World), MBx W bm zmg (.slice none 0 0) → ∀ k, W.frozen? ⟨bm, k, none⟩ = false := fun W h => Bx.frozen h
    go_enter Try.func34, Try.ntmps34
    go_wp2_with fail
    refine htm.mono ?_
    rintro e w2 ⟨hc2, ⟨hx, _⟩ | ⟨_, tv, rfl, R2, O2⟩⟩
    · exact absurd rfl hx
    clear htm
    have hb2 := hc2.toBelow hal (Nat.le_refl _) (fun g T e => by simp [Xn] at e; omega)
    obtain ⟨a5, c5, rfl⟩ := own_shape8 O2
    have d1 := R2.box.cell 1 rfl
    have dl := R2.box.lt
    have e0 := (hO.below hb2).cell 0 rfl
    have el := (hO.below hb2).lt
    have hM2 := hM.below hb2
    have TB := Bx.new w2 (x.cells (.slice a5 t.length c5)) 24
    have hal2 : Below w2.heap.size w2 (w2.alloc (.cells ⟨x.cells (.slice a5 t.length c5)⟩ 24)) := (Below.refl _ w2).alloc (Nat.le_refl _) _
    have hM3 := hM2.below hal2
    have HB3 := hid (hb2.trans (hal2.mono hb2.size))
    have HO3 := hid (ownsRow_below O2 hal2)
    have htl : (w2.alloc (.cells ⟨x.cells (.slice a5 t.length c5)⟩ 24)).heap.size = w2.heap.size + 1 := by simp
    simp only [Mg.cells] at TB hM3 HB3 HO3 htl
    unfold Mg.val
    clear hO1 hM1 hsz hc2 R2 O2 hal2
    by_cases hp : p = (N : Int)
    · have HDC : Hid (DC = (x, t, 0)) := by
        show DC = _
        rw [HD.out, if_pos trivial, if_pos hp]
      have hpe : (p == (N : Int)) = true := by simp [hp]
      clear hp HD
      go_wp2_with fail
      refine (hnt _).mono ?_
      rintro e w4 ⟨rfl, h44⟩
      rw [← h44] at TB hM3 HB3 HO3 htl
      clear h44
      have hMB : MBx w4 w2.heap.size x (.slice a5 t.length c5) := TB
      obtain ⟨r0, r1, r2, r3, r4, r5, r6, r7, r8, r9, r10, r11⟩ := hMB.facts
      obtain ⟨s0, s1, s2, s3, s4, s5, s6, s7, s8, s9, s10, s11⟩ := (show MBx w4 bm zmg (.slice none 0 0) from hM3).facts
      have sf := hset w4 hM3
      have sl := MBx.lt hM3
      clear hset
      go_wp2_with fail
      have hpc := putMsg_ch (x := x) (v := .slice a5 t.length c5) hM3
      have hbx := putMsg_box (x := x) (v := .slice a5 t.length c5) hM3
      have hfin : Ch (Xn bm) w (putMsg w4 bm x (.slice a5 t.length c5)) := (Ch.below HB3.out).trans hpc
      have hbm := hM.lt
      have O4 := HO3.out.kept hpc.grownBy (.inr fun he => by have := (HO3.out.lt _ he).1; simp at this; omega)
      have O5 := ownsRow_lower (C := w.heap.size) O4 (by simp)
      clear hpc O4 hMB hM3 TB
      generalize hW : putMsg w4 bm x (.slice a5 t.length c5) = W at *
      simp only [putMsg] at hW
      rw [hW]
      go_end0
      rw [HDC.out]
      exact ⟨hfin, .inr ⟨rfl, rfl, _, hbx, O5⟩⟩
    · have HE : Hid (DC.2.2 = 22) := by
        show DC.2.2 = 22
        rw [HD.out, if_pos trivial, if_neg hp]
      have hpe : (p == (N : Int)) = false := by simp [hp]
      clear HD
      go_wp2_with fail
      refine (hnf _).mono ?_
      rintro e w4 ⟨rfl, h44⟩
      rw [← h44] at hM3 HB3
      exact ⟨rfl, Ch.below HB3.out, .inl (by rw [HE.out]; exact ⟨by decide, rfl, hM3⟩)⟩
  · have HE : Hid (DC.2.2 = er) := by
      show DC.2.2 = er
      rw [HD.out, if_neg h0]
    go_enter Try.func34, Try.ntmps34
    go_wp2_with fail
    refine htm.mono ?_
    rintro e w2 ⟨hc2, ⟨_, rfl⟩ | ⟨hx, _⟩⟩
    · have hb2 := hc2.toBelow hal (Nat.le_refl _) (fun g T e => by simp [Xn] at e; omega)
      exact ⟨rfl, Ch.below hb2, .inl (by rw [HE.out]; exact ⟨h0, rfl, hM.below hb2⟩)⟩
    · exact absurd hx h0

theorem ret_dec {W : World} {tmps : Array Value} {b : Nat} {x : Mg} {v q : Value} (ht : tmps.getD 2 undef = .pointer (some ⟨b, 0, none⟩)) (hq : tmps.getD 3 undef = q) (hB : MBx W b x v) :
    (results Try.f12 tmps).run Try.prog W = .ok (.tuple #[x.val v, q]) W := by
  rw [Array.getD_eq_getD_getElem?] at ht hq
  obtain ⟨c0, c1, c2, c3, c4, c5, c6, c7, c8, c9, c10, c11⟩ := hB.facts
  simp [results, Try.results12, Mg.val]
  go_simp

theorem dcm_bad {l : List Int} (h : (dcm l).2.2 ≠ 0) : dcm l = (zmg, [], (dcm l).2.2) := by
  unfold dcm at h ⊢
  split
  · rename_i h1
    rw [if_pos h1] at h
    split
    · rename_i h2
      rw [if_pos h2] at h
      exact absurd rfl h
    · rfl
  · rfl

theorem caught_leaf {W V : World} {bm : Nat} {mg : Mg} {tv : Value} {xs : List Value} {n : Nat} (u : Value) (hlt : bm < W.heap.size) (hc : Ch (Xn bm) (W.alloc (.cells #[.int .i64 0] 26)) V) (hB : Bx V W.heap.size [.int .i64 0] 26) (hM : MBx V bm mg tv) (hO : V.ownsRow (W.alloc (.cells #[.int .i64 0] 26)).heap.size 5 1 tv n xs) :
    Ch (Xn bm) W (V.setCell ⟨W.heap.size, 0, none⟩ u) ∧ MBx (V.setCell ⟨W.heap.size, 0, none⟩ u) bm mg tv ∧ (V.setCell ⟨W.heap.size, 0, none⟩ u).ownsRow W.heap.size 5 1 tv n xs := by
  have hal : Below W.heap.size W (W.alloc (.cells #[.int .i64 0] 26)) := (Below.refl _ W).alloc (Nat.le_refl _) _
  refine ⟨(((Ch.below hal).trans (hc.mono Xw.n)).trans (Ch.set hB (.inr (Nat.le_refl _)) _)).shrink, Bx.other hM (by omega) _, ownsRow_lower (ownsRow_setCell_other hO (fun he => by have := (hO.lt _ he).1; simp at this; omega) _) (by simp)⟩

theorem mcaught_dec (bo bm : Nat) (bv : Value) (l : List Int) (W : World) (hO : Bx W bo [bv] 22) (hM : MBx W bm zmg (.slice none 0 0)) (hs : Seg .u8 W bv l) (ho : ∀ z ∈ l, 0 ≤ z ∧ z ≤ 255) (hlen : l.length ≤ 140737488355328) :
    Calls Try.prog 33 #[.func (.func 34) #[] #[.pointer (some ⟨bo, 0, none⟩), .pointer (some ⟨bm, 0, none⟩)]] W fun e w' => e = .returned (.int .i64 (dcm l).2.2) ∧ Ch (Xn bm) W w' ∧ ∃ tv, MBx w' bm (dcm l).1 tv ∧ w'.ownsRow W.heap.size 5 1 tv (dcm l).2.1.length (u8s (dcm l).2.1) := by
  have hal : Below W.heap.size W (W.alloc (.cells #[.int .i64 0] 26)) := (Below.refl _ W).alloc (Nat.le_refl _) _
  have hEB := Bx.new W [.int .i64 0] 26
  have hlt := hM.lt
  have hd := decode1_any bo bm bv l _ (hO.below hal) (hM.below hal) (hs.below hal) ho hlen
  by_cases h0 : (dcm l).2.2 = 0
  · rw [h0]
    refine (mcaught_ok 34 _ (fun _ _ => rfl) W (fun V => Ch (Xn bm) (W.alloc (.cells #[.int .i64 0] 26)) V ∧ ∃ tv, MBx V bm (dcm l).1 tv ∧ V.ownsRow (W.alloc (.cells #[.int .i64 0] 26)).heap.size 5 1 tv (dcm l).2.1.length (u8s (dcm l).2.1)) (fun V hV => hEB.ch hV.1 (fun e => by simp [Xn] at e; omega)) (hd.mono ?_)).mono ?_
    · rintro e w' ⟨hc, ⟨hx, _⟩ | ⟨_, rfl, tv, h1, h2⟩⟩
      · exact absurd h0 hx
      · exact ⟨rfl, hc, tv, h1, h2⟩
    · rintro e w' ⟨rfl, V, ⟨hc, tv, h1, h2⟩, rfl⟩
      obtain ⟨k1, k2, k3⟩ := caught_leaf (.int .i64 0) hlt hc (hEB.ch hc (fun e => by simp [Xn] at e; omega)) h1 h2
      exact ⟨rfl, k1, tv, k2, k3⟩
  · have hbad := dcm_bad h0
    have e1 : (dcm l).1 = zmg := by rw [hbad]
    have e2 : (dcm l).2.1 = [] := by rw [hbad]
    rw [e1, e2]
    refine (mcaught_bad 34 _ (fun _ _ => rfl) W (fun er => er = (dcm l).2.2) (fun V => Ch (Xn bm) (W.alloc (.cells #[.int .i64 0] 26)) V ∧ MBx V bm zmg (.slice none 0 0)) (fun V hV => hEB.ch hV.1 (fun e => by simp [Xn] at e; omega)) (hd.mono ?_)).mono ?_
    · rintro e w' ⟨hc, ⟨_, rfl, h1⟩ | ⟨hx, _⟩⟩
      · exact ⟨_, rfl, rfl, hc, h1⟩
      · exact absurd hx h0
    · rintro e w' ⟨er, rfl, rfl, V, ⟨hc, h1⟩, rfl⟩
      obtain ⟨k1, k2, k3⟩ := caught_leaf (.int .i64 (dcm l).2.2) hlt hc (hEB.ch hc (fun e => by simp [Xn] at e; omega)) h1 (World.ownsRow_nil _ _ _ _)
      exact ⟨rfl, k1, _, k2, k3⟩

theorem ch_world (w : World) (bv : Value) : ∃ W, W = ((w.alloc (.cells #[bv] 22)).alloc (.cells ⟨zmg.cells (.slice none 0 0)⟩ 24)).alloc (.cells ⟨zmg.cells (.slice none 0 0)⟩ 24) ∧ Bx W w.heap.size [bv] 22 ∧ MBx W (w.heap.size + 1) zmg (.slice none 0 0) ∧ MBx W (w.heap.size + 1 + 1) zmg (.slice none 0 0) ∧ Below w.heap.size w W ∧ W.heap.size = w.heap.size + 3 := by
  refine ⟨_, rfl, ?_, ?_, ?_, ?_, by simp⟩
  · exact ((Bx.new w [bv] 22).alloc _).alloc _
  · have := (Bx.new (w.alloc (.cells #[bv] 22)) (zmg.cells (.slice none 0 0)) 24).alloc (.cells ⟨zmg.cells (.slice none 0 0)⟩ 24)
    simpa [MBx] using this
  · have := Bx.new ((w.alloc (.cells #[bv] 22)).alloc (.cells ⟨zmg.cells (.slice none 0 0)⟩ 24)) (zmg.cells (.slice none 0 0)) 24
    simpa [MBx] using this
  · exact (((Below.refl _ w).alloc (Nat.le_refl _) _).alloc (by simp) _).alloc (by simp; omega) _

set_option maxHeartbeats 8000000 in
theorem mDecode_any (bv : Value) (l : List Int) (w : World) (hs : Seg .u8 w bv l) (ho : ∀ z ∈ l, 0 ≤ z ∧ z ≤ 255) (hlen : l.length ≤ 140737488355328) :
    Calls Try.prog 12 #[bv] w fun e w' => ∃ tv, e = .returned (.tuple #[(dcm l).1.val tv, .int .i64 (dcm l).2.2]) ∧ w'.ownsRow w.heap.size 5 1 tv (dcm l).2.1.length (u8s (dcm l).2.1) ∧ Below w.heap.size w w' := by
  obtain ⟨a, cap, rfl, _⟩ := id hs
  have hmf : ∀ (fn : Fn) (first cap : Array Value) (w : World), (Instr.makeFunc fn first cap).run Try.prog w = .ok (.func fn first cap) w := fun _ _ _ _ => rfl
  obtain ⟨W, hW, k0, k1, k2, k3, k4⟩ := ch_world w (.slice a l.length cap)
  have hca := mcaught_dec _ _ _ l W k0 k2 (hs.below (k3.mono (Nat.le_refl _))) ho hlen
  generalize dcm l = DC at *
  clear hs ho hlen
  simp only [Mg.cells, zmg] at hW
  go_enter Try.func12, Try.ntmps12
  go_wp2_with fail
  rw [← hW]
  clear hW
  refine hca.mono ?_
  rintro e w2 ⟨rfl, hc, tv, hM, hO⟩
  have RB : MBx w2 (w.heap.size + 1) zmg (.slice none 0 0) := Bx.ch k1 hc (fun e => by simp [Xn] at e)
  have hbb := hc.toBelow k3 (Nat.le_refl _) (fun g T e => by simp [Xn] at e; omega)
  obtain ⟨x, t, er⟩ := DC
  obtain ⟨a5, c5, rfl⟩ := own_shape8 hO
  simp only at hM hO ⊢
  obtain ⟨r0, r1, r2, r3, r4, r5, r6, r7, r8, r9, r10, r11⟩ := RB.facts
  have rf := Bx.frozen RB
  have rl := RB.lt
  obtain ⟨s0, s1, s2, s3, s4, s5, s6, s7, s8, s9, s10, s11⟩ := hM.facts
  clear hca k0 k1 k2 k3
  go_wp2_with fail
  have hpc := putMsg_ch (x := x) (v := .slice a5 t.length c5) RB
  have hbx := putMsg_box (x := x) (v := .slice a5 t.length c5) RB
  have hfin := hpc.toBelow hbb (Nat.le_refl _) (fun g T e => by simp [Xn] at e; omega)
  have O4 := hO.kept hpc.grownBy (.inr fun he => by have := (hO.lt _ he).1; omega)
  have O5 := ownsRow_lower (C := w.heap.size) O4 (by omega)
  clear hpc O4 RB hM hO
  generalize hW : putMsg w2 (w.heap.size + 1) x (.slice a5 t.length c5) = V at *
  simp only [putMsg] at hW
  rw [hW]
  refine bodyPost_ret (ret_dec (b := w.heap.size + 1) (x := x) (v := .slice a5 t.length c5) (q := .int .i64 er) rfl rfl hbx) rfl ?_
  exact ⟨_, rfl, O5, hfin⟩
end Go.Proofs.Ytoadcaennlfadaa

namespace Go.Proofs.Ytoadcaennlfadaa
open Go.RowKit
set_option maxRecDepth 20000

def mgA : Mg := ⟨8, 2, 3, 0, 0, 0, 0, 4, 0, 0, 0⟩
theorem ck_A : ckM mgA [] = 0 := by decide
theorem enc_A : encM mgA [] = [8, 3, 2, 4] := by decide
theorem dcm_A : dcm [8, 3, 2, 4] = (mgA, [], 0) := by kernel_rfl

set_option maxHeartbeats 2000000 in
theorem malive_any (w : World) : Calls Try.prog 26 #[] w fun e w' => e = .returned (.bool true) ∧ Below w.heap.size w w' := by
  have h1 := mEncode_ok mgA (.slice none 0 0) [] w (Seg.nil _ _) ck_A
  rw [enc_A] at h1
  have h2 := fun bv w hs => mDecode_any bv [8, 3, 2, 4] w hs (by decide) (by decide)
  rw [dcm_A] at h2
  simp only [Mg.val, mgA] at h1 h2
  go_enter Try.func26, Try.ntmps26
  go_wp2_with fail
  refine h1.mono ?_
  rintro e w1 ⟨v, rfl, ho, hb⟩
  have hs1 : Seg .u8 w1 v [8, 3, 2, 4] := Seg.own ho
  have h3 := h2 v w1 hs1
  have HS1 := hid hs1
  clear h1 h2 ho
  go_wp2_with fail
  refine h3.mono ?_
  rintro e w2 ⟨tv, rfl, ho2, hb2⟩
  obtain ⟨a5, c5, rfl⟩ := own_shape8 ho2
  have hs2 := HS1.out.below hb2
  have hb02 := hb.trans (hb2.mono hb.size)
  have hbf := hb02.alloc hb02.size (.cells ⟨mgA.cells (.slice a5 0 c5)⟩ 24)
  have hst := seg_string (hs2.below ((Below.refl _ w2).alloc (Nat.le_refl _) (.cells ⟨mgA.cells (.slice a5 0 c5)⟩ 24)))
  have e1 : strOf [8, 3, 2, 4] = ⟨#[8, 3, 2, 4]⟩ := rfl
  rw [e1] at hst
  obtain ⟨a, cap, hv, _⟩ := hs1
  simp only [List.length_cons, List.length_nil] at hv
  subst hv
  simp only [mgA, Mg.cells] at hst hbf
  clear h3 HS1 hs2 ho2 e1 hb hb2 hb02
  go_wp2_with (go_at_call 19; refine (num_any _ _).mono ?_; rintro e w3 ⟨rfl, rfl⟩)
  go_ret
  exact ⟨rfl, hbf⟩

theorem mEncode_any (x : Mg) (v : Value) (d : List Int) (w : World) (hs : Seg .u8 w v d) :
    Calls Try.prog 10 #[x.val v] w fun e w' => ∃ a n c, e = .returned (.tuple #[.slice a n c, .int .i64 (ckM x d)]) ∧ (ckM x d ≠ 0 → n = 0) ∧ Below w.heap.size w w' := by
  by_cases h : ckM x d = 0
  · refine (mEncode_ok x v d w hs h).mono ?_
    rintro e w' ⟨v', rfl, ho, hb⟩
    obtain ⟨a, c, rfl⟩ := own_shape8 ho
    exact ⟨a, _, c, by rw [h], fun hx => absurd h hx, hb⟩
  · refine (mEncode_bad x v d w hs h).mono ?_
    rintro e w' ⟨rfl, hb⟩
    exact ⟨none, 0, 0, rfl, fun _ => rfl, hb⟩

def sameM (x y : Mg) (d e : List Int) : Bool := (d == e) && (x.k == y.k) && (x.c == y.c) && (x.b == y.b) && (x.i == y.i) && (x.s == y.s) && (x.q == y.q) && (x.m == y.m) && (x.n == y.n) && (x.l == y.l) && (x.o == y.o) && (x.p == y.p)

end Go.Proofs.Ytoadcaennlfadaa

