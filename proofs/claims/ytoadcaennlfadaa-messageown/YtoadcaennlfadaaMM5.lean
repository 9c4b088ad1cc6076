/- message: written, Encode. -/
import Derived.Test.YtoadcaennlfadaaMM4
namespace Go.Proofs.Ytoadcaennlfadaa
open Go.RowKit
set_option maxRecDepth 20000

theorem MBx.lt {w : World} {b : Nat} {x : Mg} {v : Value} (h : MBx w b x v) : b < w.heap.size := Bx.lt h
def encF (x : Mg) (d : List Int) (f : Int) : List Int := if f = 10 then Pl.enc 9 d.length ++ d else Pl.enc 9 (x.nums.getD f.toNat 0)
def encM (x : Mg) (d : List Int) : List Int := Pl.enc 9 x.k ++ (usedP x.k).flatMap (encF x d)

theorem encF_len (x : Mg) (d : List Int) (f : Int) (h : d.length ≤ 1024) : (encF x d f).length ≤ 1034 := by
  unfold encF
  split
  · have := Pl.enc_len_le 9 d.length
    simp only [List.length_append]
    omega
  · have := Pl.enc_len_le 9 (x.nums.getD f.toNat 0)
    omega
theorem encFs_len (x : Mg) (d : List Int) (h : d.length ≤ 1024) (l : List Int) : (l.flatMap (encF x d)).length ≤ 1034 * l.length := by
  induction l with
  | nil => simp
  | cons f r ih =>
    have := encF_len x d f h
    simp only [List.flatMap_cons, List.length_append, List.length_cons]
    omega
theorem used_len (k : Int) : (usedP k).length ≤ 8 := by
  unfold usedP
  repeat' split
  all_goals decide
theorem used_mem (k : Int) : ∀ f ∈ usedP k, 0 ≤ f ∧ f ≤ 10 := by
  unfold usedP
  repeat' split
  all_goals decide
theorem used_kind {k : Int} (h : usedP k ≠ []) : 1 ≤ k ∧ k ≤ 8 := by
  by_cases h1 : 1 ≤ k ∧ k ≤ 8
  · exact h1
  · exfalso
    apply h
    unfold usedP
    rw [if_neg (by omega), if_neg (by omega), if_neg (by omega), if_neg (by omega), if_neg (by omega), if_neg (by omega), if_neg (by omega), if_neg (by omega)]
theorem flat_take_succ (g : Int → List Int) (l : List Int) (k : Nat) (h : k < l.length) : (l.take (k + 1)).flatMap g = (l.take k).flatMap g ++ g (l.getD k 0) := by
  rw [List.take_succ_eq_append_getElem h]
  simp only [List.flatMap_append, List.flatMap_cons, List.flatMap_nil, List.append_nil, getD_at h]
theorem num_bd {x : Mg} (h : x.nums.any badN = false) (j : Nat) : 0 ≤ x.nums.getD j 0 ∧ x.nums.getD j 0 ≤ 2147483647 := by
  rcases Nat.lt_or_ge j x.nums.length with hj | hj
  · have hm := getD_mem hj
    rw [List.any_eq_false] at h
    have := h _ hm
    simp only [badN, Bool.or_eq_true, decide_eq_true_eq, not_or] at this
    omega
  · simp [List.getD, hj]

set_option maxHeartbeats 4000000 in
theorem written_any (x : Mg) (v : Value) (d : List Int) (w : World) (hs : Seg .u8 w v d) (hk : usedP x.k ≠ []) (hr : x.nums.any badN = false) (hd : d.length ≤ 1024) :
    Calls Try.prog 28 #[x.val v] w fun e w' => ∃ v', e = .returned v' ∧ w'.ownsRow w.heap.size 5 1 v' (encM x d).length (u8s (encM x d)) ∧ Below w.heap.size w w' := by
  have hn := fun w => numbersOf_any x v w
  obtain ⟨va, vcap, rfl, _⟩ := id hs
  have hu := usedBy_any x.k
  have hnv : numV x.nums = .agg #[.int .i64 x.c, .int .i64 x.b, .int .i64 x.i, .int .i64 x.s, .int .i64 x.q, .int .i64 x.m, .int .i64 x.n, .int .i64 x.l, .int .i64 x.o, .int .i64 x.p] := rfl
  rw [hnv] at hn
  obtain ⟨hk1, hk8⟩ := used_kind hk
  have hwk : IntKind.u64.wrap x.k = x.k := wrap_u64 _ (by omega) (by omega)
  have HR := hid hr
  have HSEG := hid hs
  have HENC : Hid (encM x d = Pl.enc 9 x.k ++ (usedP x.k).flatMap (encF x d)) := rfl
  generalize encM x d = EN at *
  clear hk hnv hr hs
  unfold Mg.val at hn ⊢
  go_enter Try.func28, Try.ntmps28
  go_wp2_with fail
  refine (hn _).mono ?_
  rintro e w3 ⟨rfl, b3⟩
  have B3 : MBx w3 w.heap.size x _ := Bx.below (Bx.new w (x.cells (.slice va d.length vcap)) 24) b3
  have hb3 : Below w.heap.size w w3 := ((Below.refl _ w).alloc (Nat.le_refl _) _).trans (b3.mono (by simp))
  clear hn b3
  have hal : Below w3.heap.size w3 (w3.alloc (.cells ⟨x.nums.map (Value.int .i64)⟩ 83)) := (Below.refl _ w3).alloc (Nat.le_refl _) _
  have L4 := Bx.new w3 (x.nums.map (Value.int .i64)) 83
  have B4 := B3.below hal
  have hb4 : Below w.heap.size w _ := hb3.trans (hal.mono hb3.size)
  have hsz4 : (w3.alloc (.cells ⟨x.nums.map (Value.int .i64)⟩ 83)).heap.size = w3.heap.size + 1 := by simp
  have hput := mput_one (.slice none 0 0) [] x.k (w3.alloc (.cells ⟨x.nums.map (Value.int .i64)⟩ 83)) (w3.heap.size + 1) hsz4 (Seg.nil _ _) (by omega) (by omega) (by simp)
  have c0 := B3.facts.1
  have hlt3 : w.heap.size < w3.heap.size := B3.lt
  go_wp2_with fail
  refine hput.mono ?_
  rintro e w5 ⟨o, rfl, hown, b5⟩
  have b5' : Below (w3.alloc (.cells ⟨x.nums.map (Value.int .i64)⟩ 83)).heap.size (w3.alloc (.cells ⟨x.nums.map (Value.int .i64)⟩ 83)) w5 := by rw [hsz4]; exact b5
  have B5 := B4.below b5'
  have L5 := L4.below b5'
  have hb5 : Below w.heap.size w w5 := hb4.trans (b5'.mono hb4.size)
  have OW : Hid (w5.ownsRow w.heap.size 5 1 o (Pl.enc 9 x.k).length (u8s (Pl.enc 9 x.k))) := ownsRow_lower hown (by have := hb3.size; omega)
  clear hput hal L4 B4 hb4 hsz4 c0 hlt3 b5 b5' hown B3 hb3
  generalize w3.heap.size = b3 at *
  have c0 := B5.facts.1
  go_wp2_with fail
  refine (hu _).mono ?_
  rintro e w6 ⟨u, rfl, su, b6⟩
  have B6 := B5.below b6
  have L6 := L5.below b6
  have hb6 : Below w.heap.size w w6 := hb5.trans (b6.mono hb5.size)
  have OW6 : Hid (w6.ownsRow w.heap.size 5 1 o (Pl.enc 9 x.k).length (u8s (Pl.enc 9 x.k))) := ownsRow_below OW.out b6
  have SU := hid su
  obtain ⟨ua, ucap, rfl, u1, u2, p3, p4⟩ := id su
  unfold maxLen at u2
  clear b6 B5 L5 hb5 OW c0 hu su
  have HULN := hid (used_len x.k)
  obtain ⟨UL, hUL⟩ : ∃ UL, UL = (usedP x.k).length := ⟨_, rfl⟩
  have HUL := hid hUL
  rw [← hUL] at u1 ⊢ p4
  clear hUL
  go_wp2_with fail
  go_loopw [4, 18] (fun a i wr => ∃ k : Nat, k ≤ UL ∧ i = .int .i64 k ∧ Hid (wr.ownsRow w.heap.size 5 1 a (Pl.enc 9 x.k ++ ((usedP x.k).take k).flatMap (encF x d)).length (u8s (Pl.enc 9 x.k ++ ((usedP x.k).take k).flatMap (encF x d)))) ∧ Below w6.heap.size w6 wr) (fun _ i _ => UL - (intOf i).toNat)
  case atStart => exact ⟨0, Nat.zero_le _, rfl, by simpa using OW6, Below.refl _ _⟩
  case round =>
    obtain ⟨k, hk, rfl, hown, hb⟩ := hrel
    by_cases hlt : k < UL
    · obtain ⟨g, off, rfl, hg, hcell⟩ := seg_at (l := usedP x.k) (by have := HUL.out; omega) p3 (by rw [← HUL.out]; exact p4)
      have Q := (hb.cell (p := ⟨g, off + k, none⟩) hg).trans (hcell k (by have := HUL.out; omega))
      have hm := used_mem x.k _ (getD_mem (l := usedP x.k) (i := k) (by have := HUL.out; omega))
      have HT := hid (flat_take_succ (encF x d) (usedP x.k) k (by have := HUL.out; omega))
      have HLN := hid (encFs_len x d hd ((usedP x.k).take k))
      have Br := B6.below hb
      have Lr := L6.below hb
      have c11 := Br.facts.2.2.2.2.2.2.2.2.2.2.2
      have hsd : Seg .u8 wr _ d := HSEG.out.below (hb6.trans (hb.mono hb6.size))
      have hlen0 : (Pl.enc 9 x.k ++ ((usedP x.k).take k).flatMap (encF x d)).length ≤ 100000 := by
        have h1 := HLN.out
        have h2 := HULN.out
        have h3 := Pl.enc_len_le 9 x.k
        have h4 : ((usedP x.k).take k).length ≤ (usedP x.k).length := by rw [List.length_take]; omega
        simp only [List.length_append]
        omega
      clear p3 p4 hcell HLN
      generalize hF : (usedP x.k).getD k 0 = f at *
      clear hF
      have HT1 := hid (show Pl.enc 9 x.k ++ ((usedP x.k).take (k + 1)).flatMap (encF x d) = (Pl.enc 9 x.k ++ ((usedP x.k).take k).flatMap (encF x d)) ++ encF x d f by rw [HT.out, List.append_assoc])
      clear HT
      generalize Pl.enc 9 x.k ++ ((usedP x.k).take k).flatMap (encF x d) = LK at *
      have hso := Seg.own hown.out
      have hszr : w.heap.size ≤ wr.heap.size := Nat.le_trans hb6.size hb.size
      by_cases h10 : f = 10
      · subst h10
        have htx := mtext_one u4 _ LK d wr wr.heap.size rfl hso hsd hlen0 hd
        have HT2 : Hid (LK ++ (Pl.enc 9 d.length ++ d) = Pl.enc 9 x.k ++ ((usedP x.k).take (k + 1)).flatMap (encF x d)) := by
          show _ = _
          rw [HT1.out]
          simp [encF]
        clear HT1 hso hown
        go_wp2_with fail
        refine htx.mono ?_
        rintro e w7 ⟨o2, rfl, hown2, hb7⟩
        have HO : Hid (w7.ownsRow w.heap.size 5 1 o2 (Pl.enc 9 x.k ++ ((usedP x.k).take (k + 1)).flatMap (encF x d)).length (u8s (Pl.enc 9 x.k ++ ((usedP x.k).take (k + 1)).flatMap (encF x d)))) := by rw [← HT2.out]; exact ownsRow_lower hown2 hszr
        have hbb := hb.trans (hb7.mono hb.size)
        clear hown2 htx HT2
        go_wp2
        go_roundw
        case rel => exact ⟨k + 1, by omega, by go_num, HO, hbb⟩
        case measure => simp [intOf]; omega
      · obtain ⟨j, rfl⟩ : ∃ j : Nat, f = (j : Int) := ⟨f.toNat, by omega⟩
        have hj : j < 10 := by omega
        have hbe : ((j : Int) == 10) = false := by simp; omega
        obtain ⟨hn0, hn1⟩ := num_bd HR.out j
        have hcj : wr.cell? ⟨b3, j, none⟩ = some (.int .i64 (x.nums.getD j 0)) := Lr.cell j (by have hl : x.nums.length = 10 := rfl; rw [List.getElem?_map, List.getElem?_eq_getElem (by omega)]; simp [List.getD, hl, hj])
        have hwr : IntKind.u64.wrap (x.nums.getD j 0) = x.nums.getD j 0 := wrap_u64 _ (by omega) (by omega)
        have htx := mput_one u4 LK (x.nums.getD j 0) wr wr.heap.size rfl hso (by omega) (by omega) hlen0
        have HT2 : Hid (LK ++ Pl.enc 9 (x.nums.getD j 0) = Pl.enc 9 x.k ++ ((usedP x.k).take (k + 1)).flatMap (encF x d)) := by
          show _ = _
          rw [HT1.out]
          simp [encF, h10]
        clear HT1 hso hown
        generalize x.nums.getD j 0 = y at *
        go_wp2_with fail
        refine htx.mono ?_
        rintro e w7 ⟨o2, rfl, hown2, hb7⟩
        have HO : Hid (w7.ownsRow w.heap.size 5 1 o2 (Pl.enc 9 x.k ++ ((usedP x.k).take (k + 1)).flatMap (encF x d)).length (u8s (Pl.enc 9 x.k ++ ((usedP x.k).take (k + 1)).flatMap (encF x d)))) := by rw [← HT2.out]; exact ownsRow_lower hown2 hszr
        have hbb := hb.trans (hb7.mono hb.size)
        clear hown2 htx HT2
        go_wp2
        go_roundw
        case rel => exact ⟨k + 1, by omega, by go_num, HO, hbb⟩
        case measure => simp [intOf]; omega
    · have hke : (usedP x.k).take k = usedP x.k := List.take_of_length_le (by have := HUL.out; omega)
      rw [hke, ← HENC.out] at hown
      clear p3 p4 hke
      have HB := hid (hb6.trans (hb.mono hb6.size))
      clear hb
      go_wp2
      go_ret
      exact ⟨_, rfl, hown.out, HB.out⟩
end Go.Proofs.Ytoadcaennlfadaa
