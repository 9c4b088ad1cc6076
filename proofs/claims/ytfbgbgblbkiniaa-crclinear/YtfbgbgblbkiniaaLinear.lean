/- For all octets a, b and c: the sum of the three, cut to one length, bit by bit exclusive or, is that of their sums (the law CrcLinear answers true), and no argument changes. No condition. -/
import Derived.Test.YtfbgbgblbkiniaaOpen
import Derived.Test.YtfbgbgblbkiniaaOps
import Derived.Test.YtfbgbgblbkiniaaCallsC
import Derived.Deep.AppendLies
import Derived.Deep.RegionLaw
namespace Go.Proofs.Ytfbgbgblbkiniaa.crcLinear
open Go.ChangeShapes Go.WideShapes Go.ChangeAt Go.RowKit
open Go.ChangeMaps (open_string shut_string)

def xs (a b c : List Int) (k : Nat) : List Int := (List.range k).map fun i => (((a.getD i 0).toNat ^^^ (b.getD i 0).toNat ^^^ (c.getD i 0).toNat : Nat) : Int)
theorem xs_len (a b c : List Int) (k : Nat) : (xs a b c k).length = k := by simp [xs]
theorem xs_succ (a b c : List Int) (k : Nat) : xs a b c (k + 1) = xs a b c k ++ [(((a.getD k 0).toNat ^^^ (b.getD k 0).toNat ^^^ (c.getD k 0).toNat : Nat) : Int)] := by simp [xs, List.range_succ]

theorem octs_xs {a b c : List Int} (ha : Pl.Octs a) (hb : Pl.Octs b) (hc : Pl.Octs c) (k : Nat) : Pl.Octs (xs a b c k) := by
  intro z hz
  simp only [xs, List.mem_map, List.mem_range] at hz
  obtain ⟨i, _, rfl⟩ := hz
  have e : ∀ {l : List Int}, Pl.Octs l → (l.getD i 0).toNat < 2 ^ 8 := by
    intro l hl
    have := Pl.getD_octs hl i
    by_cases h : i < l.length
    · have := hl (l.getD i 0) (by simp [List.getD, h])
      omega
    · simp [List.getD, h]
  have := Nat.xor_lt_two_pow (Nat.xor_lt_two_pow (e ha) (e hb)) (e hc)
  omega
theorem sum_three {a b c : List Int} {k : Nat} (ha : k ≤ a.length) (hb : k ≤ b.length) (hc : k ≤ c.length) : Pl.sumOf (xs a b c k) = (Pl.sumOf (a.take k) ^^^ Pl.sumOf (b.take k)) ^^^ Pl.sumOf (c.take k) := by
  have h := Pl.run_three (a.take k) (b.take k) (c.take k) 4294967295 4294967295 4294967295 (xs a b c k) (by simp [xs]; omega) (by simp [xs]; omega) (by simp [xs]; omega) (fun i hi => by
    rw [xs_len] at hi
    simp [xs, List.getD, hi])
  rw [Nat.xor_self, Nat.zero_xor] at h
  unfold Pl.sumOf
  rw [h]
  generalize Pl.run 4294967295 (a.take k) = p
  generalize Pl.run 4294967295 (b.take k) = q
  generalize Pl.run 4294967295 (c.take k) = r
  rw [show (4294967295 ^^^ p) ^^^ (4294967295 ^^^ q) = p ^^^ q by rw [Nat.xor_comm 4294967295 p, Nat.xor_assoc, Pl.xx], Pl.xlc (p ^^^ q)]
def pr (vx va vb vc : Value) (n : Nat) (X A B C : List Int) : Nat → Value → World → Prop
  | 0, v, _ => v = vx
  | 1, v, w => Segs w v [X]
  | 2, v, _ => v = .int .u32 (Pl.sumOf X)
  | 3, v, _ => v = va
  | 4, v, _ => v = .int .i64 n
  | 5, v, w => Seg .u8 w v A
  | 6, v, w => Segs w v [A]
  | 7, v, _ => v = .int .u32 (Pl.sumOf A)
  | 8, v, _ => v = vb
  | 9, v, _ => v = .int .i64 n
  | 10, v, w => Seg .u8 w v B
  | 11, v, w => Segs w v [B]
  | 12, v, _ => v = .int .u32 (Pl.sumOf B)
  | 13, v, _ => v = .int .u32 (Pl.sumOf A ^^^ Pl.sumOf B : Nat)
  | 14, v, _ => v = vc
  | 15, v, _ => v = .int .i64 n
  | 16, v, w => Seg .u8 w v C
  | 17, v, w => Segs w v [C]
  | 18, v, _ => v = .int .u32 (Pl.sumOf C)
  | 19, v, _ => v = .int .u32 ((Pl.sumOf A ^^^ Pl.sumOf B) ^^^ Pl.sumOf C : Nat)
  | 20, v, _ => v = .bool true
  | 21, v, _ => v = .bool true
  | _, _, _ => True
theorem pr_mono {vx va vb vc : Value} {n : Nat} {X A B C : List Int} (i : Nat) (v : Value) (w w' : World) (h : pr vx va vb vc n X A B C i v w) (hb : Below w.heap.size w w') : pr vx va vb vc n X A B C i v w' :=
  match i, h with
  | 0, h => h
  | 1, h => Segs.below h hb
  | 2, h => h
  | 3, h => h
  | 4, h => h
  | 5, h => Seg.below h hb
  | 6, h => Segs.below h hb
  | 7, h => h
  | 8, h => h
  | 9, h => h
  | 10, h => Seg.below h hb
  | 11, h => Segs.below h hb
  | 12, h => h
  | 13, h => h
  | 14, h => h
  | 15, h => h
  | 16, h => Seg.below h hb
  | 17, h => Segs.below h hb
  | 18, h => h
  | 19, h => h
  | 20, h => h
  | 21, h => h
  | _ + 22, _ => trivial

theorem Segs.make {w : World} {v : Value} {l : List Int} (h : Seg .u8 w v l) : Segs (w.alloc (.cells #[v] 22)) (.slice (some ⟨w.heap.size, 0, none⟩) 1 1) [l] := Segs.one 22 h
theorem seg_cut {w : World} {ad : Option Addr} {cap n : Nat} {l : List Int} (h : Seg .u8 w (.slice ad l.length cap) l) (hn : n ≤ l.length) : Seg .u8 w (.slice ad n cap) (l.take n) ∧ n ≤ cap := by
  obtain ⟨a, c, he, h1, h2, h3, h4⟩ := h
  simp only [Value.slice.injEq, true_and] at he
  obtain ⟨rfl, rfl⟩ := he
  have hl : (l.take n).length = n := by rw [List.length_take]; omega
  refine ⟨⟨ad, cap, by rw [hl], by omega, h2, fun e => ?_, fun x hx i hi => ?_⟩, by omega⟩
  · obtain ⟨rfl, rfl⟩ := h3 e
    exact ⟨by simp, rfl⟩
  · rw [h4 x hx i (by omega)]
    rw [hl] at hi
    simp [List.getD, hi]
theorem sum_calls {w : World} {v : Value} {l : List Int} (h : Segs w v [l]) (ho : Pl.Octs l) : Calls Try.prog 12 #[v] w fun e w' => e = .returned (.int .u32 (Pl.sumOf l)) ∧ w = w' := by
  have := sum_any _ [l] _ h (by intro m hm; simp at hm; subst hm; exact ho)
  rw [show [l].flatten = l by simp] at this
  exact this

set_option maxHeartbeats 4000000 in
theorem walk (v0 : Value) (a : List Int) {w : World} (hs0 : Seg .u8 w v0 a) (ho0 : ∀ z ∈ a, 0 ≤ z ∧ z ≤ 255) (hl0 : a.length ≤ 140737488351232) (v1 : Value) (b : List Int) (hs1 : Seg .u8 w v1 b) (ho1 : ∀ z ∈ b, 0 ≤ z ∧ z ≤ 255) (hl1 : b.length ≤ 140737488351232)
    (v2 : Value) (c : List Int) (hs2 : Seg .u8 w v2 c) (ho2 : ∀ z ∈ c, 0 ≤ z ∧ z ≤ 255) (hl2 : c.length ≤ 140737488351232) :
    Calls Try.prog 7 #[v0, v1, v2] w fun e w' => e = .returned (.bool true) ∧ Below w.heap.size w w' := by
  obtain ⟨i0, hi, hz0, hz1, hz2⟩ := info_parts Try.info5
  obtain ⟨a0, c0, rfl, k1, k2, k3, k4⟩ := id hs0
  obtain ⟨a1, c1, rfl, m1, m2, m3, m4⟩ := id hs1
  obtain ⟨a2, c2, rfl, n1, n2, n3, n4⟩ := id hs2
  unfold maxLen at k2 m2 n2
  obtain ⟨M1, hM1, hb1', hc1', he1⟩ : ∃ M1 : Nat, (if (c.length : Int) < (b.length : Int) then (c.length : Int) else (b.length : Int)) = (M1 : Int) ∧ M1 ≤ b.length ∧ M1 ≤ c.length ∧ True := by
    by_cases h : (c.length : Int) < (b.length : Int)
    · exact ⟨c.length, by rw [if_pos h], by omega, by omega, trivial⟩
    · exact ⟨b.length, by rw [if_neg h], by omega, by omega, trivial⟩
  obtain ⟨M, hM, hMa, hMb⟩ : ∃ M : Nat, (if (M1 : Int) < (a.length : Int) then (M1 : Int) else (a.length : Int)) = (M : Int) ∧ M ≤ a.length ∧ M ≤ M1 := by
    by_cases h : (M1 : Int) < (a.length : Int)
    · exact ⟨M1, by rw [if_pos h], by omega, by omega⟩
    · exact ⟨a.length, by rw [if_neg h], by omega, by omega⟩
  have hMm1 := hM1
  have hMm := hM
  simp only [Int.ofNat_lt] at hMm1 hMm
  go_enter Try.func7, Try.ntmps7
  go_wp2_with fail
  refine (alive_any w).mono ?_
  rintro e w1 ⟨rfl, hb1⟩
  go_wp2
  clear hM hM1 hMm hMm1 he1
  go_loopw [8, 9] (fun x i wr => ∃ k : Nat, k ≤ M ∧ i = .int .i64 k ∧ wr.ownsRow w1.heap.size 5 1 x k (u8s (xs a b c k)) ∧ Below w1.heap.size w1 wr) (fun _ i _ => M - (intOf i).toNat)
  case atStart => exact ⟨0, Nat.zero_le _, rfl, World.ownsRow_nil _ _ _ _, Below.refl _ _⟩
  case round =>
    obtain ⟨k, hk, rfl, hr1, hbr⟩ := hrel
    have hbw : Below w.heap.size w wr := hb1.trans (hbr.mono hb1.size)
    have hszr := hbr.size
    by_cases hlt : k < M
    · obtain ⟨b0, f0, rfl, hbb0, hcc0⟩ := seg_at (by omega) k3 k4
      obtain ⟨b1, f1, rfl, hbb1, hcc1⟩ := seg_at (by omega) m3 m4
      obtain ⟨b2, f2, rfl, hbb2, hcc2⟩ := seg_at (by omega) n3 n4
      have hx0 := ho0 (a.getD k 0) (by simp [List.getD, show k < a.length by omega])
      have hx1 := ho1 (b.getD k 0) (by simp [List.getD, show k < b.length by omega])
      have hx2 := ho2 (c.getD k 0) (by simp [List.getD, show k < c.length by omega])
      have hq0 := (hbw.cell (p := ⟨b0, f0 + k, none⟩) hbb0).trans (hcc0 k (by omega))
      have hq1 := (hbw.cell (p := ⟨b1, f1 + k, none⟩) hbb1).trans (hcc1 k (by omega))
      have hq2 := (hbw.cell (p := ⟨b2, f2 + k, none⟩) hbb2).trans (hcc2 k (by omega))
      have HX := xs_succ a b c k
      have hxl := xs_len a b c k
      generalize xs a b c k = X at *
      generalize hX1 : xs a b c (k + 1) = X1 at *
      have HX1 : Hid (xs a b c (k + 1) = X1) := hX1
      clear hX1
      obtain ⟨o0, e0⟩ : ∃ o : Nat, a.getD k 0 = o := ⟨_, (Int.toNat_of_nonneg hx0.1).symm⟩
      obtain ⟨o1, e1⟩ : ∃ o : Nat, b.getD k 0 = o := ⟨_, (Int.toNat_of_nonneg hx1.1).symm⟩
      obtain ⟨o2, e2⟩ : ∃ o : Nat, c.getD k 0 = o := ⟨_, (Int.toNat_of_nonneg hx2.1).symm⟩
      rw [e0] at hq0 hx0 HX
      rw [e1] at hq1 hx1 HX
      rw [e2] at hq2 hx2 HX
      simp only [Int.toNat_natCast] at HX
      have hy1 := u8_xor_nat o0 o1 (by omega) (by omega)
      have hy1l : o0 ^^^ o1 < 256 := Nat.xor_lt_two_pow (n := 8) (by omega) (by omega)
      have hy2 := u8_xor_nat (o0 ^^^ o1) o2 hy1l (by omega)
      generalize o0 ^^^ o1 = o01 at *
      generalize o01 ^^^ o2 = Z at *
      clear hcc0 hcc1 hcc2 k3 k4 m3 m4 n3 n4 hs0 hs1 hs2 ho0 ho1 ho2 e0 e1 e2
      have hlk0 : (k : Int) < a.length := by omega
      have hlk1 : (k : Int) < b.length := by omega
      have hlk2 : (k : Int) < c.length := by omega
      have hba := (Below.refl wr.heap.size wr).alloc (Nat.le_refl _) (.cells #[.int .u8 Z] 5)
      have HOWN : (wr.alloc (.cells #[.int .u8 Z] 5)).drew.ownsRow w1.heap.size 5 1 u8 k (u8s X) := ownsRow_drew (ownsRow_below hr1 hba)
      have HCELL : ∀ j v, ([.int .u8 Z] : List Value)[j]? = some v → (wr.alloc (.cells #[.int .u8 Z] 5)).drew.cell? ((⟨wr.heap.size, 0, none⟩ : Addr).add j) = some v := cell_one_new wr (.int .u8 Z) 5
      go_wp2
      go_region_law (refine step_append_lies _ rfl (.tmp 25) (.tmp 40) 22 rfl w1.heap.size 5 i0 (.int .u8 0) 1 1 Try.underlying22 hi hz0 hz1 hz2 rfl (by decide) u8 k (u8s X) (by simp [Act.eval]) HOWN ⟨wr.heap.size, 0, none⟩ 1 1 [.int .u8 Z] (by simp [Act.eval]) rfl HCELL (by simp [Value.oneCell']) (by decide) (by unfold maxLen; omega) (by omega) (by simp; omega) _ rfl ?_; intro g cap' w' hown' hgrow' _ _)
      all_goals (
        have HO1 : w'.ownsRow w1.heap.size 5 1 (.slice (some ⟨g, 0, none⟩) (k + 1) cap') (k + 1) (u8s X1) := by rw [HX]; simpa [u8s] using hown'
        have HB1 : Below w1.heap.size w1 w' := (hbr.alloc hbr.size _).drew.grown hgrow' (by simp; omega) (fun q hq => (hr1.lt q hq).1)
        clear hown' hgrow' HOWN HCELL hba
        go_wp2
        go_roundw
        case rel => exact ⟨k + 1, by omega, by go_num, by rw [HX1.out]; exact HO1, HB1⟩
        case measure => simp [intOf]; omega)
    · obtain rfl : k = M := by omega
      have hsx : Seg .u8 wr u8 (xs a b c k) := Seg.own (by rw [xs_len]; exact hr1)
      have hox : Pl.Octs (xs a b c k) := octs_xs ho0 ho1 ho2 k
      have hoa : Pl.Octs (a.take k) := fun z hz => ho0 z (List.mem_of_mem_take hz)
      have hob : Pl.Octs (b.take k) := fun z hz => ho1 z (List.mem_of_mem_take hz)
      have hoc : Pl.Octs (c.take k) := fun z hz => ho2 z (List.mem_of_mem_take hz)
      have HE : Hid (Pl.sumOf (xs a b c k) = (Pl.sumOf (a.take k) ^^^ Pl.sumOf (b.take k)) ^^^ Pl.sumOf (c.take k)) := sum_three (by omega) (by omega) (by omega)
      have hLa := Pl.sumOf_lt hoa
      have hLb := Pl.sumOf_lt hob
      have hLc := Pl.sumOf_lt hoc
      clear hbr hszr hr1 k3 k4 m3 m4 n3 n4
      generalize xs a b c k = X at *
      obtain ⟨ax, cx, rfl, g1, g2, g3, g4⟩ := id hsx
      clear g1 g2 g3 g4
      go_wp2
      refine wp_region_drawn (pred := pr (.slice ax X.length cx) (.slice a0 a.length c0) (.slice a1 b.length c1) (.slice a2 c.length c2) k X (a.take k) (b.take k) (c.take k)) (R := fun W => Below w.heap.size w W ∧ Seg .u8 W (.slice ax X.length cx) X) (by kernel_rfl) (by kernel_rfl) (by kernel_rfl) pr_mono ⟨hbw.drew, hsx.below (Below.refl _ _).drew⟩ ?step ?done
      case step =>
        intro i o ho A W hsz hdf hfr hdep hR
        have hka : k ≤ a.length := by omega
        have hkb : k ≤ b.length := by omega
        have hkc : k ≤ c.length := by omega
        rcases i with _ | _ | _ | _ | _ | _ | _ | _ | _ | _ | _ | _ | _ | _ | _ | _ | _ | _ | _ | _ | _ | _ | i
        · injection ho with ho
          subst ho
          exact wpOp_move rfl rfl 8 rfl ((hfr 8 (noDst_spec (by kernel_rfl))).trans rfl) ⟨_, rfl, rfl, Below.refl _ _, hR⟩
        · injection ho with ho
          subst ho
          exact wpOp_build1 rfl rfl 42 rfl ax X.length cx (hdep { on := 0, ground := .data } (by simp) rfl _ _ rfl rfl) ⟨_, rfl, Segs.make hR.2, (Below.refl _ _).alloc (Nat.le_refl _) _, hR.1.alloc hR.1.size _, hR.2.below ((Below.refl _ _).alloc (Nat.le_refl _) _)⟩
        · injection ho with ho
          subst ho
          exact wpOp_call1 12 (enters_of Try.func12 (by kernel_rfl) rfl) rfl rfl 43 _ rfl rfl ((sum_calls (hdep { on := 1, ground := .data } (by simp) rfl _ _ rfl rfl) hox).mono (by rintro e w' ⟨rfl, rfl⟩; exact ⟨_, rfl, _, rfl, rfl, Below.refl _ _, hR⟩))
        · injection ho with ho
          subst ho
          exact wpOp_move rfl rfl 0 rfl ((hfr 0 (noDst_spec (by kernel_rfl))).trans rfl) ⟨_, rfl, rfl, Below.refl _ _, hR⟩
        · injection ho with ho
          subst ho
          exact wpOp_move rfl rfl 7 rfl ((hfr 7 (noDst_spec (by kernel_rfl))).trans rfl) ⟨_, rfl, rfl, Below.refl _ _, hR⟩
        · injection ho with ho
          subst ho
          have cut := seg_cut (hs0.below hR.1) hka
          exact wpOp_sub rfl rfl 45 46 rfl a0 a.length c0 k (hdep { on := 3, ground := .data } (by simp) rfl _ _ rfl rfl) (hdep { on := 4, ground := .data } (by simp) rfl _ _ rfl rfl) cut.2 ⟨_, rfl, cut.1, Below.refl _ _, hR⟩
        · injection ho with ho
          subst ho
          have d : Seg .u8 W (A.tmps.getD 47 undef) _ := (hdep { on := 5, ground := .data } (by simp) rfl _ _ rfl rfl)
          obtain ⟨ad, cp, he, _⟩ := id d
          rw [he] at d
          exact wpOp_build1 rfl rfl 47 rfl ad _ cp he ⟨_, rfl, Segs.make d, (Below.refl _ _).alloc (Nat.le_refl _) _, hR.1.alloc hR.1.size _, hR.2.below ((Below.refl _ _).alloc (Nat.le_refl _) _)⟩
        · injection ho with ho
          subst ho
          exact wpOp_call1 12 (enters_of Try.func12 (by kernel_rfl) rfl) rfl rfl 48 _ rfl rfl ((sum_calls (hdep { on := 6, ground := .data } (by simp) rfl _ _ rfl rfl) hoa).mono (by rintro e w' ⟨rfl, rfl⟩; exact ⟨_, rfl, _, rfl, rfl, Below.refl _ _, hR⟩))
        · injection ho with ho
          subst ho
          exact wpOp_move rfl rfl 1 rfl ((hfr 1 (noDst_spec (by kernel_rfl))).trans rfl) ⟨_, rfl, rfl, Below.refl _ _, hR⟩
        · injection ho with ho
          subst ho
          exact wpOp_move rfl rfl 7 rfl ((hfr 7 (noDst_spec (by kernel_rfl))).trans rfl) ⟨_, rfl, rfl, Below.refl _ _, hR⟩
        · injection ho with ho
          subst ho
          have cut := seg_cut (hs1.below hR.1) hkb
          exact wpOp_sub rfl rfl 50 51 rfl a1 b.length c1 k (hdep { on := 8, ground := .data } (by simp) rfl _ _ rfl rfl) (hdep { on := 9, ground := .data } (by simp) rfl _ _ rfl rfl) cut.2 ⟨_, rfl, cut.1, Below.refl _ _, hR⟩
        · injection ho with ho
          subst ho
          have d : Seg .u8 W (A.tmps.getD 52 undef) _ := (hdep { on := 10, ground := .data } (by simp) rfl _ _ rfl rfl)
          obtain ⟨ad, cp, he, _⟩ := id d
          rw [he] at d
          exact wpOp_build1 rfl rfl 52 rfl ad _ cp he ⟨_, rfl, Segs.make d, (Below.refl _ _).alloc (Nat.le_refl _) _, hR.1.alloc hR.1.size _, hR.2.below ((Below.refl _ _).alloc (Nat.le_refl _) _)⟩
        · injection ho with ho
          subst ho
          exact wpOp_call1 12 (enters_of Try.func12 (by kernel_rfl) rfl) rfl rfl 53 _ rfl rfl ((sum_calls (hdep { on := 11, ground := .data } (by simp) rfl _ _ rfl rfl) hob).mono (by rintro e w' ⟨rfl, rfl⟩; exact ⟨_, rfl, _, rfl, rfl, Below.refl _ _, hR⟩))
        · injection ho with ho
          subst ho
          exact wpOp_xor32 rfl rfl 49 54 rfl _ _ hLa hLb (hdep { on := 7, ground := .data } (by simp) rfl _ _ rfl rfl) (hdep { on := 12, ground := .data } (by simp) rfl _ _ rfl rfl) ⟨_, rfl, rfl, Below.refl _ _, hR⟩
        · injection ho with ho
          subst ho
          exact wpOp_move rfl rfl 2 rfl ((hfr 2 (noDst_spec (by kernel_rfl))).trans rfl) ⟨_, rfl, rfl, Below.refl _ _, hR⟩
        · injection ho with ho
          subst ho
          exact wpOp_move rfl rfl 7 rfl ((hfr 7 (noDst_spec (by kernel_rfl))).trans rfl) ⟨_, rfl, rfl, Below.refl _ _, hR⟩
        · injection ho with ho
          subst ho
          have cut := seg_cut (hs2.below hR.1) hkc
          exact wpOp_sub rfl rfl 56 57 rfl a2 c.length c2 k (hdep { on := 14, ground := .data } (by simp) rfl _ _ rfl rfl) (hdep { on := 15, ground := .data } (by simp) rfl _ _ rfl rfl) cut.2 ⟨_, rfl, cut.1, Below.refl _ _, hR⟩
        · injection ho with ho
          subst ho
          have d : Seg .u8 W (A.tmps.getD 58 undef) _ := (hdep { on := 16, ground := .data } (by simp) rfl _ _ rfl rfl)
          obtain ⟨ad, cp, he, _⟩ := id d
          rw [he] at d
          exact wpOp_build1 rfl rfl 58 rfl ad _ cp he ⟨_, rfl, Segs.make d, (Below.refl _ _).alloc (Nat.le_refl _) _, hR.1.alloc hR.1.size _, hR.2.below ((Below.refl _ _).alloc (Nat.le_refl _) _)⟩
        · injection ho with ho
          subst ho
          exact wpOp_call1 12 (enters_of Try.func12 (by kernel_rfl) rfl) rfl rfl 59 _ rfl rfl ((sum_calls (hdep { on := 17, ground := .data } (by simp) rfl _ _ rfl rfl) hoc).mono (by rintro e w' ⟨rfl, rfl⟩; exact ⟨_, rfl, _, rfl, rfl, Below.refl _ _, hR⟩))
        · injection ho with ho
          subst ho
          exact wpOp_xor32 rfl rfl 55 60 rfl _ _ (Pl.xlt hLa hLb) hLc (hdep { on := 13, ground := .data } (by simp) rfl _ _ rfl rfl) (hdep { on := 18, ground := .data } (by simp) rfl _ _ rfl rfl) ⟨_, rfl, rfl, Below.refl _ _, hR⟩
        · injection ho with ho
          subst ho
          exact wpOp_eq32 rfl rfl 44 61 rfl _ _ (hdep { on := 2, ground := .data } (by simp) rfl _ _ rfl rfl) (hdep { on := 19, ground := .data } (by simp) rfl _ _ rfl rfl) ⟨_, rfl, congrArg Value.bool (by rw [HE.out]; simp), Below.refl _ _, hR⟩
        · injection ho with ho
          subst ho
          exact wpOp_assign rfl rfl 62 rfl (hdep { on := 20, ground := .data } (by simp) rfl _ _ rfl rfl) ⟨_, rfl, rfl, Below.refl _ _, hR⟩
        · exfalso
          have := (Array.getElem?_eq_some_iff.1 ho).1
          simp at this
          omega
      case done =>
        intro A W _ hdf _ hcome hR
        have h21 : A.tmps.getD 6 undef = .bool true := hcome 21 _ _ rfl rfl
        go_wp2
        refine bodyPost_ret (results_tmp rfl _ _ _) hdf ?_
        exact ⟨by rw [h21], hR.1⟩

set_option maxRecDepth 100000 in
theorem lifted (os : Os) (started : os.Started) (H : Type) (enc : TypeId × Value → H) :
    ReturnsInHanded {} Try.checked os 7 .any (Rows.crcLinearSpec.pre6 enc Try.prog Try.f7 Rows.crcLinearRow.domain false) (Rows.crcLinearSpec.post enc Try.prog Try.f7 false true false false) := by
  refine returnsInHanded_of_change_sized (C := Try.checked) own started (by kernel_rfl) Try.func7
    (ChangeSpec.witness6 (enc := enc) (C := Try.checked) false ⟨#[], #[.slice none 0 0, .slice none 0 0, .slice none 0 0], []⟩ 8 (by kernel_rfl) (by kernel_rfl) (by kernel_rfl) (by kernel_rfl)) ?_
  intro W base args ds gs before hval0 hW hcnd hsz0 _
  have hval : ∀ (j : Nat) t v, Try.f7.params[j]? = some t → args[j]? = some v → Value.okWide Try.prog W .any base t v := hval0
  have hsz : (DataW.weightsEach Try.prog (Try.f7.params.toList ++ Rows.crcLinearSpec.plain.varTypes Try.prog) (ds ++ gs)).all (· ≤ reachBytes) = true := hsz0
  have hW' := hW
  obtain ⟨p, q, hA0, hV, rfl, hfz, hnd⟩ := hW
  have hA : DataW.TrodAll enc Try.prog W 0 (fun _ => true) true Try.f7.params.toList args.toList ds p := hA0
  rw [Try.params7] at hA hval hsz
  obtain ⟨v0, vs0, d0, ds0, p0, q0, hargs, rfl, rfl, h0, r0⟩ := trodAll_cons hA
  obtain ⟨v1, vs1, d1, ds1, p1, q1, rfl, rfl, rfl, h1, r1⟩ := trodAll_cons r0
  obtain ⟨v2, vs2, d2, ds2, p2, q2, rfl, rfl, rfl, h2, r2⟩ := trodAll_cons r1
  obtain ⟨rfl, rfl, rfl⟩ := trodAll_nil r2
  obtain rfl : args = #[v0, v1, v2] := by cases args; simp_all
  obtain ⟨rfl, rfl⟩ := trodVars_none hV
  have k0 := h0
  have lt0 : ∀ x ∈ p0, x.block < W.heap.size := by obtain ⟨m, hm⟩ := k0; exact DataW.trod_lt m _ _ _ hm
  obtain ⟨l0, hs0, ho0, e0⟩ := open_octets (hval 0 22 v0 rfl rfl) h0
  have z0 : l0.length ≤ 140737488351232 := by
    rcases e0 with ⟨_, rfl⟩ | ⟨elems, spare, rfl, hl⟩
    · simp
    · have := sized_slice hsz (j := 0) (t := 22) (e := 5) rfl rfl Try.underlying22
      rw [Try.bytes5] at this
      simp only [reachBytes] at this
      omega
  have k1 := h1
  have lt1 : ∀ x ∈ p1, x.block < W.heap.size := by obtain ⟨m, hm⟩ := k1; exact DataW.trod_lt m _ _ _ hm
  obtain ⟨l1, hs1, ho1, e1⟩ := open_octets (hval 1 22 v1 rfl rfl) h1
  have z1 : l1.length ≤ 140737488351232 := by
    rcases e1 with ⟨_, rfl⟩ | ⟨elems, spare, rfl, hl⟩
    · simp
    · have := sized_slice hsz (j := 1) (t := 22) (e := 5) rfl rfl Try.underlying22
      rw [Try.bytes5] at this
      simp only [reachBytes] at this
      omega
  have k2 := h2
  have lt2 : ∀ x ∈ p2, x.block < W.heap.size := by obtain ⟨m, hm⟩ := k2; exact DataW.trod_lt m _ _ _ hm
  obtain ⟨l2, hs2, ho2, e2⟩ := open_octets (hval 2 22 v2 rfl rfl) h2
  have z2 : l2.length ≤ 140737488351232 := by
    rcases e2 with ⟨_, rfl⟩ | ⟨elems, spare, rfl, hl⟩
    · simp
    · have := sized_slice hsz (j := 2) (t := 22) (e := 5) rfl rfl Try.underlying22
      rw [Try.bytes5] at this
      simp only [reachBytes] at this
      omega
  clear hA0 hval0
  refine (walk v0 l0 hs0 ho0 z0 v1 l1 hs1 ho1 z1 v2 l2 hs2 ho2 z2).mono fun e W' ⟨he, bel⟩ => ?_
  subst he
  exact ⟨_, rfl, _, _, _, [], _, [], hW', trodAll_mk1 (shut_bool Try.underlying4 _), (trodAll_cons_mk (Below.trod laidOut (by kernel_rfl) (of_decide_eq_true (by kernel_rfl)) k0 bel lt0) (trodAll_cons_mk (Below.trod laidOut (by kernel_rfl) (of_decide_eq_true (by kernel_rfl)) k1 bel lt1) (trodAll_cons_mk (Below.trod laidOut (by kernel_rfl) (of_decide_eq_true (by kernel_rfl)) k2 bel lt2) trodAll_mk0))), rfl, bel.frame _, fun h => by cases h⟩

theorem over : Rows.crcLinearRow.holds Try.pinned (OpenSpec.ofChange Rows.crcLinearSpec) :=
  OpenClaim.holds_of_wide 7 Try.f7 rfl rfl rfl rfl rfl rfl rfl ⟨rfl, rfl, rfl, rfl, rfl⟩ rfl rfl rfl rfl rfl (by kernel_rfl) Try.func7 (by kernel_rfl)
    (of_decide_eq_true (by kernel_rfl)) (by unfold Func.isWrapper; first | (rw [if_pos (by decide +kernel)]; kernel_rfl) | (rw [if_neg (by decide +kernel)]; exact ⟨rfl, rfl⟩))
    (fun os started H enc _ => lifted os started H enc)
end Go.Proofs.Ytfbgbgblbkiniaa.crcLinear

namespace Go.Proofs.Ytfbgbgblbkiniaa
/-- THE STATEMENT. -/
theorem crcLinear_holds : Rows.CrcLinearSaid := crcLinear.over
#print axioms crcLinear_holds
end Go.Proofs.Ytfbgbgblbkiniaa
