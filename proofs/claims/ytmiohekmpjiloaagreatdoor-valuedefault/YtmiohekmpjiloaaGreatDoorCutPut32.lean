/- value: isInRange. value: unused, ofPart. value: what a value's error is, on lists. value: checkValue. -/
import Derived.Test.YtmiohekmpjiloaaGreatDoorCutPut31
import Derived.Lib.ConvBytes
namespace Go.Proofs.YtmiohekmpjiloaaGreatDoor
open Go.RowKit
set_option maxRecDepth 20000

theorem idxF_any {α : Type} (P : α → Bool) : ∀ (l : List α) (k : Nat), decide (0 ≤ idxF P l k) = l.any P
  | [], k => rfl
  | a :: l, k => by
    have ih := idxF_any P l (k + 1)
    simp only [idxF, List.any_cons]
    by_cases hP : P a = true
    · simp [hP]
    · have h0 : P a = false := by simpa using hP
      rw [← ih]
      simp [h0]
def badO (z : UInt8) : Bool := decide (z.toNat < 32) || decide (126 < z.toNat)
set_option maxHeartbeats 2000000 in
theorem rangeClo2 (z : Nat) (w : World) : Calls Tryz.prog 84 #[.int .u8 (z : Int)] w fun e w' => e = .returned (.bool (decide (z < 32) || decide (126 < z))) ∧ w' = w := by
  by_cases h1 : z < 32
  · have h1I : (z : Int) < 32 := by omega
    rw [decide_eq_true h1]
    go_enter Tryz.func84, Tryz.ntmps84
    go_wp2
    go_ret
    exact ⟨rfl, rfl⟩
  · have h1I : ¬ (z : Int) < 32 := by omega
    rw [decide_eq_false h1]
    by_cases h2 : 126 < z
    · have h2I : (126 : Int) < (z : Int) := by omega
      rw [decide_eq_true h2]
      go_enter Tryz.func84, Tryz.ntmps84
      go_wp2
      go_ret
      exact ⟨rfl, rfl⟩
    · have h2I : ¬ (126 : Int) < (z : Int) := by omega
      rw [decide_eq_false h2]
      go_enter Tryz.func84, Tryz.ntmps84
      go_wp2
      go_ret
      exact ⟨rfl, rfl⟩

set_option maxHeartbeats 8000000 in
theorem indexByte_any (l : List UInt8) (b M cap : Nat) (hM : M = l.length) (hM1 : M ≤ 9223372036854775807) (w : World) (hc : ∀ j z, l[j]? = some z → w.cell? ⟨b, j, none⟩ = some (.int .u8 (z.toNat : Int))) :
    Calls Tryz.prog 125 #[.slice (some ⟨b, 0, none⟩) M cap, .func (.func 84) #[] #[]] w fun e w' => e = .returned (.int .i64 (idxF badO l 0)) ∧ w' = w := by
  obtain ⟨R, hR⟩ : ∃ R, R = idxF badO l 0 := ⟨_, rfl⟩
  rw [← hR]
  have HR := hid hR
  have HM := hid hM
  have HC := hid hc
  have HCL := hid rangeClo2
  clear hR hM hc
  go_enter Tryz.func125, Tryz.ntmps125
  go_wp2_with fail
  go_loopw [8] (fun i wr => ∃ k : Nat, k ≤ M ∧ i = .int .i64 k ∧ Hid (idxF badO (l.drop k) k = R) ∧ w = wr) (fun i _ => M - (intOf i).toNat)
  case atStart => exact ⟨0, Nat.zero_le _, rfl, HR.out.symm, rfl⟩
  case round =>
    obtain ⟨k, hk, rfl, HJ, rfl⟩ := hrel
    by_cases hlt : k < M
    · obtain ⟨z, hz⟩ : ∃ z, l[k]? = some z := ⟨l[k]'(by rw [← HM.out]; exact hlt), by simp⟩
      have d0 := HC.out k z hz
      have hj := HJ.out
      rw [List.drop_eq_getElem_cons (by rw [← HM.out]; exact hlt), (List.getElem?_eq_some_iff.1 hz).2, idxF] at hj
      have HJJ := hid hj
      have HC1 := hid (HCL.out z.toNat w)
      clear hz hj HJ
      go_wp2_with fail
      refine HC1.out.mono ?_
      rintro e w2 ⟨rfl, rfl⟩
      have hj := HJJ.out
      clear HC1 HJJ d0
      change (if badO z = true then _ else _) = _ at hj
      cases hP : badO z with
      | true =>
        rw [hP, if_pos rfl] at hj
        subst hj
        have hP' : (decide (z.toNat < 32) || decide (126 < z.toNat)) = true := hP
        rw [hP']
        clear hP hP'
        go_wp2
        go_ret
        exact ⟨rfl, rfl⟩
      | false =>
        rw [hP, if_neg (by decide)] at hj
        have HJ2 := hid hj
        have hP' : (decide (z.toNat < 32) || decide (126 < z.toNat)) = false := hP
        rw [hP']
        clear hP hP' hj
        go_wp2
        exact ⟨⟨k + 1, by omega, by go_num, HJ2.out, trivial⟩, by simp [intOf]; omega⟩
    · have hj := HJ.out
      rw [List.drop_of_length_le (by rw [← HM.out]; omega), idxF] at hj
      subst hj
      have hkI : ¬ (k : Int) < (M : Int) := by omega
      go_wp2
      go_ret
      exact ⟨rfl, rfl⟩
set_option maxHeartbeats 2000000 in
theorem containsByte_any (l : List UInt8) (b M cap : Nat) (hM : M = l.length) (hM1 : M ≤ 9223372036854775807) (w : World) (hc : ∀ j z, l[j]? = some z → w.cell? ⟨b, j, none⟩ = some (.int .u8 (z.toNat : Int))) :
    Calls Tryz.prog 83 #[.slice (some ⟨b, 0, none⟩) M cap, .func (.func 84) #[] #[]] w fun e w' => e = .returned (.bool (l.any badO)) ∧ w' = w := by
  have H := hid (indexByte_any l b M cap hM hM1 w hc)
  rw [← idxF_any badO l 0]
  generalize idxF badO l 0 = R at *
  clear hc hM
  go_enter Tryz.func83, Tryz.ntmps83
  go_wp2_with fail
  refine H.out.mono ?_
  rintro e w1 ⟨rfl, rfl⟩
  go_wp2
  go_ret
  exact ⟨rfl, rfl⟩

set_option maxHeartbeats 2000000 in
theorem rangeClo1 (s : ByteArray) (z : Int) (q : Nat) (i u : Int) (t : ByteArray) (o : Value) (w : World) (hq : Bx w q [.int .i64 i, .int .u64 u, .string t, o] 33) : Calls Tryz.prog 82 #[.agg #[.string s, .int .i64 z], .pointer (some ⟨q, 0, none⟩)] w fun e w' => e = .returned (.bool (z == i)) ∧ Below w.heap.size w w' := by
  have hb := below_alloc w (.cells #[.string s, .int .i64 z] 101)
  have c0 := (hq.below hb).cell 0 rfl
  go_enter Tryz.func82, Tryz.ntmps82
  go_wp2
  go_ret
  exact ⟨rfl, hb⟩
set_option maxHeartbeats 2000000 in
theorem containsCase_any (xs : List Pl.Cas) (hx : xs.length ≤ 100000) (q : Nat) (i u : Int) (t : ByteArray) (o v : Value) (w : World) (hq : Bx w q [.int .i64 i, .int .u64 u, .string t, o] 33) (hS : Rw 2 CasG w v xs) :
    Calls Tryz.prog 81 #[v, .func (.func 82) #[] #[.pointer (some ⟨q, 0, none⟩)]] w fun e w' => e = .returned (.bool (xs.any fun c => ((c.num : Int) == i))) ∧ Below w.heap.size w w' := by
  have H := hid (indexCase_any 82 (.pointer (some ⟨q, 0, none⟩)) (fun _ _ => rfl) v xs hx (fun c => ((c.num : Int) == i)) w hS (by
    rintro a _ c W ⟨s, rfl, _⟩ hb
    exact rangeClo1 s _ q i u t o W (hq.below hb)))
  rw [← idxF_any (fun c : Pl.Cas => ((c.num : Int) == i)) xs 0]
  obtain ⟨ad, cp, rfl⟩ := hS.shape
  generalize idxF (fun c : Pl.Cas => ((c.num : Int) == i)) xs 0 = R at *
  generalize xs.length = L at *
  clear hS hq
  go_enter Tryz.func81, Tryz.ntmps81
  go_wp2_with fail
  refine H.out.mono ?_
  rintro e w1 ⟨rfl, hb1⟩
  have HB := hid hb1
  clear hb1
  go_wp2
  go_ret
  exact ⟨rfl, HB.out⟩

/-- Is a value in the range of its kind? -/
def rangeB (κ : Int) (cs : List Pl.Cas) (i : Int) (t : ByteArray) : Bool :=
  if κ = 1 then (i == 0 || i == 1) else if κ = 10 then (cs.any fun c => ((c.num : Int) == i)) else if κ = 4 then !(t.data.toList.any badO) else true

set_option maxHeartbeats 8000000 in
theorem range_any (κ : Int) (sn : ByteArray) (ao af : Option Addr) (mo co mf cf : Nat) (vc : Value) (cs : List Pl.Cas) (hcs : cs.length ≤ 100000) (i u : Int) (t : ByteArray) (hts : t.size ≤ maxLen) (a1 : Option Addr) (m1 c1 : Nat) (w : World) (hS : Rw 2 CasG w vc cs) :
    Calls Tryz.prog 57 #[.agg #[.int .i64 κ, .string sn, .slice ao mo co, .slice af mf cf, vc], .agg #[.int .i64 i, .int .u64 u, .string t, .slice a1 m1 c1]] w fun e w' => e = .returned (.bool (rangeB κ cs i t)) ∧ Below w.heap.size w w' := by
  obtain ⟨ac, cc, rfl⟩ := hS.shape
  obtain ⟨mc, hmc⟩ : ∃ m, m = cs.length := ⟨_, rfl⟩
  rw [← hmc]
  have hb1 := below_alloc w (.cells #[.int .i64 κ, .string sn, .slice ao mo co, .slice af mf cf, .slice ac mc cc] 97)
  have hb2 := below_alloc (w.alloc (.cells #[.int .i64 κ, .string sn, .slice ao mo co, .slice af mf cf, .slice ac mc cc] 97)) (.cells #[.int .i64 i, .int .u64 u, .string t, .slice a1 m1 c1] 33)
  have hb := below_next hb1 hb2
  have HB := hid hb
  have HMC := hid hmc
  clear hmc
  unfold rangeB
  by_cases h1 : κ = 1
  · subst h1
    rw [if_pos rfl]
    clear hb1 hb2 hb hS
    by_cases hi : i = 0
    · subst hi
      go_enter Tryz.func57, Tryz.ntmps57
      go_wp2
      go_ret
      exact ⟨rfl, HB.out⟩
    · have hq : (i == 0) = false := by simp [hi]
      rw [hq, Bool.false_or]
      go_enter Tryz.func57, Tryz.ntmps57
      go_wp2
      go_ret
      exact ⟨rfl, HB.out⟩
  · rw [if_neg h1]
    have hq1 : (κ == 1) = false := by simp [h1]
    by_cases h10 : κ = 10
    · subst h10
      rw [if_pos rfl]
      have H := hid (containsCase_any cs hcs (w.heap.size + 1) i u t (.slice a1 m1 c1) (.slice ac cs.length cc) _ (Bx.newAt (w := w.alloc (.cells #[.int .i64 10, .string sn, .slice ao mo co, .slice af mf cf, .slice ac mc cc] 97)) (by simp) _ _) (hS.below hb (fun _ _ h => h)))
      rw [← HMC.out] at H
      have hmf : ∀ (fn : Fn) (first cap : Array Value) (w : World), (Instr.makeFunc fn first cap).run Tryz.prog w = .ok (.func fn first cap) w := fun _ _ _ _ => rfl
      generalize (cs.any fun c => ((c.num : Int) == i)) = R at *
      clear hb1 hb2 hb hS
      go_enter Tryz.func57, Tryz.ntmps57
      go_wp2_with fail
      refine H.out.mono ?_
      rintro e w1 ⟨rfl, hb1⟩
      have HL := hid (below_next HB.out hb1)
      clear hb1
      go_wp2
      go_ret
      exact ⟨rfl, HL.out⟩
    · rw [if_neg h10]
      have hq10 : (κ == 10) = false := by simp [h10]
      by_cases h4 : κ = 4
      · subst h4
        rw [if_pos rfl]
        obtain ⟨w2, hw2⟩ : ∃ w2, w2 = (w.alloc (.cells #[.int .i64 4, .string sn, .slice ao mo co, .slice af mf cf, .slice ac mc cc] 97)).alloc (.cells #[.int .i64 i, .int .u64 u, .string t, .slice a1 m1 c1] 33) := ⟨_, rfl⟩
        have hB2 : Bx w2 (w.heap.size + 1) [.int .i64 i, .int .u64 u, .string t, .slice a1 m1 c1] 33 := by rw [hw2]; exact Bx.newAt (by simp) _ _
        have hB1 : Bx w2 w.heap.size [.int .i64 4, .string sn, .slice ao mo co, .slice af mf cf, .slice ac mc cc] 97 := by rw [hw2]; exact (Bx.new w _ _).below (below_alloc _ _)
        have hcv : (convert 9 134 (.string t)).run Tryz.prog w2 = _ := Lib.run_convert_string_bytes w2 9 134 5 t Tryz.underlying9 Tryz.underlying134 Tryz.underlying5
        have hlen : t.size = t.data.toList.length := by simp
        have H := hid (containsByte_any t.data.toList w2.heap.size t.size (grownCap w2 t.size 0 5) hlen (by unfold maxLen at hts; omega) (Lib.bytesWorld w2 5 t) (fun j z hz => by
          have hj : j < t.size := by rw [hlen]; exact (List.getElem?_eq_some_iff.1 hz).1
          rw [Lib.bytesWorld_cell w2 _ t j hj, List.getD, hz]
          rfl))
        have HBW : Hid (Below w2.heap.size w2 (Lib.bytesWorld w2 5 t)) := ⟨rfl, rfl, rfl, by rw [Lib.bytesWorld_size]; omega, fun k hk => Lib.bytesWorld_at_old w2 _ t k hk⟩
        rw [← hw2] at HB
        have HW2 := hid hw2
        have y0 := hB1.cell 0 rfl
        have z2 := hB2.cell 2 rfl
        generalize t.data.toList.any badO = R at *
        generalize Lib.bytesWorld w2 5 t = w3 at *
        clear hb1 hb2 hb hS hB1 hB2 hw2 hlen
        go_enter Tryz.func57, Tryz.ntmps57
        go_wp2_with fail
        rw [← HW2.out, hcv]
        simp only [Result.andThen]
        rw [Oper.upon_value]
        go_wp2_with fail
        refine H.out.mono ?_
        rintro e w4 ⟨rfl, rfl⟩
        have HL := hid (below_next HB.out HBW.out)
        go_wp2
        go_ret
        exact ⟨rfl, HL.out⟩
      · rw [if_neg h4]
        have hq4 : (κ == 4) = false := by simp [h4]
        clear hb1 hb2 hb hS
        go_enter Tryz.func57, Tryz.ntmps57
        go_wp2
        go_ret
        exact ⟨rfl, HB.out⟩
end Go.Proofs.YtmiohekmpjiloaaGreatDoor

namespace Go.Proofs.YtmiohekmpjiloaaGreatDoor
open Go.RowKit
set_option maxRecDepth 20000

theorem ret_unused {W : World} {tmps : Array Value} {b : Nat} {x y z p : Value} (ht : tmps.getD 4 undef = .pointer (some ⟨b, 0, none⟩)) (h0 : W.cell? ⟨b, 0, none⟩ = some x) (h1 : W.cell? ⟨b, 1, none⟩ = some y) (h2 : W.cell? ⟨b, 2, none⟩ = some z) (h3 : W.cell? ⟨b, 3, none⟩ = some p) :
    (results Tryz.f59 tmps).run Tryz.prog W = .ok (.agg #[x, y, z, p]) W := by
  have ht' : tmps[4]?.getD undef = .pointer (some ⟨b, 0, none⟩) := by rw [← Array.getD_eq_getD_getElem?]; exact ht
  simp [results, Tryz.results59]
  go_simp
theorem ret_ofPart {W : World} {tmps : Array Value} {b : Nat} {x y z : Value} (ht : tmps.getD 4 undef = .pointer (some ⟨b, 0, none⟩)) (h0 : W.cell? ⟨b, 0, none⟩ = some x) (h1 : W.cell? ⟨b, 1, none⟩ = some y) (h2 : W.cell? ⟨b, 2, none⟩ = some z) :
    (results Tryz.f60 tmps).run Tryz.prog W = .ok (.agg #[x, y, z]) W := by
  have ht' : tmps[4]?.getD undef = .pointer (some ⟨b, 0, none⟩) := by rw [← Array.getD_eq_getD_getElem?]; exact ht
  simp [results, Tryz.results60]
  go_simp

def uI (κ i : Int) : Int := if κ = 1 ∨ κ = 2 ∨ κ = 10 then 0 else i
def uU (κ u : Int) : Int := if κ = 3 then 0 else u
def uT (κ : Int) (t : ByteArray) : ByteArray := if κ = 4 ∨ κ = 5 then ⟨#[]⟩ else t
def uO (κ : Int) (o : Value) : Value := if κ = 6 ∨ κ = 7 ∨ κ = 9 then .slice none 0 0 else o
set_option maxHeartbeats 4000000 in
theorem unused_1 (sn : ByteArray) (ao af ac : Option Addr) (mo co mf cf mc cc : Nat) (i u : Int) (t : ByteArray) (a1 : Option Addr) (m1 c1 : Nat) (w : World) :
    Calls Tryz.prog 59 #[.agg #[.int .i64 1, .string sn, .slice ao mo co, .slice af mf cf, .slice ac mc cc], .agg #[.int .i64 i, .int .u64 u, .string t, .slice a1 m1 c1]] w fun e w' => e = .returned (.agg #[.int .i64 0, .int .u64 u, .string t, .slice a1 m1 c1]) ∧ Below w.heap.size w w' := by
  have HB := hid (below_next (below_next (below_alloc w (.cells #[.int .i64 1, .string sn, .slice ao mo co, .slice af mf cf, .slice ac mc cc] 97)) (below_alloc _ (.cells #[.int .i64 0, .int .u64 u, .string t, .slice a1 m1 c1] 33))) (below_alloc _ (.cells #[.int .i64 0, .int .u64 u, .string t, .slice a1 m1 c1] 33)))
  go_enter Tryz.func59, Tryz.ntmps59
  go_wp2_with fail
  exact bodyPost_ret (ret_unused rfl (by go_simp) (by go_simp) (by go_simp) (by go_simp)) rfl ⟨rfl, HB.out⟩
set_option maxHeartbeats 4000000 in
theorem unused_2 (sn : ByteArray) (ao af ac : Option Addr) (mo co mf cf mc cc : Nat) (i u : Int) (t : ByteArray) (a1 : Option Addr) (m1 c1 : Nat) (w : World) :
    Calls Tryz.prog 59 #[.agg #[.int .i64 2, .string sn, .slice ao mo co, .slice af mf cf, .slice ac mc cc], .agg #[.int .i64 i, .int .u64 u, .string t, .slice a1 m1 c1]] w fun e w' => e = .returned (.agg #[.int .i64 0, .int .u64 u, .string t, .slice a1 m1 c1]) ∧ Below w.heap.size w w' := by
  have HB := hid (below_next (below_next (below_alloc w (.cells #[.int .i64 2, .string sn, .slice ao mo co, .slice af mf cf, .slice ac mc cc] 97)) (below_alloc _ (.cells #[.int .i64 0, .int .u64 u, .string t, .slice a1 m1 c1] 33))) (below_alloc _ (.cells #[.int .i64 0, .int .u64 u, .string t, .slice a1 m1 c1] 33)))
  go_enter Tryz.func59, Tryz.ntmps59
  go_wp2_with fail
  exact bodyPost_ret (ret_unused rfl (by go_simp) (by go_simp) (by go_simp) (by go_simp)) rfl ⟨rfl, HB.out⟩
set_option maxHeartbeats 4000000 in
theorem unused_3 (sn : ByteArray) (ao af ac : Option Addr) (mo co mf cf mc cc : Nat) (i u : Int) (t : ByteArray) (a1 : Option Addr) (m1 c1 : Nat) (w : World) :
    Calls Tryz.prog 59 #[.agg #[.int .i64 3, .string sn, .slice ao mo co, .slice af mf cf, .slice ac mc cc], .agg #[.int .i64 i, .int .u64 u, .string t, .slice a1 m1 c1]] w fun e w' => e = .returned (.agg #[.int .i64 i, .int .u64 0, .string t, .slice a1 m1 c1]) ∧ Below w.heap.size w w' := by
  have HB := hid (below_next (below_next (below_alloc w (.cells #[.int .i64 3, .string sn, .slice ao mo co, .slice af mf cf, .slice ac mc cc] 97)) (below_alloc _ (.cells #[.int .i64 i, .int .u64 0, .string t, .slice a1 m1 c1] 33))) (below_alloc _ (.cells #[.int .i64 i, .int .u64 0, .string t, .slice a1 m1 c1] 33)))
  go_enter Tryz.func59, Tryz.ntmps59
  go_wp2_with fail
  exact bodyPost_ret (ret_unused rfl (by go_simp) (by go_simp) (by go_simp) (by go_simp)) rfl ⟨rfl, HB.out⟩
set_option maxHeartbeats 4000000 in
theorem unused_4 (sn : ByteArray) (ao af ac : Option Addr) (mo co mf cf mc cc : Nat) (i u : Int) (t : ByteArray) (a1 : Option Addr) (m1 c1 : Nat) (w : World) :
    Calls Tryz.prog 59 #[.agg #[.int .i64 4, .string sn, .slice ao mo co, .slice af mf cf, .slice ac mc cc], .agg #[.int .i64 i, .int .u64 u, .string t, .slice a1 m1 c1]] w fun e w' => e = .returned (.agg #[.int .i64 i, .int .u64 u, .string ⟨#[]⟩, .slice a1 m1 c1]) ∧ Below w.heap.size w w' := by
  have HB := hid (below_next (below_next (below_alloc w (.cells #[.int .i64 4, .string sn, .slice ao mo co, .slice af mf cf, .slice ac mc cc] 97)) (below_alloc _ (.cells #[.int .i64 i, .int .u64 u, .string ⟨#[]⟩, .slice a1 m1 c1] 33))) (below_alloc _ (.cells #[.int .i64 i, .int .u64 u, .string ⟨#[]⟩, .slice a1 m1 c1] 33)))
  go_enter Tryz.func59, Tryz.ntmps59
  go_wp2_with fail
  exact bodyPost_ret (ret_unused rfl (by go_simp) (by go_simp) (by go_simp) (by go_simp)) rfl ⟨rfl, HB.out⟩
set_option maxHeartbeats 4000000 in
theorem unused_5 (sn : ByteArray) (ao af ac : Option Addr) (mo co mf cf mc cc : Nat) (i u : Int) (t : ByteArray) (a1 : Option Addr) (m1 c1 : Nat) (w : World) :
    Calls Tryz.prog 59 #[.agg #[.int .i64 5, .string sn, .slice ao mo co, .slice af mf cf, .slice ac mc cc], .agg #[.int .i64 i, .int .u64 u, .string t, .slice a1 m1 c1]] w fun e w' => e = .returned (.agg #[.int .i64 i, .int .u64 u, .string ⟨#[]⟩, .slice a1 m1 c1]) ∧ Below w.heap.size w w' := by
  have HB := hid (below_next (below_next (below_alloc w (.cells #[.int .i64 5, .string sn, .slice ao mo co, .slice af mf cf, .slice ac mc cc] 97)) (below_alloc _ (.cells #[.int .i64 i, .int .u64 u, .string ⟨#[]⟩, .slice a1 m1 c1] 33))) (below_alloc _ (.cells #[.int .i64 i, .int .u64 u, .string ⟨#[]⟩, .slice a1 m1 c1] 33)))
  go_enter Tryz.func59, Tryz.ntmps59
  go_wp2_with fail
  exact bodyPost_ret (ret_unused rfl (by go_simp) (by go_simp) (by go_simp) (by go_simp)) rfl ⟨rfl, HB.out⟩
set_option maxHeartbeats 4000000 in
theorem unused_6 (sn : ByteArray) (ao af ac : Option Addr) (mo co mf cf mc cc : Nat) (i u : Int) (t : ByteArray) (a1 : Option Addr) (m1 c1 : Nat) (w : World) :
    Calls Tryz.prog 59 #[.agg #[.int .i64 6, .string sn, .slice ao mo co, .slice af mf cf, .slice ac mc cc], .agg #[.int .i64 i, .int .u64 u, .string t, .slice a1 m1 c1]] w fun e w' => e = .returned (.agg #[.int .i64 i, .int .u64 u, .string t, .slice none 0 0]) ∧ Below w.heap.size w w' := by
  have HB := hid (below_next (below_next (below_alloc w (.cells #[.int .i64 6, .string sn, .slice ao mo co, .slice af mf cf, .slice ac mc cc] 97)) (below_alloc _ (.cells #[.int .i64 i, .int .u64 u, .string t, .slice none 0 0] 33))) (below_alloc _ (.cells #[.int .i64 i, .int .u64 u, .string t, .slice none 0 0] 33)))
  go_enter Tryz.func59, Tryz.ntmps59
  go_wp2_with fail
  exact bodyPost_ret (ret_unused rfl (by go_simp) (by go_simp) (by go_simp) (by go_simp)) rfl ⟨rfl, HB.out⟩
set_option maxHeartbeats 4000000 in
theorem unused_7 (sn : ByteArray) (ao af ac : Option Addr) (mo co mf cf mc cc : Nat) (i u : Int) (t : ByteArray) (a1 : Option Addr) (m1 c1 : Nat) (w : World) :
    Calls Tryz.prog 59 #[.agg #[.int .i64 7, .string sn, .slice ao mo co, .slice af mf cf, .slice ac mc cc], .agg #[.int .i64 i, .int .u64 u, .string t, .slice a1 m1 c1]] w fun e w' => e = .returned (.agg #[.int .i64 i, .int .u64 u, .string t, .slice none 0 0]) ∧ Below w.heap.size w w' := by
  have HB := hid (below_next (below_next (below_alloc w (.cells #[.int .i64 7, .string sn, .slice ao mo co, .slice af mf cf, .slice ac mc cc] 97)) (below_alloc _ (.cells #[.int .i64 i, .int .u64 u, .string t, .slice none 0 0] 33))) (below_alloc _ (.cells #[.int .i64 i, .int .u64 u, .string t, .slice none 0 0] 33)))
  go_enter Tryz.func59, Tryz.ntmps59
  go_wp2_with fail
  exact bodyPost_ret (ret_unused rfl (by go_simp) (by go_simp) (by go_simp) (by go_simp)) rfl ⟨rfl, HB.out⟩
set_option maxHeartbeats 4000000 in
theorem unused_9 (sn : ByteArray) (ao af ac : Option Addr) (mo co mf cf mc cc : Nat) (i u : Int) (t : ByteArray) (a1 : Option Addr) (m1 c1 : Nat) (w : World) :
    Calls Tryz.prog 59 #[.agg #[.int .i64 9, .string sn, .slice ao mo co, .slice af mf cf, .slice ac mc cc], .agg #[.int .i64 i, .int .u64 u, .string t, .slice a1 m1 c1]] w fun e w' => e = .returned (.agg #[.int .i64 i, .int .u64 u, .string t, .slice none 0 0]) ∧ Below w.heap.size w w' := by
  have HB := hid (below_next (below_next (below_alloc w (.cells #[.int .i64 9, .string sn, .slice ao mo co, .slice af mf cf, .slice ac mc cc] 97)) (below_alloc _ (.cells #[.int .i64 i, .int .u64 u, .string t, .slice none 0 0] 33))) (below_alloc _ (.cells #[.int .i64 i, .int .u64 u, .string t, .slice none 0 0] 33)))
  go_enter Tryz.func59, Tryz.ntmps59
  go_wp2_with fail
  exact bodyPost_ret (ret_unused rfl (by go_simp) (by go_simp) (by go_simp) (by go_simp)) rfl ⟨rfl, HB.out⟩
set_option maxHeartbeats 4000000 in
theorem unused_10 (sn : ByteArray) (ao af ac : Option Addr) (mo co mf cf mc cc : Nat) (i u : Int) (t : ByteArray) (a1 : Option Addr) (m1 c1 : Nat) (w : World) :
    Calls Tryz.prog 59 #[.agg #[.int .i64 10, .string sn, .slice ao mo co, .slice af mf cf, .slice ac mc cc], .agg #[.int .i64 i, .int .u64 u, .string t, .slice a1 m1 c1]] w fun e w' => e = .returned (.agg #[.int .i64 0, .int .u64 u, .string t, .slice a1 m1 c1]) ∧ Below w.heap.size w w' := by
  have HB := hid (below_next (below_next (below_alloc w (.cells #[.int .i64 10, .string sn, .slice ao mo co, .slice af mf cf, .slice ac mc cc] 97)) (below_alloc _ (.cells #[.int .i64 0, .int .u64 u, .string t, .slice a1 m1 c1] 33))) (below_alloc _ (.cells #[.int .i64 0, .int .u64 u, .string t, .slice a1 m1 c1] 33)))
  go_enter Tryz.func59, Tryz.ntmps59
  go_wp2_with fail
  exact bodyPost_ret (ret_unused rfl (by go_simp) (by go_simp) (by go_simp) (by go_simp)) rfl ⟨rfl, HB.out⟩
theorem unused_any (κ : Int) (hκ : 1 ≤ κ ∧ κ ≤ 10 ∧ κ ≠ 8) (sn : ByteArray) (ao af ac : Option Addr) (mo co mf cf mc cc : Nat) (i u : Int) (t : ByteArray) (a1 : Option Addr) (m1 c1 : Nat) (w : World) :
    Calls Tryz.prog 59 #[.agg #[.int .i64 κ, .string sn, .slice ao mo co, .slice af mf cf, .slice ac mc cc], .agg #[.int .i64 i, .int .u64 u, .string t, .slice a1 m1 c1]] w fun e w' => e = .returned (.agg #[.int .i64 (uI κ i), .int .u64 (uU κ u), .string (uT κ t), uO κ (.slice a1 m1 c1)]) ∧ Below w.heap.size w w' := by
  obtain rfl | rfl | rfl | rfl | rfl | rfl | rfl | rfl | rfl : κ = 1 ∨ κ = 2 ∨ κ = 3 ∨ κ = 4 ∨ κ = 5 ∨ κ = 6 ∨ κ = 7 ∨ κ = 9 ∨ κ = 10 := by omega
  · exact unused_1 sn ao af ac mo co mf cf mc cc i u t a1 m1 c1 w
  · exact unused_2 sn ao af ac mo co mf cf mc cc i u t a1 m1 c1 w
  · exact unused_3 sn ao af ac mo co mf cf mc cc i u t a1 m1 c1 w
  · exact unused_4 sn ao af ac mo co mf cf mc cc i u t a1 m1 c1 w
  · exact unused_5 sn ao af ac mo co mf cf mc cc i u t a1 m1 c1 w
  · exact unused_6 sn ao af ac mo co mf cf mc cc i u t a1 m1 c1 w
  · exact unused_7 sn ao af ac mo co mf cf mc cc i u t a1 m1 c1 w
  · exact unused_9 sn ao af ac mo co mf cf mc cc i u t a1 m1 c1 w
  · exact unused_10 sn ao af ac mo co mf cf mc cc i u t a1 m1 c1 w

set_option maxHeartbeats 4000000 in
theorem ofPart_struct (fs : List Pl.Fld) (j : Nat) (f : Pl.Fld) (hj : fs[j]? = some f) (sn : ByteArray) (ao ac : Option Addr) (mo co mc cc : Nat) (vf : Value) (w : World) (hR : Rw 5 FldG w vf fs) :
    Calls Tryz.prog 60 #[.agg #[.int .i64 9, .string sn, .slice ao mo co, vf, .slice ac mc cc], .int .i64 j] w fun e w' => ∃ k s a m c, e = .returned (.agg #[.int .i64 k, .string s, .slice a m c]) ∧ TyG w' f.ty (.int .i64 k) (.string s) (.slice a m c) ∧ Below w.heap.size w w' := by
  obtain ⟨g, off, cap, c, hv, hg, ⟨fn, fk, fs', fa, fm, fc, rfl, hfn, hty⟩, hcell⟩ := Rw.at hR hj
  subst hv
  have hjl : j < fs.length := (List.getElem?_eq_some_iff.1 hj).1
  obtain ⟨mf, hmf⟩ : ∃ m, m = fs.length := ⟨_, rfl⟩
  rw [← hmf] at hjl ⊢
  have hjI : (j : Int) < (mf : Int) := by omega
  have hb1 := below_alloc w (.cells #[.int .i64 9, .string sn, .slice ao mo co, .slice (some ⟨g, off, none⟩) mf cap, .slice ac mc cc] 97)
  have hb := below_next hb1 (below_alloc _ (.cells #[.int .i64 0, .string ⟨#[]⟩, .slice none 0 0] 29))
  have hb2 := below_next hb1 (below_alloc _ (.cells #[.int .i64 fk, .string fs', .slice fa fm fc] 29))
  have d2 := (hb.cell hg).trans (hcell 2 _ rfl)
  have d3 := (hb.cell hg).trans (hcell 3 _ rfl)
  have d4 := (hb.cell hg).trans (hcell 4 _ rfl)
  have HTY := hid (TyG.below hb2 _ _ _ _ hty)
  have HB2 := hid hb2
  clear hmf hb1 hb hb2 hcell hty hfn hR hj
  go_enter Tryz.func60, Tryz.ntmps60
  go_wp2_with fail
  exact bodyPost_ret (ret_ofPart rfl (by go_simp) (by go_simp) (by go_simp)) rfl ⟨_, _, _, _, _, rfl, HTY.out, HB2.out⟩
set_option maxHeartbeats 4000000 in
theorem ofPart_one (κ : Int) (hκ : κ ≠ 9) (t : Pl.Ty) (g off cp : Nat) (x y z : Value) (j : Int) (sn : ByteArray) (af ac : Option Addr) (mf cf mc cc : Nat) (w : World) (hg : g < w.heap.size) (h0 : w.cell? ⟨g, off, none⟩ = some x) (h1 : w.cell? ⟨g, off + 1, none⟩ = some y) (h2 : w.cell? ⟨g, off + 2, none⟩ = some z) (hT : TyG w t x y z) :
    Calls Tryz.prog 60 #[.agg #[.int .i64 κ, .string sn, .slice (some ⟨g, off, none⟩) 1 cp, .slice af mf cf, .slice ac mc cc], .int .i64 j] w fun e w' => ∃ k s a m c, e = .returned (.agg #[.int .i64 k, .string s, .slice a m c]) ∧ TyG w' t (.int .i64 k) (.string s) (.slice a m c) ∧ Below w.heap.size w w' := by
  have hq : (κ == 9) = false := by simp [hκ]
  obtain ⟨rfl, ⟨s, rfl, _⟩, hof⟩ := TyG.parts hT
  obtain ⟨a, m, c, rfl⟩ : ∃ a m c, z = .slice a m c := by
    unfold OfG at hof
    split at hof
    · obtain ⟨_, _, rfl⟩ := hof; exact ⟨_, _, _, rfl⟩
    · obtain ⟨_, _, _, _, _, _, rfl, _⟩ := hof; exact ⟨_, _, _, rfl⟩
  have hb1 := below_alloc w (.cells #[.int .i64 κ, .string sn, .slice (some ⟨g, off, none⟩) 1 cp, .slice af mf cf, .slice ac mc cc] 97)
  have hb := below_next hb1 (below_alloc _ (.cells #[.int .i64 0, .string ⟨#[]⟩, .slice none 0 0] 29))
  have hb2 := below_next hb1 (below_alloc _ (.cells #[.int .i64 (kindOf t), .string s, .slice a m c] 29))
  have d2 := (hb.cell hg).trans h0
  have d3 := (hb.cell hg).trans h1
  have d4 := (hb.cell hg).trans h2
  have HTY := hid (TyG.below hb2 _ _ _ _ hT)
  have HB2 := hid hb2
  clear hb1 hb hb2 hT h0 h1 h2 hof
  go_enter Tryz.func60, Tryz.ntmps60
  go_wp2_with fail
  exact bodyPost_ret (ret_ofPart rfl (by go_simp) (by go_simp) (by go_simp)) rfl ⟨_, _, _, _, _, rfl, HTY.out, HB2.out⟩
end Go.Proofs.YtmiohekmpjiloaaGreatDoor

namespace Go.Proofs.YtmiohekmpjiloaaGreatDoor
open Go.RowKit
set_option maxRecDepth 20000

/-- What a name means: its kind, its fields, its cases. -/
def kindM (f : List Nat → Int × Int) : Pl.Ty → Int
  | .named x => if (f x).1 = 1 then 9 else if (f x).1 = 2 then 10 else 8
  | t => kindOf t
def fldsM (st : List (List Nat × List Pl.Fld)) (f : List Nat → Int × Int) : Pl.Ty → List Pl.Fld
  | .named x => if (f x).1 = 1 then ((st[(f x).2.toNat]?).getD ([], [])).2 else []
  | _ => []
def cassM (en : List (List Nat × List Pl.Cas)) (f : List Nat → Int × Int) : Pl.Ty → List Pl.Cas
  | .named x => if (f x).1 = 1 then [] else if (f x).1 = 2 then ((en[(f x).2.toNat]?).getD ([], [])).2 else []
  | _ => []
def unusedG (κ : Int) (g : Pl.GV) : Pl.GV := .node (uI κ g.i) (uU κ g.u) (uT κ g.t) (if κ = 6 ∨ κ = 7 ∨ κ = 9 then [] else g.l)
def ownE (κ : Int) (fs : List Pl.Fld) (cs : List Pl.Cas) (g : Pl.GV) : Int :=
  if tooL κ g.t.size g.l.length = true then 5 else if rangeB κ cs g.i g.t = false then 4 else if wholeB κ fs.length g.l.length = false then 3 else if cmpV 65536 (unusedG κ g) zeroV = 0 then 0 else 9
/-- The type of the part at a place. -/
def partT (fs : List Pl.Fld) : Pl.Ty → Nat → Pl.Ty
  | .list t, _ => t
  | .opt t, _ => t
  | .named _, j => ((fs[j]?).getD ⟨0, [], .plain 1⟩).ty
  | t, _ => t
def partsV (f : Nat → Pl.GV → Int) : Nat → List Pl.GV → Int
  | _, [] => 0
  | j, x :: l => if f j x = 0 then partsV f (j + 1) l else f j x
/-- The error of a value of a type, so many steps down. -/
def valE (st : List (List Nat × List Pl.Fld)) (en : List (List Nat × List Pl.Cas)) (f : List Nat → Int × Int) : Nat → Pl.Ty → Pl.GV → Int
  | 0, _, _ => 0
  | n + 1, t, g => if ownE (kindM f t) (fldsM st f t) (cassM en f t) g = 0 then partsV (fun j x => valE st en f n (partT (fldsM st f t) t j) x) 0 g.l else ownE (kindM f t) (fldsM st f t) (cassM en f t) g
/-- A value is no deeper than n. -/
def DV : Nat → Pl.GV → Prop
  | 0, _ => False
  | n + 1, g => ∀ x ∈ g.l, DV n x
theorem deepV_pos (m : Nat) (g : Pl.GV) (l : List Pl.GV) : 1 ≤ deepV (m + 1) (g :: l) := by
  rw [deepV_succ, List.foldl_cons]
  have h1 : 1 ≤ deepVF m 0 g := by
    unfold deepVF
    split <;> omega
  suffices H : ∀ (l : List Pl.GV) d, 1 ≤ d → 1 ≤ l.foldl (deepVF m) d from H l _ h1
  intro l
  induction l with
  | nil => intro d hd; exact hd
  | cons x l ih =>
    intro d hd
    rw [List.foldl_cons]
    refine ih _ ?_
    unfold deepVF
    split <;> omega
theorem fold_ge (m : Nat) : ∀ (l : List Pl.GV) (d : Nat), d ≤ l.foldl (deepVF m) d
  | [], d => Nat.le_refl _
  | x :: l, d => by
    rw [List.foldl_cons]
    refine Nat.le_trans ?_ (fold_ge m l _)
    unfold deepVF
    split <;> omega
theorem deepV_each (m : Nat) (l : List Pl.GV) (h : deepV (m + 1) l ≤ m) : ∀ x ∈ l, 1 + deepV m x.l ≤ deepV (m + 1) l := by
  rw [deepV_succ] at h ⊢
  suffices H : ∀ (l : List Pl.GV) d, l.foldl (deepVF m) d ≤ m → ∀ x ∈ l, 1 + deepV m x.l ≤ l.foldl (deepVF m) d from H l 0 h
  intro l
  induction l with
  | nil => intro d _ x hx; cases hx
  | cons y l ih =>
    intro d hd x hx
    rw [List.foldl_cons] at hd ⊢
    rcases List.mem_cons.1 hx with rfl | hx
    · have h1 := fold_ge m l (deepVF m d x)
      have h2 : d ≤ deepVF m d x := by unfold deepVF; split <;> omega
      have h3 : 1 + deepV m x.l ≤ deepVF m d x := by
        unfold deepVF
        rw [if_pos (by omega)]
        omega
      omega
    · exact ih _ hd x hx
theorem dv_of (n : Nat) : ∀ (m : Nat) (g : Pl.GV), n ≤ m → deepV (m + 1) [g] ≤ n → DV n g := by
  induction n with
  | zero =>
    intro m g _ h
    have := deepV_pos m g []
    omega
  | succ n ih =>
    intro m g hm h x hx
    have h1 := deepV_each m [g] (by omega) g (List.mem_singleton.2 rfl)
    obtain ⟨m', rfl⟩ : ∃ m', m = m' + 1 := ⟨m - 1, by omega⟩
    have h2 := deepV_each m' g.l (by omega) x hx
    refine ih m' x (by omega) ?_
    have h3 : deepV (m' + 1) [x] ≤ 1 + deepV m' x.l := by
      rw [deepV_succ, List.foldl_cons, List.foldl_nil, deepVF]
      split <;> omega
    omega
end Go.Proofs.YtmiohekmpjiloaaGreatDoor

namespace Go.Proofs.YtmiohekmpjiloaaGreatDoor
open Go.RowKit
set_option maxRecDepth 20000

/-- A schema whose structs' fields are of types that may be, and that are known. -/
structure Closed (st : List (List Nat × List Pl.Fld)) (en : List (List Nat × List Pl.Cas)) (sv : List (List Nat × List Pl.Mth)) : Prop where
  len : st.length ≤ 1000 ∧ en.length ≤ 1000 ∧ sv.length ≤ 1000
  fld : ∀ a ∈ st, ∀ f ∈ a.2, Pl.okTy f.ty ∧ knP (fnd st en sv) f.ty = true
  cas : ∀ a ∈ en, a.2.length ≤ 1000
  flen : ∀ a ∈ st, a.2.length ≤ 1000
theorem kindM_rng {st : List (List Nat × List Pl.Fld)} {en : List (List Nat × List Pl.Cas)} {sv : List (List Nat × List Pl.Mth)} {t : Pl.Ty} (ho : Pl.okTy t) (hk : knP (fnd st en sv) t = true) : 1 ≤ kindM (fnd st en sv) t ∧ kindM (fnd st en sv) t ≤ 10 ∧ kindM (fnd st en sv) t ≠ 8 := by
  cases t with
  | plain k => have := ho.1; have := ho.2; simp only [kindM, kindOf]; omega
  | named x =>
    simp only [knP, Bool.or_eq_true, beq_iff_eq] at hk
    simp only [kindM]
    rcases hk with h | h
    · rw [if_pos h]; omega
    · rw [if_neg (by omega), if_pos h]; omega
  | list t => simp [kindM, kindOf]
  | opt t => simp [kindM, kindOf]

/-- What mean tells of a type. -/
theorem mean_any (st : List (List Nat × List Pl.Fld)) (en : List (List Nat × List Pl.Cas)) (sv : List (List Nat × List Pl.Mth)) (hl : st.length ≤ 1000 ∧ en.length ≤ 1000 ∧ sv.length ≤ 1000) (t : Pl.Ty) (ho : Pl.okTy t) (s1 s2 s3 : Value) (k : Int) (s : ByteArray) (ao : Option Addr) (mo co : Nat) (w : World) (hS : SchG st en sv s1 s2 s3 w) (hT : TyG w t (.int .i64 k) (.string s) (.slice ao mo co)) :
    Calls Tryz.prog 52 #[.agg #[s1, s2, s3], .agg #[.int .i64 k, .string s, .slice ao mo co]] w fun e w' => ∃ vf vc, e = .returned (.agg #[.int .i64 (kindM (fnd st en sv) t), .string s, .slice ao mo co, vf, vc]) ∧ Rw 5 FldG w' vf (fldsM st (fnd st en sv) t) ∧ Rw 2 CasG w' vc (cassM en (fnd st en sv) t) ∧ Below w.heap.size w w' := by
  have hnil5 : ∀ W, Rw 5 FldG W (.slice none 0 0) [] := fun W => ⟨none, 0, rfl, by simp, fun i a h => by simp at h⟩
  have hnil2 : ∀ W, Rw 2 CasG W (.slice none 0 0) [] := fun W => ⟨none, 0, rfl, by simp, fun i a h => by simp at h⟩
  have hk := (TyG.parts hT).1
  injection hk with _ hk
  subst hk
  obtain ⟨a1, c1, a2, c2, a3, c3, rfl, rfl, rfl⟩ := hS.shape
  have key : kindOf t ≠ 8 → kindM (fnd st en sv) t = kindOf t → fldsM st (fnd st en sv) t = [] → cassM en (fnd st en sv) t = [] → Calls Tryz.prog 52 #[.agg #[.slice a1 st.length c1, .slice a2 en.length c2, .slice a3 sv.length c3], .agg #[.int .i64 (kindOf t), .string s, .slice ao mo co]] w fun e w' => ∃ vf vc, e = .returned (.agg #[.int .i64 (kindM (fnd st en sv) t), .string s, .slice ao mo co, vf, vc]) ∧ Rw 5 FldG w' vf (fldsM st (fnd st en sv) t) ∧ Rw 2 CasG w' vc (cassM en (fnd st en sv) t) ∧ Below w.heap.size w w' := by
    intro h8 e1 e2 e3
    rw [e1, e2, e3]
    refine (mean_plain (kindOf t) h8 s a1 a2 a3 ao _ _ _ mo c1 c2 c3 co w).mono ?_
    rintro e w' ⟨rfl, hb⟩
    exact ⟨_, _, rfl, hnil5 _, hnil2 _, hb⟩
  cases t with
  | plain q => have := ho.2; exact key (by simp only [kindOf]; omega) rfl rfl rfl
  | list t => exact key (by simp [kindOf]) rfl rfl rfl
  | opt t => exact key (by simp [kindOf]) rfl rfl rfl
  | named x =>
    have hx : bl s = x := by obtain ⟨_, ⟨s', hs, hb⟩, _⟩ := TyG.parts hT; cases hs; exact hb
    refine (mean_named st en sv hl _ _ _ s ao mo co w hS).mono ?_
    rintro e w' ⟨k, f, c, rfl, hmn, hb⟩
    rw [hx] at hmn
    refine ⟨f, c, ?_, ?_, ?_, hb⟩
    · unfold MeanN at hmn
      simp only [kindM]
      split at hmn
      · rename_i h1
        obtain ⟨i, a, _, _, _, rfl, _⟩ := hmn
        rw [if_pos h1]
      · rename_i h1
        split at hmn
        · rename_i h2
          obtain ⟨i, a, _, _, _, rfl, _⟩ := hmn
          rw [if_neg h1, if_pos h2]
        · rename_i h2
          obtain ⟨rfl, _⟩ := hmn
          rw [if_neg h1, if_neg h2]
    · unfold MeanN at hmn
      simp only [fldsM]
      split at hmn
      · rename_i h1
        obtain ⟨i, a, hi, _, hfi, rfl, rfl, hr⟩ := hmn
        rw [if_pos h1, hfi, Int.toNat_natCast, hi]
        exact hr
      · rename_i h1
        rw [if_neg h1]
        split at hmn
        · obtain ⟨i, a, _, _, _, rfl, rfl, _⟩ := hmn
          exact hnil5 _
        · obtain ⟨rfl, rfl, rfl⟩ := hmn
          exact hnil5 _
    · unfold MeanN at hmn
      simp only [cassM]
      split at hmn
      · rename_i h1
        obtain ⟨i, a, hi, _, hfi, rfl, rfl, hr⟩ := hmn
        rw [if_pos h1]
        exact hnil2 _
      · rename_i h1
        rw [if_neg h1]
        split at hmn
        · rename_i h2
          obtain ⟨i, a, hi, _, hfi, rfl, rfl, hr⟩ := hmn
          rw [if_pos h2, hfi, Int.toNat_natCast, hi]
          exact hr
        · rename_i h2
          obtain ⟨rfl, rfl, rfl⟩ := hmn
          rw [if_neg h2]
          exact hnil2 _
end Go.Proofs.YtmiohekmpjiloaaGreatDoor

