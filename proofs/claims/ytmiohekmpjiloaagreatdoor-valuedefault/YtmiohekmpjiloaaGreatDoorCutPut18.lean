/- parse: Deep, isShaped. parse: isShaped, Shape. parse: spell, putType. parse: writeField, writeCase, writeMethod. parse: writeMethod. parse: writeParts, whatever the parts are. parse: a schema of any make, as it lies; the closures of writeAll. parse: writeAll. -/
import Derived.Test.YtmiohekmpjiloaaGreatDoorCutPut17
import Derived.Deep.RegionWith
namespace Go.Proofs.YtmiohekmpjiloaaGreatDoor
open Go.RowKit
set_option maxRecDepth 20000

/-- A type's three cells, so many steps down. -/
def Ly (B n : Nat) (g : Pl.GT) (w : World) (k s o : Value) : Prop := k = .int .i64 g.k ∧ (∃ x, s = .string x ∧ bl x = g.n ∧ x.size ≤ maxLen) ∧ LyS B n g.os w o
theorem Ly.bel {B n : Nat} {g : Pl.GT} {w w' : World} {k s o : Value} (h : Ly B n g w k s o) (hb : Below B w w') : Ly B n g w' k s o := ⟨h.1, h.2.1, LyS.bel hb _ _ _ h.2.2⟩
theorem Ly.mono {B B' n : Nat} {g : Pl.GT} {w : World} {k s o : Value} (h : Ly B n g w k s o) (hB : B ≤ B') : Ly B' n g w k s o := ⟨h.1, h.2.1, LyS.mono hB _ _ _ _ h.2.2⟩
theorem LyS.one {B n : Nat} {g : Pl.GT} {w : World} {k s o : Value} (h : Ly B n g w k s o) {b : Nat} (hb : b < B) (hB : Bx w b [k, s, o] 29) : LyS B (n + 1) [g] w (.slice (some ⟨b, 0, none⟩) 1 1) := by
  obtain ⟨rfl, ⟨x, rfl, h2, h3⟩, h4⟩ := h
  refine ⟨some ⟨b, 0, none⟩, 1, rfl, by simp, fun i g' hi => ?_⟩
  cases i with
  | zero =>
    simp at hi
    subst hi
    exact ⟨b, 0, x, o, rfl, hb, hB.cell 0 rfl, hB.cell 1 rfl, h2, h3, hB.cell 2 rfl, h4⟩
  | succ i => simp at hi
theorem LyS.first {B n : Nat} {g : Pl.GT} {w : World} {v : Value} (h : LyS B (n + 1) [g] w v) : ∃ blk off cp k s o, v = .slice (some ⟨blk, off, none⟩) 1 cp ∧ blk < B ∧ w.cell? ⟨blk, off, none⟩ = some k ∧ w.cell? ⟨blk, off + 1, none⟩ = some s ∧ w.cell? ⟨blk, off + 2, none⟩ = some o ∧ Ly B n g w k s o := by
  obtain ⟨ad, cp, rfl, _, h3⟩ := h
  obtain ⟨blk, off, s, o, rfl, q2, q3, q4, q5, q6, q7, q8⟩ := h3 0 g rfl
  simp only [Nat.zero_mul, Nat.add_zero] at q3 q4 q7
  exact ⟨blk, off, cp, _, _, _, rfl, q2, q3, q4, q7, rfl, ⟨s, rfl, q5, q6⟩, q8⟩

set_option maxHeartbeats 2000000 in
theorem deep_any (B n : Nat) (hn : 99 ≤ n) (g : Pl.GT) (w : World) (k s o : Value) (h : Ly B n g w k s o) (hB : B ≤ w.heap.size) :
    Calls Tryz.prog 76 #[.agg #[k, s, o]] w fun e w' => e = .returned (.int .i64 (Pl.deepP 100 [g] : Int)) ∧ Below w.heap.size w w' := by
  have h99 : Ly B 99 g w k s o := by
    refine ⟨h.1, h.2.1, ?_⟩
    have h0 := h.2.2
    clear h
    induction hn with
    | refl => exact h0
    | step _ ih => exact ih (LyS.less _ _ _ _ h0)
  clear h
  have hl1 := below_alloc w (.cells #[k, s, o] 29)
  have hl2 := below_alloc (w.alloc (.cells #[k, s, o] 29)) (.cells #[k, s, o] 29)
  have hlw := below_next hl1 hl2
  have hd := deepest_any 100 (w.heap.size + 2) [g] ((w.alloc (.cells #[k, s, o] 29)).alloc (.cells #[k, s, o] 29)) (.slice (some ⟨w.heap.size + 1, 0, none⟩) 1 1) (by omega)
    (LyS.one ((h99.mono hB).bel hlw |>.mono (by omega)) (by omega) (Bx.newAt (by simp) [k, s, o] 29)) (by simp)
  obtain ⟨rfl, ⟨x, rfl, -, -⟩, h4⟩ := h99
  obtain ⟨ad, m, cp, rfl⟩ := h4.shape
  clear h4
  generalize Pl.deepP 100 [g] = D at *
  generalize g.k = K at *
  go_enter Tryz.func76, Tryz.ntmps76
  go_wp2_with fail
  refine hd.mono ?_
  rintro e w1 ⟨rfl, hb1⟩
  have hb2 := below_next hlw hb1
  go_wp2
  go_ret
  exact ⟨rfl, hb2⟩

theorem run_len {P : Program} {w : World} {o : Oper} {a : Act} {x : Operand} {t e : TypeId} {ad : Option Addr} {n cp : Nat} (hop : o.op = .call { callee := .builtin .len, args := #[x], argTypes := #[t] }) (hx : a.eval x = .slice ad n cp) (ht : P.underlying t = some (.slice e)) : (execOp a.eval o).run P w = .ok (.value (.int .i64 (n : Int))) w := by
  simp [execOp, hop, hx, resolve]
  go_simp
theorem ret_shaped {W : World} {tmps : Array Value} {v : Value} (ht : tmps.getD 2 undef = v) : (results Tryz.f77 tmps).run Tryz.prog W = .ok v W := by
  have ht' : tmps[2]?.getD undef = v := by rw [← Array.getD_eq_getD_getElem?]; exact ht
  simp [results, Tryz.results77]
  go_simp
theorem ba_nil {x : ByteArray} (h : x.size = 0) : x = ⟨#[]⟩ := by
  apply ByteArray.ext
  apply Array.eq_empty_of_size_eq_zero
  exact h

set_option maxHeartbeats 4000000 in
/-- isShaped of a plain type, or of none. -/
theorem shaped_plain (K : Int) (x : ByteArray) (ad : Option Addr) (m cp : Nat) (w : World) (h6 : K ≠ 6) (h7 : K ≠ 7) (h8 : K ≠ 8) :
    Calls Tryz.prog 77 #[.agg #[.int .i64 K, .string x, .slice ad m cp]] w fun e w' => e = .returned (.bool (decide (1 ≤ K) && decide (K ≤ 5) && decide (x.size = 0) && decide (m = 0))) ∧ Below w.heap.size w w' := by
  have hh := fun w => holds_any (.node K [] []) (.string x) (.slice ad m cp) w
  have hf : (Pl.GT.node K [] []).holds = false := by simp [Pl.GT.holds, Pl.GT.k, h6, h7]
  simp only [hf, Pl.GT.k] at hh
  have hpw := fun w => plainWords_any w
  have q8 : (K == 8) = false := by simp [h8]
  have hBx := Bx.new w [.int .i64 K, .string x, .slice ad m cp] 29
  have hbw := below_alloc w (.cells #[.int .i64 K, .string x, .slice ad m cp] 29)
  go_enter Tryz.func77, Tryz.ntmps77
  go_wp2_with fail
  refine (hh _).mono ?_
  rintro e w1 ⟨rfl, hb1⟩
  have hB1 := hBx.below hb1
  have c0 := hB1.cell 0 rfl
  have c1 := hB1.cell 1 rfl
  have c2 := hB1.cell 2 rfl
  have hbw1 := below_next hbw hb1
  have hlt := hB1.lt
  have HW := hid hbw1
  clear hB1 hBx hb1 hbw hbw1 hh hf
  go_wp2_with fail
  by_cases k1 : 1 ≤ K
  · by_cases k5 : K ≤ 5
    · by_cases hx : x.size = 0
      · obtain rfl : x = ⟨#[]⟩ := ba_nil hx
        by_cases hm : m = 0
        · subst hm
          refine wp_region_drawn (pred := fun jx v _ => match jx with | 0 => v = .pointer (some ⟨w.heap.size, 0, none⟩) | 1 => v = .int .i64 K | 2 => v = .bool true | 3 => v = .bool true | 4 => v = .pointer (some ⟨w.heap.size, 0, none⟩) | 5 => v = .int .i64 K | 6 => ∃ gw, v = .slice (some ⟨gw, 0, none⟩) 5 5 | 7 => v = .int .i64 (5 : Int) | 8 => v = .bool true | 9 => v = .bool true | 10 => v = .bool true | 11 => v = .pointer (some ⟨w.heap.size, 1, none⟩) | 12 => v = .string ⟨#[]⟩ | 13 => v = .bool true | 14 => v = .bool true | 15 => v = .bool true | 16 => v = .pointer (some ⟨w.heap.size, 2, none⟩) | 17 => v = .slice ad 0 cp | 18 => v = .int .i64 ((0 : Nat) : Int) | 19 => v = .bool true | 20 => v = .bool true | 21 => v = .bool true | _ => True) (R := fun W => Below w1.heap.size w1 W) (by kernel_rfl) (by kernel_rfl) (by kernel_rfl) (fun i v W W' h _ => h) (Below.drew (Below.refl _ _)) ?step ?done
          case step =>
            intro ix o ho A W hsz hdf hfr hdep hR
            rcases ix with _ | _ | _ | _ | _ | _ | _ | _ | _ | _ | _ | _ | _ | _ | _ | _ | _ | _ | _ | _ | _ | _ | ix
            · injection ho with ho
              subst ho
              have e1 : A.eval (.tmp 1) = .pointer (some ⟨w.heap.size, 0, none⟩) := (hfr 1 (noDst_spec (by kernel_rfl))).trans rfl
              exact gOp_fld (v := .pointer (some ⟨w.heap.size, 0, none⟩)) rfl (wanted_plain rfl) rfl e1 (by go_simp) ⟨_, rfl, rfl, Below.refl _ _, hR⟩
            · injection ho with ho
              subst ho
              have e35 : A.eval (.tmp 35) = .pointer (some ⟨w.heap.size, 0, none⟩) := hdep ⟨0, .data⟩ (by simp) rfl _ _ rfl rfl
              have x0 := (hR.cell hlt).trans c0
              exact gOp_ld (v := .int .i64 K) rfl (wanted_plain rfl) rfl e35 (by go_simp) ⟨_, rfl, rfl, Below.refl _ _, hR⟩
            · injection ho with ho
              subst ho
              have e36 : A.eval (.tmp 36) = .int .i64 K := hdep ⟨1, .data⟩ (by simp) rfl _ _ rfl rfl
              exact gOp_ok (v := .bool true) rfl (wanted_plain rfl) (run_bin rfl rfl e36 (by go_simp) (by go_simp)) ⟨_, rfl, rfl, Below.refl _ _, hR⟩
            · injection ho with ho
              subst ho
              have e37 : A.eval (.tmp 37) = .bool true := hdep ⟨2, .data⟩ (by simp) rfl _ _ rfl rfl
              exact gOp_mv rfl (wanted_plain rfl) (.inl rfl) e37 ⟨_, rfl, rfl, Below.refl _ _, hR⟩
            · injection ho with ho
              subst ho
              have e1 : A.eval (.tmp 1) = .pointer (some ⟨w.heap.size, 0, none⟩) := (hfr 1 (noDst_spec (by kernel_rfl))).trans rfl
              exact gOp_fld (v := .pointer (some ⟨w.heap.size, 0, none⟩)) rfl (wanted_on true 3 38 _ rfl rfl rfl (hdep ⟨3, .guard⟩ (by simp) rfl _ _ rfl rfl)) rfl e1 (by go_simp) ⟨_, rfl, rfl, Below.refl _ _, hR⟩
            · injection ho with ho
              subst ho
              have e39 : A.eval (.tmp 39) = .pointer (some ⟨w.heap.size, 0, none⟩) := hdep ⟨4, .data⟩ (by simp) rfl _ _ rfl rfl
              have x0 := (hR.cell hlt).trans c0
              exact gOp_ld (v := .int .i64 K) rfl (wanted_on true 3 38 _ rfl rfl rfl (hdep ⟨3, .guard⟩ (by simp) rfl _ _ rfl rfl)) rfl e39 (by go_simp) ⟨_, rfl, rfl, Below.refl _ _, hR⟩
            · injection ho with ho
              subst ho
              refine gOp_enter rfl (wanted_on true 3 38 _ rfl rfl rfl (hdep ⟨3, .guard⟩ (by simp) rfl _ _ rfl rfl)) 116 #[] (run_call _ (fun _ _ => rfl) _ _ rfl _ (by simp)) ?_
              refine (hpw W).mono ?_
              rintro e w' ⟨v, rfl, ⟨gw, rfl, _⟩, hb'⟩
              exact ⟨_, rfl, _, rfl, ⟨gw, rfl⟩, hb', below_next hR hb'⟩
            · injection ho with ho
              subst ho
              obtain ⟨gw, e41⟩ : ∃ gw, A.eval (.tmp 41) = .slice (some ⟨gw, 0, none⟩) 5 5 := hdep ⟨6, .data⟩ (by simp) rfl _ _ rfl rfl
              exact gOp_ok (v := .int .i64 (5 : Int)) rfl (wanted_on true 3 38 _ rfl rfl rfl (hdep ⟨3, .guard⟩ (by simp) rfl _ _ rfl rfl)) (run_len rfl e41 Tryz.underlying123) ⟨_, rfl, rfl, Below.refl _ _, hR⟩
            · injection ho with ho
              subst ho
              have e40 : A.eval (.tmp 40) = .int .i64 K := hdep ⟨5, .data⟩ (by simp) rfl _ _ rfl rfl
              have e42 : A.eval (.tmp 42) = .int .i64 (5 : Int) := hdep ⟨7, .data⟩ (by simp) rfl _ _ rfl rfl
              exact gOp_ok (v := .bool true) rfl (wanted_on true 3 38 _ rfl rfl rfl (hdep ⟨3, .guard⟩ (by simp) rfl _ _ rfl rfl)) (run_bin rfl e40 e42 (by go_simp) (by go_simp)) ⟨_, rfl, rfl, Below.refl _ _, hR⟩
            · injection ho with ho
              subst ho
              have e38 : A.eval (.tmp 38) = .bool true := hdep ⟨3, .data⟩ (by simp) rfl _ _ rfl rfl
              have e43 : A.eval (.tmp 43) = .bool true := hdep ⟨8, .data⟩ (by simp) rfl _ _ rfl rfl
              exact gOp_pk (v := .bool true) rfl (wanted_plain rfl) rfl e38 (by first | exact e43 | rfl) ⟨_, rfl, rfl, Below.refl _ _, hR⟩
            · injection ho with ho
              subst ho
              have e44 : A.eval (.tmp 44) = .bool true := hdep ⟨9, .data⟩ (by simp) rfl _ _ rfl rfl
              exact gOp_mv rfl (wanted_plain rfl) (.inl rfl) e44 ⟨_, rfl, rfl, Below.refl _ _, hR⟩
            · injection ho with ho
              subst ho
              have e1 : A.eval (.tmp 1) = .pointer (some ⟨w.heap.size, 0, none⟩) := (hfr 1 (noDst_spec (by kernel_rfl))).trans rfl
              exact gOp_fld (v := .pointer (some ⟨w.heap.size, 1, none⟩)) rfl (wanted_on true 10 45 _ rfl rfl rfl (hdep ⟨10, .guard⟩ (by simp) rfl _ _ rfl rfl)) rfl e1 (by go_simp) ⟨_, rfl, rfl, Below.refl _ _, hR⟩
            · injection ho with ho
              subst ho
              have e46 : A.eval (.tmp 46) = .pointer (some ⟨w.heap.size, 1, none⟩) := hdep ⟨11, .data⟩ (by simp) rfl _ _ rfl rfl
              have x0 := (hR.cell hlt).trans c1
              exact gOp_ld (v := .string ⟨#[]⟩) rfl (wanted_on true 10 45 _ rfl rfl rfl (hdep ⟨10, .guard⟩ (by simp) rfl _ _ rfl rfl)) rfl e46 (by go_simp) ⟨_, rfl, rfl, Below.refl _ _, hR⟩
            · injection ho with ho
              subst ho
              have e47 : A.eval (.tmp 47) = .string ⟨#[]⟩ := hdep ⟨12, .data⟩ (by simp) rfl _ _ rfl rfl
              exact gOp_ok (v := .bool true) rfl (wanted_on true 10 45 _ rfl rfl rfl (hdep ⟨10, .guard⟩ (by simp) rfl _ _ rfl rfl)) (run_bin rfl e47 rfl (by go_simp) (by go_simp)) ⟨_, rfl, rfl, Below.refl _ _, hR⟩
            · injection ho with ho
              subst ho
              have e45 : A.eval (.tmp 45) = .bool true := hdep ⟨10, .data⟩ (by simp) rfl _ _ rfl rfl
              have e48 : A.eval (.tmp 48) = .bool true := hdep ⟨13, .data⟩ (by simp) rfl _ _ rfl rfl
              exact gOp_pk (v := .bool true) rfl (wanted_plain rfl) rfl e45 (by first | exact e48 | rfl) ⟨_, rfl, rfl, Below.refl _ _, hR⟩
            · injection ho with ho
              subst ho
              have e49 : A.eval (.tmp 49) = .bool true := hdep ⟨14, .data⟩ (by simp) rfl _ _ rfl rfl
              exact gOp_mv rfl (wanted_plain rfl) (.inl rfl) e49 ⟨_, rfl, rfl, Below.refl _ _, hR⟩
            · injection ho with ho
              subst ho
              have e1 : A.eval (.tmp 1) = .pointer (some ⟨w.heap.size, 0, none⟩) := (hfr 1 (noDst_spec (by kernel_rfl))).trans rfl
              exact gOp_fld (v := .pointer (some ⟨w.heap.size, 2, none⟩)) rfl (wanted_on true 15 50 _ rfl rfl rfl (hdep ⟨15, .guard⟩ (by simp) rfl _ _ rfl rfl)) rfl e1 (by go_simp) ⟨_, rfl, rfl, Below.refl _ _, hR⟩
            · injection ho with ho
              subst ho
              have e51 : A.eval (.tmp 51) = .pointer (some ⟨w.heap.size, 2, none⟩) := hdep ⟨16, .data⟩ (by simp) rfl _ _ rfl rfl
              have x0 := (hR.cell hlt).trans c2
              exact gOp_ld (v := .slice ad 0 cp) rfl (wanted_on true 15 50 _ rfl rfl rfl (hdep ⟨15, .guard⟩ (by simp) rfl _ _ rfl rfl)) rfl e51 (by go_simp) ⟨_, rfl, rfl, Below.refl _ _, hR⟩
            · injection ho with ho
              subst ho
              have e52 : A.eval (.tmp 52) = .slice ad 0 cp := hdep ⟨17, .data⟩ (by simp) rfl _ _ rfl rfl
              exact gOp_ok (v := .int .i64 ((0 : Nat) : Int)) rfl (wanted_on true 15 50 _ rfl rfl rfl (hdep ⟨15, .guard⟩ (by simp) rfl _ _ rfl rfl)) (run_len rfl e52 Tryz.underlying27) ⟨_, rfl, rfl, Below.refl _ _, hR⟩
            · injection ho with ho
              subst ho
              have e53 : A.eval (.tmp 53) = .int .i64 ((0 : Nat) : Int) := hdep ⟨18, .data⟩ (by simp) rfl _ _ rfl rfl
              exact gOp_ok (v := .bool true) rfl (wanted_on true 15 50 _ rfl rfl rfl (hdep ⟨15, .guard⟩ (by simp) rfl _ _ rfl rfl)) (run_bin rfl e53 rfl (by go_simp) (by go_simp)) ⟨_, rfl, rfl, Below.refl _ _, hR⟩
            · injection ho with ho
              subst ho
              have e50 : A.eval (.tmp 50) = .bool true := hdep ⟨15, .data⟩ (by simp) rfl _ _ rfl rfl
              have e54 : A.eval (.tmp 54) = .bool true := hdep ⟨19, .data⟩ (by simp) rfl _ _ rfl rfl
              exact gOp_pk (v := .bool true) rfl (wanted_plain rfl) rfl e50 (by first | exact e54 | rfl) ⟨_, rfl, rfl, Below.refl _ _, hR⟩
            · injection ho with ho
              subst ho
              have e55 : A.eval (.tmp 55) = .bool true := hdep ⟨20, .data⟩ (by simp) rfl _ _ rfl rfl
              exact gOp_mv rfl (wanted_plain rfl) (.inr rfl) e55 ⟨_, rfl, rfl, Below.refl _ _, hR⟩
            · simp at ho
          case done =>
            intro A W hsz hdf hfr hpred hR
            have h2 : A.tmps.getD 2 undef = .bool true := hpred 21 _ 2 rfl rfl
            go_wp2_with fail
            refine bodyPost_ret (ret_shaped h2) hdf ⟨?_, below_next HW.out hR⟩
            exact congrArg (fun b => Ending.returned (.bool b)) (by rfl)
        · have hm' : ((m : Int) == 0) = false := by simp; omega
          refine wp_region_drawn (pred := fun jx v _ => match jx with | 0 => v = .pointer (some ⟨w.heap.size, 0, none⟩) | 1 => v = .int .i64 K | 2 => v = .bool true | 3 => v = .bool true | 4 => v = .pointer (some ⟨w.heap.size, 0, none⟩) | 5 => v = .int .i64 K | 6 => ∃ gw, v = .slice (some ⟨gw, 0, none⟩) 5 5 | 7 => v = .int .i64 (5 : Int) | 8 => v = .bool true | 9 => v = .bool true | 10 => v = .bool true | 11 => v = .pointer (some ⟨w.heap.size, 1, none⟩) | 12 => v = .string ⟨#[]⟩ | 13 => v = .bool true | 14 => v = .bool true | 15 => v = .bool true | 16 => v = .pointer (some ⟨w.heap.size, 2, none⟩) | 17 => v = .slice ad m cp | 18 => v = .int .i64 ((m : Nat) : Int) | 19 => v = .bool false | 20 => v = .bool false | 21 => v = .bool false | _ => True) (R := fun W => Below w1.heap.size w1 W) (by kernel_rfl) (by kernel_rfl) (by kernel_rfl) (fun i v W W' h _ => h) (Below.drew (Below.refl _ _)) ?step ?done
          case step =>
            intro ix o ho A W hsz hdf hfr hdep hR
            rcases ix with _ | _ | _ | _ | _ | _ | _ | _ | _ | _ | _ | _ | _ | _ | _ | _ | _ | _ | _ | _ | _ | _ | ix
            · injection ho with ho
              subst ho
              have e1 : A.eval (.tmp 1) = .pointer (some ⟨w.heap.size, 0, none⟩) := (hfr 1 (noDst_spec (by kernel_rfl))).trans rfl
              exact gOp_fld (v := .pointer (some ⟨w.heap.size, 0, none⟩)) rfl (wanted_plain rfl) rfl e1 (by go_simp) ⟨_, rfl, rfl, Below.refl _ _, hR⟩
            · injection ho with ho
              subst ho
              have e35 : A.eval (.tmp 35) = .pointer (some ⟨w.heap.size, 0, none⟩) := hdep ⟨0, .data⟩ (by simp) rfl _ _ rfl rfl
              have x0 := (hR.cell hlt).trans c0
              exact gOp_ld (v := .int .i64 K) rfl (wanted_plain rfl) rfl e35 (by go_simp) ⟨_, rfl, rfl, Below.refl _ _, hR⟩
            · injection ho with ho
              subst ho
              have e36 : A.eval (.tmp 36) = .int .i64 K := hdep ⟨1, .data⟩ (by simp) rfl _ _ rfl rfl
              exact gOp_ok (v := .bool true) rfl (wanted_plain rfl) (run_bin rfl rfl e36 (by go_simp) (by go_simp)) ⟨_, rfl, rfl, Below.refl _ _, hR⟩
            · injection ho with ho
              subst ho
              have e37 : A.eval (.tmp 37) = .bool true := hdep ⟨2, .data⟩ (by simp) rfl _ _ rfl rfl
              exact gOp_mv rfl (wanted_plain rfl) (.inl rfl) e37 ⟨_, rfl, rfl, Below.refl _ _, hR⟩
            · injection ho with ho
              subst ho
              have e1 : A.eval (.tmp 1) = .pointer (some ⟨w.heap.size, 0, none⟩) := (hfr 1 (noDst_spec (by kernel_rfl))).trans rfl
              exact gOp_fld (v := .pointer (some ⟨w.heap.size, 0, none⟩)) rfl (wanted_on true 3 38 _ rfl rfl rfl (hdep ⟨3, .guard⟩ (by simp) rfl _ _ rfl rfl)) rfl e1 (by go_simp) ⟨_, rfl, rfl, Below.refl _ _, hR⟩
            · injection ho with ho
              subst ho
              have e39 : A.eval (.tmp 39) = .pointer (some ⟨w.heap.size, 0, none⟩) := hdep ⟨4, .data⟩ (by simp) rfl _ _ rfl rfl
              have x0 := (hR.cell hlt).trans c0
              exact gOp_ld (v := .int .i64 K) rfl (wanted_on true 3 38 _ rfl rfl rfl (hdep ⟨3, .guard⟩ (by simp) rfl _ _ rfl rfl)) rfl e39 (by go_simp) ⟨_, rfl, rfl, Below.refl _ _, hR⟩
            · injection ho with ho
              subst ho
              refine gOp_enter rfl (wanted_on true 3 38 _ rfl rfl rfl (hdep ⟨3, .guard⟩ (by simp) rfl _ _ rfl rfl)) 116 #[] (run_call _ (fun _ _ => rfl) _ _ rfl _ (by simp)) ?_
              refine (hpw W).mono ?_
              rintro e w' ⟨v, rfl, ⟨gw, rfl, _⟩, hb'⟩
              exact ⟨_, rfl, _, rfl, ⟨gw, rfl⟩, hb', below_next hR hb'⟩
            · injection ho with ho
              subst ho
              obtain ⟨gw, e41⟩ : ∃ gw, A.eval (.tmp 41) = .slice (some ⟨gw, 0, none⟩) 5 5 := hdep ⟨6, .data⟩ (by simp) rfl _ _ rfl rfl
              exact gOp_ok (v := .int .i64 (5 : Int)) rfl (wanted_on true 3 38 _ rfl rfl rfl (hdep ⟨3, .guard⟩ (by simp) rfl _ _ rfl rfl)) (run_len rfl e41 Tryz.underlying123) ⟨_, rfl, rfl, Below.refl _ _, hR⟩
            · injection ho with ho
              subst ho
              have e40 : A.eval (.tmp 40) = .int .i64 K := hdep ⟨5, .data⟩ (by simp) rfl _ _ rfl rfl
              have e42 : A.eval (.tmp 42) = .int .i64 (5 : Int) := hdep ⟨7, .data⟩ (by simp) rfl _ _ rfl rfl
              exact gOp_ok (v := .bool true) rfl (wanted_on true 3 38 _ rfl rfl rfl (hdep ⟨3, .guard⟩ (by simp) rfl _ _ rfl rfl)) (run_bin rfl e40 e42 (by go_simp) (by go_simp)) ⟨_, rfl, rfl, Below.refl _ _, hR⟩
            · injection ho with ho
              subst ho
              have e38 : A.eval (.tmp 38) = .bool true := hdep ⟨3, .data⟩ (by simp) rfl _ _ rfl rfl
              have e43 : A.eval (.tmp 43) = .bool true := hdep ⟨8, .data⟩ (by simp) rfl _ _ rfl rfl
              exact gOp_pk (v := .bool true) rfl (wanted_plain rfl) rfl e38 (by first | exact e43 | rfl) ⟨_, rfl, rfl, Below.refl _ _, hR⟩
            · injection ho with ho
              subst ho
              have e44 : A.eval (.tmp 44) = .bool true := hdep ⟨9, .data⟩ (by simp) rfl _ _ rfl rfl
              exact gOp_mv rfl (wanted_plain rfl) (.inl rfl) e44 ⟨_, rfl, rfl, Below.refl _ _, hR⟩
            · injection ho with ho
              subst ho
              have e1 : A.eval (.tmp 1) = .pointer (some ⟨w.heap.size, 0, none⟩) := (hfr 1 (noDst_spec (by kernel_rfl))).trans rfl
              exact gOp_fld (v := .pointer (some ⟨w.heap.size, 1, none⟩)) rfl (wanted_on true 10 45 _ rfl rfl rfl (hdep ⟨10, .guard⟩ (by simp) rfl _ _ rfl rfl)) rfl e1 (by go_simp) ⟨_, rfl, rfl, Below.refl _ _, hR⟩
            · injection ho with ho
              subst ho
              have e46 : A.eval (.tmp 46) = .pointer (some ⟨w.heap.size, 1, none⟩) := hdep ⟨11, .data⟩ (by simp) rfl _ _ rfl rfl
              have x0 := (hR.cell hlt).trans c1
              exact gOp_ld (v := .string ⟨#[]⟩) rfl (wanted_on true 10 45 _ rfl rfl rfl (hdep ⟨10, .guard⟩ (by simp) rfl _ _ rfl rfl)) rfl e46 (by go_simp) ⟨_, rfl, rfl, Below.refl _ _, hR⟩
            · injection ho with ho
              subst ho
              have e47 : A.eval (.tmp 47) = .string ⟨#[]⟩ := hdep ⟨12, .data⟩ (by simp) rfl _ _ rfl rfl
              exact gOp_ok (v := .bool true) rfl (wanted_on true 10 45 _ rfl rfl rfl (hdep ⟨10, .guard⟩ (by simp) rfl _ _ rfl rfl)) (run_bin rfl e47 rfl (by go_simp) (by go_simp)) ⟨_, rfl, rfl, Below.refl _ _, hR⟩
            · injection ho with ho
              subst ho
              have e45 : A.eval (.tmp 45) = .bool true := hdep ⟨10, .data⟩ (by simp) rfl _ _ rfl rfl
              have e48 : A.eval (.tmp 48) = .bool true := hdep ⟨13, .data⟩ (by simp) rfl _ _ rfl rfl
              exact gOp_pk (v := .bool true) rfl (wanted_plain rfl) rfl e45 (by first | exact e48 | rfl) ⟨_, rfl, rfl, Below.refl _ _, hR⟩
            · injection ho with ho
              subst ho
              have e49 : A.eval (.tmp 49) = .bool true := hdep ⟨14, .data⟩ (by simp) rfl _ _ rfl rfl
              exact gOp_mv rfl (wanted_plain rfl) (.inl rfl) e49 ⟨_, rfl, rfl, Below.refl _ _, hR⟩
            · injection ho with ho
              subst ho
              have e1 : A.eval (.tmp 1) = .pointer (some ⟨w.heap.size, 0, none⟩) := (hfr 1 (noDst_spec (by kernel_rfl))).trans rfl
              exact gOp_fld (v := .pointer (some ⟨w.heap.size, 2, none⟩)) rfl (wanted_on true 15 50 _ rfl rfl rfl (hdep ⟨15, .guard⟩ (by simp) rfl _ _ rfl rfl)) rfl e1 (by go_simp) ⟨_, rfl, rfl, Below.refl _ _, hR⟩
            · injection ho with ho
              subst ho
              have e51 : A.eval (.tmp 51) = .pointer (some ⟨w.heap.size, 2, none⟩) := hdep ⟨16, .data⟩ (by simp) rfl _ _ rfl rfl
              have x0 := (hR.cell hlt).trans c2
              exact gOp_ld (v := .slice ad m cp) rfl (wanted_on true 15 50 _ rfl rfl rfl (hdep ⟨15, .guard⟩ (by simp) rfl _ _ rfl rfl)) rfl e51 (by go_simp) ⟨_, rfl, rfl, Below.refl _ _, hR⟩
            · injection ho with ho
              subst ho
              have e52 : A.eval (.tmp 52) = .slice ad m cp := hdep ⟨17, .data⟩ (by simp) rfl _ _ rfl rfl
              exact gOp_ok (v := .int .i64 ((m : Nat) : Int)) rfl (wanted_on true 15 50 _ rfl rfl rfl (hdep ⟨15, .guard⟩ (by simp) rfl _ _ rfl rfl)) (run_len rfl e52 Tryz.underlying27) ⟨_, rfl, rfl, Below.refl _ _, hR⟩
            · injection ho with ho
              subst ho
              have e53 : A.eval (.tmp 53) = .int .i64 ((m : Nat) : Int) := hdep ⟨18, .data⟩ (by simp) rfl _ _ rfl rfl
              exact gOp_ok (v := .bool false) rfl (wanted_on true 15 50 _ rfl rfl rfl (hdep ⟨15, .guard⟩ (by simp) rfl _ _ rfl rfl)) (run_bin rfl e53 rfl (by go_simp) (by go_simp)) ⟨_, rfl, rfl, Below.refl _ _, hR⟩
            · injection ho with ho
              subst ho
              have e50 : A.eval (.tmp 50) = .bool true := hdep ⟨15, .data⟩ (by simp) rfl _ _ rfl rfl
              have e54 : A.eval (.tmp 54) = .bool false := hdep ⟨19, .data⟩ (by simp) rfl _ _ rfl rfl
              exact gOp_pk (v := .bool false) rfl (wanted_plain rfl) rfl e50 (by first | exact e54 | rfl) ⟨_, rfl, rfl, Below.refl _ _, hR⟩
            · injection ho with ho
              subst ho
              have e55 : A.eval (.tmp 55) = .bool false := hdep ⟨20, .data⟩ (by simp) rfl _ _ rfl rfl
              exact gOp_mv rfl (wanted_plain rfl) (.inr rfl) e55 ⟨_, rfl, rfl, Below.refl _ _, hR⟩
            · simp at ho
          case done =>
            intro A W hsz hdf hfr hpred hR
            have h2 : A.tmps.getD 2 undef = .bool false := hpred 21 _ 2 rfl rfl
            go_wp2_with fail
            refine bodyPost_ret (ret_shaped h2) hdf ⟨?_, below_next HW.out hR⟩
            exact congrArg (fun b => Ending.returned (.bool b)) (by rfl)
      · have hx2 : ¬ x.toList = [] := fun e => hx (by
          rw [ByteArray.toList_eq] at e
          have := congrArg List.length e
          simpa using this)
        refine wp_region_drawn (pred := fun jx v _ => match jx with | 0 => v = .pointer (some ⟨w.heap.size, 0, none⟩) | 1 => v = .int .i64 K | 2 => v = .bool true | 3 => v = .bool true | 4 => v = .pointer (some ⟨w.heap.size, 0, none⟩) | 5 => v = .int .i64 K | 6 => ∃ gw, v = .slice (some ⟨gw, 0, none⟩) 5 5 | 7 => v = .int .i64 (5 : Int) | 8 => v = .bool true | 9 => v = .bool true | 10 => v = .bool true | 11 => v = .pointer (some ⟨w.heap.size, 1, none⟩) | 12 => v = .string x | 13 => v = .bool false | 14 => v = .bool false | 15 => v = .bool false | 16 => v = undef | 17 => v = undef | 18 => v = undef | 19 => v = undef | 20 => v = .bool false | 21 => v = .bool false | _ => True) (R := fun W => Below w1.heap.size w1 W) (by kernel_rfl) (by kernel_rfl) (by kernel_rfl) (fun i v W W' h _ => h) (Below.drew (Below.refl _ _)) ?step ?done
        case step =>
          intro ix o ho A W hsz hdf hfr hdep hR
          rcases ix with _ | _ | _ | _ | _ | _ | _ | _ | _ | _ | _ | _ | _ | _ | _ | _ | _ | _ | _ | _ | _ | _ | ix
          · injection ho with ho
            subst ho
            have e1 : A.eval (.tmp 1) = .pointer (some ⟨w.heap.size, 0, none⟩) := (hfr 1 (noDst_spec (by kernel_rfl))).trans rfl
            exact gOp_fld (v := .pointer (some ⟨w.heap.size, 0, none⟩)) rfl (wanted_plain rfl) rfl e1 (by go_simp) ⟨_, rfl, rfl, Below.refl _ _, hR⟩
          · injection ho with ho
            subst ho
            have e35 : A.eval (.tmp 35) = .pointer (some ⟨w.heap.size, 0, none⟩) := hdep ⟨0, .data⟩ (by simp) rfl _ _ rfl rfl
            have x0 := (hR.cell hlt).trans c0
            exact gOp_ld (v := .int .i64 K) rfl (wanted_plain rfl) rfl e35 (by go_simp) ⟨_, rfl, rfl, Below.refl _ _, hR⟩
          · injection ho with ho
            subst ho
            have e36 : A.eval (.tmp 36) = .int .i64 K := hdep ⟨1, .data⟩ (by simp) rfl _ _ rfl rfl
            exact gOp_ok (v := .bool true) rfl (wanted_plain rfl) (run_bin rfl rfl e36 (by go_simp) (by go_simp)) ⟨_, rfl, rfl, Below.refl _ _, hR⟩
          · injection ho with ho
            subst ho
            have e37 : A.eval (.tmp 37) = .bool true := hdep ⟨2, .data⟩ (by simp) rfl _ _ rfl rfl
            exact gOp_mv rfl (wanted_plain rfl) (.inl rfl) e37 ⟨_, rfl, rfl, Below.refl _ _, hR⟩
          · injection ho with ho
            subst ho
            have e1 : A.eval (.tmp 1) = .pointer (some ⟨w.heap.size, 0, none⟩) := (hfr 1 (noDst_spec (by kernel_rfl))).trans rfl
            exact gOp_fld (v := .pointer (some ⟨w.heap.size, 0, none⟩)) rfl (wanted_on true 3 38 _ rfl rfl rfl (hdep ⟨3, .guard⟩ (by simp) rfl _ _ rfl rfl)) rfl e1 (by go_simp) ⟨_, rfl, rfl, Below.refl _ _, hR⟩
          · injection ho with ho
            subst ho
            have e39 : A.eval (.tmp 39) = .pointer (some ⟨w.heap.size, 0, none⟩) := hdep ⟨4, .data⟩ (by simp) rfl _ _ rfl rfl
            have x0 := (hR.cell hlt).trans c0
            exact gOp_ld (v := .int .i64 K) rfl (wanted_on true 3 38 _ rfl rfl rfl (hdep ⟨3, .guard⟩ (by simp) rfl _ _ rfl rfl)) rfl e39 (by go_simp) ⟨_, rfl, rfl, Below.refl _ _, hR⟩
          · injection ho with ho
            subst ho
            refine gOp_enter rfl (wanted_on true 3 38 _ rfl rfl rfl (hdep ⟨3, .guard⟩ (by simp) rfl _ _ rfl rfl)) 116 #[] (run_call _ (fun _ _ => rfl) _ _ rfl _ (by simp)) ?_
            refine (hpw W).mono ?_
            rintro e w' ⟨v, rfl, ⟨gw, rfl, _⟩, hb'⟩
            exact ⟨_, rfl, _, rfl, ⟨gw, rfl⟩, hb', below_next hR hb'⟩
          · injection ho with ho
            subst ho
            obtain ⟨gw, e41⟩ : ∃ gw, A.eval (.tmp 41) = .slice (some ⟨gw, 0, none⟩) 5 5 := hdep ⟨6, .data⟩ (by simp) rfl _ _ rfl rfl
            exact gOp_ok (v := .int .i64 (5 : Int)) rfl (wanted_on true 3 38 _ rfl rfl rfl (hdep ⟨3, .guard⟩ (by simp) rfl _ _ rfl rfl)) (run_len rfl e41 Tryz.underlying123) ⟨_, rfl, rfl, Below.refl _ _, hR⟩
          · injection ho with ho
            subst ho
            have e40 : A.eval (.tmp 40) = .int .i64 K := hdep ⟨5, .data⟩ (by simp) rfl _ _ rfl rfl
            have e42 : A.eval (.tmp 42) = .int .i64 (5 : Int) := hdep ⟨7, .data⟩ (by simp) rfl _ _ rfl rfl
            exact gOp_ok (v := .bool true) rfl (wanted_on true 3 38 _ rfl rfl rfl (hdep ⟨3, .guard⟩ (by simp) rfl _ _ rfl rfl)) (run_bin rfl e40 e42 (by go_simp) (by go_simp)) ⟨_, rfl, rfl, Below.refl _ _, hR⟩
          · injection ho with ho
            subst ho
            have e38 : A.eval (.tmp 38) = .bool true := hdep ⟨3, .data⟩ (by simp) rfl _ _ rfl rfl
            have e43 : A.eval (.tmp 43) = .bool true := hdep ⟨8, .data⟩ (by simp) rfl _ _ rfl rfl
            exact gOp_pk (v := .bool true) rfl (wanted_plain rfl) rfl e38 (by first | exact e43 | rfl) ⟨_, rfl, rfl, Below.refl _ _, hR⟩
          · injection ho with ho
            subst ho
            have e44 : A.eval (.tmp 44) = .bool true := hdep ⟨9, .data⟩ (by simp) rfl _ _ rfl rfl
            exact gOp_mv rfl (wanted_plain rfl) (.inl rfl) e44 ⟨_, rfl, rfl, Below.refl _ _, hR⟩
          · injection ho with ho
            subst ho
            have e1 : A.eval (.tmp 1) = .pointer (some ⟨w.heap.size, 0, none⟩) := (hfr 1 (noDst_spec (by kernel_rfl))).trans rfl
            exact gOp_fld (v := .pointer (some ⟨w.heap.size, 1, none⟩)) rfl (wanted_on true 10 45 _ rfl rfl rfl (hdep ⟨10, .guard⟩ (by simp) rfl _ _ rfl rfl)) rfl e1 (by go_simp) ⟨_, rfl, rfl, Below.refl _ _, hR⟩
          · injection ho with ho
            subst ho
            have e46 : A.eval (.tmp 46) = .pointer (some ⟨w.heap.size, 1, none⟩) := hdep ⟨11, .data⟩ (by simp) rfl _ _ rfl rfl
            have x0 := (hR.cell hlt).trans c1
            exact gOp_ld (v := .string x) rfl (wanted_on true 10 45 _ rfl rfl rfl (hdep ⟨10, .guard⟩ (by simp) rfl _ _ rfl rfl)) rfl e46 (by go_simp) ⟨_, rfl, rfl, Below.refl _ _, hR⟩
          · injection ho with ho
            subst ho
            have e47 : A.eval (.tmp 47) = .string x := hdep ⟨12, .data⟩ (by simp) rfl _ _ rfl rfl
            exact gOp_ok (v := .bool false) rfl (wanted_on true 10 45 _ rfl rfl rfl (hdep ⟨10, .guard⟩ (by simp) rfl _ _ rfl rfl)) (run_bin rfl e47 rfl (by go_simp) (by go_simp)) ⟨_, rfl, rfl, Below.refl _ _, hR⟩
          · injection ho with ho
            subst ho
            have e45 : A.eval (.tmp 45) = .bool true := hdep ⟨10, .data⟩ (by simp) rfl _ _ rfl rfl
            have e48 : A.eval (.tmp 48) = .bool false := hdep ⟨13, .data⟩ (by simp) rfl _ _ rfl rfl
            exact gOp_pk (v := .bool false) rfl (wanted_plain rfl) rfl e45 (by first | exact e48 | rfl) ⟨_, rfl, rfl, Below.refl _ _, hR⟩
          · injection ho with ho
            subst ho
            have e49 : A.eval (.tmp 49) = .bool false := hdep ⟨14, .data⟩ (by simp) rfl _ _ rfl rfl
            exact gOp_mv rfl (wanted_plain rfl) (.inl rfl) e49 ⟨_, rfl, rfl, Below.refl _ _, hR⟩
          · injection ho with ho
            subst ho
            exact gOp_skip rfl (unwanted true 15 50 _ rfl rfl rfl (hdep ⟨15, .guard⟩ (by simp) rfl _ _ rfl rfl)) ⟨_, rfl, rfl, Below.refl _ _, hR⟩
          · injection ho with ho
            subst ho
            exact gOp_skip rfl (unwanted true 15 50 _ rfl rfl rfl (hdep ⟨15, .guard⟩ (by simp) rfl _ _ rfl rfl)) ⟨_, rfl, rfl, Below.refl _ _, hR⟩
          · injection ho with ho
            subst ho
            exact gOp_skip rfl (unwanted true 15 50 _ rfl rfl rfl (hdep ⟨15, .guard⟩ (by simp) rfl _ _ rfl rfl)) ⟨_, rfl, rfl, Below.refl _ _, hR⟩
          · injection ho with ho
            subst ho
            exact gOp_skip rfl (unwanted true 15 50 _ rfl rfl rfl (hdep ⟨15, .guard⟩ (by simp) rfl _ _ rfl rfl)) ⟨_, rfl, rfl, Below.refl _ _, hR⟩
          · injection ho with ho
            subst ho
            have e50 : A.eval (.tmp 50) = .bool false := hdep ⟨15, .data⟩ (by simp) rfl _ _ rfl rfl
            exact gOp_pk (v := .bool false) rfl (wanted_plain rfl) rfl e50 (by first  | rfl) ⟨_, rfl, rfl, Below.refl _ _, hR⟩
          · injection ho with ho
            subst ho
            have e55 : A.eval (.tmp 55) = .bool false := hdep ⟨20, .data⟩ (by simp) rfl _ _ rfl rfl
            exact gOp_mv rfl (wanted_plain rfl) (.inr rfl) e55 ⟨_, rfl, rfl, Below.refl _ _, hR⟩
          · simp at ho
        case done =>
          intro A W hsz hdf hfr hpred hR
          have h2 : A.tmps.getD 2 undef = .bool false := hpred 21 _ 2 rfl rfl
          go_wp2_with fail
          refine bodyPost_ret (ret_shaped h2) hdf ⟨?_, below_next HW.out hR⟩
          exact congrArg (fun b => Ending.returned (.bool b)) (by rfl)
    · refine wp_region_drawn (pred := fun jx v _ => match jx with | 0 => v = .pointer (some ⟨w.heap.size, 0, none⟩) | 1 => v = .int .i64 K | 2 => v = .bool true | 3 => v = .bool true | 4 => v = .pointer (some ⟨w.heap.size, 0, none⟩) | 5 => v = .int .i64 K | 6 => ∃ gw, v = .slice (some ⟨gw, 0, none⟩) 5 5 | 7 => v = .int .i64 (5 : Int) | 8 => v = .bool false | 9 => v = .bool false | 10 => v = .bool false | 11 => v = undef | 12 => v = undef | 13 => v = undef | 14 => v = .bool false | 15 => v = .bool false | 16 => v = undef | 17 => v = undef | 18 => v = undef | 19 => v = undef | 20 => v = .bool false | 21 => v = .bool false | _ => True) (R := fun W => Below w1.heap.size w1 W) (by kernel_rfl) (by kernel_rfl) (by kernel_rfl) (fun i v W W' h _ => h) (Below.drew (Below.refl _ _)) ?step ?done
      case step =>
        intro ix o ho A W hsz hdf hfr hdep hR
        rcases ix with _ | _ | _ | _ | _ | _ | _ | _ | _ | _ | _ | _ | _ | _ | _ | _ | _ | _ | _ | _ | _ | _ | ix
        · injection ho with ho
          subst ho
          have e1 : A.eval (.tmp 1) = .pointer (some ⟨w.heap.size, 0, none⟩) := (hfr 1 (noDst_spec (by kernel_rfl))).trans rfl
          exact gOp_fld (v := .pointer (some ⟨w.heap.size, 0, none⟩)) rfl (wanted_plain rfl) rfl e1 (by go_simp) ⟨_, rfl, rfl, Below.refl _ _, hR⟩
        · injection ho with ho
          subst ho
          have e35 : A.eval (.tmp 35) = .pointer (some ⟨w.heap.size, 0, none⟩) := hdep ⟨0, .data⟩ (by simp) rfl _ _ rfl rfl
          have x0 := (hR.cell hlt).trans c0
          exact gOp_ld (v := .int .i64 K) rfl (wanted_plain rfl) rfl e35 (by go_simp) ⟨_, rfl, rfl, Below.refl _ _, hR⟩
        · injection ho with ho
          subst ho
          have e36 : A.eval (.tmp 36) = .int .i64 K := hdep ⟨1, .data⟩ (by simp) rfl _ _ rfl rfl
          exact gOp_ok (v := .bool true) rfl (wanted_plain rfl) (run_bin rfl rfl e36 (by go_simp) (by go_simp)) ⟨_, rfl, rfl, Below.refl _ _, hR⟩
        · injection ho with ho
          subst ho
          have e37 : A.eval (.tmp 37) = .bool true := hdep ⟨2, .data⟩ (by simp) rfl _ _ rfl rfl
          exact gOp_mv rfl (wanted_plain rfl) (.inl rfl) e37 ⟨_, rfl, rfl, Below.refl _ _, hR⟩
        · injection ho with ho
          subst ho
          have e1 : A.eval (.tmp 1) = .pointer (some ⟨w.heap.size, 0, none⟩) := (hfr 1 (noDst_spec (by kernel_rfl))).trans rfl
          exact gOp_fld (v := .pointer (some ⟨w.heap.size, 0, none⟩)) rfl (wanted_on true 3 38 _ rfl rfl rfl (hdep ⟨3, .guard⟩ (by simp) rfl _ _ rfl rfl)) rfl e1 (by go_simp) ⟨_, rfl, rfl, Below.refl _ _, hR⟩
        · injection ho with ho
          subst ho
          have e39 : A.eval (.tmp 39) = .pointer (some ⟨w.heap.size, 0, none⟩) := hdep ⟨4, .data⟩ (by simp) rfl _ _ rfl rfl
          have x0 := (hR.cell hlt).trans c0
          exact gOp_ld (v := .int .i64 K) rfl (wanted_on true 3 38 _ rfl rfl rfl (hdep ⟨3, .guard⟩ (by simp) rfl _ _ rfl rfl)) rfl e39 (by go_simp) ⟨_, rfl, rfl, Below.refl _ _, hR⟩
        · injection ho with ho
          subst ho
          refine gOp_enter rfl (wanted_on true 3 38 _ rfl rfl rfl (hdep ⟨3, .guard⟩ (by simp) rfl _ _ rfl rfl)) 116 #[] (run_call _ (fun _ _ => rfl) _ _ rfl _ (by simp)) ?_
          refine (hpw W).mono ?_
          rintro e w' ⟨v, rfl, ⟨gw, rfl, _⟩, hb'⟩
          exact ⟨_, rfl, _, rfl, ⟨gw, rfl⟩, hb', below_next hR hb'⟩
        · injection ho with ho
          subst ho
          obtain ⟨gw, e41⟩ : ∃ gw, A.eval (.tmp 41) = .slice (some ⟨gw, 0, none⟩) 5 5 := hdep ⟨6, .data⟩ (by simp) rfl _ _ rfl rfl
          exact gOp_ok (v := .int .i64 (5 : Int)) rfl (wanted_on true 3 38 _ rfl rfl rfl (hdep ⟨3, .guard⟩ (by simp) rfl _ _ rfl rfl)) (run_len rfl e41 Tryz.underlying123) ⟨_, rfl, rfl, Below.refl _ _, hR⟩
        · injection ho with ho
          subst ho
          have e40 : A.eval (.tmp 40) = .int .i64 K := hdep ⟨5, .data⟩ (by simp) rfl _ _ rfl rfl
          have e42 : A.eval (.tmp 42) = .int .i64 (5 : Int) := hdep ⟨7, .data⟩ (by simp) rfl _ _ rfl rfl
          exact gOp_ok (v := .bool false) rfl (wanted_on true 3 38 _ rfl rfl rfl (hdep ⟨3, .guard⟩ (by simp) rfl _ _ rfl rfl)) (run_bin rfl e40 e42 (by go_simp) (by go_simp)) ⟨_, rfl, rfl, Below.refl _ _, hR⟩
        · injection ho with ho
          subst ho
          have e38 : A.eval (.tmp 38) = .bool true := hdep ⟨3, .data⟩ (by simp) rfl _ _ rfl rfl
          have e43 : A.eval (.tmp 43) = .bool false := hdep ⟨8, .data⟩ (by simp) rfl _ _ rfl rfl
          exact gOp_pk (v := .bool false) rfl (wanted_plain rfl) rfl e38 (by first | exact e43 | rfl) ⟨_, rfl, rfl, Below.refl _ _, hR⟩
        · injection ho with ho
          subst ho
          have e44 : A.eval (.tmp 44) = .bool false := hdep ⟨9, .data⟩ (by simp) rfl _ _ rfl rfl
          exact gOp_mv rfl (wanted_plain rfl) (.inl rfl) e44 ⟨_, rfl, rfl, Below.refl _ _, hR⟩
        · injection ho with ho
          subst ho
          exact gOp_skip rfl (unwanted true 10 45 _ rfl rfl rfl (hdep ⟨10, .guard⟩ (by simp) rfl _ _ rfl rfl)) ⟨_, rfl, rfl, Below.refl _ _, hR⟩
        · injection ho with ho
          subst ho
          exact gOp_skip rfl (unwanted true 10 45 _ rfl rfl rfl (hdep ⟨10, .guard⟩ (by simp) rfl _ _ rfl rfl)) ⟨_, rfl, rfl, Below.refl _ _, hR⟩
        · injection ho with ho
          subst ho
          exact gOp_skip rfl (unwanted true 10 45 _ rfl rfl rfl (hdep ⟨10, .guard⟩ (by simp) rfl _ _ rfl rfl)) ⟨_, rfl, rfl, Below.refl _ _, hR⟩
        · injection ho with ho
          subst ho
          have e45 : A.eval (.tmp 45) = .bool false := hdep ⟨10, .data⟩ (by simp) rfl _ _ rfl rfl
          exact gOp_pk (v := .bool false) rfl (wanted_plain rfl) rfl e45 (by first  | rfl) ⟨_, rfl, rfl, Below.refl _ _, hR⟩
        · injection ho with ho
          subst ho
          have e49 : A.eval (.tmp 49) = .bool false := hdep ⟨14, .data⟩ (by simp) rfl _ _ rfl rfl
          exact gOp_mv rfl (wanted_plain rfl) (.inl rfl) e49 ⟨_, rfl, rfl, Below.refl _ _, hR⟩
        · injection ho with ho
          subst ho
          exact gOp_skip rfl (unwanted true 15 50 _ rfl rfl rfl (hdep ⟨15, .guard⟩ (by simp) rfl _ _ rfl rfl)) ⟨_, rfl, rfl, Below.refl _ _, hR⟩
        · injection ho with ho
          subst ho
          exact gOp_skip rfl (unwanted true 15 50 _ rfl rfl rfl (hdep ⟨15, .guard⟩ (by simp) rfl _ _ rfl rfl)) ⟨_, rfl, rfl, Below.refl _ _, hR⟩
        · injection ho with ho
          subst ho
          exact gOp_skip rfl (unwanted true 15 50 _ rfl rfl rfl (hdep ⟨15, .guard⟩ (by simp) rfl _ _ rfl rfl)) ⟨_, rfl, rfl, Below.refl _ _, hR⟩
        · injection ho with ho
          subst ho
          exact gOp_skip rfl (unwanted true 15 50 _ rfl rfl rfl (hdep ⟨15, .guard⟩ (by simp) rfl _ _ rfl rfl)) ⟨_, rfl, rfl, Below.refl _ _, hR⟩
        · injection ho with ho
          subst ho
          have e50 : A.eval (.tmp 50) = .bool false := hdep ⟨15, .data⟩ (by simp) rfl _ _ rfl rfl
          exact gOp_pk (v := .bool false) rfl (wanted_plain rfl) rfl e50 (by first  | rfl) ⟨_, rfl, rfl, Below.refl _ _, hR⟩
        · injection ho with ho
          subst ho
          have e55 : A.eval (.tmp 55) = .bool false := hdep ⟨20, .data⟩ (by simp) rfl _ _ rfl rfl
          exact gOp_mv rfl (wanted_plain rfl) (.inr rfl) e55 ⟨_, rfl, rfl, Below.refl _ _, hR⟩
        · simp at ho
      case done =>
        intro A W hsz hdf hfr hpred hR
        have h2 : A.tmps.getD 2 undef = .bool false := hpred 21 _ 2 rfl rfl
        go_wp2_with fail
        refine bodyPost_ret (ret_shaped h2) hdf ⟨?_, below_next HW.out hR⟩
        exact congrArg (fun b => Ending.returned (.bool b)) (by rw [decide_eq_false (show ¬ K ≤ 5 by omega), Bool.false_and, Bool.false_and])
  · have hd : decide (1 ≤ K) = false := by simp [k1]
    go_quiet (fail)
    go_wp2
    go_ret
    refine ⟨?_, ?_⟩
    · simp
    · exact below_drewN HW.out _
end Go.Proofs.YtmiohekmpjiloaaGreatDoor

namespace Go.Proofs.YtmiohekmpjiloaaGreatDoor
open Go.RowKit
set_option maxRecDepth 20000

theorem bl_nil (x : ByteArray) : bl x = [] ↔ x.size = 0 := by
  rw [← List.length_eq_zero_iff, bl_length]

set_option maxHeartbeats 4000000 in
theorem shaped_named (x : ByteArray) (hx : x.size ≤ maxLen) (ad : Option Addr) (m cp : Nat) (w : World) :
    Calls Tryz.prog 77 #[.agg #[.int .i64 8, .string x, .slice ad m cp]] w fun e w' => e = .returned (.bool (decide (m = 0) && Pl.mayN (bl x))) ∧ Below w.heap.size w w' := by
  have hh := fun w => holds_any (.node 8 [] []) (.string x) (.slice ad m cp) w
  have hf : (Pl.GT.node 8 [] []).holds = false := by decide
  simp only [hf, Pl.GT.k] at hh
  have hmn := fun w => mayName_any x hx w
  have hBx := Bx.new w [.int .i64 8, .string x, .slice ad m cp] 29
  have hbw := below_alloc w (.cells #[.int .i64 8, .string x, .slice ad m cp] 29)
  generalize Pl.mayN (bl x) = Y at *
  go_enter Tryz.func77, Tryz.ntmps77
  go_wp2_with fail
  refine (hh _).mono ?_
  rintro e w1 ⟨rfl, hb1⟩
  have hB1 := hBx.below hb1
  have c0 := hB1.cell 0 rfl
  have c1 := hB1.cell 1 rfl
  have c2 := hB1.cell 2 rfl
  have hbw1 := below_next hbw hb1
  have hlt := hB1.lt
  have HW := hid hbw1
  clear hB1 hBx hb1 hbw hbw1 hh hf
  by_cases hm : m = 0
  · subst hm
    go_wp2_with fail
    refine (hmn _).mono ?_
    rintro e w2 ⟨rfl, hb2⟩
    go_wp2
    go_ret
    exact ⟨rfl, below_next HW.out hb2⟩
  · have hm' : ((m : Int) == 0) = false := by simp; omega
    go_wp2
    go_ret
    refine ⟨?_, HW.out⟩
    rw [decide_eq_false hm, Bool.false_and]
    rfl

set_option maxHeartbeats 8000000 in
theorem isShaped_any (d : Nat) : ∀ (n B : Nat) (g : Pl.GT) (w : World) (k s o : Value), Ly B n g w k s o → d ≤ n → Pl.deepP (n + 1) [g] ≤ d → B ≤ w.heap.size →
    Calls Tryz.prog 77 #[.agg #[k, s, o]] w fun e w' => e = .returned (.bool (Pl.shapedP d g)) ∧ Below w.heap.size w w' := by
  induction d with
  | zero =>
    intro n B g w k s o h hn hd hB
    rw [Pl.deep_one] at hd
    omega
  | succ d ih =>
    intro n B g w k s o h hn hd hB
    obtain ⟨n', rfl⟩ : ∃ n', n = n' + 1 := ⟨n - 1, by omega⟩
    obtain ⟨rfl, ⟨x, rfl, hxn, hxs⟩, hos⟩ := h
    obtain ⟨ad, cp, rfl, hml, hcells⟩ := id hos
    have hx0 : decide (g.n = []) = decide (x.size = 0) := by
      rw [← hxn]
      exact decide_eq_decide.2 (bl_nil x)
    cases hb : g.holds with
    | false =>
      have h6 : g.k ≠ 6 := by
        intro e
        simp [Pl.GT.holds, e] at hb
      have h7 : g.k ≠ 7 := by
        intro e
        simp [Pl.GT.holds, e] at hb
      by_cases h8 : g.k = 8
      · have e : Pl.shapedP (d + 1) g = (decide (g.os.length = 0) && Pl.mayN (bl x)) := by
          rw [hxn]
          simp only [Pl.shapedP, hb, h8, if_true, Bool.false_eq_true, if_false]
        rw [e, h8]
        exact shaped_named x hxs ad _ cp w
      · have e : Pl.shapedP (d + 1) g = (decide (1 ≤ g.k) && decide (g.k ≤ 5) && decide (x.size = 0) && decide (g.os.length = 0)) := by
          rw [← hx0]
          simp only [Pl.shapedP, hb, h8, if_false, Bool.false_eq_true]
        rw [e]
        exact shaped_plain g.k x ad _ cp w h6 h7 h8
    | true =>
      have hh := fun w => holds_any g (.string x) (.slice ad g.os.length cp) w
      rw [hb] at hh
      rw [Pl.deep_one, hb, if_pos rfl] at hd
      have e : Pl.shapedP (d + 1) g = (decide (x.size = 0) && (match g.os with | [y] => Pl.shapedP d y | _ => false)) := by
        rw [← hx0]
        simp only [Pl.shapedP, hb, if_true]
        rfl
      rw [e]
      have hBx := Bx.new w [.int .i64 g.k, .string x, .slice ad g.os.length cp] 29
      have hbw := below_alloc w (.cells #[.int .i64 g.k, .string x, .slice ad g.os.length cp] 29)
      clear e hx0 hml
      by_cases hx : x.size = 0
      · obtain rfl : x = ⟨#[]⟩ := ba_nil hx
        rw [decide_eq_true hx, Bool.true_and]
        by_cases h1 : g.os.length = 1
        · obtain ⟨y, hy⟩ := List.length_eq_one_iff.1 h1
          rw [hy] at hos hd hh hBx hbw ⊢
          obtain ⟨blk, off, cp', k', s', o', hv, q2, q3, q4, q5, hly⟩ := hos.first
          simp only [List.length_cons, List.length_nil, Nat.zero_add, Value.slice.injEq, true_and] at hv hBx hbw hh ⊢
          obtain ⟨rfl, rfl⟩ := hv
          have hBs : blk < w.heap.size := Nat.lt_of_lt_of_le q2 hB
          have hI := fun W (hW : Below w.heap.size w W) => ih n' B y W k' s' o' (hly.bel (hW.mono hB)) (by omega) (by omega) (Nat.le_trans hB hW.size)
          generalize Pl.shapedP d y = Y at *
          generalize g.k = K at *
          go_enter Tryz.func77, Tryz.ntmps77
          go_wp2_with fail
          refine (hh _).mono ?_
          rintro e w1 ⟨rfl, hb1⟩
          have hB1 := hBx.below hb1
          have c0 := hB1.cell 0 rfl
          have c1 := hB1.cell 1 rfl
          have c2 := hB1.cell 2 rfl
          have hbw1 := below_next hbw hb1
          have hlt := hB1.lt
          have d0 := (hbw1.cell hBs).trans q3
          have d1 := (hbw1.cell hBs).trans q4
          have d2 := (hbw1.cell hBs).trans q5
          have hb1' : blk < w1.heap.size := Nat.lt_of_lt_of_le hBs hbw1.size
          have hI1 := hI w1 hbw1
          have HW := hid hbw1
          clear hB1 hBx hb1 hbw hbw1 hh hI q3 q4 q5 hcells hos hly
          go_wp2_with fail
          refine hI1.mono ?_
          rintro e w2 ⟨rfl, hb2⟩
          go_wp2
          go_ret
          exact ⟨rfl, below_next HW.out hb2⟩
        · have hm' : ((g.os.length : Int) == 1) = false := by simp; omega
          have e2 : (match g.os with | [y] => Pl.shapedP d y | _ => false) = false := by
            split
            · rename_i y hy
              rw [hy] at h1
              simp at h1
            · rfl
          rw [e2]
          clear e2 hcells hos ih hd h1
          generalize g.os.length = m at *
          generalize g.k = K at *
          go_enter Tryz.func77, Tryz.ntmps77
          go_wp2_with fail
          refine (hh _).mono ?_
          rintro e w1 ⟨rfl, hb1⟩
          have hB1 := hBx.below hb1
          have c0 := hB1.cell 0 rfl
          have c1 := hB1.cell 1 rfl
          have c2 := hB1.cell 2 rfl
          have hbw1 := below_next hbw hb1
          have hlt := hB1.lt
          have HW := hid hbw1
          clear hB1 hBx hb1 hbw hbw1 hh
          go_wp2
          go_ret
          exact ⟨rfl, HW.out⟩
      · have hx2 : ¬ x.toList = [] := fun e => hx (by
          rw [ByteArray.toList_eq] at e
          have := congrArg List.length e
          simpa using this)
        rw [decide_eq_false hx, Bool.false_and]
        clear hcells hos ih hd
        generalize g.os.length = m at *
        generalize g.k = K at *
        go_enter Tryz.func77, Tryz.ntmps77
        go_wp2_with fail
        refine (hh _).mono ?_
        rintro e w1 ⟨rfl, hb1⟩
        have hB1 := hBx.below hb1
        have c0 := hB1.cell 0 rfl
        have c1 := hB1.cell 1 rfl
        have c2 := hB1.cell 2 rfl
        have hbw1 := below_next hbw hb1
        have hlt := hB1.lt
        have HW := hid hbw1
        clear hB1 hBx hb1 hbw hbw1 hh
        go_wp2
        go_ret
        exact ⟨rfl, HW.out⟩

set_option maxHeartbeats 4000000 in
theorem shape_any (B n : Nat) (hn : 99 ≤ n) (g : Pl.GT) (w : World) (k s o : Value) (h : Ly B n g w k s o) (hB : B ≤ w.heap.size) :
    Calls Tryz.prog 51 #[.agg #[k, s, o]] w fun e w' => e = .returned (.int .i64 (Pl.shapeP g : Int)) ∧ Below w.heap.size w w' := by
  have h99 : Ly B 99 g w k s o := by
    refine ⟨h.1, h.2.1, ?_⟩
    have h0 := h.2.2
    clear h
    induction hn with
    | refl => exact h0
    | step _ ih => exact ih (LyS.less _ _ _ _ h0)
  clear h
  have hbw := below_alloc w (.cells #[k, s, o] 29)
  have hd := deep_any B 99 (by omega) g _ k s o (h99.bel (hbw.mono hB)) (Nat.le_trans hB hbw.size)
  have hI := fun W (hW : Below w.heap.size w W) (h8 : Pl.deepP 100 [g] ≤ 8) => isShaped_any 8 99 B g W k s o (h99.bel (hW.mono hB)) (by omega) h8 (Nat.le_trans hB hW.size)
  have hBx := Bx.new w [k, s, o] 29
  obtain ⟨rfl, ⟨x, rfl, -, -⟩, h4⟩ := h99
  obtain ⟨ad, m, cp, rfl⟩ := h4.shape
  clear h4
  unfold Pl.shapeP
  generalize Pl.deepP 100 [g] = D at *
  generalize Pl.shapedP 8 g = Y at *
  generalize g.k = K at *
  by_cases h8 : 8 < D
  · rw [if_pos h8]
    go_enter Tryz.func51, Tryz.ntmps51
    go_wp2_with fail
    refine hd.mono ?_
    rintro e w1 ⟨rfl, hb1⟩
    have HW := hid (below_next hbw hb1)
    go_wp2
    go_ret
    exact ⟨rfl, HW.out⟩
  · rw [if_neg h8]
    go_enter Tryz.func51, Tryz.ntmps51
    go_wp2_with fail
    refine hd.mono ?_
    rintro e w1 ⟨rfl, hb1⟩
    have HW := hid (below_next hbw hb1)
    have hI1 := hI w1 HW.out (by omega)
    have hB1 := hBx.below hb1
    have c0 := hB1.cell 0 rfl
    have c1 := hB1.cell 1 rfl
    have c2 := hB1.cell 2 rfl
    have hlt := hB1.lt
    clear hB1 hBx hb1 hbw hI hd
    go_wp2_with fail
    refine hI1.mono ?_
    rintro e w2 ⟨rfl, hb2⟩
    have HW2 := hid (below_next HW.out hb2)
    cases Y with
    | true =>
      go_wp2
      go_ret
      exact ⟨rfl, HW2.out⟩
    | false =>
      go_wp2
      go_ret
      exact ⟨rfl, HW2.out⟩
end Go.Proofs.YtmiohekmpjiloaaGreatDoor

namespace Go.Proofs.YtmiohekmpjiloaaGreatDoor
open Go.RowKit
set_option maxRecDepth 20000

theorem ret_spell {W : World} {tmps : Array Value} {v : Value} (ht : tmps.getD 2 undef = v) : (results Tryz.f180 tmps).run Tryz.prog W = .ok v W := by
  have ht' : tmps[2]?.getD undef = v := by rw [← Array.getD_eq_getD_getElem?]; exact ht
  simp [results, Tryz.results180]
  go_simp

set_option maxHeartbeats 2000000 in
theorem spell_p1 (x : ByteArray) (ad : Option Addr) (m cp : Nat) (w : World) : Calls Tryz.prog 180 #[.agg #[.int .i64 1, .string x, .slice ad m cp]] w fun e w' => e = .returned (.string sBool) ∧ Below w.heap.size w w' := by
  have hpw := fun w => plainWords_any w
  have hBx := Bx.new w [.int .i64 1, .string x, .slice ad m cp] 29
  have hbw := below_alloc w (.cells #[.int .i64 1, .string x, .slice ad m cp] 29)
  go_enter Tryz.func180, Tryz.ntmps180
  go_wp2_with fail
  have c0 := hBx.cell 0 rfl
  have hlt := hBx.lt
  have HW := hid hbw
  change World.cell? (w.alloc (.cells #[.int .i64 1, .string x, .slice ad m cp] 29)) _ = _ at c0
  change _ < (w.alloc (.cells #[.int .i64 1, .string x, .slice ad m cp] 29)).heap.size at hlt
  generalize w.alloc (.cells #[.int .i64 1, .string x, .slice ad m cp] 29) = w1 at *
  clear hBx hbw
  refine wp_region_drawn (pred := fun jx v W => match jx with | 0 => ∃ gw, v = .slice (some ⟨gw, 0, none⟩) 5 5 ∧ Bx W gw [.string sBool, .string sInt, .string sUint, .string sText, .string sBytes] 9 | 1 => v = .pointer (some ⟨w.heap.size, 0, none⟩) | 2 => v = .int .i64 1 | 3 => v = .int .i64 0 | 4 => ∃ gw, v = .pointer (some ⟨gw, 0, none⟩) ∧ Bx W gw [.string sBool, .string sInt, .string sUint, .string sText, .string sBytes] 9 | 5 => v = .string sBool | 6 => v = .string sBool | _ => True) (R := fun W => Below w1.heap.size w1 W) (by kernel_rfl) (by kernel_rfl) (by kernel_rfl) (fun i v W W' h hb => ?mono) (Below.drew (Below.refl _ _)) ?step ?done
  case mono =>
    rcases i with _ | _ | _ | _ | _ | _ | _ | i
    · obtain ⟨gw, h1, h2⟩ := h
      exact ⟨gw, h1, h2.below hb⟩
    · exact h
    · exact h
    · exact h
    · obtain ⟨gw, h1, h2⟩ := h
      exact ⟨gw, h1, h2.below hb⟩
    · exact h
    · exact h
    · exact trivial
  case step =>
    intro ix o ho A W hsz hdf hfr hdep hR
    rcases ix with _ | _ | _ | _ | _ | _ | _ | ix
    · injection ho with ho
      subst ho
      refine gOp_enter rfl (wanted_plain rfl) 116 #[] (run_call _ (fun _ _ => rfl) _ _ rfl _ (by simp)) ?_
      refine (hpw W).mono ?_
      rintro e w' ⟨v, rfl, ⟨gw, rfl, hg⟩, hb'⟩
      exact ⟨_, rfl, _, rfl, ⟨gw, rfl, hg⟩, hb', below_next hR hb'⟩
    · injection ho with ho
      subst ho
      have e1 : A.eval (.tmp 1) = .pointer (some ⟨w.heap.size, 0, none⟩) := (hfr 1 (noDst_spec (by kernel_rfl))).trans rfl
      exact gOp_fld (v := .pointer (some ⟨w.heap.size, 0, none⟩)) rfl (wanted_plain rfl) rfl e1 (by go_simp) ⟨_, rfl, rfl, Below.refl _ _, hR⟩
    · injection ho with ho
      subst ho
      have e27 : A.eval (.tmp 27) = .pointer (some ⟨w.heap.size, 0, none⟩) := hdep ⟨1, .data⟩ (by simp) rfl _ _ rfl rfl
      have x0 := (hR.cell hlt).trans c0
      exact gOp_ld (v := .int .i64 1) rfl (wanted_plain rfl) rfl e27 (by go_simp) ⟨_, rfl, rfl, Below.refl _ _, hR⟩
    · injection ho with ho
      subst ho
      have e28 : A.eval (.tmp 28) = .int .i64 1 := hdep ⟨2, .data⟩ (by simp) rfl _ _ rfl rfl
      exact gOp_ok (v := .int .i64 0) rfl (wanted_plain rfl) (run_bin rfl e28 rfl (by go_simp) (by go_simp; decide)) ⟨_, rfl, rfl, Below.refl _ _, hR⟩
    · injection ho with ho
      subst ho
      obtain ⟨gw, e26, hx26⟩ : ∃ gw, A.eval (.tmp 26) = .slice (some ⟨gw, 0, none⟩) 5 5 ∧ Bx W gw [.string sBool, .string sInt, .string sUint, .string sText, .string sBytes] 9 := hdep ⟨0, .data⟩ (by simp) rfl _ _ rfl rfl
      have e29 : A.eval (.tmp 29) = .int .i64 0 := hdep ⟨3, .data⟩ (by simp) rfl _ _ rfl rfl
      have hgl := hx26.lt
      exact gOp_ix (v := .pointer (some ⟨gw, 0, none⟩)) rfl (wanted_plain rfl) rfl e26 e29 (by go_simp) ⟨_, rfl, ⟨gw, rfl, hx26⟩, Below.refl _ _, hR⟩
    · injection ho with ho
      subst ho
      obtain ⟨gw, e30, hx30⟩ : ∃ gw, A.eval (.tmp 30) = .pointer (some ⟨gw, 0, none⟩) ∧ Bx W gw [.string sBool, .string sInt, .string sUint, .string sText, .string sBytes] 9 := hdep ⟨4, .data⟩ (by simp) rfl _ _ rfl rfl
      have x0 := hx30.cell 0 rfl
      exact gOp_ld (v := .string sBool) rfl (wanted_plain rfl) rfl e30 (by go_simp) ⟨_, rfl, rfl, Below.refl _ _, hR⟩
    · injection ho with ho
      subst ho
      have e31 : A.eval (.tmp 31) = .string sBool := hdep ⟨5, .data⟩ (by simp) rfl _ _ rfl rfl
      exact gOp_mv rfl (wanted_plain rfl) (.inr rfl) e31 ⟨_, rfl, rfl, Below.refl _ _, hR⟩
    · simp at ho
  case done =>
    intro A W hsz hdf hfr hpred hR
    have h2 : A.tmps.getD 2 undef = .string sBool := hpred 6 _ 2 rfl rfl
    go_wp2_with fail
    exact bodyPost_ret (ret_spell h2) hdf ⟨rfl, below_next HW.out hR⟩

set_option maxHeartbeats 2000000 in
theorem spell_p2 (x : ByteArray) (ad : Option Addr) (m cp : Nat) (w : World) : Calls Tryz.prog 180 #[.agg #[.int .i64 2, .string x, .slice ad m cp]] w fun e w' => e = .returned (.string sInt) ∧ Below w.heap.size w w' := by
  have hpw := fun w => plainWords_any w
  have hBx := Bx.new w [.int .i64 2, .string x, .slice ad m cp] 29
  have hbw := below_alloc w (.cells #[.int .i64 2, .string x, .slice ad m cp] 29)
  go_enter Tryz.func180, Tryz.ntmps180
  go_wp2_with fail
  have c0 := hBx.cell 0 rfl
  have hlt := hBx.lt
  have HW := hid hbw
  change World.cell? (w.alloc (.cells #[.int .i64 2, .string x, .slice ad m cp] 29)) _ = _ at c0
  change _ < (w.alloc (.cells #[.int .i64 2, .string x, .slice ad m cp] 29)).heap.size at hlt
  generalize w.alloc (.cells #[.int .i64 2, .string x, .slice ad m cp] 29) = w1 at *
  clear hBx hbw
  refine wp_region_drawn (pred := fun jx v W => match jx with | 0 => ∃ gw, v = .slice (some ⟨gw, 0, none⟩) 5 5 ∧ Bx W gw [.string sBool, .string sInt, .string sUint, .string sText, .string sBytes] 9 | 1 => v = .pointer (some ⟨w.heap.size, 0, none⟩) | 2 => v = .int .i64 2 | 3 => v = .int .i64 1 | 4 => ∃ gw, v = .pointer (some ⟨gw, 1, none⟩) ∧ Bx W gw [.string sBool, .string sInt, .string sUint, .string sText, .string sBytes] 9 | 5 => v = .string sInt | 6 => v = .string sInt | _ => True) (R := fun W => Below w1.heap.size w1 W) (by kernel_rfl) (by kernel_rfl) (by kernel_rfl) (fun i v W W' h hb => ?mono) (Below.drew (Below.refl _ _)) ?step ?done
  case mono =>
    rcases i with _ | _ | _ | _ | _ | _ | _ | i
    · obtain ⟨gw, h1, h2⟩ := h
      exact ⟨gw, h1, h2.below hb⟩
    · exact h
    · exact h
    · exact h
    · obtain ⟨gw, h1, h2⟩ := h
      exact ⟨gw, h1, h2.below hb⟩
    · exact h
    · exact h
    · exact trivial
  case step =>
    intro ix o ho A W hsz hdf hfr hdep hR
    rcases ix with _ | _ | _ | _ | _ | _ | _ | ix
    · injection ho with ho
      subst ho
      refine gOp_enter rfl (wanted_plain rfl) 116 #[] (run_call _ (fun _ _ => rfl) _ _ rfl _ (by simp)) ?_
      refine (hpw W).mono ?_
      rintro e w' ⟨v, rfl, ⟨gw, rfl, hg⟩, hb'⟩
      exact ⟨_, rfl, _, rfl, ⟨gw, rfl, hg⟩, hb', below_next hR hb'⟩
    · injection ho with ho
      subst ho
      have e1 : A.eval (.tmp 1) = .pointer (some ⟨w.heap.size, 0, none⟩) := (hfr 1 (noDst_spec (by kernel_rfl))).trans rfl
      exact gOp_fld (v := .pointer (some ⟨w.heap.size, 0, none⟩)) rfl (wanted_plain rfl) rfl e1 (by go_simp) ⟨_, rfl, rfl, Below.refl _ _, hR⟩
    · injection ho with ho
      subst ho
      have e27 : A.eval (.tmp 27) = .pointer (some ⟨w.heap.size, 0, none⟩) := hdep ⟨1, .data⟩ (by simp) rfl _ _ rfl rfl
      have x0 := (hR.cell hlt).trans c0
      exact gOp_ld (v := .int .i64 2) rfl (wanted_plain rfl) rfl e27 (by go_simp) ⟨_, rfl, rfl, Below.refl _ _, hR⟩
    · injection ho with ho
      subst ho
      have e28 : A.eval (.tmp 28) = .int .i64 2 := hdep ⟨2, .data⟩ (by simp) rfl _ _ rfl rfl
      exact gOp_ok (v := .int .i64 1) rfl (wanted_plain rfl) (run_bin rfl e28 rfl (by go_simp) (by go_simp; decide)) ⟨_, rfl, rfl, Below.refl _ _, hR⟩
    · injection ho with ho
      subst ho
      obtain ⟨gw, e26, hx26⟩ : ∃ gw, A.eval (.tmp 26) = .slice (some ⟨gw, 0, none⟩) 5 5 ∧ Bx W gw [.string sBool, .string sInt, .string sUint, .string sText, .string sBytes] 9 := hdep ⟨0, .data⟩ (by simp) rfl _ _ rfl rfl
      have e29 : A.eval (.tmp 29) = .int .i64 1 := hdep ⟨3, .data⟩ (by simp) rfl _ _ rfl rfl
      have hgl := hx26.lt
      exact gOp_ix (v := .pointer (some ⟨gw, 1, none⟩)) rfl (wanted_plain rfl) rfl e26 e29 (by go_simp) ⟨_, rfl, ⟨gw, rfl, hx26⟩, Below.refl _ _, hR⟩
    · injection ho with ho
      subst ho
      obtain ⟨gw, e30, hx30⟩ : ∃ gw, A.eval (.tmp 30) = .pointer (some ⟨gw, 1, none⟩) ∧ Bx W gw [.string sBool, .string sInt, .string sUint, .string sText, .string sBytes] 9 := hdep ⟨4, .data⟩ (by simp) rfl _ _ rfl rfl
      have x0 := hx30.cell 1 rfl
      exact gOp_ld (v := .string sInt) rfl (wanted_plain rfl) rfl e30 (by go_simp) ⟨_, rfl, rfl, Below.refl _ _, hR⟩
    · injection ho with ho
      subst ho
      have e31 : A.eval (.tmp 31) = .string sInt := hdep ⟨5, .data⟩ (by simp) rfl _ _ rfl rfl
      exact gOp_mv rfl (wanted_plain rfl) (.inr rfl) e31 ⟨_, rfl, rfl, Below.refl _ _, hR⟩
    · simp at ho
  case done =>
    intro A W hsz hdf hfr hpred hR
    have h2 : A.tmps.getD 2 undef = .string sInt := hpred 6 _ 2 rfl rfl
    go_wp2_with fail
    exact bodyPost_ret (ret_spell h2) hdf ⟨rfl, below_next HW.out hR⟩

set_option maxHeartbeats 2000000 in
theorem spell_p3 (x : ByteArray) (ad : Option Addr) (m cp : Nat) (w : World) : Calls Tryz.prog 180 #[.agg #[.int .i64 3, .string x, .slice ad m cp]] w fun e w' => e = .returned (.string sUint) ∧ Below w.heap.size w w' := by
  have hpw := fun w => plainWords_any w
  have hBx := Bx.new w [.int .i64 3, .string x, .slice ad m cp] 29
  have hbw := below_alloc w (.cells #[.int .i64 3, .string x, .slice ad m cp] 29)
  go_enter Tryz.func180, Tryz.ntmps180
  go_wp2_with fail
  have c0 := hBx.cell 0 rfl
  have hlt := hBx.lt
  have HW := hid hbw
  change World.cell? (w.alloc (.cells #[.int .i64 3, .string x, .slice ad m cp] 29)) _ = _ at c0
  change _ < (w.alloc (.cells #[.int .i64 3, .string x, .slice ad m cp] 29)).heap.size at hlt
  generalize w.alloc (.cells #[.int .i64 3, .string x, .slice ad m cp] 29) = w1 at *
  clear hBx hbw
  refine wp_region_drawn (pred := fun jx v W => match jx with | 0 => ∃ gw, v = .slice (some ⟨gw, 0, none⟩) 5 5 ∧ Bx W gw [.string sBool, .string sInt, .string sUint, .string sText, .string sBytes] 9 | 1 => v = .pointer (some ⟨w.heap.size, 0, none⟩) | 2 => v = .int .i64 3 | 3 => v = .int .i64 2 | 4 => ∃ gw, v = .pointer (some ⟨gw, 2, none⟩) ∧ Bx W gw [.string sBool, .string sInt, .string sUint, .string sText, .string sBytes] 9 | 5 => v = .string sUint | 6 => v = .string sUint | _ => True) (R := fun W => Below w1.heap.size w1 W) (by kernel_rfl) (by kernel_rfl) (by kernel_rfl) (fun i v W W' h hb => ?mono) (Below.drew (Below.refl _ _)) ?step ?done
  case mono =>
    rcases i with _ | _ | _ | _ | _ | _ | _ | i
    · obtain ⟨gw, h1, h2⟩ := h
      exact ⟨gw, h1, h2.below hb⟩
    · exact h
    · exact h
    · exact h
    · obtain ⟨gw, h1, h2⟩ := h
      exact ⟨gw, h1, h2.below hb⟩
    · exact h
    · exact h
    · exact trivial
  case step =>
    intro ix o ho A W hsz hdf hfr hdep hR
    rcases ix with _ | _ | _ | _ | _ | _ | _ | ix
    · injection ho with ho
      subst ho
      refine gOp_enter rfl (wanted_plain rfl) 116 #[] (run_call _ (fun _ _ => rfl) _ _ rfl _ (by simp)) ?_
      refine (hpw W).mono ?_
      rintro e w' ⟨v, rfl, ⟨gw, rfl, hg⟩, hb'⟩
      exact ⟨_, rfl, _, rfl, ⟨gw, rfl, hg⟩, hb', below_next hR hb'⟩
    · injection ho with ho
      subst ho
      have e1 : A.eval (.tmp 1) = .pointer (some ⟨w.heap.size, 0, none⟩) := (hfr 1 (noDst_spec (by kernel_rfl))).trans rfl
      exact gOp_fld (v := .pointer (some ⟨w.heap.size, 0, none⟩)) rfl (wanted_plain rfl) rfl e1 (by go_simp) ⟨_, rfl, rfl, Below.refl _ _, hR⟩
    · injection ho with ho
      subst ho
      have e27 : A.eval (.tmp 27) = .pointer (some ⟨w.heap.size, 0, none⟩) := hdep ⟨1, .data⟩ (by simp) rfl _ _ rfl rfl
      have x0 := (hR.cell hlt).trans c0
      exact gOp_ld (v := .int .i64 3) rfl (wanted_plain rfl) rfl e27 (by go_simp) ⟨_, rfl, rfl, Below.refl _ _, hR⟩
    · injection ho with ho
      subst ho
      have e28 : A.eval (.tmp 28) = .int .i64 3 := hdep ⟨2, .data⟩ (by simp) rfl _ _ rfl rfl
      exact gOp_ok (v := .int .i64 2) rfl (wanted_plain rfl) (run_bin rfl e28 rfl (by go_simp) (by go_simp; decide)) ⟨_, rfl, rfl, Below.refl _ _, hR⟩
    · injection ho with ho
      subst ho
      obtain ⟨gw, e26, hx26⟩ : ∃ gw, A.eval (.tmp 26) = .slice (some ⟨gw, 0, none⟩) 5 5 ∧ Bx W gw [.string sBool, .string sInt, .string sUint, .string sText, .string sBytes] 9 := hdep ⟨0, .data⟩ (by simp) rfl _ _ rfl rfl
      have e29 : A.eval (.tmp 29) = .int .i64 2 := hdep ⟨3, .data⟩ (by simp) rfl _ _ rfl rfl
      have hgl := hx26.lt
      exact gOp_ix (v := .pointer (some ⟨gw, 2, none⟩)) rfl (wanted_plain rfl) rfl e26 e29 (by go_simp) ⟨_, rfl, ⟨gw, rfl, hx26⟩, Below.refl _ _, hR⟩
    · injection ho with ho
      subst ho
      obtain ⟨gw, e30, hx30⟩ : ∃ gw, A.eval (.tmp 30) = .pointer (some ⟨gw, 2, none⟩) ∧ Bx W gw [.string sBool, .string sInt, .string sUint, .string sText, .string sBytes] 9 := hdep ⟨4, .data⟩ (by simp) rfl _ _ rfl rfl
      have x0 := hx30.cell 2 rfl
      exact gOp_ld (v := .string sUint) rfl (wanted_plain rfl) rfl e30 (by go_simp) ⟨_, rfl, rfl, Below.refl _ _, hR⟩
    · injection ho with ho
      subst ho
      have e31 : A.eval (.tmp 31) = .string sUint := hdep ⟨5, .data⟩ (by simp) rfl _ _ rfl rfl
      exact gOp_mv rfl (wanted_plain rfl) (.inr rfl) e31 ⟨_, rfl, rfl, Below.refl _ _, hR⟩
    · simp at ho
  case done =>
    intro A W hsz hdf hfr hpred hR
    have h2 : A.tmps.getD 2 undef = .string sUint := hpred 6 _ 2 rfl rfl
    go_wp2_with fail
    exact bodyPost_ret (ret_spell h2) hdf ⟨rfl, below_next HW.out hR⟩

set_option maxHeartbeats 2000000 in
theorem spell_p4 (x : ByteArray) (ad : Option Addr) (m cp : Nat) (w : World) : Calls Tryz.prog 180 #[.agg #[.int .i64 4, .string x, .slice ad m cp]] w fun e w' => e = .returned (.string sText) ∧ Below w.heap.size w w' := by
  have hpw := fun w => plainWords_any w
  have hBx := Bx.new w [.int .i64 4, .string x, .slice ad m cp] 29
  have hbw := below_alloc w (.cells #[.int .i64 4, .string x, .slice ad m cp] 29)
  go_enter Tryz.func180, Tryz.ntmps180
  go_wp2_with fail
  have c0 := hBx.cell 0 rfl
  have hlt := hBx.lt
  have HW := hid hbw
  change World.cell? (w.alloc (.cells #[.int .i64 4, .string x, .slice ad m cp] 29)) _ = _ at c0
  change _ < (w.alloc (.cells #[.int .i64 4, .string x, .slice ad m cp] 29)).heap.size at hlt
  generalize w.alloc (.cells #[.int .i64 4, .string x, .slice ad m cp] 29) = w1 at *
  clear hBx hbw
  refine wp_region_drawn (pred := fun jx v W => match jx with | 0 => ∃ gw, v = .slice (some ⟨gw, 0, none⟩) 5 5 ∧ Bx W gw [.string sBool, .string sInt, .string sUint, .string sText, .string sBytes] 9 | 1 => v = .pointer (some ⟨w.heap.size, 0, none⟩) | 2 => v = .int .i64 4 | 3 => v = .int .i64 3 | 4 => ∃ gw, v = .pointer (some ⟨gw, 3, none⟩) ∧ Bx W gw [.string sBool, .string sInt, .string sUint, .string sText, .string sBytes] 9 | 5 => v = .string sText | 6 => v = .string sText | _ => True) (R := fun W => Below w1.heap.size w1 W) (by kernel_rfl) (by kernel_rfl) (by kernel_rfl) (fun i v W W' h hb => ?mono) (Below.drew (Below.refl _ _)) ?step ?done
  case mono =>
    rcases i with _ | _ | _ | _ | _ | _ | _ | i
    · obtain ⟨gw, h1, h2⟩ := h
      exact ⟨gw, h1, h2.below hb⟩
    · exact h
    · exact h
    · exact h
    · obtain ⟨gw, h1, h2⟩ := h
      exact ⟨gw, h1, h2.below hb⟩
    · exact h
    · exact h
    · exact trivial
  case step =>
    intro ix o ho A W hsz hdf hfr hdep hR
    rcases ix with _ | _ | _ | _ | _ | _ | _ | ix
    · injection ho with ho
      subst ho
      refine gOp_enter rfl (wanted_plain rfl) 116 #[] (run_call _ (fun _ _ => rfl) _ _ rfl _ (by simp)) ?_
      refine (hpw W).mono ?_
      rintro e w' ⟨v, rfl, ⟨gw, rfl, hg⟩, hb'⟩
      exact ⟨_, rfl, _, rfl, ⟨gw, rfl, hg⟩, hb', below_next hR hb'⟩
    · injection ho with ho
      subst ho
      have e1 : A.eval (.tmp 1) = .pointer (some ⟨w.heap.size, 0, none⟩) := (hfr 1 (noDst_spec (by kernel_rfl))).trans rfl
      exact gOp_fld (v := .pointer (some ⟨w.heap.size, 0, none⟩)) rfl (wanted_plain rfl) rfl e1 (by go_simp) ⟨_, rfl, rfl, Below.refl _ _, hR⟩
    · injection ho with ho
      subst ho
      have e27 : A.eval (.tmp 27) = .pointer (some ⟨w.heap.size, 0, none⟩) := hdep ⟨1, .data⟩ (by simp) rfl _ _ rfl rfl
      have x0 := (hR.cell hlt).trans c0
      exact gOp_ld (v := .int .i64 4) rfl (wanted_plain rfl) rfl e27 (by go_simp) ⟨_, rfl, rfl, Below.refl _ _, hR⟩
    · injection ho with ho
      subst ho
      have e28 : A.eval (.tmp 28) = .int .i64 4 := hdep ⟨2, .data⟩ (by simp) rfl _ _ rfl rfl
      exact gOp_ok (v := .int .i64 3) rfl (wanted_plain rfl) (run_bin rfl e28 rfl (by go_simp) (by go_simp; decide)) ⟨_, rfl, rfl, Below.refl _ _, hR⟩
    · injection ho with ho
      subst ho
      obtain ⟨gw, e26, hx26⟩ : ∃ gw, A.eval (.tmp 26) = .slice (some ⟨gw, 0, none⟩) 5 5 ∧ Bx W gw [.string sBool, .string sInt, .string sUint, .string sText, .string sBytes] 9 := hdep ⟨0, .data⟩ (by simp) rfl _ _ rfl rfl
      have e29 : A.eval (.tmp 29) = .int .i64 3 := hdep ⟨3, .data⟩ (by simp) rfl _ _ rfl rfl
      have hgl := hx26.lt
      exact gOp_ix (v := .pointer (some ⟨gw, 3, none⟩)) rfl (wanted_plain rfl) rfl e26 e29 (by go_simp) ⟨_, rfl, ⟨gw, rfl, hx26⟩, Below.refl _ _, hR⟩
    · injection ho with ho
      subst ho
      obtain ⟨gw, e30, hx30⟩ : ∃ gw, A.eval (.tmp 30) = .pointer (some ⟨gw, 3, none⟩) ∧ Bx W gw [.string sBool, .string sInt, .string sUint, .string sText, .string sBytes] 9 := hdep ⟨4, .data⟩ (by simp) rfl _ _ rfl rfl
      have x0 := hx30.cell 3 rfl
      exact gOp_ld (v := .string sText) rfl (wanted_plain rfl) rfl e30 (by go_simp) ⟨_, rfl, rfl, Below.refl _ _, hR⟩
    · injection ho with ho
      subst ho
      have e31 : A.eval (.tmp 31) = .string sText := hdep ⟨5, .data⟩ (by simp) rfl _ _ rfl rfl
      exact gOp_mv rfl (wanted_plain rfl) (.inr rfl) e31 ⟨_, rfl, rfl, Below.refl _ _, hR⟩
    · simp at ho
  case done =>
    intro A W hsz hdf hfr hpred hR
    have h2 : A.tmps.getD 2 undef = .string sText := hpred 6 _ 2 rfl rfl
    go_wp2_with fail
    exact bodyPost_ret (ret_spell h2) hdf ⟨rfl, below_next HW.out hR⟩

set_option maxHeartbeats 2000000 in
theorem spell_p5 (x : ByteArray) (ad : Option Addr) (m cp : Nat) (w : World) : Calls Tryz.prog 180 #[.agg #[.int .i64 5, .string x, .slice ad m cp]] w fun e w' => e = .returned (.string sBytes) ∧ Below w.heap.size w w' := by
  have hpw := fun w => plainWords_any w
  have hBx := Bx.new w [.int .i64 5, .string x, .slice ad m cp] 29
  have hbw := below_alloc w (.cells #[.int .i64 5, .string x, .slice ad m cp] 29)
  go_enter Tryz.func180, Tryz.ntmps180
  go_wp2_with fail
  have c0 := hBx.cell 0 rfl
  have hlt := hBx.lt
  have HW := hid hbw
  change World.cell? (w.alloc (.cells #[.int .i64 5, .string x, .slice ad m cp] 29)) _ = _ at c0
  change _ < (w.alloc (.cells #[.int .i64 5, .string x, .slice ad m cp] 29)).heap.size at hlt
  generalize w.alloc (.cells #[.int .i64 5, .string x, .slice ad m cp] 29) = w1 at *
  clear hBx hbw
  refine wp_region_drawn (pred := fun jx v W => match jx with | 0 => ∃ gw, v = .slice (some ⟨gw, 0, none⟩) 5 5 ∧ Bx W gw [.string sBool, .string sInt, .string sUint, .string sText, .string sBytes] 9 | 1 => v = .pointer (some ⟨w.heap.size, 0, none⟩) | 2 => v = .int .i64 5 | 3 => v = .int .i64 4 | 4 => ∃ gw, v = .pointer (some ⟨gw, 4, none⟩) ∧ Bx W gw [.string sBool, .string sInt, .string sUint, .string sText, .string sBytes] 9 | 5 => v = .string sBytes | 6 => v = .string sBytes | _ => True) (R := fun W => Below w1.heap.size w1 W) (by kernel_rfl) (by kernel_rfl) (by kernel_rfl) (fun i v W W' h hb => ?mono) (Below.drew (Below.refl _ _)) ?step ?done
  case mono =>
    rcases i with _ | _ | _ | _ | _ | _ | _ | i
    · obtain ⟨gw, h1, h2⟩ := h
      exact ⟨gw, h1, h2.below hb⟩
    · exact h
    · exact h
    · exact h
    · obtain ⟨gw, h1, h2⟩ := h
      exact ⟨gw, h1, h2.below hb⟩
    · exact h
    · exact h
    · exact trivial
  case step =>
    intro ix o ho A W hsz hdf hfr hdep hR
    rcases ix with _ | _ | _ | _ | _ | _ | _ | ix
    · injection ho with ho
      subst ho
      refine gOp_enter rfl (wanted_plain rfl) 116 #[] (run_call _ (fun _ _ => rfl) _ _ rfl _ (by simp)) ?_
      refine (hpw W).mono ?_
      rintro e w' ⟨v, rfl, ⟨gw, rfl, hg⟩, hb'⟩
      exact ⟨_, rfl, _, rfl, ⟨gw, rfl, hg⟩, hb', below_next hR hb'⟩
    · injection ho with ho
      subst ho
      have e1 : A.eval (.tmp 1) = .pointer (some ⟨w.heap.size, 0, none⟩) := (hfr 1 (noDst_spec (by kernel_rfl))).trans rfl
      exact gOp_fld (v := .pointer (some ⟨w.heap.size, 0, none⟩)) rfl (wanted_plain rfl) rfl e1 (by go_simp) ⟨_, rfl, rfl, Below.refl _ _, hR⟩
    · injection ho with ho
      subst ho
      have e27 : A.eval (.tmp 27) = .pointer (some ⟨w.heap.size, 0, none⟩) := hdep ⟨1, .data⟩ (by simp) rfl _ _ rfl rfl
      have x0 := (hR.cell hlt).trans c0
      exact gOp_ld (v := .int .i64 5) rfl (wanted_plain rfl) rfl e27 (by go_simp) ⟨_, rfl, rfl, Below.refl _ _, hR⟩
    · injection ho with ho
      subst ho
      have e28 : A.eval (.tmp 28) = .int .i64 5 := hdep ⟨2, .data⟩ (by simp) rfl _ _ rfl rfl
      exact gOp_ok (v := .int .i64 4) rfl (wanted_plain rfl) (run_bin rfl e28 rfl (by go_simp) (by go_simp; decide)) ⟨_, rfl, rfl, Below.refl _ _, hR⟩
    · injection ho with ho
      subst ho
      obtain ⟨gw, e26, hx26⟩ : ∃ gw, A.eval (.tmp 26) = .slice (some ⟨gw, 0, none⟩) 5 5 ∧ Bx W gw [.string sBool, .string sInt, .string sUint, .string sText, .string sBytes] 9 := hdep ⟨0, .data⟩ (by simp) rfl _ _ rfl rfl
      have e29 : A.eval (.tmp 29) = .int .i64 4 := hdep ⟨3, .data⟩ (by simp) rfl _ _ rfl rfl
      have hgl := hx26.lt
      exact gOp_ix (v := .pointer (some ⟨gw, 4, none⟩)) rfl (wanted_plain rfl) rfl e26 e29 (by go_simp) ⟨_, rfl, ⟨gw, rfl, hx26⟩, Below.refl _ _, hR⟩
    · injection ho with ho
      subst ho
      obtain ⟨gw, e30, hx30⟩ : ∃ gw, A.eval (.tmp 30) = .pointer (some ⟨gw, 4, none⟩) ∧ Bx W gw [.string sBool, .string sInt, .string sUint, .string sText, .string sBytes] 9 := hdep ⟨4, .data⟩ (by simp) rfl _ _ rfl rfl
      have x0 := hx30.cell 4 rfl
      exact gOp_ld (v := .string sBytes) rfl (wanted_plain rfl) rfl e30 (by go_simp) ⟨_, rfl, rfl, Below.refl _ _, hR⟩
    · injection ho with ho
      subst ho
      have e31 : A.eval (.tmp 31) = .string sBytes := hdep ⟨5, .data⟩ (by simp) rfl _ _ rfl rfl
      exact gOp_mv rfl (wanted_plain rfl) (.inr rfl) e31 ⟨_, rfl, rfl, Below.refl _ _, hR⟩
    · simp at ho
  case done =>
    intro A W hsz hdf hfr hpred hR
    have h2 : A.tmps.getD 2 undef = .string sBytes := hpred 6 _ 2 rfl rfl
    go_wp2_with fail
    exact bodyPost_ret (ret_spell h2) hdf ⟨rfl, below_next HW.out hR⟩

theorem spell_plain (k : Nat) (hk : 1 ≤ k ∧ k ≤ 5) (x : ByteArray) (ad : Option Addr) (m cp : Nat) (w : World) : Calls Tryz.prog 180 #[.agg #[.int .i64 (k : Int), .string x, .slice ad m cp]] w fun e w' => ∃ s, e = .returned (.string s) ∧ bl s = Pl.plainW k ∧ Below w.heap.size w w' := by
  have h1 : k = 1 ∨ k = 2 ∨ k = 3 ∨ k = 4 ∨ k = 5 := by omega
  rcases h1 with rfl | rfl | rfl | rfl | rfl
  · refine (spell_p1 x ad m cp w).mono ?_
    rintro e w' ⟨rfl, hb⟩
    exact ⟨_, rfl, by decide, hb⟩
  · refine (spell_p2 x ad m cp w).mono ?_
    rintro e w' ⟨rfl, hb⟩
    exact ⟨_, rfl, by decide, hb⟩
  · refine (spell_p3 x ad m cp w).mono ?_
    rintro e w' ⟨rfl, hb⟩
    exact ⟨_, rfl, by decide, hb⟩
  · refine (spell_p4 x ad m cp w).mono ?_
    rintro e w' ⟨rfl, hb⟩
    exact ⟨_, rfl, by decide, hb⟩
  · refine (spell_p5 x ad m cp w).mono ?_
    rintro e w' ⟨rfl, hb⟩
    exact ⟨_, rfl, by decide, hb⟩

theorem bl_append (x y : ByteArray) : bl (x ++ y) = bl x ++ bl y := by
  unfold bl
  rw [ByteArray.data_append, Array.toList_append, List.map_append]

set_option maxHeartbeats 4000000 in
theorem spell_any (t : Pl.Ty) : ∀ (n B : Nat) (w : World) (k s o : Value), Ly B n (Pl.emb t) w k s o → Pl.tyD t ≤ n + 1 → Pl.tyD t ≤ 20 → Pl.okTy t → B ≤ w.heap.size →
    Calls Tryz.prog 180 #[.agg #[k, s, o]] w fun e w' => ∃ x, e = .returned (.string x) ∧ bl x = Pl.tyX t ∧ Below w.heap.size w w' := by
  induction t with
  | plain q =>
    intro n B w k s o h hn h20 hok hB
    obtain ⟨rfl, ⟨x, rfl, -, -⟩, hos⟩ := h
    obtain ⟨ad, m, cp, rfl⟩ := hos.shape
    exact spell_plain q hok x ad m cp w
  | named y =>
    intro n B w k s o h hn h20 hok hB
    obtain ⟨rfl, ⟨x, rfl, hx, -⟩, hos⟩ := h
    obtain ⟨ad, m, cp, rfl⟩ := hos.shape
    have hx2 : bl x = y := hx
    have hbw := below_alloc w (.cells #[.int .i64 8, .string x, .slice ad m cp] 29)
    have HX := hid hx2
    clear hx hx2 hos
    show Calls Tryz.prog _ #[.agg #[.int .i64 8, .string x, .slice ad m cp]] _ _
    go_enter Tryz.func180, Tryz.ntmps180
    go_wp2
    go_ret
    exact ⟨x, rfl, HX.out, hbw⟩
  | list t ih =>
    intro n B w k s o h hn h20 hok hB
    simp only [Pl.tyD] at hn h20
    obtain ⟨n', rfl⟩ : ∃ n', n = n' + 1 := ⟨n - 1, by cases t <;> simp only [Pl.tyD] at hn <;> omega⟩
    obtain ⟨rfl, ⟨x, rfl, -, -⟩, hos⟩ := h
    obtain ⟨blk, off, cp, k', s', o', rfl, q2, q3, q4, q5, hly⟩ := LyS.first (g := Pl.emb t) hos
    have hBs : blk < w.heap.size := Nat.lt_of_lt_of_le q2 hB
    have hbw := below_alloc w (.cells #[.int .i64 6, .string x, .slice (some ⟨blk, off, none⟩) 1 cp] 29)
    have hI := ih n' B _ k' s' o' (hly.bel (hbw.mono hB)) (by omega) (by omega) hok (Nat.le_trans hB hbw.size)
    have hsz := Pl.ty_len t hok
    have c0 := (hbw.cell hBs).trans q3
    have c1 := (hbw.cell hBs).trans q4
    have c2 := (hbw.cell hBs).trans q5
    have hb1' : blk < (w.alloc (.cells #[.int .i64 6, .string x, .slice (some ⟨blk, off, none⟩) 1 cp] 29)).heap.size := Nat.lt_of_lt_of_le hBs hbw.size
    clear hos hly q3 q4 q5 ih
    rw [Pl.tyX]
    generalize Pl.tyX t = X at *
    show Calls Tryz.prog _ #[.agg #[.int .i64 6, .string x, .slice (some ⟨blk, off, none⟩) 1 cp]] _ _
    go_enter Tryz.func180, Tryz.ntmps180
    go_wp2_with fail
    refine hI.mono ?_
    rintro e w2 ⟨y, rfl, rfl, hb2⟩
    rw [bl_length] at hsz
    have HW := hid (below_next hbw hb2)
    go_wp2
    go_ret
    refine ⟨_, rfl, ?_, HW.out⟩
    rw [bl_append, bl_append]
    rfl
  | opt t ih =>
    intro n B w k s o h hn h20 hok hB
    simp only [Pl.tyD] at hn h20
    obtain ⟨n', rfl⟩ : ∃ n', n = n' + 1 := ⟨n - 1, by cases t <;> simp only [Pl.tyD] at hn <;> omega⟩
    obtain ⟨rfl, ⟨x, rfl, -, -⟩, hos⟩ := h
    obtain ⟨blk, off, cp, k', s', o', rfl, q2, q3, q4, q5, hly⟩ := LyS.first (g := Pl.emb t) hos
    have hBs : blk < w.heap.size := Nat.lt_of_lt_of_le q2 hB
    have hbw := below_alloc w (.cells #[.int .i64 7, .string x, .slice (some ⟨blk, off, none⟩) 1 cp] 29)
    have hI := ih n' B _ k' s' o' (hly.bel (hbw.mono hB)) (by omega) (by omega) hok (Nat.le_trans hB hbw.size)
    have hsz := Pl.ty_len t hok
    have c0 := (hbw.cell hBs).trans q3
    have c1 := (hbw.cell hBs).trans q4
    have c2 := (hbw.cell hBs).trans q5
    have hb1' : blk < (w.alloc (.cells #[.int .i64 7, .string x, .slice (some ⟨blk, off, none⟩) 1 cp] 29)).heap.size := Nat.lt_of_lt_of_le hBs hbw.size
    clear hos hly q3 q4 q5 ih
    rw [Pl.tyX]
    generalize Pl.tyX t = X at *
    show Calls Tryz.prog _ #[.agg #[.int .i64 7, .string x, .slice (some ⟨blk, off, none⟩) 1 cp]] _ _
    go_enter Tryz.func180, Tryz.ntmps180
    go_wp2_with fail
    refine hI.mono ?_
    rintro e w2 ⟨y, rfl, rfl, hb2⟩
    rw [bl_length] at hsz
    have HW := hid (below_next hbw hb2)
    go_wp2
    go_ret
    refine ⟨_, rfl, ?_, HW.out⟩
    rw [bl_append]
    rfl

set_option maxHeartbeats 4000000 in
theorem wputType_any (b B : Nat) (acc : List Nat) (n : Nat) (hn : 99 ≤ n) (g : Pl.GT) (w : World) (k s o : Value) (hl : Ly B n g w k s o) (h : Bld b B acc w) (hlen : acc.length ≤ 1000000000) :
    Calls Tryz.prog 166 #[.pointer (some ⟨b, 0, none⟩), .agg #[k, s, o]] w (WrR b B acc w (Pl.tyW g)) := by
  have hB := h.base.1
  have hbw := below_alloc w (.cells #[k, s, o] 29)
  have hBx := Bx.new w [k, s, o] 29
  have hsh := shape_any B n hn g _ k s o (hl.bel (hbw.mono hB)) (Nat.le_trans hB hbw.size)
  have hkey : Pl.shapeP g = 0 → ∀ W, Below w.heap.size w W → Calls Tryz.prog 180 #[.agg #[k, s, o]] W fun e w' => ∃ x, e = .returned (.string x) ∧ bl x = Pl.spellP 8 g ∧ x.size ≤ 48 ∧ Below W.heap.size W w' := by
    intro h0 W hW
    obtain ⟨t, rfl, h1, h2⟩ := Pl.shape_of g h0
    refine (spell_any t n B W k s o (hl.bel (hW.mono hB)) (by omega) (by omega) h1 (Nat.le_trans hB hW.size)).mono ?_
    rintro e w' ⟨x, rfl, hx, hb⟩
    refine ⟨x, rfl, by rw [hx, Pl.spell_emb t 8 h2 h1], ?_, hb⟩
    have := Pl.ty_len t h1
    rw [← hx, bl_length] at this
    omega
  obtain ⟨rfl, ⟨x, rfl, -, -⟩, h4⟩ := hl
  obtain ⟨ad, m, cp, rfl⟩ := h4.shape
  clear h4
  unfold Pl.tyW
  generalize Pl.shapeP g = Z at *
  generalize Pl.spellP 8 g = S at *
  generalize g.k = K at *
  by_cases hZ : Z = 0
  · subst hZ
    rw [if_pos rfl]
    have hk2 := hkey rfl
    clear hkey
    go_enter Tryz.func166, Tryz.ntmps166
    go_wp2_with fail
    refine hsh.mono ?_
    rintro e w1 ⟨rfl, hb1⟩
    have hbw1 := below_next hbw hb1
    have h1 := h.below hbw1
    have hk3 := hk2 w1 hbw1
    have hB1 := hBx.below hb1
    have c0 := hB1.cell 0 rfl
    have c1 := hB1.cell 1 rfl
    have c2 := hB1.cell 2 rfl
    have hlt := hB1.lt
    clear hsh hk2 hB1 hBx hbw hb1 h
    go_wp2_with fail
    refine (pneed_true 0 _).mono ?_
    rintro e w2 ⟨rfl, hq2⟩
    subst w2
    go_wp2_with fail
    refine hk3.mono ?_
    rintro e w2 ⟨y, rfl, hy, hsz, hb2⟩
    have h2 := h1.below hb2
    have hp := wput_one b B acc y w2 h2 (by omega)
    have HY := hid hy
    have HB2 := hid (below_next hbw1 hb2)
    clear hk3 h1 hy hbw1 hb2
    go_wp2_with fail
    refine hp.mono ?_
    rintro e w3 ⟨rfl, h3, hc3⟩
    have HC := hid ((Ch.below HB2.out).trans hc3)
    have HB := hid h3
    clear hp hc3 h3
    go_wp2
    go_end0
    refine ⟨rfl, ?_, HC.out⟩
    rw [← HY.out]
    exact HB.out
  · rw [if_neg hZ]
    have hq : ((Z : Int) == 0) = false := by simp; omega
    clear hkey
    go_enter Tryz.func166, Tryz.ntmps166
    go_wp2_with fail
    refine hsh.mono ?_
    rintro e w1 ⟨rfl, hb1⟩
    have HW := hid (below_next hbw hb1)
    clear hsh hb1 hbw hBx
    go_wp2_with fail
    refine (pneed_false (Z : Int) _).mono ?_
    rintro e w2 ⟨rfl, hq2⟩
    subst w2
    exact ⟨rfl, rfl, Ch.below HW.out⟩
end Go.Proofs.YtmiohekmpjiloaaGreatDoor

namespace Go.Proofs.YtmiohekmpjiloaaGreatDoor
open Go.RowKit
set_option maxRecDepth 20000

theorem Bld.cast {b B : Nat} {x y : List Nat} {w : World} (h : Bld b B x w) (e : x = y) : Bld b B y w := e ▸ h
theorem Xw.bel {b B : Nat} {w w' : World} (h : Ch (Xw b B) w w') (hB : B ≤ b) (hw : B ≤ w.heap.size) : Below B w w' :=
  ⟨h.os, h.tape, h.output, h.size, fun k hk => by
    have ho : w.heap[k]? = some (w.heap[k]'(by omega)) := by simp
    rw [ho]
    refine h.block k _ ho (fun cs T r _ hx => ?_)
    rcases hx with hx | hx <;> omega⟩

set_option maxHeartbeats 8000000 in
theorem wfield_any (b B : Nat) (acc : List Nat) (n : Nat) (hn : 99 ≤ n) (f : Pl.GF) (nm : ByteArray) (hnm : bl nm = f.name) (hns : nm.size ≤ maxLen) (w : World) (k s o : Value) (hl : Ly B n f.ty w k s o) (h : Bld b B acc w) (ht : Tab B w) (hlen : acc.length ≤ 900000000) :
    Calls Tryz.prog 134 #[.pointer (some ⟨b, 0, none⟩), .agg #[.string nm, .int .i64 f.num, k, s, o]] w (WrR b B acc w (Pl.gfW f)) := by
  obtain ⟨hB, hBb, _⟩ := h.base
  have hbw := below_alloc w (.cells #[.string nm, .int .i64 f.num, k, s, o] 61)
  have hBx := Bx.new w [.string nm, .int .i64 f.num, k, s, o] 61
  have h0 := h.below hbw
  have hN0 := wputNumber_any b B acc f.num _ h0 (ht.below hbw) (by omega)
  have HL := hid hl
  obtain ⟨rfl, ⟨sx, rfl, -, -⟩, h4⟩ := hl
  obtain ⟨ad, m, cp, rfl⟩ := h4.shape
  clear h4
  obtain ⟨R, hR⟩ : ∃ R, R = Pl.gfW f := ⟨_, rfl⟩
  rw [← hR]
  have HR := hid hR
  have HNM := hid hnm
  clear hR hnm h
  generalize f.ty.k = K at *
  go_enter Tryz.func134, Tryz.ntmps134
  go_wp2_with fail
  refine hN0.mono ?_
  cases hN : Pl.numW f.num with
  | bad er =>
    rintro e w1 ⟨rfl, hc1⟩
    have e1 : R = .bad er := by rw [HR.out]; simp [Pl.gfW, hN, Pl.Wr.app]
    subst e1
    exact ⟨rfl, rfl, (Ch.below hbw).trans hc1⟩
  | ok x1 =>
    rintro e w1 ⟨rfl, h1, hc1⟩
    have hs1 := Pl.Small.num f.num x1 hN
    have hC1 := (Ch.below (X := Xw b B) hbw).trans hc1
    have hB1 := hBx.ch hc1 (by rintro (h | h) <;> (have := h.2; revert this; decide))
    have c0 := hB1.cell 0 rfl
    have hlt := hB1.lt
    have hp2 := wput_one b B (acc ++ x1) ⟨#[32]⟩ w1 h1 (by rw [List.length_append]; simp [ByteArray.size]; omega)
    clear hN0 h0 hbw hBx hc1 h1
    go_wp2_with fail
    refine hp2.mono ?_
    rintro e w2 ⟨rfl, h2, hc2⟩
    have hC2 := hC1.trans hc2
    have hB2 := hB1.ch hc2 (by rintro (h | h) <;> (have := h.2; revert this; decide))
    have c0 := hB2.cell 0 rfl
    have hlt := hB2.lt
    have hp3 := wputName_any b B _ nm hns w2 h2 (by simp only [List.length_append, bl_length]; simp [ByteArray.size]; omega)
    clear hp2 hc2 hB1 h2
    go_wp2_with fail
    refine hp3.mono ?_
    rw [HNM.out]
    cases hM : Pl.nameW f.name with
    | bad er =>
      rintro e w3 ⟨rfl, hc3⟩
      have e1 : R = .bad er := by rw [HR.out]; simp [Pl.gfW, hN, hM, Pl.Wr.app]
      subst e1
      exact ⟨rfl, rfl, hC2.trans hc3⟩
    | ok x3 =>
      rintro e w3 ⟨rfl, h3, hc3⟩
      have hs3 := Pl.Small.name f.name x3 hM
      have hC3 := hC2.trans hc3
      have hB3 := hB2.ch hc3 (by rintro (h | h) <;> (have := h.2; revert this; decide))
      have hp4 := wput_one b B _ ⟨#[58, 32]⟩ w3 h3 (by simp only [List.length_append, bl_length]; simp [ByteArray.size]; omega)
      clear hp3 hc3 hB2 c0 hlt h3
      go_wp2_with fail
      refine hp4.mono ?_
      rintro e w4 ⟨rfl, h4, hc4⟩
      have hC4 := hC3.trans hc4
      have hB4 := hB3.ch hc4 (by rintro (h | h) <;> (have := h.2; revert this; decide))
      have c2 := hB4.cell 2 rfl
      have c3 := hB4.cell 3 rfl
      have c4 := hB4.cell 4 rfl
      have hlt := hB4.lt
      have hl4 := HL.out.bel (Xw.bel hC4 hBb hB)
      have hp5 := wputType_any b B _ n hn f.ty w4 _ _ _ hl4 h4 (by simp only [List.length_append, bl_length]; simp [ByteArray.size]; omega)
      clear hp4 hc4 hB3 hl4 h4
      go_wp2_with fail
      refine hp5.mono ?_
      cases hT : Pl.tyW f.ty with
      | bad er =>
        rintro e w5 ⟨rfl, hc5⟩
        have e1 : R = .bad er := by rw [HR.out]; simp [Pl.gfW, hN, hM, hT, Pl.Wr.app]
        subst e1
        exact ⟨rfl, rfl, hC4.trans hc5⟩
      | ok x5 =>
        rintro e w5 ⟨rfl, h5, hc5⟩
        have e1 : R = .ok (x1 ++ [32] ++ x3 ++ [58, 32] ++ x5) := by rw [HR.out]; simp [Pl.gfW, hN, hM, hT, Pl.Wr.app]
        subst e1
        have HB5 := hid h5
        have HC5 := hid (hC4.trans hc5)
        clear h5 hc5 hp5
        go_wp2
        go_end0
        refine ⟨rfl, HB5.out.cast ?_, HC5.out⟩
        simp [bl]

set_option maxHeartbeats 8000000 in
theorem wcase_any (b B : Nat) (acc : List Nat) (f : Pl.GC) (nm : ByteArray) (hnm : bl nm = f.name) (hns : nm.size ≤ maxLen) (w : World) (h : Bld b B acc w) (ht : Tab B w) (hlen : acc.length ≤ 900000000) :
    Calls Tryz.prog 136 #[.pointer (some ⟨b, 0, none⟩), .agg #[.string nm, .int .i64 f.num]] w (WrR b B acc w (Pl.gcW f)) := by
  have hbw := below_alloc w (.cells #[.string nm, .int .i64 f.num] 101)
  have hBx := Bx.new w [.string nm, .int .i64 f.num] 101
  have h0 := h.below hbw
  have hN0 := wputNumber_any b B acc f.num _ h0 (ht.below hbw) (by omega)
  obtain ⟨R, hR⟩ : ∃ R, R = Pl.gcW f := ⟨_, rfl⟩
  rw [← hR]
  have HR := hid hR
  have HNM := hid hnm
  clear hR hnm h
  go_enter Tryz.func136, Tryz.ntmps136
  go_wp2_with fail
  refine hN0.mono ?_
  cases hN : Pl.numW f.num with
  | bad er =>
    rintro e w1 ⟨rfl, hc1⟩
    have e1 : R = .bad er := by rw [HR.out]; simp [Pl.gcW, hN, Pl.Wr.app]
    subst e1
    exact ⟨rfl, rfl, (Ch.below hbw).trans hc1⟩
  | ok x1 =>
    rintro e w1 ⟨rfl, h1, hc1⟩
    have hs1 := Pl.Small.num f.num x1 hN
    have hC1 := (Ch.below (X := Xw b B) hbw).trans hc1
    have hB1 := hBx.ch hc1 (by rintro (h | h) <;> (have := h.2; revert this; decide))
    have hp2 := wput_one b B (acc ++ x1) ⟨#[32]⟩ w1 h1 (by rw [List.length_append]; simp [ByteArray.size]; omega)
    clear hN0 h0 hbw hBx hc1 h1
    go_wp2_with fail
    refine hp2.mono ?_
    rintro e w2 ⟨rfl, h2, hc2⟩
    have hC2 := hC1.trans hc2
    have hB2 := hB1.ch hc2 (by rintro (h | h) <;> (have := h.2; revert this; decide))
    have c0 := hB2.cell 0 rfl
    have hlt := hB2.lt
    have hp3 := wputName_any b B _ nm hns w2 h2 (by simp only [List.length_append, bl_length]; simp [ByteArray.size]; omega)
    clear hp2 hc2 hB1 h2
    go_wp2_with fail
    refine hp3.mono ?_
    rw [HNM.out]
    cases hM : Pl.nameW f.name with
    | bad er =>
      rintro e w3 ⟨rfl, hc3⟩
      have e1 : R = .bad er := by rw [HR.out]; simp [Pl.gcW, hN, hM, Pl.Wr.app]
      subst e1
      exact ⟨rfl, rfl, hC2.trans hc3⟩
    | ok x3 =>
      rintro e w3 ⟨rfl, h3, hc3⟩
      have e1 : R = .ok (x1 ++ [32] ++ x3) := by rw [HR.out]; simp [Pl.gcW, hN, hM, Pl.Wr.app]
      subst e1
      have HB5 := hid h3
      have HC5 := hid (hC2.trans hc3)
      clear h3 hc3 hp3
      go_wp2
      go_end0
      refine ⟨rfl, HB5.out.cast ?_, HC5.out⟩
      simp [bl]
end Go.Proofs.YtmiohekmpjiloaaGreatDoor

namespace Go.Proofs.YtmiohekmpjiloaaGreatDoor
open Go.RowKit
set_option maxRecDepth 20000

theorem al_size (w : World) (o : Obj) : (w.alloc o).heap.size = w.heap.size + 1 := by simp

set_option maxHeartbeats 16000000 in
theorem wmethod_any (b B : Nat) (acc : List Nat) (n : Nat) (hn : 99 ≤ n) (f : Pl.GM) (nm : ByteArray) (hnm : bl nm = f.name) (hns : nm.size ≤ maxLen) (w : World) (k s o k' s' o' : Value) (hl : Ly B n f.arg w k s o) (hl' : Ly B n f.res w k' s' o') (h : Bld b B acc w) (hlen : acc.length ≤ 900000000) :
    Calls Tryz.prog 138 #[.pointer (some ⟨b, 0, none⟩), .agg #[.string nm, .bool f.once, k, s, o, k', s', o']] w (WrR b B acc w (Pl.gmW f)) := by
  obtain ⟨hB, hBb, _⟩ := h.base
  have hbw := below_alloc w (.cells #[.string nm, .bool f.once, k, s, o, k', s', o'] 122)
  have hBx := Bx.new w [.string nm, .bool f.once, k, s, o, k', s', o'] 122
  have h0 := h.below hbw
  have HL := hid hl
  have HL' := hid hl'
  obtain ⟨rfl, ⟨sx, rfl, -, -⟩, h4⟩ := hl
  obtain ⟨ad, m, cp, rfl⟩ := h4.shape
  obtain ⟨rfl, ⟨sx', rfl, -, -⟩, h4'⟩ := hl'
  obtain ⟨ad', m', cp', rfl⟩ := h4'.shape
  clear h4 h4'
  obtain ⟨R, hR⟩ : ∃ R, R = Pl.gmW f := ⟨_, rfl⟩
  rw [← hR]
  have HR := hid hR
  have HNM := hid hnm
  clear hR hnm h
  generalize f.arg.k = K at *
  generalize f.res.k = K' at *
  cases ho : f.once with
  | true =>
    have hp1 := wput_one b B acc ⟨#[111, 110, 99, 101, 32]⟩ _ h0 (by simp [ByteArray.size]; omega)
    rw [ho] at hp1 hBx hbw
    rw [al_size] at hp1
    clear h0
    go_enter Tryz.func138, Tryz.ntmps138
    go_wp2_with fail
    refine hp1.mono ?_
    rintro e w2 ⟨rfl, h2, hc2⟩
    have hC2 := (Ch.below (X := Xw b B) hbw).trans hc2
    have hB2 := hBx.ch hc2 (by rintro (h | h) <;> (have := h.2; revert this; decide))
    have c0 := hB2.cell 0 rfl
    have hlt := hB2.lt
    have hp3 := wputName_any b B _ nm hns w2 h2 (by simp only [List.length_append, bl_length]; simp [ByteArray.size]; omega)
    clear hp1 hc2 hBx hbw h2
    go_wp2_with fail
    refine hp3.mono ?_
    rw [HNM.out]
    cases hM : Pl.nameW f.name with
    | bad er =>
      rintro e w3 ⟨rfl, hc3⟩
      have e1 : R = .bad er := by rw [HR.out]; simp [Pl.gmW, hM, Pl.Wr.app]
      subst e1
      exact ⟨rfl, rfl, hC2.trans hc3⟩
    | ok x3 =>
      rintro e w3 ⟨rfl, h3, hc3⟩
      have hs3 := Pl.Small.name f.name x3 hM
      have hC3 := hC2.trans hc3
      have hB3 := hB2.ch hc3 (by rintro (h | h) <;> (have := h.2; revert this; decide))
      have hp4 := wput_one b B _ ⟨#[40]⟩ w3 h3 (by simp only [List.length_append, bl_length]; simp [ByteArray.size]; omega)
      clear hp3 hc3 hB2 c0 hlt h3
      go_wp2_with fail
      refine hp4.mono ?_
      rintro e w4 ⟨rfl, h4, hc4⟩
      have hC4 := hC3.trans hc4
      have hB4 := hB3.ch hc4 (by rintro (h | h) <;> (have := h.2; revert this; decide))
      have c2 := hB4.cell 2 rfl
      have c3 := hB4.cell 3 rfl
      have c4 := hB4.cell 4 rfl
      have hlt := hB4.lt
      have hp5 := wputType_any b B _ n hn f.arg w4 _ _ _ (HL.out.bel (Xw.bel hC4 hBb hB)) h4 (by simp only [List.length_append, bl_length]; simp [ByteArray.size]; omega)
      clear hp4 hc4 hB3 h4
      go_wp2_with fail
      refine hp5.mono ?_
      cases hT : Pl.tyW f.arg with
      | bad er =>
        rintro e w5 ⟨rfl, hc5⟩
        have e1 : R = .bad er := by rw [HR.out]; simp [Pl.gmW, hM, hT, Pl.Wr.app]
        subst e1
        exact ⟨rfl, rfl, hC4.trans hc5⟩
      | ok x5 =>
        rintro e w5 ⟨rfl, h5, hc5⟩
        have hs5 := Pl.Small.ty f.arg x5 hT
        have hC5 := hC4.trans hc5
        have hB5 := hB4.ch hc5 (by rintro (h | h) <;> (have := h.2; revert this; decide))
        have hp6 := wput_one b B _ ⟨#[41, 32]⟩ w5 h5 (by simp only [List.length_append, bl_length]; simp [ByteArray.size]; omega)
        clear hp5 hc5 hB4 c2 c3 c4 hlt h5
        go_wp2_with fail
        refine hp6.mono ?_
        rintro e w6 ⟨rfl, h6, hc6⟩
        have hC6 := hC5.trans hc6
        have hB6 := hB5.ch hc6 (by rintro (h | h) <;> (have := h.2; revert this; decide))
        have c2 := hB6.cell 5 rfl
        have c3 := hB6.cell 6 rfl
        have c4 := hB6.cell 7 rfl
        have hlt := hB6.lt
        have hp7 := wputType_any b B _ n hn f.res w6 _ _ _ (HL'.out.bel (Xw.bel hC6 hBb hB)) h6 (by simp only [List.length_append, bl_length]; simp [ByteArray.size]; omega)
        clear hp6 hc6 hB5 h6
        go_wp2_with fail
        refine hp7.mono ?_
        cases hU : Pl.tyW f.res with
        | bad er =>
          rintro e w7 ⟨rfl, hc7⟩
          have e1 : R = .bad er := by rw [HR.out]; simp [Pl.gmW, hM, hT, hU, Pl.Wr.app]
          subst e1
          exact ⟨rfl, rfl, hC6.trans hc7⟩
        | ok x7 =>
          rintro e w7 ⟨rfl, h7, hc7⟩
          have e1 : R = .ok ((if f.once then Pl.wOnce ++ [32] else Pl.wRead ++ [32]) ++ x3 ++ [40] ++ x5 ++ [41, 32] ++ x7) := by rw [HR.out]; simp [Pl.gmW, hM, hT, hU, Pl.Wr.app]
          rw [ho] at e1
          subst e1
          have HB7 := hid h7
          have HC7 := hid (hC6.trans hc7)
          clear h7 hc7 hp7
          go_wp2
          go_end0
          refine ⟨rfl, HB7.out.cast ?_, HC7.out⟩
          simp [bl, Pl.wOnce]
  | false =>
    have hp1 := wput_one b B acc ⟨#[114, 101, 97, 100, 32]⟩ _ h0 (by simp [ByteArray.size]; omega)
    rw [ho] at hp1 hBx hbw
    rw [al_size] at hp1
    clear h0
    go_enter Tryz.func138, Tryz.ntmps138
    go_wp2_with fail
    refine hp1.mono ?_
    rintro e w2 ⟨rfl, h2, hc2⟩
    have hC2 := (Ch.below (X := Xw b B) hbw).trans hc2
    have hB2 := hBx.ch hc2 (by rintro (h | h) <;> (have := h.2; revert this; decide))
    have c0 := hB2.cell 0 rfl
    have hlt := hB2.lt
    have hp3 := wputName_any b B _ nm hns w2 h2 (by simp only [List.length_append, bl_length]; simp [ByteArray.size]; omega)
    clear hp1 hc2 hBx hbw h2
    go_wp2_with fail
    refine hp3.mono ?_
    rw [HNM.out]
    cases hM : Pl.nameW f.name with
    | bad er =>
      rintro e w3 ⟨rfl, hc3⟩
      have e1 : R = .bad er := by rw [HR.out]; simp [Pl.gmW, hM, Pl.Wr.app]
      subst e1
      exact ⟨rfl, rfl, hC2.trans hc3⟩
    | ok x3 =>
      rintro e w3 ⟨rfl, h3, hc3⟩
      have hs3 := Pl.Small.name f.name x3 hM
      have hC3 := hC2.trans hc3
      have hB3 := hB2.ch hc3 (by rintro (h | h) <;> (have := h.2; revert this; decide))
      have hp4 := wput_one b B _ ⟨#[40]⟩ w3 h3 (by simp only [List.length_append, bl_length]; simp [ByteArray.size]; omega)
      clear hp3 hc3 hB2 c0 hlt h3
      go_wp2_with fail
      refine hp4.mono ?_
      rintro e w4 ⟨rfl, h4, hc4⟩
      have hC4 := hC3.trans hc4
      have hB4 := hB3.ch hc4 (by rintro (h | h) <;> (have := h.2; revert this; decide))
      have c2 := hB4.cell 2 rfl
      have c3 := hB4.cell 3 rfl
      have c4 := hB4.cell 4 rfl
      have hlt := hB4.lt
      have hp5 := wputType_any b B _ n hn f.arg w4 _ _ _ (HL.out.bel (Xw.bel hC4 hBb hB)) h4 (by simp only [List.length_append, bl_length]; simp [ByteArray.size]; omega)
      clear hp4 hc4 hB3 h4
      go_wp2_with fail
      refine hp5.mono ?_
      cases hT : Pl.tyW f.arg with
      | bad er =>
        rintro e w5 ⟨rfl, hc5⟩
        have e1 : R = .bad er := by rw [HR.out]; simp [Pl.gmW, hM, hT, Pl.Wr.app]
        subst e1
        exact ⟨rfl, rfl, hC4.trans hc5⟩
      | ok x5 =>
        rintro e w5 ⟨rfl, h5, hc5⟩
        have hs5 := Pl.Small.ty f.arg x5 hT
        have hC5 := hC4.trans hc5
        have hB5 := hB4.ch hc5 (by rintro (h | h) <;> (have := h.2; revert this; decide))
        have hp6 := wput_one b B _ ⟨#[41, 32]⟩ w5 h5 (by simp only [List.length_append, bl_length]; simp [ByteArray.size]; omega)
        clear hp5 hc5 hB4 c2 c3 c4 hlt h5
        go_wp2_with fail
        refine hp6.mono ?_
        rintro e w6 ⟨rfl, h6, hc6⟩
        have hC6 := hC5.trans hc6
        have hB6 := hB5.ch hc6 (by rintro (h | h) <;> (have := h.2; revert this; decide))
        have c2 := hB6.cell 5 rfl
        have c3 := hB6.cell 6 rfl
        have c4 := hB6.cell 7 rfl
        have hlt := hB6.lt
        have hp7 := wputType_any b B _ n hn f.res w6 _ _ _ (HL'.out.bel (Xw.bel hC6 hBb hB)) h6 (by simp only [List.length_append, bl_length]; simp [ByteArray.size]; omega)
        clear hp6 hc6 hB5 h6
        go_wp2_with fail
        refine hp7.mono ?_
        cases hU : Pl.tyW f.res with
        | bad er =>
          rintro e w7 ⟨rfl, hc7⟩
          have e1 : R = .bad er := by rw [HR.out]; simp [Pl.gmW, hM, hT, hU, Pl.Wr.app]
          subst e1
          exact ⟨rfl, rfl, hC6.trans hc7⟩
        | ok x7 =>
          rintro e w7 ⟨rfl, h7, hc7⟩
          have e1 : R = .ok ((if f.once then Pl.wOnce ++ [32] else Pl.wRead ++ [32]) ++ x3 ++ [40] ++ x5 ++ [41, 32] ++ x7) := by rw [HR.out]; simp [Pl.gmW, hM, hT, hU, Pl.Wr.app]
          rw [ho] at e1
          subst e1
          have HB7 := hid h7
          have HC7 := hid (hC6.trans hc7)
          clear h7 hc7 hp7
          go_wp2
          go_end0
          refine ⟨rfl, HB7.out.cast ?_, HC7.out⟩
          simp [bl, Pl.wRead]
end Go.Proofs.YtmiohekmpjiloaaGreatDoor

namespace Go.Proofs.YtmiohekmpjiloaaGreatDoor
open Go.RowKit
set_option maxRecDepth 20000

theorem ba_size (a : Array UInt8) : (ByteArray.mk a).size = a.size := rfl
theorem all_take (ps : List Pl.Wr) (k : Nat) (r : Pl.Wr) (h : ps[k]? = some r) : Pl.Wr.all ((ps.take (k + 1)).map Pl.partW) = (Pl.Wr.all ((ps.take k).map Pl.partW)).app (Pl.partW r) := by
  rw [List.take_add_one, h, List.map_append, Pl.all_append]
  congr 1
  cases hr : Pl.partW r <;> simp [Pl.Wr.all, Pl.Wr.app, hr]
theorem all_bad (ps : List Pl.Wr) (k : Nat) (r : Pl.Wr) (h : ps[k]? = some r) (x : List Nat) (hx : Pl.Wr.all ((ps.take k).map Pl.partW) = .ok x) (er : Nat) (hr : r = .bad er) : Pl.Wr.all (ps.map Pl.partW) = .bad er := by
  have hk := (List.getElem?_eq_some_iff.1 h).1
  have hd : ps.drop k = r :: ps.drop (k + 1) := by
    rw [List.drop_eq_getElem_cons hk]
    congr 1
    exact (List.getElem?_eq_some_iff.1 h).2
  have e : ps = ps.take k ++ r :: ps.drop (k + 1) := by
    rw [← hd]
    exact (List.take_append_drop k ps).symm
  rw [e, List.map_append, Pl.all_append, hx, List.map_cons, Pl.Wr.all, hr]
  rfl

structure PartsI (b B : Nat) (acc0 : List Nat) (ps : List Pl.Wr) (w : World) (i : Value) (wr : World) : Prop where
  all : ∃ k x, k ≤ ps.length ∧ i = .int .i64 (k : Int) ∧ Pl.Wr.all ((ps.take k).map Pl.partW) = .ok x ∧ Bld b B (acc0 ++ x) wr ∧ Ch (Xw b B) w wr

set_option maxHeartbeats 16000000 in
theorem wparts_any (b B : Nat) (acc : List Nat) (kw nm : ByteArray) (hk : kw.size ≤ 10) (hns : nm.size ≤ maxLen) (ps : List Pl.Wr) (hsm : ∀ r ∈ ps, Pl.Small 150 r) (hbig : ps.length ≤ 9223372036854775807) (w : World) (h : Bld b B acc w) (hlen : acc.length ≤ 800000000)
    (fr : Nat) (capr : Array Value) (hen : ∀ (args : Array Value) (w' : World), (callFunc fr args).run Tryz.prog w' = .ok (.enter fr args) w')
    (hwr : ∀ (i : Nat) (r : Pl.Wr), ps[i]? = some r → i < 32 → ∀ (acc' : List Nat) (W : World), Ch (Xw b B) w W → Bld b B acc' W → acc'.length ≤ 900000000 → Calls Tryz.prog fr (#[.int .i64 (i : Int)] ++ capr) W (WrR b B acc' W r)) :
    Calls Tryz.prog 132 #[.pointer (some ⟨b, 0, none⟩), .string kw, .string nm, .int .i64 (ps.length : Int), .func (.func fr) #[] capr] w (WrR b B acc w (Pl.bodyW (bl kw) (bl nm) ps)) := by
  obtain ⟨R, hR⟩ : ∃ R, R = Pl.bodyW (bl kw) (bl nm) ps := ⟨_, rfl⟩
  rw [← hR]
  have HR := hid hR
  have HW := hid hwr
  have HS := hid hsm
  clear hR hwr hsm
  obtain ⟨M, hM⟩ : ∃ M, M = ps.length := ⟨_, rfl⟩
  rw [← hM] at hbig ⊢
  have HM : Hid (M = ps.length) := hM
  clear hM
  by_cases h32 : 32 < M
  · have e1 : R = .bad 3 := by
      rw [HR.out, Pl.bodyW, if_pos (by rw [← HM.out]; exact h32)]
    subst e1
    have hd : ¬ ((M : Int) ≤ 32) := by omega
    go_enter Tryz.func132, Tryz.ntmps132
    go_wp2_with fail
    refine (pneed_false 3 _).mono ?_
    rintro e w2 ⟨rfl, hq2⟩
    subst w2
    exact ⟨rfl, rfl, Ch.refl _ _⟩
  · have hle : M ≤ 32 := by omega
    have hR2 : R = ((((Pl.Wr.ok (bl kw ++ [32])).app (Pl.nameW (bl nm))).app (.ok [32, 123, 10])).app (Pl.Wr.all (ps.map Pl.partW))).app (.ok [125, 10]) := by
      rw [HR.out, Pl.bodyW, if_neg (by rw [← HM.out]; exact h32)]
    have HR2 := hid hR2
    clear hR2 HR
    have hd : (M : Int) ≤ 32 := by omega
    have hp1 := wput_two b B acc kw ⟨#[32]⟩ w h (by show acc.length + (kw.size + 1) ≤ _; omega)
    go_enter Tryz.func132, Tryz.ntmps132
    go_wp2_with fail
    refine (pneed_true 3 _).mono ?_
    rintro e w1 ⟨rfl, hq2⟩
    subst w1
    go_wp2_with fail
    refine hp1.mono ?_
    rintro e w1 ⟨rfl, h1, hc1⟩
    have hp2 := wputName_any b B _ nm hns w1 h1 (by simp only [List.length_append, bl_length, ba_size]; simp; omega)
    clear hp1 h h1
    go_wp2_with fail
    refine hp2.mono ?_
    cases hN : Pl.nameW (bl nm) with
    | bad er =>
      rintro e w2 ⟨rfl, hc2⟩
      have e1 : R = .bad er := by rw [HR2.out]; simp [hN, Pl.Wr.app]
      subst e1
      exact ⟨rfl, rfl, hc1.trans hc2⟩
    | ok x2 =>
      rintro e w2 ⟨rfl, h2, hc2⟩
      have hs2 := Pl.Small.name _ x2 hN
      have hC2 := hc1.trans hc2
      have hp3 := wput_one b B _ ⟨#[32, 123, 10]⟩ w2 h2 (by simp only [List.length_append, bl_length, ba_size]; simp; omega)
      clear hp2 h2 hc1 hc2
      go_wp2_with fail
      refine hp3.mono ?_
      rintro e w3 ⟨rfl, h3, hc3⟩
      have hC3 := hC2.trans hc3
      clear hp3 hc3 hC2
      obtain ⟨acc0, ha⟩ : ∃ acc0, acc0 = acc ++ (bl kw ++ bl ⟨#[32]⟩) ++ x2 ++ bl ⟨#[32, 123, 10]⟩ := ⟨_, rfl⟩
      rw [← ha] at h3
      have hal : acc0.length ≤ 800000100 := by
        rw [ha]
        simp only [List.length_append, bl_length, ba_size]
        simp
        omega
      have HA := hid ha
      clear ha
      go_wp2_with fail
      go_loopw [25] (fun i wr => PartsI b B acc0 ps w i wr) (fun i _ => M - (intOf i).toNat)
      case atStart => exact ⟨0, [], Nat.zero_le _, rfl, rfl, by simpa using h3, hC3⟩
      case round =>
        obtain ⟨k, x, hkk, rfl, hx, hb, hc⟩ := hrel.all
        rw [← HM.out] at hkk
        have HX := hid hx
        have hxl : x.length ≤ 153 * k := by
          have := Pl.Small.parts (ps.take k) (fun r hr => HS.out r (List.mem_of_mem_take hr)) x hx
          rw [List.length_take, ← HM.out, Nat.min_eq_left hkk] at this
          exact this
        clear hrel hx h3 hC3
        by_cases hlt : k < M
        · obtain ⟨r, hr⟩ : ∃ r, ps[k]? = some r := ⟨ps[k]'(by rw [← HM.out]; exact hlt), by simp⟩
          have hp4 := wput_one b B _ ⟨#[9]⟩ wr hb (by simp only [List.length_append, ba_size]; simp; omega)
          have Hr := hid hr
          have hC := hid hc
          clear hr hb hc
          go_wp2_with fail
          refine hp4.mono ?_
          rintro e w4 ⟨rfl, h4, hc4⟩
          have hcall := HW.out k r Hr.out (by omega) _ w4 (hC.out.trans hc4) h4 (by simp only [List.length_append, bl_length, ba_size]; simp; omega)
          have hC4 := hid (hC.out.trans hc4)
          clear hp4 hc4 hC h4
          go_wp2_with fail
          refine hcall.mono ?_
          cases hr : r with
          | bad er =>
            rintro e w5 ⟨rfl, hc5⟩
            have e1 : R = .bad er := by
              rw [HR2.out, all_bad ps k r Hr.out x HX.out er hr]
              simp [hN, Pl.Wr.app]
            subst e1
            exact ⟨rfl, rfl, hC4.out.trans hc5⟩
          | ok y =>
            rintro e w5 ⟨rfl, h5, hc5⟩
            have hy := HS.out r (List.mem_of_getElem? Hr.out) y hr
            have hp6 := wput_one b B _ ⟨#[59, 10]⟩ w5 h5 (by simp only [List.length_append, bl_length, ba_size]; simp; omega)
            have hC5 := hid (hC4.out.trans hc5)
            clear hcall hc5 hC4 h5
            go_wp2_with fail
            refine hp6.mono ?_
            rintro e w6 ⟨rfl, h6, hc6⟩
            have HB6 := hid h6
            have HC6 := hid (hC5.out.trans hc6)
            clear hp6 hc6 hC5 h6
            have hnext : Pl.Wr.all ((ps.take (k + 1)).map Pl.partW) = .ok (x ++ ([9] ++ y ++ [59, 10])) := by
              rw [all_take ps k r Hr.out, HX.out, hr]
              simp [Pl.partW, Pl.Wr.app]
            have HNX := hid hnext
            clear hnext
            go_wp2
            refine ⟨⟨k + 1, x ++ ([9] ++ y ++ [59, 10]), by rw [← HM.out]; omega, by go_num, HNX.out, HB6.out.cast ?_, HC6.out⟩, by simp [intOf]; omega⟩
            simp [bl]
        · have hke : k = M := by omega
          subst hke
          have hall : Pl.Wr.all (ps.map Pl.partW) = .ok x := by
            have := HX.out
            rwa [HM.out, List.take_length] at this
          have hp4 := wput_one b B _ ⟨#[125, 10]⟩ wr hb (by simp only [List.length_append, ba_size]; simp; omega)
          have e1 : R = .ok (bl kw ++ [32] ++ x2 ++ [32, 123, 10] ++ x ++ [125, 10]) := by
            rw [HR2.out, hall]
            simp [hN, Pl.Wr.app]
          have HE := hid e1
          have HC := hid hc
          clear hb hc hall e1
          go_wp2_with fail
          refine hp4.mono ?_
          rintro e w5 ⟨rfl, h5, hc5⟩
          have HB5 := hid h5
          have HC5 := hid (HC.out.trans hc5)
          clear h5 hc5 hp4
          go_wp2
          go_end0
          rw [HE.out]
          refine ⟨rfl, HB5.out.cast ?_, HC5.out⟩
          rw [HA.out]
          simp [bl]
end Go.Proofs.YtmiohekmpjiloaaGreatDoor

namespace Go.Proofs.YtmiohekmpjiloaaGreatDoor
open Go.RowKit
set_option maxRecDepth 20000

/-- A slice of structs of m cells each, below B. -/
def SlR {α : Type} (m : Nat) (R : α → List Value → World → Prop) (B : Nat) (w : World) (v : Value) (xs : List α) : Prop :=
  ∃ ad cp, v = .slice ad xs.length cp ∧ xs.length ≤ 9223372036854775807 ∧ ∀ (i : Nat) (x : α), xs[i]? = some x → ∃ blk off c, ad = some ⟨blk, off, none⟩ ∧ blk < B ∧ (∀ (j : Nat) (u : Value), c[j]? = some u → w.cell? ⟨blk, off + i * m + j, none⟩ = some u) ∧ R x c w
def GFR (B n : Nat) (f : Pl.GF) (c : List Value) (w : World) : Prop := ∃ s k sn o, c = [.string s, .int .i64 f.num, k, sn, o] ∧ bl s = f.name ∧ s.size ≤ maxLen ∧ Ly B n f.ty w k sn o
def GCR (f : Pl.GC) (c : List Value) (_ : World) : Prop := ∃ s, c = [.string s, .int .i64 f.num] ∧ bl s = f.name ∧ s.size ≤ maxLen
def GMR (B n : Nat) (f : Pl.GM) (c : List Value) (w : World) : Prop := ∃ s k sn o k' sn' o', c = [.string s, .bool f.once, k, sn, o, k', sn', o'] ∧ bl s = f.name ∧ s.size ≤ maxLen ∧ Ly B n f.arg w k sn o ∧ Ly B n f.res w k' sn' o'
def GDR {α : Type} (m : Nat) (R : α → List Value → World → Prop) (B : Nat) (x : List Nat × List α) (c : List Value) (w : World) : Prop := ∃ s v, c = [.string s, v] ∧ bl s = x.1 ∧ s.size ≤ maxLen ∧ SlR m R B w v x.2
/-- A schema of any make as it lies. -/
def SchL (B n : Nat) (a : List (List Nat × List Pl.GF)) (b : List (List Nat × List Pl.GC)) (c : List (List Nat × List Pl.GM)) (s1 s2 s3 : Value) (w : World) : Prop :=
  SlR 2 (GDR 5 (GFR B n) B) B w s1 a ∧ SlR 2 (GDR 2 GCR B) B w s2 b ∧ SlR 2 (GDR 8 (GMR B n) B) B w s3 c

theorem SlR.bel {α : Type} {m : Nat} {R : α → List Value → World → Prop} {B : Nat} {w w' : World} {v : Value} {xs : List α} (h : SlR m R B w v xs) (hb : Below B w w') (hR : ∀ x c, R x c w → R x c w') : SlR m R B w' v xs := by
  obtain ⟨ad, cp, h1, h2, h3⟩ := h
  refine ⟨ad, cp, h1, h2, fun i x hx => ?_⟩
  obtain ⟨blk, off, c, q1, q2, q3, q4⟩ := h3 i x hx
  exact ⟨blk, off, c, q1, q2, fun j u hu => (hb.cell q2).trans (q3 j u hu), hR x c q4⟩
theorem GFR.bel {B n : Nat} {w w' : World} (hb : Below B w w') (f : Pl.GF) (c : List Value) (h : GFR B n f c w) : GFR B n f c w' := by
  obtain ⟨s, k, sn, o, h1, h2, h3, h4⟩ := h
  exact ⟨s, k, sn, o, h1, h2, h3, h4.bel hb⟩
theorem GMR.bel {B n : Nat} {w w' : World} (hb : Below B w w') (f : Pl.GM) (c : List Value) (h : GMR B n f c w) : GMR B n f c w' := by
  obtain ⟨s, k, sn, o, k', sn', o', h1, h2, h3, h4, h5⟩ := h
  exact ⟨s, k, sn, o, k', sn', o', h1, h2, h3, h4.bel hb, h5.bel hb⟩
theorem GDR.bel {α : Type} {m : Nat} {R : α → List Value → World → Prop} {B : Nat} {w w' : World} (hb : Below B w w') (hR : ∀ x c, R x c w → R x c w') (x : List Nat × List α) (c : List Value) (h : GDR m R B x c w) : GDR m R B x c w' := by
  obtain ⟨s, v, h1, h2, h3, h4⟩ := h
  exact ⟨s, v, h1, h2, h3, h4.bel hb hR⟩
theorem SlR.shape {α : Type} {m : Nat} {R : α → List Value → World → Prop} {B : Nat} {w : World} {v : Value} {xs : List α} (h : SlR m R B w v xs) : ∃ ad cp, v = .slice ad xs.length cp := by
  obtain ⟨ad, cp, h1, _⟩ := h
  exact ⟨ad, cp, h1⟩

set_option maxHeartbeats 8000000 in
theorem wall1_any (b B n p1 p2 : Nat) (hn : 99 ≤ n) (acc : List Nat) (fs : List Pl.GF) (i : Nat) (f : Pl.GF) (hf : fs[i]? = some f) (s v : Value) (w : World) (h1 : Bx w p1 [.pointer (some ⟨b, 0, none⟩)] 184) (h2 : Bx w p2 [s, v] 59) (hS : SlR 5 (GFR B n) B w v fs) (h : Bld b B acc w) (ht : Tab B w) (hlen : acc.length ≤ 900000000) :
    Calls Tryz.prog 133 #[.int .i64 (i : Int), .pointer (some ⟨p1, 0, none⟩), .pointer (some ⟨p2, 0, none⟩)] w (WrR b B acc w (Pl.gfW f)) := by
  obtain ⟨ad, cp, rfl, hbig, hcells⟩ := hS
  obtain ⟨blk, off, c, rfl, hblk, hc, nm, k, sn, o, rfl, hnm, hns, hl⟩ := hcells i f hf
  have hil := (List.getElem?_eq_some_iff.1 hf).1
  have hb := h.base
  have hw : ∀ W, Below w.heap.size w W → Calls Tryz.prog 134 #[.pointer (some ⟨b, 0, none⟩), .agg #[.string nm, .int .i64 f.num, k, sn, o]] W (WrR b B acc W (Pl.gfW f)) := fun W hW => wfield_any b B acc n hn f nm hnm hns W k sn o (hl.bel (hW.mono hb.1)) (h.below hW) (ht.below hW) hlen
  have c0 := hc 0 _ rfl
  have c1 := hc 1 _ rfl
  have c2 := hc 2 _ rfl
  have c3 := hc 3 _ rfl
  have c4 := hc 4 _ rfl
  have a0 := h1.cell 0 rfl
  have b1 := h2.cell 1 rfl
  have hp1 := h1.lt
  have hp2 := h2.lt
  have hbl : blk < w.heap.size := Nat.lt_of_lt_of_le hblk hb.1
  obtain ⟨rfl, ⟨sx, rfl, -, -⟩, h4⟩ := hl
  obtain ⟨od, om, oc, rfl⟩ := h4.shape
  clear h4 hnm hns
  simp only [Nat.add_zero] at c0
  clear hc hcells hf h1 h2 ht h
  generalize Pl.gfW f = RR at *
  generalize fs.length = FL at *
  have hi2 : (i : Int) < (FL : Int) := by omega
  have hd : Ch (Xw b B) w w.drew := Ch.below (Below.refl _ _).drew
  have hwd := hw w.drew (Below.refl _ _).drew
  cases RR with
  | bad er =>
    clear hwd
    go_enter Tryz.func133, Tryz.ntmps133
    go_wp2_with fail
    refine wp_region_drawn2 (pred := fun jx v _ => match jx with | 0 => v = .pointer (some ⟨b, 0, none⟩) | 1 => v = .pointer (some ⟨p2, 1, none⟩) | 2 => v = .slice (some ⟨blk, off, none⟩) FL cp | 3 => v = .int .i64 (i : Int) | 4 => v = .pointer (some ⟨blk, off + i * 5, none⟩) | 5 => v = .agg #[.string nm, .int .i64 f.num, .int .i64 f.ty.k, .string sx, .slice od om oc] | 6 => False | _ => True) (R := fun W => Below w.heap.size w W) (by kernel_rfl) (by kernel_rfl) (by kernel_rfl) (fun _ _ _ _ h _ => h) (Below.refl _ _).drew ?step ?done
    case step =>
      intro ix o ho A W hsz hdf hfr hdep hR
      rcases ix with _ | _ | _ | _ | _ | _ | _ | ix
      · injection ho with ho
        subst ho
        have e1 : A.eval (.tmp 1) = .pointer (some ⟨p1, 0, none⟩) := (hfr 1 (noDst_spec (by kernel_rfl))).trans rfl
        have x0 := (hR.cell hp1).trans a0
        exact gOp_ld (v := .pointer (some ⟨b, 0, none⟩)) rfl (wanted_plain rfl) rfl e1 (by go_simp) ⟨_, rfl, rfl, Below.refl _ _, hR⟩
      · injection ho with ho
        subst ho
        have e2 : A.eval (.tmp 2) = .pointer (some ⟨p2, 0, none⟩) := (hfr 2 (noDst_spec (by kernel_rfl))).trans rfl
        exact gOp_fld (v := .pointer (some ⟨p2, 1, none⟩)) rfl (wanted_plain rfl) rfl e2 (by go_simp) ⟨_, rfl, rfl, Below.refl _ _, hR⟩
      · injection ho with ho
        subst ho
        have e5 : A.eval (.tmp 5) = .pointer (some ⟨p2, 1, none⟩) := hdep ⟨1, .data⟩ (by simp) rfl _ _ rfl rfl
        have x0 := (hR.cell hp2).trans b1
        exact gOp_ld (v := .slice (some ⟨blk, off, none⟩) FL cp) rfl (wanted_plain rfl) rfl e5 (by go_simp) ⟨_, rfl, rfl, Below.refl _ _, hR⟩
      · injection ho with ho
        subst ho
        have e0 : A.eval (.tmp 0) = .int .i64 (i : Int) := (hfr 0 (noDst_spec (by kernel_rfl))).trans rfl
        exact gOp_mv rfl (wanted_plain rfl) (.inl rfl) e0 ⟨_, rfl, rfl, Below.refl _ _, hR⟩
      · injection ho with ho
        subst ho
        have e6 : A.eval (.tmp 6) = .slice (some ⟨blk, off, none⟩) FL cp := hdep ⟨2, .data⟩ (by simp) rfl _ _ rfl rfl
        have e7 : A.eval (.tmp 7) = .int .i64 (i : Int) := hdep ⟨3, .data⟩ (by simp) rfl _ _ rfl rfl
        have hbW : blk < W.heap.size := Nat.lt_of_lt_of_le hbl hR.size
        exact gOp_ix (v := .pointer (some ⟨blk, off + i * 5, none⟩)) rfl (wanted_plain rfl) rfl e6 e7 (by go_simp) ⟨_, rfl, rfl, Below.refl _ _, hR⟩
      · injection ho with ho
        subst ho
        have e8 : A.eval (.tmp 8) = .pointer (some ⟨blk, off + i * 5, none⟩) := hdep ⟨4, .data⟩ (by simp) rfl _ _ rfl rfl
        have x0 := (hR.cell hbl).trans c0
        have x1 := (hR.cell hbl).trans c1
        have x2 := (hR.cell hbl).trans c2
        have x3 := (hR.cell hbl).trans c3
        have x4 := (hR.cell hbl).trans c4
        exact gOp_ld (v := .agg #[.string nm, .int .i64 f.num, .int .i64 f.ty.k, .string sx, .slice od om oc]) rfl (wanted_plain rfl) rfl e8 (by go_simp) ⟨_, rfl, rfl, Below.refl _ _, hR⟩
      · injection ho with ho
        subst ho
        have e4 : A.eval (.tmp 4) = .pointer (some ⟨b, 0, none⟩) := hdep ⟨0, .data⟩ (by simp) rfl _ _ rfl rfl
        have e9 : A.eval (.tmp 9) = .agg #[.string nm, .int .i64 f.num, .int .i64 f.ty.k, .string sx, .slice od om oc] := hdep ⟨5, .data⟩ (by simp) rfl _ _ rfl rfl
        refine gOp_dies rfl (wanted_plain rfl) 134 #[.pointer (some ⟨b, 0, none⟩), .agg #[.string nm, .int .i64 f.num, .int .i64 f.ty.k, .string sx, .slice od om oc]] (run_call _ (fun _ _ => rfl) _ _ rfl _ (by simp [e4, e9])) ?_
        refine (hw W hR).mono ?_
        rintro e w5 ⟨rfl, hC5⟩
        exact ⟨_, rfl, hdf, rfl, (Ch.below hR).trans hC5⟩
      · simp at ho
    case done =>
      intro A W _ _ _ hcome _
      exact (hcome 6 _ _ rfl rfl).elim
  | ok x =>
    clear hw
    go_enter Tryz.func133, Tryz.ntmps133
    go_wp2_with fail
    go_region_with (refine hwd.mono ?_; rintro e w1 ⟨rfl, h1, hc1⟩)
    all_goals (go_wp2; go_end0; exact ⟨rfl, h1, hd.trans hc1⟩)

set_option maxHeartbeats 8000000 in
theorem wall2_any (b B p1 p2 : Nat) (acc : List Nat) (fs : List Pl.GC) (i : Nat) (f : Pl.GC) (hf : fs[i]? = some f) (s v : Value) (w : World) (h1 : Bx w p1 [.pointer (some ⟨b, 0, none⟩)] 184) (h2 : Bx w p2 [s, v] 83) (hS : SlR 2 (GCR) B w v fs) (h : Bld b B acc w) (ht : Tab B w) (hlen : acc.length ≤ 900000000) :
    Calls Tryz.prog 135 #[.int .i64 (i : Int), .pointer (some ⟨p1, 0, none⟩), .pointer (some ⟨p2, 0, none⟩)] w (WrR b B acc w (Pl.gcW f)) := by
  obtain ⟨ad, cp, rfl, hbig, hcells⟩ := hS
  obtain ⟨blk, off, c, rfl, hblk, hc, nm, rfl, hnm, hns⟩ := hcells i f hf
  have hil := (List.getElem?_eq_some_iff.1 hf).1
  have hb := h.base
  have hw : ∀ W, Below w.heap.size w W → Calls Tryz.prog 136 #[.pointer (some ⟨b, 0, none⟩), .agg #[.string nm, .int .i64 f.num]] W (WrR b B acc W (Pl.gcW f)) := fun W hW => wcase_any b B acc f nm hnm hns W (h.below hW) (ht.below hW) hlen
  have c0 := hc 0 _ rfl
  have c1 := hc 1 _ rfl
  have a0 := h1.cell 0 rfl
  have b1 := h2.cell 1 rfl
  have hp1 := h1.lt
  have hp2 := h2.lt
  have hbl : blk < w.heap.size := Nat.lt_of_lt_of_le hblk hb.1
  clear hnm hns
  simp only [Nat.add_zero] at c0
  clear hc hcells hf h1 h2 ht h
  generalize Pl.gcW f = RR at *
  generalize fs.length = FL at *
  have hi2 : (i : Int) < (FL : Int) := by omega
  have hd : Ch (Xw b B) w w.drew := Ch.below (Below.refl _ _).drew
  have hwd := hw w.drew (Below.refl _ _).drew
  cases RR with
  | bad er =>
    clear hwd
    go_enter Tryz.func135, Tryz.ntmps135
    go_wp2_with fail
    refine wp_region_drawn2 (pred := fun jx v _ => match jx with | 0 => v = .pointer (some ⟨b, 0, none⟩) | 1 => v = .pointer (some ⟨p2, 1, none⟩) | 2 => v = .slice (some ⟨blk, off, none⟩) FL cp | 3 => v = .int .i64 (i : Int) | 4 => v = .pointer (some ⟨blk, off + i * 2, none⟩) | 5 => v = .agg #[.string nm, .int .i64 f.num] | 6 => False | _ => True) (R := fun W => Below w.heap.size w W) (by kernel_rfl) (by kernel_rfl) (by kernel_rfl) (fun _ _ _ _ h _ => h) (Below.refl _ _).drew ?step ?done
    case step =>
      intro ix o ho A W hsz hdf hfr hdep hR
      rcases ix with _ | _ | _ | _ | _ | _ | _ | ix
      · injection ho with ho
        subst ho
        have e1 : A.eval (.tmp 1) = .pointer (some ⟨p1, 0, none⟩) := (hfr 1 (noDst_spec (by kernel_rfl))).trans rfl
        have x0 := (hR.cell hp1).trans a0
        exact gOp_ld (v := .pointer (some ⟨b, 0, none⟩)) rfl (wanted_plain rfl) rfl e1 (by go_simp) ⟨_, rfl, rfl, Below.refl _ _, hR⟩
      · injection ho with ho
        subst ho
        have e2 : A.eval (.tmp 2) = .pointer (some ⟨p2, 0, none⟩) := (hfr 2 (noDst_spec (by kernel_rfl))).trans rfl
        exact gOp_fld (v := .pointer (some ⟨p2, 1, none⟩)) rfl (wanted_plain rfl) rfl e2 (by go_simp) ⟨_, rfl, rfl, Below.refl _ _, hR⟩
      · injection ho with ho
        subst ho
        have e5 : A.eval (.tmp 5) = .pointer (some ⟨p2, 1, none⟩) := hdep ⟨1, .data⟩ (by simp) rfl _ _ rfl rfl
        have x0 := (hR.cell hp2).trans b1
        exact gOp_ld (v := .slice (some ⟨blk, off, none⟩) FL cp) rfl (wanted_plain rfl) rfl e5 (by go_simp) ⟨_, rfl, rfl, Below.refl _ _, hR⟩
      · injection ho with ho
        subst ho
        have e0 : A.eval (.tmp 0) = .int .i64 (i : Int) := (hfr 0 (noDst_spec (by kernel_rfl))).trans rfl
        exact gOp_mv rfl (wanted_plain rfl) (.inl rfl) e0 ⟨_, rfl, rfl, Below.refl _ _, hR⟩
      · injection ho with ho
        subst ho
        have e6 : A.eval (.tmp 6) = .slice (some ⟨blk, off, none⟩) FL cp := hdep ⟨2, .data⟩ (by simp) rfl _ _ rfl rfl
        have e7 : A.eval (.tmp 7) = .int .i64 (i : Int) := hdep ⟨3, .data⟩ (by simp) rfl _ _ rfl rfl
        have hbW : blk < W.heap.size := Nat.lt_of_lt_of_le hbl hR.size
        exact gOp_ix (v := .pointer (some ⟨blk, off + i * 2, none⟩)) rfl (wanted_plain rfl) rfl e6 e7 (by go_simp) ⟨_, rfl, rfl, Below.refl _ _, hR⟩
      · injection ho with ho
        subst ho
        have e8 : A.eval (.tmp 8) = .pointer (some ⟨blk, off + i * 2, none⟩) := hdep ⟨4, .data⟩ (by simp) rfl _ _ rfl rfl
        have x0 := (hR.cell hbl).trans c0
        have x1 := (hR.cell hbl).trans c1
        exact gOp_ld (v := .agg #[.string nm, .int .i64 f.num]) rfl (wanted_plain rfl) rfl e8 (by go_simp) ⟨_, rfl, rfl, Below.refl _ _, hR⟩
      · injection ho with ho
        subst ho
        have e4 : A.eval (.tmp 4) = .pointer (some ⟨b, 0, none⟩) := hdep ⟨0, .data⟩ (by simp) rfl _ _ rfl rfl
        have e9 : A.eval (.tmp 9) = .agg #[.string nm, .int .i64 f.num] := hdep ⟨5, .data⟩ (by simp) rfl _ _ rfl rfl
        refine gOp_dies rfl (wanted_plain rfl) 136 #[.pointer (some ⟨b, 0, none⟩), .agg #[.string nm, .int .i64 f.num]] (run_call _ (fun _ _ => rfl) _ _ rfl _ (by simp [e4, e9])) ?_
        refine (hw W hR).mono ?_
        rintro e w5 ⟨rfl, hC5⟩
        exact ⟨_, rfl, hdf, rfl, (Ch.below hR).trans hC5⟩
      · simp at ho
    case done =>
      intro A W _ _ _ hcome _
      exact (hcome 6 _ _ rfl rfl).elim
  | ok x =>
    clear hw
    go_enter Tryz.func135, Tryz.ntmps135
    go_wp2_with fail
    go_region_with (refine hwd.mono ?_; rintro e w1 ⟨rfl, h1, hc1⟩)
    all_goals (go_wp2; go_end0; exact ⟨rfl, h1, hd.trans hc1⟩)

set_option maxHeartbeats 8000000 in
theorem wall3_any (b B n p1 p2 : Nat) (hn : 99 ≤ n) (acc : List Nat) (fs : List Pl.GM) (i : Nat) (f : Pl.GM) (hf : fs[i]? = some f) (s v : Value) (w : World) (h1 : Bx w p1 [.pointer (some ⟨b, 0, none⟩)] 184) (h2 : Bx w p2 [s, v] 86) (hS : SlR 8 (GMR B n) B w v fs) (h : Bld b B acc w) (hlen : acc.length ≤ 900000000) :
    Calls Tryz.prog 137 #[.int .i64 (i : Int), .pointer (some ⟨p1, 0, none⟩), .pointer (some ⟨p2, 0, none⟩)] w (WrR b B acc w (Pl.gmW f)) := by
  obtain ⟨ad, cp, rfl, hbig, hcells⟩ := hS
  obtain ⟨blk, off, c, rfl, hblk, hc, nm, k, sn, o, k', sn', o', rfl, hnm, hns, hl, hl'⟩ := hcells i f hf
  have hil := (List.getElem?_eq_some_iff.1 hf).1
  have hb := h.base
  have hw : ∀ W, Below w.heap.size w W → Calls Tryz.prog 138 #[.pointer (some ⟨b, 0, none⟩), .agg #[.string nm, .bool f.once, k, sn, o, k', sn', o']] W (WrR b B acc W (Pl.gmW f)) := fun W hW => wmethod_any b B acc n hn f nm hnm hns W k sn o k' sn' o' (hl.bel (hW.mono hb.1)) (hl'.bel (hW.mono hb.1)) (h.below hW) hlen
  have c0 := hc 0 _ rfl
  have c1 := hc 1 _ rfl
  have c2 := hc 2 _ rfl
  have c3 := hc 3 _ rfl
  have c4 := hc 4 _ rfl
  have c5 := hc 5 _ rfl
  have c6 := hc 6 _ rfl
  have c7 := hc 7 _ rfl
  have a0 := h1.cell 0 rfl
  have b1 := h2.cell 1 rfl
  have hp1 := h1.lt
  have hp2 := h2.lt
  have hbl : blk < w.heap.size := Nat.lt_of_lt_of_le hblk hb.1
  obtain ⟨rfl, ⟨sx, rfl, -, -⟩, h4⟩ := hl
  obtain ⟨od, om, oc, rfl⟩ := h4.shape
  obtain ⟨rfl, ⟨sx', rfl, -, -⟩, h4'⟩ := hl'
  obtain ⟨od', om', oc', rfl⟩ := h4'.shape
  clear h4 h4' hnm hns
  simp only [Nat.add_zero] at c0
  clear hc hcells hf h1 h2 h
  generalize Pl.gmW f = RR at *
  generalize fs.length = FL at *
  have hi2 : (i : Int) < (FL : Int) := by omega
  have hd : Ch (Xw b B) w w.drew := Ch.below (Below.refl _ _).drew
  have hwd := hw w.drew (Below.refl _ _).drew
  cases RR with
  | bad er =>
    clear hwd
    go_enter Tryz.func137, Tryz.ntmps137
    go_wp2_with fail
    refine wp_region_drawn2 (pred := fun jx v _ => match jx with | 0 => v = .pointer (some ⟨b, 0, none⟩) | 1 => v = .pointer (some ⟨p2, 1, none⟩) | 2 => v = .slice (some ⟨blk, off, none⟩) FL cp | 3 => v = .int .i64 (i : Int) | 4 => v = .pointer (some ⟨blk, off + i * 8, none⟩) | 5 => v = .agg #[.string nm, .bool f.once, .int .i64 f.arg.k, .string sx, .slice od om oc, .int .i64 f.res.k, .string sx', .slice od' om' oc'] | 6 => False | _ => True) (R := fun W => Below w.heap.size w W) (by kernel_rfl) (by kernel_rfl) (by kernel_rfl) (fun _ _ _ _ h _ => h) (Below.refl _ _).drew ?step ?done
    case step =>
      intro ix o ho A W hsz hdf hfr hdep hR
      rcases ix with _ | _ | _ | _ | _ | _ | _ | ix
      · injection ho with ho
        subst ho
        have e1 : A.eval (.tmp 1) = .pointer (some ⟨p1, 0, none⟩) := (hfr 1 (noDst_spec (by kernel_rfl))).trans rfl
        have x0 := (hR.cell hp1).trans a0
        exact gOp_ld (v := .pointer (some ⟨b, 0, none⟩)) rfl (wanted_plain rfl) rfl e1 (by go_simp) ⟨_, rfl, rfl, Below.refl _ _, hR⟩
      · injection ho with ho
        subst ho
        have e2 : A.eval (.tmp 2) = .pointer (some ⟨p2, 0, none⟩) := (hfr 2 (noDst_spec (by kernel_rfl))).trans rfl
        exact gOp_fld (v := .pointer (some ⟨p2, 1, none⟩)) rfl (wanted_plain rfl) rfl e2 (by go_simp) ⟨_, rfl, rfl, Below.refl _ _, hR⟩
      · injection ho with ho
        subst ho
        have e5 : A.eval (.tmp 5) = .pointer (some ⟨p2, 1, none⟩) := hdep ⟨1, .data⟩ (by simp) rfl _ _ rfl rfl
        have x0 := (hR.cell hp2).trans b1
        exact gOp_ld (v := .slice (some ⟨blk, off, none⟩) FL cp) rfl (wanted_plain rfl) rfl e5 (by go_simp) ⟨_, rfl, rfl, Below.refl _ _, hR⟩
      · injection ho with ho
        subst ho
        have e0 : A.eval (.tmp 0) = .int .i64 (i : Int) := (hfr 0 (noDst_spec (by kernel_rfl))).trans rfl
        exact gOp_mv rfl (wanted_plain rfl) (.inl rfl) e0 ⟨_, rfl, rfl, Below.refl _ _, hR⟩
      · injection ho with ho
        subst ho
        have e6 : A.eval (.tmp 6) = .slice (some ⟨blk, off, none⟩) FL cp := hdep ⟨2, .data⟩ (by simp) rfl _ _ rfl rfl
        have e7 : A.eval (.tmp 7) = .int .i64 (i : Int) := hdep ⟨3, .data⟩ (by simp) rfl _ _ rfl rfl
        have hbW : blk < W.heap.size := Nat.lt_of_lt_of_le hbl hR.size
        exact gOp_ix (v := .pointer (some ⟨blk, off + i * 8, none⟩)) rfl (wanted_plain rfl) rfl e6 e7 (by go_simp) ⟨_, rfl, rfl, Below.refl _ _, hR⟩
      · injection ho with ho
        subst ho
        have e8 : A.eval (.tmp 8) = .pointer (some ⟨blk, off + i * 8, none⟩) := hdep ⟨4, .data⟩ (by simp) rfl _ _ rfl rfl
        have x0 := (hR.cell hbl).trans c0
        have x1 := (hR.cell hbl).trans c1
        have x2 := (hR.cell hbl).trans c2
        have x3 := (hR.cell hbl).trans c3
        have x4 := (hR.cell hbl).trans c4
        have x5 := (hR.cell hbl).trans c5
        have x6 := (hR.cell hbl).trans c6
        have x7 := (hR.cell hbl).trans c7
        exact gOp_ld (v := .agg #[.string nm, .bool f.once, .int .i64 f.arg.k, .string sx, .slice od om oc, .int .i64 f.res.k, .string sx', .slice od' om' oc']) rfl (wanted_plain rfl) rfl e8 (by go_simp) ⟨_, rfl, rfl, Below.refl _ _, hR⟩
      · injection ho with ho
        subst ho
        have e4 : A.eval (.tmp 4) = .pointer (some ⟨b, 0, none⟩) := hdep ⟨0, .data⟩ (by simp) rfl _ _ rfl rfl
        have e9 : A.eval (.tmp 9) = .agg #[.string nm, .bool f.once, .int .i64 f.arg.k, .string sx, .slice od om oc, .int .i64 f.res.k, .string sx', .slice od' om' oc'] := hdep ⟨5, .data⟩ (by simp) rfl _ _ rfl rfl
        refine gOp_dies rfl (wanted_plain rfl) 138 #[.pointer (some ⟨b, 0, none⟩), .agg #[.string nm, .bool f.once, .int .i64 f.arg.k, .string sx, .slice od om oc, .int .i64 f.res.k, .string sx', .slice od' om' oc']] (run_call _ (fun _ _ => rfl) _ _ rfl _ (by simp [e4, e9])) ?_
        refine (hw W hR).mono ?_
        rintro e w5 ⟨rfl, hC5⟩
        exact ⟨_, rfl, hdf, rfl, (Ch.below hR).trans hC5⟩
      · simp at ho
    case done =>
      intro A W _ _ _ hcome _
      exact (hcome 6 _ _ rfl rfl).elim
  | ok x =>
    clear hw
    go_enter Tryz.func137, Tryz.ntmps137
    go_wp2_with fail
    go_region_with (refine hwd.mono ?_; rintro e w1 ⟨rfl, h1, hc1⟩)
    all_goals (go_wp2; go_end0; exact ⟨rfl, h1, hd.trans hc1⟩)
end Go.Proofs.YtmiohekmpjiloaaGreatDoor

namespace Go.Proofs.YtmiohekmpjiloaaGreatDoor
open Go.RowKit
set_option maxRecDepth 20000

theorem alls_take (ps : List Pl.Wr) (k : Nat) (r : Pl.Wr) (h : ps[k]? = some r) : Pl.Wr.all (ps.take (k + 1)) = (Pl.Wr.all (ps.take k)).app r := by
  rw [List.take_add_one, h, Pl.all_append]
  congr 1
  cases r <;> simp [Pl.Wr.all, Pl.Wr.app]
theorem alls_bad (ps : List Pl.Wr) (k : Nat) (r : Pl.Wr) (h : ps[k]? = some r) (x : List Nat) (hx : Pl.Wr.all (ps.take k) = .ok x) (er : Nat) (hr : r = .bad er) : Pl.Wr.all ps = .bad er := by
  have hk := (List.getElem?_eq_some_iff.1 h).1
  have hd : ps.drop k = r :: ps.drop (k + 1) := by
    rw [List.drop_eq_getElem_cons hk]
    congr 1
    exact (List.getElem?_eq_some_iff.1 h).2
  have e : ps = ps.take k ++ r :: ps.drop (k + 1) := by
    rw [← hd]
    exact (List.take_append_drop k ps).symm
  rw [e, Pl.all_append, hx, Pl.Wr.all, hr]
  rfl

structure AllI (b B : Nat) (acc0 : List Nat) (ps : List Pl.Wr) (w : World) (i : Value) (wr : World) : Prop where
  all : ∃ k x, k ≤ ps.length ∧ i = .int .i64 (k : Int) ∧ Pl.Wr.all (ps.take k) = .ok x ∧ x.length ≤ 5000 * k ∧ Bld b B (acc0 ++ x) wr ∧ Ch (Xw b B) w wr

theorem Xw.no {b B : Nat} {g : Nat} {T : TypeId} (h1 : T ≠ 148) (h2 : T ≠ 5) : ¬ Xw b B g T := by
  rintro (h | h)
  · exact h1 h.2
  · exact h2 h.2

/-- A declaration is written: its box in p2, the closure's parts. -/
theorem wdecl1 (b B n p1 p2 : Nat) (hn : 99 ≤ n) (acc : List Nat) (x : List Nat × List Pl.GF) (c : List Value) (w : World) (h1 : Bx w p1 [.pointer (some ⟨b, 0, none⟩)] 184) (h2 : Bx w p2 c 59) (hc : GDR 5 (GFR B n) B x c w) (h : Bld b B acc w) (ht : Tab B w) (hlen : acc.length ≤ 800000000) :
    ∃ nm v ad cp, c = [.string nm, v] ∧ v = .slice ad x.2.length cp ∧ Calls Tryz.prog 132 #[.pointer (some ⟨b, 0, none⟩), .string ⟨#[115, 116, 114, 117, 99, 116]⟩, .string nm, .int .i64 (x.2.length : Int), .func (.func 133) #[] #[.pointer (some ⟨p1, 0, none⟩), .pointer (some ⟨p2, 0, none⟩)]] w (WrR b B acc w (Pl.bodyW Pl.wStruct x.1 (x.2.map Pl.gfW))) := by
  obtain ⟨nm, v, rfl, hnm, hns, hS⟩ := hc
  obtain ⟨ad, cp, hv⟩ := hS.shape
  obtain ⟨hB, hBb, _⟩ := h.base
  refine ⟨nm, v, ad, cp, rfl, hv, ?_⟩
  have hbig : x.2.length ≤ 9223372036854775807 := by
    obtain ⟨_, _, _, q, _⟩ := hS
    exact q
  have := wparts_any b B acc ⟨#[115, 116, 114, 117, 99, 116]⟩ nm (by decide) hns (x.2.map Pl.gfW) (fun r hr => by
    obtain ⟨f, _, rfl⟩ := List.mem_map.1 hr
    exact (Pl.Small.gf f).mono (by decide)) (by simpa using hbig) w h hlen 133 #[.pointer (some ⟨p1, 0, none⟩), .pointer (some ⟨p2, 0, none⟩)] (fun _ _ => rfl) (fun i r hr _ acc' W hC hb hl => by
    rw [List.getElem?_map] at hr
    obtain ⟨f, hf, rfl⟩ := Option.map_eq_some_iff.1 hr
    have hbel := Xw.bel hC hBb hB
    exact wall1_any b B n p1 p2 hn acc' x.2 i f hf _ _ W (h1.ch hC (Xw.no (by decide) (by decide))) (h2.ch hC (Xw.no (by decide) (by decide))) (hS.bel hbel (GFR.bel hbel)) hb (ht.wr hC hBb) hl)
  rw [hnm, List.length_map] at this
  exact this

/-- A declaration is written: its box in p2, the closure's parts. -/
theorem wdecl2 (b B p1 p2 : Nat) (acc : List Nat) (x : List Nat × List Pl.GC) (c : List Value) (w : World) (h1 : Bx w p1 [.pointer (some ⟨b, 0, none⟩)] 184) (h2 : Bx w p2 c 83) (hc : GDR 2 GCR B x c w) (h : Bld b B acc w) (ht : Tab B w) (hlen : acc.length ≤ 800000000) :
    ∃ nm v ad cp, c = [.string nm, v] ∧ v = .slice ad x.2.length cp ∧ Calls Tryz.prog 132 #[.pointer (some ⟨b, 0, none⟩), .string ⟨#[101, 110, 117, 109]⟩, .string nm, .int .i64 (x.2.length : Int), .func (.func 135) #[] #[.pointer (some ⟨p1, 0, none⟩), .pointer (some ⟨p2, 0, none⟩)]] w (WrR b B acc w (Pl.bodyW Pl.wEnum x.1 (x.2.map Pl.gcW))) := by
  obtain ⟨nm, v, rfl, hnm, hns, hS⟩ := hc
  obtain ⟨ad, cp, hv⟩ := hS.shape
  obtain ⟨hB, hBb, _⟩ := h.base
  refine ⟨nm, v, ad, cp, rfl, hv, ?_⟩
  have hbig : x.2.length ≤ 9223372036854775807 := by
    obtain ⟨_, _, _, q, _⟩ := hS
    exact q
  have := wparts_any b B acc ⟨#[101, 110, 117, 109]⟩ nm (by decide) hns (x.2.map Pl.gcW) (fun r hr => by
    obtain ⟨f, _, rfl⟩ := List.mem_map.1 hr
    exact (Pl.Small.gc f).mono (by decide)) (by simpa using hbig) w h hlen 135 #[.pointer (some ⟨p1, 0, none⟩), .pointer (some ⟨p2, 0, none⟩)] (fun _ _ => rfl) (fun i r hr _ acc' W hC hb hl => by
    rw [List.getElem?_map] at hr
    obtain ⟨f, hf, rfl⟩ := Option.map_eq_some_iff.1 hr
    have hbel := Xw.bel hC hBb hB
    exact wall2_any b B p1 p2 acc' x.2 i f hf _ _ W (h1.ch hC (Xw.no (by decide) (by decide))) (h2.ch hC (Xw.no (by decide) (by decide))) (hS.bel hbel (fun _ _ h => h)) hb (ht.wr hC hBb) hl)
  rw [hnm, List.length_map] at this
  exact this

/-- A declaration is written: its box in p2, the closure's parts. -/
theorem wdecl3 (b B n p1 p2 : Nat) (hn : 99 ≤ n) (acc : List Nat) (x : List Nat × List Pl.GM) (c : List Value) (w : World) (h1 : Bx w p1 [.pointer (some ⟨b, 0, none⟩)] 184) (h2 : Bx w p2 c 86) (hc : GDR 8 (GMR B n) B x c w) (h : Bld b B acc w) (hlen : acc.length ≤ 800000000) :
    ∃ nm v ad cp, c = [.string nm, v] ∧ v = .slice ad x.2.length cp ∧ Calls Tryz.prog 132 #[.pointer (some ⟨b, 0, none⟩), .string ⟨#[115, 101, 114, 118, 105, 99, 101]⟩, .string nm, .int .i64 (x.2.length : Int), .func (.func 137) #[] #[.pointer (some ⟨p1, 0, none⟩), .pointer (some ⟨p2, 0, none⟩)]] w (WrR b B acc w (Pl.bodyW Pl.wService x.1 (x.2.map Pl.gmW))) := by
  obtain ⟨nm, v, rfl, hnm, hns, hS⟩ := hc
  obtain ⟨ad, cp, hv⟩ := hS.shape
  obtain ⟨hB, hBb, _⟩ := h.base
  refine ⟨nm, v, ad, cp, rfl, hv, ?_⟩
  have hbig : x.2.length ≤ 9223372036854775807 := by
    obtain ⟨_, _, _, q, _⟩ := hS
    exact q
  have := wparts_any b B acc ⟨#[115, 101, 114, 118, 105, 99, 101]⟩ nm (by decide) hns (x.2.map Pl.gmW) (fun r hr => by
    obtain ⟨f, _, rfl⟩ := List.mem_map.1 hr
    exact Pl.Small.gm f) (by simpa using hbig) w h hlen 137 #[.pointer (some ⟨p1, 0, none⟩), .pointer (some ⟨p2, 0, none⟩)] (fun _ _ => rfl) (fun i r hr _ acc' W hC hb hl => by
    rw [List.getElem?_map] at hr
    obtain ⟨f, hf, rfl⟩ := Option.map_eq_some_iff.1 hr
    have hbel := Xw.bel hC hBb hB
    exact wall3_any b B n p1 p2 hn acc' x.2 i f hf _ _ W (h1.ch hC (Xw.no (by decide) (by decide))) (h2.ch hC (Xw.no (by decide) (by decide))) (hS.bel hbel (GMR.bel hbel)) hb hl)
  rw [hnm, List.length_map] at this
  exact this

theorem bodies_small {α : Type} (kw : List Nat) (hk : kw.length ≤ 10) (W : α → Pl.Wr) (hW : ∀ f, Pl.Small 150 (W f)) (x : List Nat × List α) : Pl.Small 5000 (Pl.bodyW kw x.1 (x.2.map W)) :=
  Pl.Small.body kw x.1 hk _ (fun r hr => by
    obtain ⟨f, _, rfl⟩ := List.mem_map.1 hr
    exact hW f)

set_option maxHeartbeats 32000000 in
theorem wall_any (b B n : Nat) (hn : 99 ≤ n) (acc : List Nat) (a : List (List Nat × List Pl.GF)) (bb : List (List Nat × List Pl.GC)) (cc : List (List Nat × List Pl.GM)) (s1 s2 s3 : Value) (w : World) (hS : SchL B n a bb cc s1 s2 s3 w) (h : Bld b B acc w) (ht : Tab B w) (h47 : a.length ≤ 140737488355328 ∧ bb.length ≤ 140737488355328 ∧ cc.length ≤ 140737488355328) (hlen : acc.length ≤ 1000000) :
    Calls Tryz.prog 96 #[.pointer (some ⟨b, 0, none⟩), .agg #[s1, s2, s3]] w (WrR b B acc w (Pl.schW a bb cc)) := by
  obtain ⟨hB, hBb, hbw⟩ := h.base
  obtain ⟨hS1, hS2, hS3⟩ := hS
  obtain ⟨hl1, hl2, hl3⟩ := h47
  obtain ⟨ad1, cp1, rfl, -, hc1⟩ := id hS1
  obtain ⟨ad2, cp2, rfl, -, hc2⟩ := id hS2
  obtain ⟨ad3, cp3, rfl, -, hc3⟩ := id hS3
  obtain ⟨R, hR⟩ : ∃ R, R = Pl.schW a bb cc := ⟨_, rfl⟩
  rw [← hR]
  have HR := hid hR
  obtain ⟨M1, hM1⟩ : ∃ M, M = a.length := ⟨_, rfl⟩
  obtain ⟨M2, hM2⟩ : ∃ M, M = bb.length := ⟨_, rfl⟩
  obtain ⟨M3, hM3⟩ : ∃ M, M = cc.length := ⟨_, rfl⟩
  rw [← hM1] at hl1 ⊢
  rw [← hM2] at hl2 ⊢
  rw [← hM3] at hl3 ⊢
  have HM1 := hid hM1
  have HM2 := hid hM2
  have HM3 := hid hM3
  have HC1 := hid hc1
  have HC2 := hid hc2
  have HC3 := hid hc3
  have HS1 := hid hS1
  have HS2 := hid hS2
  have HS3 := hid hS3
  clear hc1 hc2 hc3 hR hM1 hM2 hM3 hS1 hS2 hS3
  have hal1 := below_alloc w (.cells #[.pointer (some ⟨b, 0, none⟩)] 184)
  have hal2 := below_alloc (w.alloc (.cells #[.pointer (some ⟨b, 0, none⟩)] 184)) (.cells #[.slice ad1 M1 cp1, .slice ad2 M2 cp2, .slice ad3 M3 cp3] 26)
  have hb0 := below_next hal1 hal2
  have hB1 := (Bx.new w [.pointer (some ⟨b, 0, none⟩)] 184).below hal2
  have hB3 := Bx.newAt (g := w.heap.size + 1) (w := w.alloc (.cells #[.pointer (some ⟨b, 0, none⟩)] 184)) (by simp) [.slice ad1 M1 cp1, .slice ad2 M2 cp2, .slice ad3 M3 cp3] 26
  have h0 := h.below hb0
  have ht0 := ht.below hb0
  go_enter Tryz.func96, Tryz.ntmps96
  by_cases h64 : 64 < M1 + M2 + M3
  · have e1 : R = .bad 3 := by
      rw [HR.out, Pl.schW, if_pos (by rw [← HM1.out, ← HM2.out, ← HM3.out]; exact h64)]
    subst e1
    have hd : ¬ ((M1 : Int) + (M2 : Int) + (M3 : Int) ≤ 64) := by omega
    go_wp2_with fail
    refine (pneed_false 3 _).mono ?_
    rintro e w2 ⟨rfl, hq2⟩
    subst w2
    exact ⟨rfl, rfl, Ch.below hb0⟩
  · have hd : (M1 : Int) + (M2 : Int) + (M3 : Int) ≤ 64 := by omega
    have hR2 : R = ((Pl.Wr.all (a.map fun x => Pl.bodyW Pl.wStruct x.1 (x.2.map Pl.gfW))).app (Pl.Wr.all (bb.map fun x => Pl.bodyW Pl.wEnum x.1 (x.2.map Pl.gcW)))).app (Pl.Wr.all (cc.map fun x => Pl.bodyW Pl.wService x.1 (x.2.map Pl.gmW))) := by
      rw [HR.out, Pl.schW, if_neg (by rw [← HM1.out, ← HM2.out, ← HM3.out]; exact h64)]
    have HR2 := hid hR2
    clear hR2 HR h
    go_wp2_with fail
    refine (pneed_true 3 _).mono ?_
    rintro e w1 ⟨rfl, hq2⟩
    subst w1
    change Bx ((w.alloc (.cells #[.pointer (some ⟨b, 0, none⟩)] 184)).alloc (.cells #[.slice ad1 M1 cp1, .slice ad2 M2 cp2, .slice ad3 M3 cp3] 26)) _ _ _ at hB1
    change Bx ((w.alloc (.cells #[.pointer (some ⟨b, 0, none⟩)] 184)).alloc (.cells #[.slice ad1 M1 cp1, .slice ad2 M2 cp2, .slice ad3 M3 cp3] 26)) _ _ _ at hB3
    generalize (w.alloc (.cells #[.pointer (some ⟨b, 0, none⟩)] 184)).alloc (.cells #[.slice ad1 M1 cp1, .slice ad2 M2 cp2, .slice ad3 M3 cp3] 26) = w0 at *
    obtain ⟨p1, hp1⟩ : ∃ p1, p1 = w.heap.size := ⟨_, rfl⟩
    simp only [← hp1] at hB1 hB3 ⊢
    have HP := hid hp1
    clear hp1
    have d0 := hB3.cell 0 rfl
    have d1 := hB3.cell 1 rfl
    have d2 := hB3.cell 2 rfl
    have hlt3 := hB3.lt
    go_wp2_with fail
    obtain ⟨ps1, hps1⟩ : ∃ ps, ps = a.map fun x => Pl.bodyW Pl.wStruct x.1 (x.2.map Pl.gfW) := ⟨_, rfl⟩
    have hpl1 : ps1.length = M1 := by rw [hps1, List.length_map, HM1.out]
    have HP1 := hid hps1
    clear hps1
    go_loopw [26] (fun i wr => AllI b B acc ps1 w0 i wr) (fun i _ => M1 - (intOf i).toNat)
    case atStart => exact ⟨0, [], Nat.zero_le _, rfl, rfl, Nat.le_refl _, by simpa using h0, Ch.refl _ _⟩
    case round =>
      obtain ⟨k, x, hk, rfl, hx, hxl, hb, hc⟩ := hrel.all
      rw [hpl1] at hk
      have HX := hid hx
      have hB1r := hB1.ch hc (Xw.no (by decide) (by decide))
      have hB3r := hB3.ch hc (Xw.no (by decide) (by decide))
      have a0 := hB1r.cell 0 rfl
      have hp1r := hB1r.lt
      have d0 := hB3r.cell 0 rfl
      have d1 := hB3r.cell 1 rfl
      have d2 := hB3r.cell 2 rfl
      have hlt3 := hB3r.lt
      have hbelr := hb0.mono hB |>.trans (Xw.bel hc hBb (Nat.le_trans hB hb0.size))
      have htr := ht0.wr hc hBb
      clear hrel hx
      by_cases hlt : k < M1
      · obtain ⟨y, hy⟩ : ∃ y, a[k]? = some y := ⟨a[k]'(by rw [← HM1.out]; exact hlt), by simp⟩
        obtain ⟨blk, off, c, rfl, hblk, hcs, hg⟩ := HC1.out k y hy
        have hr : ps1[k]? = some (Pl.bodyW Pl.wStruct y.1 (y.2.map Pl.gfW)) := by rw [HP1.out, List.getElem?_map, hy]; rfl
        obtain ⟨nm, v, rfl, hn1, hn2, hgr⟩ := id hg
        obtain ⟨vad, vcp, rfl⟩ := hgr.shape
        have hblr : blk < wr.heap.size := Nat.lt_of_lt_of_le hblk (Nat.le_trans (Nat.le_trans hB hb0.size) hc.size)
        have c0 := (hbelr.cell hblk).trans (hcs 0 _ rfl)
        have c1 := (hbelr.cell hblk).trans (hcs 1 _ rfl)
        simp only [Nat.add_zero] at c0
        have hal := below_alloc wr (.cells #[.string nm, .slice vad y.2.length vcp] 59)
        have hbA := hbelr.trans (hal.mono (Nat.le_trans (Nat.le_trans hB hb0.size) hc.size))
        obtain ⟨nm', v', ad', cp', hcq, hvq, hcall⟩ := wdecl1 b B n p1 wr.heap.size hn (acc ++ x) y [.string nm, .slice vad y.2.length vcp] (wr.alloc (.cells #[.string nm, .slice vad y.2.length vcp] 59)) (hB1r.below hal) (Bx.new wr [.string nm, .slice vad y.2.length vcp] 59) (GDR.bel hbA (GFR.bel hbA) _ _ hg) (hb.below hal) (htr.below hal) (by simp only [List.length_append]; omega)
        cases hcq
        cases hvq
        have hC1 := hc.trans (Ch.below hal)
        have hsm := bodies_small Pl.wStruct (by decide) Pl.gfW (fun f => (Pl.Small.gf f).mono (by decide)) y
        clear hcs hg hgr hb hc hB1r hB3r hy
        go_wp2_with fail
        refine hcall.mono ?_
        clear hcall
        cases hRr : Pl.bodyW Pl.wStruct y.1 (y.2.map Pl.gfW) with
        | bad er =>
          rintro e w5 ⟨rfl, hc5⟩
          have e1 : R = .bad er := by
            rw [HR2.out, ← HP1.out, alls_bad ps1 k _ hr x HX.out er hRr]; rfl
          subst e1
          exact ⟨rfl, rfl, (Ch.below hb0).trans (hC1.trans hc5)⟩
        | ok z =>
          rintro e w5 ⟨rfl, h5, hc5⟩
          have hzl := hsm z hRr
          have hnext : Pl.Wr.all (ps1.take (k + 1)) = .ok (x ++ z) := by
            rw [alls_take ps1 k _ hr, HX.out, hRr]
            rfl
          have HNX := hid hnext
          have HB5 := hid h5
          have HC5 := hid (hC1.trans hc5)
          clear hnext h5 hc5 hC1 hsm hRr hr
          go_wp2
          refine ⟨⟨k + 1, x ++ z, by rw [hpl1]; omega, by go_num, HNX.out, by rw [List.length_append]; omega, HB5.out.cast (by rw [List.append_assoc]), HC5.out⟩, by simp [intOf]; omega⟩
      · have hke : k = M1 := by omega
        subst hke
        have hall : Pl.Wr.all ps1 = .ok x := by
          have := HX.out
          rwa [← hpl1, List.take_length] at this
        have HA1 := hid hall
        clear hall HX
        obtain ⟨x1, hxn⟩ : ∃ y, y = x := ⟨_, rfl⟩
        subst hxn
        have hb1 := hb
        have hch1 := hc
        clear hb hc hbelr htr hB1r hB3r
        go_wp2_with fail
        obtain ⟨ps2, hps2⟩ : ∃ ps, ps = bb.map fun x => Pl.bodyW Pl.wEnum x.1 (x.2.map Pl.gcW) := ⟨_, rfl⟩
        have hpl2 : ps2.length = M2 := by rw [hps2, List.length_map, HM2.out]
        have HP2 := hid hps2
        clear hps2
        go_loopw [42] (fun i wr => AllI b B (acc ++ x1) ps2 w0 i wr) (fun i _ => M2 - (intOf i).toNat)
        case atStart => exact ⟨0, [], Nat.zero_le _, rfl, rfl, Nat.le_refl _, by simpa using hb1, hch1⟩
        case round =>
          obtain ⟨k, x, hk, rfl, hx, hxl, hb, hc⟩ := hrel.all
          rw [hpl2] at hk
          have HX := hid hx
          have hB1r := hB1.ch hc (Xw.no (by decide) (by decide))
          have hB3r := hB3.ch hc (Xw.no (by decide) (by decide))
          have a0 := hB1r.cell 0 rfl
          have hp1r := hB1r.lt
          have d0 := hB3r.cell 0 rfl
          have d1 := hB3r.cell 1 rfl
          have d2 := hB3r.cell 2 rfl
          have hlt3 := hB3r.lt
          have hbelr := hb0.mono hB |>.trans (Xw.bel hc hBb (Nat.le_trans hB hb0.size))
          have htr := ht0.wr hc hBb
          clear hrel hx
          by_cases hlt : k < M2
          · obtain ⟨y, hy⟩ : ∃ y, bb[k]? = some y := ⟨bb[k]'(by rw [← HM2.out]; exact hlt), by simp⟩
            obtain ⟨blk, off, c, rfl, hblk, hcs, hg⟩ := HC2.out k y hy
            have hr : ps2[k]? = some (Pl.bodyW Pl.wEnum y.1 (y.2.map Pl.gcW)) := by rw [HP2.out, List.getElem?_map, hy]; rfl
            obtain ⟨nm, v, rfl, hn1, hn2, hgr⟩ := id hg
            obtain ⟨vad, vcp, rfl⟩ := hgr.shape
            have hblr : blk < wr.heap.size := Nat.lt_of_lt_of_le hblk (Nat.le_trans (Nat.le_trans hB hb0.size) hc.size)
            have c0 := (hbelr.cell hblk).trans (hcs 0 _ rfl)
            have c1 := (hbelr.cell hblk).trans (hcs 1 _ rfl)
            simp only [Nat.add_zero] at c0
            have hal := below_alloc wr (.cells #[.string nm, .slice vad y.2.length vcp] 83)
            have hbA := hbelr.trans (hal.mono (Nat.le_trans (Nat.le_trans hB hb0.size) hc.size))
            obtain ⟨nm', v', ad', cp', hcq, hvq, hcall⟩ := wdecl2 b B p1 wr.heap.size ((acc ++ x1) ++ x) y [.string nm, .slice vad y.2.length vcp] (wr.alloc (.cells #[.string nm, .slice vad y.2.length vcp] 83)) (hB1r.below hal) (Bx.new wr [.string nm, .slice vad y.2.length vcp] 83) (GDR.bel hbA (fun _ _ h => h) _ _ hg) (hb.below hal) (htr.below hal) (by simp only [List.length_append]; omega)
            cases hcq
            cases hvq
            have hC1 := hc.trans (Ch.below hal)
            have hsm := bodies_small Pl.wEnum (by decide) Pl.gcW (fun f => (Pl.Small.gc f).mono (by decide)) y
            clear hcs hg hgr hb hc hB1r hB3r hy
            go_wp2_with fail
            refine hcall.mono ?_
            clear hcall
            cases hRr : Pl.bodyW Pl.wEnum y.1 (y.2.map Pl.gcW) with
            | bad er =>
              rintro e w5 ⟨rfl, hc5⟩
              have e1 : R = .bad er := by
                rw [HR2.out, ← HP1.out, HA1.out, ← HP2.out, alls_bad ps2 k _ hr x HX.out er hRr]; rfl
              subst e1
              exact ⟨rfl, rfl, (Ch.below hb0).trans (hC1.trans hc5)⟩
            | ok z =>
              rintro e w5 ⟨rfl, h5, hc5⟩
              have hzl := hsm z hRr
              have hnext : Pl.Wr.all (ps2.take (k + 1)) = .ok (x ++ z) := by
                rw [alls_take ps2 k _ hr, HX.out, hRr]
                rfl
              have HNX := hid hnext
              have HB5 := hid h5
              have HC5 := hid (hC1.trans hc5)
              clear hnext h5 hc5 hC1 hsm hRr hr
              go_wp2
              refine ⟨⟨k + 1, x ++ z, by rw [hpl2]; omega, by go_num, HNX.out, by rw [List.length_append]; omega, HB5.out.cast (by rw [List.append_assoc]), HC5.out⟩, by simp [intOf]; omega⟩
          · have hke : k = M2 := by omega
            subst hke
            have hall : Pl.Wr.all ps2 = .ok x := by
              have := HX.out
              rwa [← hpl2, List.take_length] at this
            have HA2 := hid hall
            clear hall HX
            obtain ⟨x2, hxn⟩ : ∃ y, y = x := ⟨_, rfl⟩
            subst hxn
            have hb2 := hb
            have hch2 := hc
            clear hb hc hbelr htr hB1r hB3r
            go_wp2_with fail
            obtain ⟨ps3, hps3⟩ : ∃ ps, ps = cc.map fun x => Pl.bodyW Pl.wService x.1 (x.2.map Pl.gmW) := ⟨_, rfl⟩
            have hpl3 : ps3.length = M3 := by rw [hps3, List.length_map, HM3.out]
            have HP3 := hid hps3
            clear hps3
            go_loopw [58] (fun i wr => AllI b B (acc ++ x1 ++ x2) ps3 w0 i wr) (fun i _ => M3 - (intOf i).toNat)
            case atStart => exact ⟨0, [], Nat.zero_le _, rfl, rfl, Nat.le_refl _, by simpa using hb2, hch2⟩
            case round =>
              obtain ⟨k, x, hk, rfl, hx, hxl, hb, hc⟩ := hrel.all
              rw [hpl3] at hk
              have HX := hid hx
              have hB1r := hB1.ch hc (Xw.no (by decide) (by decide))
              have hB3r := hB3.ch hc (Xw.no (by decide) (by decide))
              have a0 := hB1r.cell 0 rfl
              have hp1r := hB1r.lt
              have d0 := hB3r.cell 0 rfl
              have d1 := hB3r.cell 1 rfl
              have d2 := hB3r.cell 2 rfl
              have hlt3 := hB3r.lt
              have hbelr := hb0.mono hB |>.trans (Xw.bel hc hBb (Nat.le_trans hB hb0.size))
              have htr := ht0.wr hc hBb
              clear hrel hx
              by_cases hlt : k < M3
              · obtain ⟨y, hy⟩ : ∃ y, cc[k]? = some y := ⟨cc[k]'(by rw [← HM3.out]; exact hlt), by simp⟩
                obtain ⟨blk, off, c, rfl, hblk, hcs, hg⟩ := HC3.out k y hy
                have hr : ps3[k]? = some (Pl.bodyW Pl.wService y.1 (y.2.map Pl.gmW)) := by rw [HP3.out, List.getElem?_map, hy]; rfl
                obtain ⟨nm, v, rfl, hn1, hn2, hgr⟩ := id hg
                obtain ⟨vad, vcp, rfl⟩ := hgr.shape
                have hblr : blk < wr.heap.size := Nat.lt_of_lt_of_le hblk (Nat.le_trans (Nat.le_trans hB hb0.size) hc.size)
                have c0 := (hbelr.cell hblk).trans (hcs 0 _ rfl)
                have c1 := (hbelr.cell hblk).trans (hcs 1 _ rfl)
                simp only [Nat.add_zero] at c0
                have hal := below_alloc wr (.cells #[.string nm, .slice vad y.2.length vcp] 86)
                have hbA := hbelr.trans (hal.mono (Nat.le_trans (Nat.le_trans hB hb0.size) hc.size))
                obtain ⟨nm', v', ad', cp', hcq, hvq, hcall⟩ := wdecl3 b B n p1 wr.heap.size hn ((acc ++ x1 ++ x2) ++ x) y [.string nm, .slice vad y.2.length vcp] (wr.alloc (.cells #[.string nm, .slice vad y.2.length vcp] 86)) (hB1r.below hal) (Bx.new wr [.string nm, .slice vad y.2.length vcp] 86) (GDR.bel hbA (GMR.bel hbA) _ _ hg) (hb.below hal) (by simp only [List.length_append]; omega)
                cases hcq
                cases hvq
                have hC1 := hc.trans (Ch.below hal)
                have hsm := bodies_small Pl.wService (by decide) Pl.gmW Pl.Small.gm y
                clear hcs hg hgr hb hc hB1r hB3r hy
                go_wp2_with fail
                refine hcall.mono ?_
                clear hcall
                cases hRr : Pl.bodyW Pl.wService y.1 (y.2.map Pl.gmW) with
                | bad er =>
                  rintro e w5 ⟨rfl, hc5⟩
                  have e1 : R = .bad er := by
                    rw [HR2.out, ← HP1.out, HA1.out, ← HP2.out, HA2.out, ← HP3.out, alls_bad ps3 k _ hr x HX.out er hRr]; rfl
                  subst e1
                  exact ⟨rfl, rfl, (Ch.below hb0).trans (hC1.trans hc5)⟩
                | ok z =>
                  rintro e w5 ⟨rfl, h5, hc5⟩
                  have hzl := hsm z hRr
                  have hnext : Pl.Wr.all (ps3.take (k + 1)) = .ok (x ++ z) := by
                    rw [alls_take ps3 k _ hr, HX.out, hRr]
                    rfl
                  have HNX := hid hnext
                  have HB5 := hid h5
                  have HC5 := hid (hC1.trans hc5)
                  clear hnext h5 hc5 hC1 hsm hRr hr
                  go_wp2
                  refine ⟨⟨k + 1, x ++ z, by rw [hpl3]; omega, by go_num, HNX.out, by rw [List.length_append]; omega, HB5.out.cast (by rw [List.append_assoc]), HC5.out⟩, by simp [intOf]; omega⟩
              · have hke : k = M3 := by omega
                subst hke
                have hall : Pl.Wr.all ps3 = .ok x := by
                  have := HX.out
                  rwa [← hpl3, List.take_length] at this
                have HA3 := hid hall
                clear hall HX
                have e1 : R = .ok (x1 ++ x2 ++ x) := by
                  rw [HR2.out, ← HP1.out, HA1.out, ← HP2.out, HA2.out, ← HP3.out, HA3.out]
                  rfl
                subst e1
                have HBz := hid hb
                have HCz := hid hc
                clear hb hc hbelr htr hB1r hB3r
                go_wp2
                go_end0
                refine ⟨rfl, HBz.out.cast (by simp), (Ch.below hb0).trans HCz.out⟩
end Go.Proofs.YtmiohekmpjiloaaGreatDoor

