/- Contracts of Zig, Zag and Size. Slices of integers that are read; copies of octets. Contracts of mayStand and Get. varint: what is handed over; the reference's Put, Size, Get. varint: Text, Texts, and the reference's. -/
import Derived.Test.YtoadcaennlfadaaGA
import Derived.Test.YtoadcaennlfadaaBase
import Derived.WalkKit
import Derived.WalkSpells
import Derived.WalkLawsBesides
import Derived.Laws.AppendOwnNone
import Derived.BigQuiet
import Derived.Deep.QuietTactic
namespace Go.Proofs.Ytoadcaennlfadaa
open Go.RowKit
set_option maxRecDepth 20000

theorem Try.info58 : (Try.prog.info? 58).map (fun i => (i.zero, i.size, i.bytes)) = some (some (.int .u64 0), 1, 8) := by kernel_rfl

set_option maxHeartbeats 400000 in
theorem putOne_any (B : Nat) (v : Value) (l : List Int) (n : Int) (w : World) (hB : B ≤ w.heap.size) (hown : w.ownsRow B 5 1 v l.length (u8s l)) (h0 : 0 ≤ n) (h1 : n ≤ 18446744073709551615) (hlen : l.length + 10 ≤ 140737488355328) :
    Calls Try.prog 66 #[v, .int .u64 n] w fun e w' => ∃ v', e = .returned v' ∧ w'.ownsRow B 5 1 v' (l ++ Pl.enc 9 n).length (u8s (l ++ Pl.enc 9 n)) ∧ Below B w w' := by
  obtain ⟨i0, hi, hz0, hz1, hz2⟩ := info_parts Try.info5
  have hl := Pl.enc_len_le 9 n
  go_enter Try.func66, Try.ntmps66
  go_wp2
  go_loopw [0, 1] (fun a s wr => ∃ (f : Nat) (m : Int) (l' : List Int), f ≤ 9 ∧ 0 ≤ m ∧ m < Pl.lim f ∧ s = .int .u64 m ∧ wr.ownsRow B 5 1 a l'.length (u8s l') ∧ Hid (l' ++ Pl.enc f m = l ++ Pl.enc 9 n) ∧ Below B w wr) (fun _ s _ => (intOf s).toNat)
  case atStart => exact ⟨9, n, l, by omega, h0, by rw [Pl.lim9]; omega, rfl, hown, (rfl : _ = _), Below.refl _ _⟩
  case round =>
    obtain ⟨f, m, l', hf, hm0, hm1, rfl, hown', HE, hbel⟩ := hrel
    have hll := Pl.enc_len_pos f m
    have hlen2 : l'.length + (Pl.enc f m).length ≤ l.length + 10 := by
      have := congrArg List.length HE.out
      simp only [List.length_append] at this
      omega
    have hsz := hbel.size
    by_cases hlt : m < 128
    · go_wp2_with (at_builtin; refine wpList_append_own _ rfl _ _ 22 rfl B 5 i0 (.int .u8 0) 1 1 Try.underlying22 hi hz0 hz1 hz2 rfl (by decide) _ _ _ rfl (hown'.alloc _) ⟨wr.heap.size, 0, none⟩ 1 1 [.int .u8 m] rfl rfl (cell_one_new _ _ _) ?c2 ?c3 ?c4 ?c5 ?_)
      case c2 => first | rfl | (intro u hu; simp at hu; subst hu; rfl)
      case c3 => unfold maxLen; omega
      case c4 => omega
      case c5 => first | omega | (simp; omega)
      intro v' w1 hown1 hgrow _
      have hb1 : Below B w w1 := (hbel.alloc (by omega) _).grown hgrow (by simp; omega) (fun k hk => (hown'.lt k hk).1)
      have H1 := HE.out
      rw [Pl.enc_lt hlt] at H1
      have HH : Hid (l ++ Pl.enc 9 n = l' ++ [m]) := H1.symm
      clear H1 hown' hgrow hown HE
      go_wp2
      go_ret
      refine ⟨v', rfl, ?_, hb1⟩
      rw [HH.out]
      simpa [u8s] using hown1
    · have hle : m ≤ 18446744073709551615 := by have := Pl.lim_le hf; omega
      have hge : 128 ≤ m := by omega
      have hf1 : ∃ g, f = g + 1 := by
        cases f with
        | zero => simp [Pl.lim] at hm1; omega
        | succ g => exact ⟨g, rfl⟩
      obtain ⟨g, rfl⟩ := hf1
      have hm2 : m / 128 < Pl.lim g := by simp only [Pl.lim] at hm1; omega
      go_wp2_with (at_builtin; refine wpList_append_own _ rfl _ _ 22 rfl B 5 i0 (.int .u8 0) 1 1 Try.underlying22 hi hz0 hz1 hz2 rfl (by decide) _ _ _ rfl (hown'.alloc _) ⟨wr.heap.size, 0, none⟩ 1 1 [.int .u8 (m % 128 + 128)] rfl rfl (cell_one_new _ _ _) ?d2 ?d3 ?d4 ?d5 ?_)
      case d2 => first | rfl | (intro u hu; simp at hu; subst hu; rfl)
      case d3 => unfold maxLen; omega
      case d4 => omega
      case d5 => first | omega | (simp; omega)
      intro v' w1 hown1 hgrow _
      have hb1 : Below B w w1 := (hbel.alloc (by omega) _).grown hgrow (by simp; omega) (fun k hk => (hown'.lt k hk).1)
      have H1 := HE.out
      rw [Pl.enc_ge hge] at H1
      have HH : Hid ((l' ++ [m % 128 + 128]) ++ Pl.enc g (m / 128) = l ++ Pl.enc 9 n) := by show _ = _; rw [← H1]; simp
      have HO : w1.ownsRow B 5 1 v' (l' ++ [m % 128 + 128]).length (u8s (l' ++ [m % 128 + 128])) := by simpa [u8s] using hown1
      clear H1 hown' hgrow hown HE hown1
      go_wp2
      go_roundw
      case rel => exact ⟨g, m / 128, l' ++ [m % 128 + 128], by omega, by omega, hm2, rfl, HO, HH, hb1⟩
      case measure => simp [intOf]; omega
end Go.Proofs.Ytoadcaennlfadaa

namespace Go.Proofs.Ytoadcaennlfadaa
open Go.RowKit
set_option maxRecDepth 20000

set_option maxHeartbeats 400000 in
theorem fresh_any (v : Value) (l : List Int) (w : World) (hs : Seg .u8 w v l) (hlen : l.length ≤ 140737488355328) :
    Calls Try.prog 65 #[v] w fun e w' => ∃ v', e = .returned v' ∧ w'.ownsRow w.heap.size 5 1 v' l.length (u8s l) ∧ Below w.heap.size w w' := by
  obtain ⟨i0, hi, hz0, hz1, hz2⟩ := info_parts Try.info5
  obtain ⟨a, cap, rfl, h1, h2, h3, h4⟩ := hs
  rcases a with _ | x
  · obtain ⟨rfl, rfl⟩ := h3 rfl
    go_enter Try.func65, Try.ntmps65
    go_wp2
    go_ret
    exact ⟨_, rfl, World.ownsRow_made w #[] 0 (Nat.le_refl _) (Nat.zero_le _) rfl, (Below.refl _ _).alloc (Nat.le_refl _) _⟩
  · go_enter Try.func65, Try.ntmps65
    go_wp2_with (at_builtin; refine wpList_append_own _ rfl _ _ 22 rfl w.heap.size 5 i0 (.int .u8 0) 1 1 Try.underlying22 hi hz0 hz1 hz2 rfl (by decide) _ _ [] rfl (World.ownsRow_made w #[] 0 (Nat.le_refl _) (Nat.zero_le _) rfl) x l.length cap (u8s l) rfl ?c1 ?c2 ?c3 ?c4 ?c5 ?c6 ?_)
    case c1 => simp
    case c2 => exact map_cells fun i hi => cell_alloc_old _ trivial (h4 x rfl i hi)
    case c3 => exact map_one
    case c4 => unfold maxLen; omega
    case c5 => omega
    case c6 => simp
    intro v' w1 hown1 hgrow _
    have hb1 : Below w.heap.size w w1 := ((Below.refl _ _).alloc (Nat.le_refl _) _).grown hgrow (by simp) (fun k hk => by simp [Value.ownBlock] at hk; omega)
    have HO : w1.ownsRow w.heap.size 5 1 v' l.length (u8s l) := by simpa using hown1
    clear hgrow hown1
    go_wp2
    go_ret
    exact ⟨v', rfl, HO, hb1⟩

/-- Numbers as octets, one behind the other. -/
def encs (ns : List Int) : List Int := ns.flatMap (Pl.enc 9)
theorem encs_len (ns : List Int) : (encs ns).length ≤ 10 * ns.length := by
  induction ns with
  | nil => simp [encs]
  | cons n r ih =>
    have := Pl.enc_len_le 9 n
    simp only [encs, List.flatMap_cons, List.length_append, List.length_cons] at ih ⊢
    omega
theorem encs_take_succ (ns : List Int) (k : Nat) (h : k < ns.length) : encs (ns.take (k + 1)) = encs (ns.take k) ++ Pl.enc 9 (ns.getD k 0) := by
  rw [List.take_succ_eq_append_getElem h]
  simp only [encs, List.flatMap_append, List.flatMap_cons, List.flatMap_nil, List.append_nil]
  simp [List.getD, h]

set_option maxHeartbeats 400000 in
theorem put_any (v u : Value) (l ns : List Int) (w : World) (hs : Seg .u8 w v l) (hn : Seg .u64 w u ns) (hw : ∀ n ∈ ns, 0 ≤ n ∧ n ≤ 18446744073709551615) (hlen : l.length + 10 * ns.length ≤ 140737488355328) :
    Calls Try.prog 48 #[v, u] w fun e w' => ∃ v', e = .returned v' ∧ w'.ownsRow w.heap.size 5 1 v' (l ++ encs ns).length (u8s (l ++ encs ns)) ∧ Below w.heap.size w w' := by
  obtain ⟨a, cap, rfl, h1, h2, h3, h4⟩ := hn
  go_enter Try.func48, Try.ntmps48
  go_wp2_with (go_at_call 65; refine (fresh_any v l w hs (by omega)).mono ?_; rintro e w1 ⟨v1, rfl, hown1, hbel1⟩)
  unfold maxLen at h2
  go_loopw [5, 12] (fun a i wr => ∃ k : Nat, k ≤ ns.length ∧ i = .int .i64 k ∧ wr.ownsRow w.heap.size 5 1 a (l ++ encs (ns.take k)).length (u8s (l ++ encs (ns.take k))) ∧ Below w.heap.size w wr) (fun _ i _ => ns.length - (intOf i).toNat)
  case atStart => exact ⟨0, Nat.zero_le _, rfl, by simpa [encs] using hown1, hbel1⟩
  case round =>
    obtain ⟨k, hk, rfl, hown, hbel⟩ := hrel
    by_cases hlt : k < ns.length
    · obtain ⟨b, off, rfl, hb, hc⟩ := seg_at (by omega) h3 h4
      have hck := (hbel.cell (p := ⟨b, off + k, none⟩) hb).trans (hc k hlt)
      have hnk := hw (ns.getD k 0) (by simp [List.getD, hlt])
      have hel := encs_len (ns.take k)
      simp only [List.length_take] at hel
      have hsn := encs_take_succ ns k hlt
      have HS : Hid (encs (ns.take (k + 1)) = encs (ns.take k) ++ Pl.enc 9 (ns.getD k 0)) := hsn
      clear hsn hc h4 h3 hw
      generalize hx : ns.getD k 0 = x at *
      clear hx
      have hsz := hbel.size
      go_wp2_with (go_at_call 66; refine (putOne_any w.heap.size _ (l ++ encs (ns.take k)) x wr (by omega) hown hnk.1 hnk.2 (by simp only [List.length_append]; omega)).mono ?_; rintro e w2 ⟨v2, rfl, hown2, hbel2⟩)
      have HO : w2.ownsRow w.heap.size 5 1 v2 (l ++ encs (ns.take (k + 1))).length (u8s (l ++ encs (ns.take (k + 1)))) := by rw [HS.out, ← List.append_assoc]; exact hown2
      have hb2 := hbel.trans hbel2
      clear hown hown2 hbel2 hck
      go_wp2
      go_roundw
      case rel => exact ⟨k + 1, by omega, by go_num, HO, hb2⟩
      case measure => simp [intOf]; omega
    · have hke : k = ns.length := by omega
      have HO : wr.ownsRow w.heap.size 5 1 u5 (l ++ encs ns).length (u8s (l ++ encs ns)) := by rw [hke, List.take_length] at hown; exact hown
      clear hown hke
      go_wp2
      go_ret
      exact ⟨_, rfl, HO, hbel⟩
end Go.Proofs.Ytoadcaennlfadaa

namespace Go.Proofs.Ytoadcaennlfadaa
open Go.RowKit
set_option maxRecDepth 20000

set_option maxHeartbeats 400000 in
theorem mayStand_any (i : Nat) (c : Int) (w : World) (hi : i ≤ 9) :
    Calls Try.prog 74 #[.int .i64 i, .int .u8 c] w fun e w' => e = .returned (.bool (Pl.mayB i c)) ∧ w = w' := by
  by_cases h9 : i = 9
  · subst h9
    go_enter Try.func74, Try.ntmps74
    go_wp2
    go_ret
    exact ⟨ret_bool (by simp [Pl.mayB]), rfl⟩
  · have hb : ((i : Int) == 9) = false := by simp; omega
    by_cases h0 : i = 0
    · subst h0
      go_enter Try.func74, Try.ntmps74
      go_wp2
      go_ret
      exact ⟨ret_bool (by simp [Pl.mayB]), rfl⟩
    · have hb0 : ((i : Int) == 0) = false := by simp; omega
      go_enter Try.func74, Try.ntmps74
      go_wp2
      go_ret
      exact ⟨ret_bool (by simp [Pl.mayB, h9, h0]), rfl⟩

theorem getD_at {l : List Int} {i : Nat} (h : i < l.length) : l.getD i 0 = l[i] := by simp [List.getD, h]
theorem getD_mem {l : List Int} {i : Nat} (h : i < l.length) : l.getD i 0 ∈ l := by rw [getD_at h]; exact List.getElem_mem _

def trip (r : Int × Int × Int) : Value := .tuple #[.int .u64 r.1, .int .i64 r.2.1, .int .i64 r.2.2]

set_option maxHeartbeats 1000000 in
theorem get_any (v : Value) (l : List Int) (p : Int) (w : World) (hs : Seg .u8 w v l) (ho : ∀ z ∈ l, 0 ≤ z ∧ z ≤ 255) (hp0 : -9223372036854775808 ≤ p) (hp1 : p ≤ 9223372036854775807) :
    Calls Try.prog 67 #[v, .int .i64 p] w fun e w' => e = .returned (trip (Pl.getI l p)) ∧ w = w' := by
  obtain ⟨a, cap, rfl, h1, h2, h3, h4⟩ := hs
  unfold maxLen at h2
  by_cases hr : p < 0 ∨ (l.length : Int) < p
  · have HG : Hid (Pl.getI l p = (0, 0, 4)) := by show _ = _; unfold Pl.getI; rw [if_pos hr]
    rcases hr with hr | hr
    · go_enter Try.func67, Try.ntmps67
      go_wp2
      go_ret3
      exact ⟨by rw [HG.out]; rfl, rfl⟩
    · have hnn : ¬ p < 0 := by omega
      go_enter Try.func67, Try.ntmps67
      go_wp2
      go_ret3
      exact ⟨by rw [HG.out]; rfl, rfl⟩
  · have HG : Hid (Pl.getI l p = Pl.getS (l.drop p.toNat) 0 p 0) := by show _ = _; unfold Pl.getI; rw [if_neg hr]
    have hq0 : 0 ≤ p := by omega
    have hq1 : p ≤ (l.length : Int) := by omega
    clear hr
    obtain ⟨q, rfl⟩ := Int.eq_ofNat_of_zero_le hq0
    rw [Int.toNat_natCast] at HG
    have hq : q ≤ l.length := by omega
    by_cases hq2 : q = l.length
    · subst hq2
      have HG2 : Hid (Pl.getI l l.length = (0, 0, 8)) := by show _ = _; rw [HG.out]; simp [Pl.getS]
      have hz : l.length - l.length = 0 := by omega
      go_enter Try.func67, Try.ntmps67
      go_wp2
      all_goals
        refine wp_loop_rounds 1 ?_
        rw [rounds_succ]
        go_wp2
        go_ret3
        exact ⟨by rw [HG2.out]; rfl, rfl⟩
    · have hq3 : q < l.length := by omega
      have hcq : ¬ cap = q := by omega
      obtain ⟨b, off, rfl, hb, hc⟩ := seg_at (by omega) h3 h4
      clear h4 h3 hq2
      have hd1 : decide ((q : Int) < 0) = false := decide_eq_false (by omega)
      have hd2 : decide (l.length < q) = false := decide_eq_false (by omega)
      have hd3 : decide ((l.length : Int) < (q : Int)) = false := decide_eq_false (by omega)
      go_enter Try.func67, Try.ntmps67
      go_wp2
      go_loopw [7, 22] (fun n i wr => ∃ (k : Nat) (acc : Int), w = wr ∧ k ≤ l.length - q ∧ k ≤ 9 ∧ i = .int .i64 k ∧ n = .int .u64 acc ∧ 0 ≤ acc ∧ acc < Pl.sc k ∧ Hid (Pl.getI l q = Pl.getS (l.drop (q + k)) k (q + k) acc)) (fun _ i _ => l.length - q - (intOf i).toNat)
      case atStart => exact ⟨0, 0, rfl, Nat.zero_le _, by omega, rfl, rfl, by omega, by decide, by show _ = _; rw [HG.out]; simp⟩
      case round =>
        obtain ⟨k, acc, rfl, hk, hk9, rfl, rfl, ha0, ha1, HE⟩ := hrel
        by_cases hlt : k < l.length - q
        · have hck := hc (q + k) (by omega)
          have hox := ho (l.getD (q + k) 0) (getD_mem (by omega))
          have hdr : l.drop (q + k) = l.getD (q + k) 0 :: l.drop (q + (k + 1)) := by
            rw [List.drop_eq_getElem_cons (by omega), getD_at (by omega)]; rfl
          generalize hx : l.getD (q + k) 0 = c at *
          have HD : Hid (l.drop (q + k) = c :: l.drop (q + (k + 1))) := hdr
          clear hdr hx hc ho
          rw [← Nat.add_assoc] at hck
          obtain ⟨hc0, hc1⟩ := hox
          have hkb : (k : Int) ≤ 9 := by omega
          cases hmb : Pl.mayB k c
          · go_wp2_with (go_at_call 74; refine (mayStand_any k c _ hk9).mono ?_; rintro e w2 ⟨rfl, rfl⟩)
            go_ret3
            exact ⟨by rw [HE.out, HD.out]; simp [Pl.getS, hmb]; rfl, rfl⟩
          · have hor := Pl.or_step k acc c hk9 ha0 ha1 hmb
            by_cases h128 : c < 128
            · go_wp2_with (go_at_call 74; refine (mayStand_any k c _ hk9).mono ?_; rintro e w2 ⟨rfl, rfl⟩)
              go_ret3
              exact ⟨by rw [HE.out, HD.out]; simp only [Pl.getS]; rw [if_pos hmb, if_pos h128]; rfl, rfl⟩
            · have hk8 : k + 1 ≤ 9 := by
                by_cases h9 : k = 9
                · subst h9; have := Pl.mayB_nine hmb; omega
                · omega
              have hnx := Pl.acc_next k acc c ha0 ha1
              go_wp2_with (go_at_call 74; refine (mayStand_any k c _ hk9).mono ?_; rintro e w2 ⟨rfl, rfl⟩)
              go_roundw
              case rel =>
                have hR : Hid (Pl.getI l q = Pl.getS (l.drop (q + (k + 1))) (k + 1) (q + ((k + 1 : Nat) : Int)) (acc + c % 128 * Pl.sc k)) := by
                  show _ = _
                  rw [HE.out, HD.out]
                  simp only [Pl.getS]
                  rw [if_pos hmb, if_neg (by omega)]
                  congr 1
                exact ⟨k + 1, acc + c % 128 * Pl.sc k, by first | rfl | trivial, by omega, hk8, by go_num, rfl, hnx.1, hnx.2, hR⟩
              case measure => simp [intOf]; omega
        · have hke : q + k = l.length := by omega
          have HF : Hid (Pl.getI l q = (0, 0, 8)) := by show _ = _; rw [HE.out, List.drop_eq_nil_of_le (by omega)]; rfl
          clear hke
          go_wp2
          go_ret3
          exact ⟨by rw [HF.out]; rfl, rfl⟩
end Go.Proofs.Ytoadcaennlfadaa

namespace Go.Proofs.Ytoadcaennlfadaa
open Go.RowKit
set_option maxRecDepth 20000

theorem seg_one (w : World) (n : Int) : Seg .u64 (w.alloc (.cells #[.int .u64 n] 58)) (.slice (some ⟨w.heap.size, 0, none⟩) 1 1) [n] := by
  refine ⟨some ⟨w.heap.size, 0, none⟩, 1, rfl, Nat.le_refl _, by unfold maxLen; omega, fun h => (by cases h), fun x hx i hi => ?_⟩
  cases hx
  have := cell_one_new w (.int .u64 n) 58 i (.int .u64 n)
  simp at hi
  subst hi
  simpa using this

abbrev u64s (l : List Int) : List Value := l.map (Value.int .u64)

theorem Seg.own64 {w : World} {B : Nat} {v : Value} {l : List Int} (h : w.ownsRow B 58 1 v l.length (u64s l)) : ∃ a cap, v = .slice a l.length cap := by
  obtain ⟨a, cap, hv, _⟩ := Seg.own h
  exact ⟨a, cap, hv⟩

theorem get_is (v : Value) (l : List Int) (p n q er : Int) (w : World) (hs : Seg .u8 w v l) (ho : ∀ z ∈ l, 0 ≤ z ∧ z ≤ 255) (hg : Pl.getI l p = (n, q, er)) (hp0 : -9223372036854775808 ≤ p) (hp1 : p ≤ 9223372036854775807) :
    Calls Try.prog 67 #[v, .int .i64 p] w fun e w' => e = .returned (.tuple #[.int .u64 n, .int .i64 q, .int .i64 er]) ∧ w = w' := by
  refine (get_any v l p w hs ho hp0 hp1).mono ?_
  rintro e w' ⟨rfl, rfl⟩
  exact ⟨by rw [hg]; rfl, rfl⟩

set_option maxHeartbeats 400000 in
theorem rput_any (v : Value) (l : List Int) (n : Int) (w : World) (hs : Seg .u8 w v l) (h0 : 0 ≤ n) (h1 : n ≤ 18446744073709551615) (hlen : l.length + 10 ≤ 140737488355328) :
    Calls Try.prog 29 #[v, .int .u64 n] w fun e w' => ∃ v', e = .returned v' ∧ w'.ownsRow w.heap.size 5 1 v' (l ++ Pl.enc 9 n).length (u8s (l ++ Pl.enc 9 n)) ∧ Below w.heap.size w w' := by
  obtain ⟨i0, hi, hz0, hz1, hz2⟩ := info_parts Try.info5
  have hl := Pl.enc_len_le 9 n
  go_enter Try.func29, Try.ntmps29
  go_wp2_with (go_at_call 51; refine (copied_any v l w hs (by omega)).mono ?_; rintro e w0 ⟨v0, rfl, hown, hbel0⟩)
  go_loopw [5, 1] (fun a s wr => ∃ (f : Nat) (m : Int) (l' : List Int), f ≤ 9 ∧ 0 ≤ m ∧ m < Pl.lim f ∧ s = .int .u64 m ∧ wr.ownsRow w.heap.size 5 1 a l'.length (u8s l') ∧ Hid (l' ++ Pl.enc f m = l ++ Pl.enc 9 n) ∧ Below w.heap.size w wr) (fun _ s _ => (intOf s).toNat)
  case atStart => exact ⟨9, n, l, by omega, h0, by rw [Pl.lim9]; omega, rfl, hown, (rfl : _ = _), hbel0⟩
  case round =>
    obtain ⟨f, m, l', hf, hm0, hm1, rfl, hown', HE, hbel⟩ := hrel
    have hll := Pl.enc_len_pos f m
    have hlen2 : l'.length + (Pl.enc f m).length ≤ l.length + 10 := by
      have := congrArg List.length HE.out
      simp only [List.length_append] at this
      omega
    have hsz := hbel.size
    by_cases hlt : m < 128
    · go_wp2_with (at_builtin; refine wpList_append_own _ rfl _ _ 22 rfl w.heap.size 5 i0 (.int .u8 0) 1 1 Try.underlying22 hi hz0 hz1 hz2 rfl (by decide) _ _ _ rfl (hown'.alloc _) ⟨wr.heap.size, 0, none⟩ 1 1 [.int .u8 m] rfl rfl (cell_one_new _ _ _) ?c2 ?c3 ?c4 ?c5 ?_)
      case c2 => first | rfl | (intro u hu; simp at hu; subst hu; rfl)
      case c3 => unfold maxLen; omega
      case c4 => omega
      case c5 => first | omega | (simp; omega)
      intro v' w1 hown1 hgrow _
      have hb1 : Below w.heap.size w w1 := (hbel.alloc (by omega) _).grown hgrow (by simp; omega) (fun k hk => (hown'.lt k hk).1)
      have H1 := HE.out
      rw [Pl.enc_lt hlt] at H1
      have HH : Hid (l ++ Pl.enc 9 n = l' ++ [m]) := H1.symm
      clear H1 hown' hgrow hown HE
      go_wp2
      go_ret
      refine ⟨v', rfl, ?_, hb1⟩
      rw [HH.out]
      simpa [u8s] using hown1
    · have hle : m ≤ 18446744073709551615 := by have := Pl.lim_le hf; omega
      have hge : 128 ≤ m := by omega
      have hf1 : ∃ g, f = g + 1 := by
        cases f with
        | zero => simp [Pl.lim] at hm1; omega
        | succ g => exact ⟨g, rfl⟩
      obtain ⟨g, rfl⟩ := hf1
      have hm2 : m / 128 < Pl.lim g := by simp only [Pl.lim] at hm1; omega
      go_wp2_with (at_builtin; refine wpList_append_own _ rfl _ _ 22 rfl w.heap.size 5 i0 (.int .u8 0) 1 1 Try.underlying22 hi hz0 hz1 hz2 rfl (by decide) _ _ _ rfl (hown'.alloc _) ⟨wr.heap.size, 0, none⟩ 1 1 [.int .u8 (m % 128 + 128)] rfl rfl (cell_one_new _ _ _) ?d2 ?d3 ?d4 ?d5 ?_)
      case d2 => first | rfl | (intro u hu; simp at hu; subst hu; rfl)
      case d3 => unfold maxLen; omega
      case d4 => omega
      case d5 => first | omega | (simp; omega)
      intro v' w1 hown1 hgrow _
      have hb1 : Below w.heap.size w w1 := (hbel.alloc (by omega) _).grown hgrow (by simp; omega) (fun k hk => (hown'.lt k hk).1)
      have H1 := HE.out
      rw [Pl.enc_ge hge] at H1
      have HH : Hid ((l' ++ [m % 128 + 128]) ++ Pl.enc g (m / 128) = l ++ Pl.enc 9 n) := by show _ = _; rw [← H1]; simp
      have HO : w1.ownsRow w.heap.size 5 1 v' (l' ++ [m % 128 + 128]).length (u8s (l' ++ [m % 128 + 128])) := by simpa [u8s] using hown1
      clear H1 hown' hgrow hown HE hown1
      go_wp2
      go_roundw
      case rel => exact ⟨g, m / 128, l' ++ [m % 128 + 128], by omega, by omega, hm2, rfl, HO, HH, hb1⟩
      case measure => simp [intOf]; omega

theorem wrap_u64 (x : Int) (h0 : 0 ≤ x) (h1 : x ≤ 18446744073709551615) : IntKind.u64.wrap x = x := by
  simp only [IntKind.wrap, IntKind.bits, IntKind.signed]
  simp
  omega

set_option maxHeartbeats 2000000 in
theorem rget_any (v : Value) (l : List Int) (p : Int) (w : World) (hs : Seg .u8 w v l) (ho : ∀ z ∈ l, 0 ≤ z ∧ z ≤ 255) (hp0 : -9223372036854775808 ≤ p) (hp1 : p ≤ 9223372036854775807) :
    Calls Try.prog 37 #[v, .int .i64 p] w fun e w' => e = .returned (trip (Pl.getI l p)) ∧ w = w' := by
  obtain ⟨a, cap, rfl, h1, h2, h3, h4⟩ := hs
  unfold maxLen at h2
  by_cases hr : p < 0 ∨ (l.length : Int) < p
  · have HG : Hid (Pl.getI l p = (0, 0, 4)) := by show _ = _; unfold Pl.getI; rw [if_pos hr]
    rcases hr with hr | hr
    · go_enter Try.func37, Try.ntmps37
      go_wp2
      go_ret3
      exact ⟨by rw [HG.out]; rfl, rfl⟩
    · have hnn : ¬ p < 0 := by omega
      go_enter Try.func37, Try.ntmps37
      go_wp2
      go_ret3
      exact ⟨by rw [HG.out]; rfl, rfl⟩
  · have HG : Hid (Pl.getI l p = Pl.getS (l.drop p.toNat) 0 p 0) := by show _ = _; unfold Pl.getI; rw [if_neg hr]
    have hq0 : 0 ≤ p := by omega
    have hq1 : p ≤ (l.length : Int) := by omega
    clear hr
    obtain ⟨q, rfl⟩ := Int.eq_ofNat_of_zero_le hq0
    rw [Int.toNat_natCast] at HG
    have hq : q ≤ l.length := by omega
    have hd1 : decide ((q : Int) < 0) = false := decide_eq_false (by omega)
    have hd2 : decide (l.length < q) = false := decide_eq_false (by omega)
    have hd3 : decide ((l.length : Int) < (q : Int)) = false := decide_eq_false (by omega)
    go_enter Try.func37, Try.ntmps37
    go_wp2
    go_loop [1, 7, 8, 9] (fun t n s i => ∃ (k : Nat) (acc : Int), q + k ≤ l.length ∧ k ≤ 9 ∧ t = .int .i64 ((q : Int) + (k : Int)) ∧ n = .int .u64 acc ∧ s = .int .u64 (Pl.sc k) ∧ i = .int .i64 k ∧ 0 ≤ acc ∧ acc < Pl.sc k ∧ Hid (Pl.getI l q = Pl.getS (l.drop (q + k)) k (q + k) acc)) (fun _ _ _ i => 9 - (intOf i).toNat)
    case atStart => exact ⟨0, 0, by omega, by omega, by simp, rfl, rfl, rfl, by omega, by decide, by show _ = _; rw [HG.out]; simp⟩
    case round =>
      obtain ⟨k, acc, hk, hk9, rfl, rfl, rfl, rfl, ha0, ha1, HE⟩ := hrel
      have hkb : (k : Int) ≤ 9 := by omega
      have hk10 : ((k : Int) == 10) = false := by simp; omega
      by_cases hend : q + k = l.length
      · have HF : Hid (Pl.getI l q = (0, 0, 8)) := by show _ = _; rw [HE.out, List.drop_eq_nil_of_le (by omega)]; rfl
        have hb : ((q : Int) + (k : Int) == (l.length : Int)) = true := by simp; omega
        have HX : Hid (q + k = l.length) := hend
        clear hend
        go_wp2
        go_ret3
        exact ⟨by rw [HF.out]; rfl, rfl⟩
      · have hb : ((q : Int) + (k : Int) == (l.length : Int)) = false := by simp; omega
        have hlt : q + k < l.length := by omega
        obtain ⟨b, off, rfl, hbb, hc⟩ := seg_at (by omega) h3 h4
        have hck := hc (q + k) (by omega)
        have hox := ho (l.getD (q + k) 0) (getD_mem (by omega))
        have hdr : l.drop (q + k) = l.getD (q + k) 0 :: l.drop (q + (k + 1)) := by
          rw [List.drop_eq_getElem_cons (by omega), getD_at (by omega)]; rfl
        generalize hx : l.getD (q + k) 0 = c at *
        have HD : Hid (l.drop (q + k) = c :: l.drop (q + (k + 1))) := hdr
        clear hdr hx hc ho h3 h4 hend
        obtain ⟨hc0, hc1⟩ := hox
        cases hmb : Pl.mayB k c
        · have HF : Hid (Pl.getI l q = (0, 0, 21)) := by show _ = _; rw [HE.out, HD.out]; simp [Pl.getS, hmb]
          have hcs : (k = 9 ∧ 1 < c % 128) ∨ (k = 9 ∧ c % 128 ≤ 1 ∧ 128 ≤ c) ∨ (1 ≤ k ∧ c = 0) := by
            unfold Pl.mayB at hmb
            by_cases h9 : k = 9
            · rw [if_pos h9] at hmb; simp at hmb; omega
            · rw [if_neg h9] at hmb; simp at hmb; omega
          clear hmb
          rcases hcs with ⟨rfl, hx⟩ | ⟨rfl, hx, hy⟩ | ⟨hx, rfl⟩
          · go_wp2
            go_ret3
            exact ⟨by rw [HF.out]; rfl, rfl⟩
          · have hdc : decide (c < 128) = false := decide_eq_false (by omega)
            go_wp2
            go_ret3
            exact ⟨by rw [HF.out]; rfl, rfl⟩
          · have hkp : (0 : Int) < (k : Int) := by omega
            by_cases h9 : k = 9
            · subst h9
              go_wp2
              go_ret3
              exact ⟨by rw [HF.out]; rfl, rfl⟩
            · have hb9 : ((k : Int) == 9) = false := by simp; omega
              go_wp2
              go_ret3
              exact ⟨by rw [HF.out]; rfl, rfl⟩
        · have hw1 := Pl.dig_lt k c hk9 hmb
          have hw2 := Pl.acc_bd k acc c hk9 ha0 ha1 hmb
          have hw3 := Pl.acc_next k acc c ha0 ha1
          have hm0 : 0 ≤ c % 128 * Pl.sc k := Int.mul_nonneg (by omega) (by have := Pl.sc_pos k; omega)
          have hm1 : IntKind.u64.wrap (c % 128 * Pl.sc k) = c % 128 * Pl.sc k := wrap_u64 _ hm0 (by omega)
          have hm2 : IntKind.u64.wrap (acc + c % 128 * Pl.sc k) = acc + c % 128 * Pl.sc k := wrap_u64 _ hw3.1 hw2
          by_cases h128 : c < 128
          · have HF : Hid (Pl.getI l q = (acc + c % 128 * Pl.sc k, (q : Int) + (k : Int) + 1, 0)) := by show _ = _; rw [HE.out, HD.out]; simp only [Pl.getS]; rw [if_pos hmb, if_pos h128]
            have hdc : decide (c < 128) = true := decide_eq_true h128
            by_cases h9 : k = 9
            · subst h9
              have hc1' := Pl.mayB_nine hmb
              have hg1 : decide (1 < c % 128) = false := decide_eq_false (by omega)
              have hg2 : (c % 128 == 0) = false := by simp; omega
              clear hmb hw1 hw2 hw3 hm0 hc1'
              go_wp2
              go_ret3
              exact ⟨by rw [HF.out]; rfl, rfl⟩
            · have hb9 : ((k : Int) == 9) = false := by simp; omega
              by_cases hc : c = 0
              · have hk0 : k = 0 := by
                  unfold Pl.mayB at hmb
                  rw [if_neg h9] at hmb
                  simp at hmb
                  omega
                have hkz : (k : Int) ≤ 0 := by omega
                have hkd : decide (0 < k) = false := decide_eq_false (by omega)
                have hg2 : (c % 128 == 0) = true := by simp [hc]
                clear hmb hw1 hw2 hw3 hm0 hc h9 hk0
                go_wp2
                go_ret3
                exact ⟨by rw [HF.out]; rfl, rfl⟩
              · have hg2 : (c % 128 == 0) = false := by simp; omega
                clear hmb hw1 hw2 hw3 hm0 hc h9
                go_wp2
                go_ret3
                exact ⟨by rw [HF.out]; rfl, rfl⟩
          · have hdc : decide (c < 128) = false := decide_eq_false h128
            have hk8 : k + 1 ≤ 9 := by
              by_cases h9 : k = 9
              · subst h9; have := Pl.mayB_nine hmb; omega
              · omega
            have hb9 : ((k : Int) == 9) = false := by simp; omega
            have hm3 : IntKind.u64.wrap (Pl.sc k * 128) = Pl.sc (k + 1) := by
              have e : Pl.sc k * 128 = Pl.sc (k + 1) := by simp only [Pl.sc]; omega
              rw [e]
              refine wrap_u64 _ (by have := Pl.sc_pos (k + 1); omega) ?_
              rw [Pl.sc_pow]
              have : 2 ^ (7 * (k + 1)) ≤ 2 ^ 63 := Nat.pow_le_pow_right (by decide) (by omega)
              have h4 : 2 ^ 63 = 9223372036854775808 := by decide
              omega
            have hR : Hid (Pl.getI l q = Pl.getS (l.drop (q + (k + 1))) (k + 1) (q + ((k + 1 : Nat) : Int)) (acc + c % 128 * Pl.sc k)) := by
              show _ = _
              rw [HE.out, HD.out]
              simp only [Pl.getS]
              rw [if_pos hmb, if_neg (by omega)]
              congr 1
            have HM : Hid (Pl.mayB k c = true) := hmb
            have HW : Hid (0 ≤ acc + c % 128 * Pl.sc k ∧ acc + c % 128 * Pl.sc k < Pl.sc (k + 1)) := hw3
            clear hmb hw1 hw2 hw3 hm0
            go_wp2
            go_round
            case rel => exact ⟨k + 1, acc + c % 128 * Pl.sc k, by omega, hk8, by go_num, rfl, rfl, by go_num, HW.out.1, HW.out.2, hR⟩
            case measure => simp [intOf]; omega
theorem rget_is (v : Value) (l : List Int) (p n q er : Int) (w : World) (hs : Seg .u8 w v l) (ho : ∀ z ∈ l, 0 ≤ z ∧ z ≤ 255) (hg : Pl.getI l p = (n, q, er)) (hp0 : -9223372036854775808 ≤ p) (hp1 : p ≤ 9223372036854775807) :
    Calls Try.prog 37 #[v, .int .i64 p] w fun e w' => e = .returned (.tuple #[.int .u64 n, .int .i64 q, .int .i64 er]) ∧ w = w' := by
  refine (rget_any v l p w hs ho hp0 hp1).mono ?_
  rintro e w' ⟨rfl, rfl⟩
  exact ⟨by rw [hg]; rfl, rfl⟩

end Go.Proofs.Ytoadcaennlfadaa

namespace Go.Proofs.Ytoadcaennlfadaa
open Go.RowKit
set_option maxRecDepth 20000

/-- The text that begins at a place: it, where it ends, the error. -/
def Pl.textI (l : List Int) (p most : Int) : List Int × Int × Int :=
  if (Pl.getI l p).2.2 = 0 then
    (if most < 0 ∨ most < (Pl.getI l p).1 then ([], 0, 5)
     else if (l.length : Int) - (Pl.getI l p).2.1 < (Pl.getI l p).1 then ([], 0, 8)
     else ((l.drop (Pl.getI l p).2.1.toNat).take (Pl.getI l p).1.toNat, (Pl.getI l p).2.1 + (Pl.getI l p).1, 0))
  else ([], 0, (Pl.getI l p).2.2)

/-- A part of octets. -/
theorem seg_part {w : World} {b off cap : Nat} {l : List Int} (q n : Nat) (hqn : q + n ≤ l.length) (hl : l.length ≤ cap) (hm : cap ≤ maxLen) (hc : ∀ i, i < l.length → w.cell? ⟨b, off + i, none⟩ = some (.int .u8 (l.getD i 0))) :
    Seg .u8 w (.slice (some ⟨b, off + q, none⟩) n (cap - q)) ((l.drop q).take n) := by
  have hlen : ((l.drop q).take n).length = n := by rw [List.length_take, List.length_drop]; omega
  refine ⟨some ⟨b, off + q, none⟩, cap - q, by rw [hlen], by rw [hlen]; omega, by omega, fun h => (by cases h), fun x hx i hi => ?_⟩
  cases hx
  rw [hlen] at hi
  rw [add_plain, Nat.add_assoc, hc (q + i) (by omega)]
  simp [List.getD, hi]

theorem seg_empty (w : World) (x : Addr) : Seg .u8 w (.slice (some x) 0 0) [] :=
  ⟨some x, 0, rfl, Nat.le_refl _, by unfold maxLen; omega, fun h => (by cases h), fun _ _ i hi => by simp at hi⟩

set_option maxHeartbeats 1000000 in
theorem text_any (v : Value) (l : List Int) (p most : Int) (w : World) (hs : Seg .u8 w v l) (ho : ∀ z ∈ l, 0 ≤ z ∧ z ≤ 255) (hlen : l.length ≤ 140737488355328) (hp0 : -9223372036854775808 ≤ p) (hp1 : p ≤ 9223372036854775807) (hm0 : -9223372036854775808 ≤ most) (hm1 : most ≤ 9223372036854775807) :
    Calls Try.prog 68 #[v, .int .i64 p, .int .i64 most] w fun e w' => ∃ v', e = .returned (.tuple #[v', .int .i64 (Pl.textI l p most).2.1, .int .i64 (Pl.textI l p most).2.2]) ∧ w'.ownsRow w.heap.size 5 1 v' (Pl.textI l p most).1.length (u8s (Pl.textI l p most).1) ∧ Below w.heap.size w w' := by
  obtain ⟨n, q, er, hg⟩ : ∃ n q er, Pl.getI l p = (n, q, er) := ⟨_, _, _, rfl⟩
  have HG : Hid (Pl.getI l p = (n, q, er)) := hg
  obtain ⟨a, cap, hv, h1, h2, h3, h4⟩ := id hs
  subst hv
  unfold Pl.textI
  rw [hg]
  simp only
  by_cases he : er = 0
  · subst he
    obtain ⟨hpp, hn0, hn1, hpq, hql, _⟩ := Pl.getI_ok l p n q ho hg
    rw [if_pos rfl]
    clear hg
    obtain ⟨b, off, rfl, hbb, hc⟩ := seg_at (by omega) h3 h4
    clear h3 h4
    obtain ⟨Q, rfl⟩ := Int.eq_ofNat_of_zero_le (show 0 ≤ q by omega)
    by_cases hms : most < 0 ∨ most < n
    · rw [if_pos hms]
      rcases hms with hms | hms
      · have hd : decide (most < 0) = true := decide_eq_true hms
        go_enter Try.func68, Try.ntmps68
        go_wp2_with (go_at_call 67; refine (get_is _ l p n Q _ w hs ho HG.out hp0 hp1).mono ?_; rintro e w2 ⟨rfl, rfl⟩)
        go_ret3
        exact ⟨_, rfl, World.ownsRow_nil _ _ _ _, Below.refl _ _⟩
      · by_cases hm : most < 0
        · have hd : decide (most < 0) = true := decide_eq_true hm
          go_enter Try.func68, Try.ntmps68
          go_wp2_with (go_at_call 67; refine (get_is _ l p n Q _ w hs ho HG.out hp0 hp1).mono ?_; rintro e w2 ⟨rfl, rfl⟩)
          go_ret3
          exact ⟨_, rfl, World.ownsRow_nil _ _ _ _, Below.refl _ _⟩
        · have hd : decide (most < 0) = false := decide_eq_false hm
          go_enter Try.func68, Try.ntmps68
          go_wp2_with (go_at_call 67; refine (get_is _ l p n Q _ w hs ho HG.out hp0 hp1).mono ?_; rintro e w2 ⟨rfl, rfl⟩)
          go_ret3
          exact ⟨_, rfl, World.ownsRow_nil _ _ _ _, Below.refl _ _⟩
    · rw [if_neg hms]
      have hms0 : 0 ≤ most := by omega
      have hmsn : n ≤ most := by omega
      have hd : decide (most < 0) = false := decide_eq_false (by omega)
      clear hms
      by_cases hsh : (l.length : Int) - (Q : Int) < n
      · rw [if_pos hsh]
        go_enter Try.func68, Try.ntmps68
        go_wp2_with (go_at_call 67; refine (get_is _ l p n Q _ w hs ho HG.out hp0 hp1).mono ?_; rintro e w2 ⟨rfl, rfl⟩)
        go_ret3
        exact ⟨_, rfl, World.ownsRow_nil _ _ _ _, Below.refl _ _⟩
      · rw [if_neg hsh]
        obtain ⟨M, rfl⟩ := Int.eq_ofNat_of_zero_le hn0
        rw [Int.toNat_natCast, Int.toNat_natCast]
        have hQM : Q + M ≤ l.length := by omega
        by_cases hcq : cap = Q
        · have hM : M = 0 := by omega
          subst hM
          subst hcq
          unfold maxLen at h2
          go_enter Try.func68, Try.ntmps68
          go_wp2_with (first | (go_at_call 67; refine (get_is _ l p _ _ _ w hs ho HG.out hp0 hp1).mono ?_; rintro e w2 ⟨rfl, rfl⟩))
          refine (fresh_any _ [] w (seg_empty w ⟨b, off, none⟩) (by simp)).mono ?_
          rintro e w3 ⟨v3, rfl, hown3, hb3⟩
          go_wp2
          go_ret3
          exact ⟨v3, rfl, by simpa using hown3, hb3⟩
        · have hsg := seg_part (w := w) Q M hQM h1 h2 hc
          have hle : ((l.drop Q).take M).length ≤ 140737488355328 := by rw [List.length_take, List.length_drop]; omega
          unfold maxLen at h2
          go_enter Try.func68, Try.ntmps68
          go_wp2_with (first | (go_at_call 67; refine (get_is _ l p M Q _ w hs ho HG.out hp0 hp1).mono ?_; rintro e w2 ⟨rfl, rfl⟩))
          refine (fresh_any _ ((l.drop Q).take M) w hsg hle).mono ?_
          rintro e w3 ⟨v3, rfl, hown3, hb3⟩
          go_wp2
          go_ret3
          exact ⟨v3, rfl, hown3, hb3⟩
  · rw [if_neg he]
    have hne : (er != 0) = true := by simp [he]
    clear hg he
    go_enter Try.func68, Try.ntmps68
    go_wp2_with (go_at_call 67; refine (get_is _ l p n q er w hs ho HG.out hp0 hp1).mono ?_; rintro e w2 ⟨rfl, rfl⟩)
    go_ret3
    exact ⟨_, rfl, World.ownsRow_nil _ _ _ _, Below.refl _ _⟩
set_option maxHeartbeats 1000000 in
theorem rtext_any (v : Value) (l : List Int) (p most : Int) (w : World) (hs : Seg .u8 w v l) (ho : ∀ z ∈ l, 0 ≤ z ∧ z ≤ 255) (hlen : l.length ≤ 140737488355328) (hp0 : -9223372036854775808 ≤ p) (hp1 : p ≤ 9223372036854775807) (hm0 : -9223372036854775808 ≤ most) (hm1 : most ≤ 9223372036854775807) :
    Calls Try.prog 38 #[v, .int .i64 p, .int .i64 most] w fun e w' => ∃ v', e = .returned (.tuple #[v', .int .i64 (Pl.textI l p most).2.1, .int .i64 (Pl.textI l p most).2.2]) ∧ w'.ownsRow w.heap.size 5 1 v' (Pl.textI l p most).1.length (u8s (Pl.textI l p most).1) ∧ Below w.heap.size w w' := by
  obtain ⟨n, q, er, hg⟩ : ∃ n q er, Pl.getI l p = (n, q, er) := ⟨_, _, _, rfl⟩
  have HG : Hid (Pl.getI l p = (n, q, er)) := hg
  obtain ⟨a, cap, hv, h1, h2, h3, h4⟩ := id hs
  subst hv
  unfold Pl.textI
  rw [hg]
  simp only
  by_cases he : er = 0
  · subst he
    obtain ⟨hpp, hn0, hn1, hpq, hql, _⟩ := Pl.getI_ok l p n q ho hg
    rw [if_pos rfl]
    clear hg
    obtain ⟨b, off, rfl, hbb, hc⟩ := seg_at (by omega) h3 h4
    clear h3 h4
    obtain ⟨Q, rfl⟩ := Int.eq_ofNat_of_zero_le (show 0 ≤ q by omega)
    by_cases hms : most < 0 ∨ most < n
    · rw [if_pos hms]
      rcases hms with hms | hms
      · have hd : decide (most < 0) = true := decide_eq_true hms
        go_enter Try.func38, Try.ntmps38
        go_wp2_with (go_at_call 37; refine (rget_is _ l p n Q _ w hs ho HG.out hp0 hp1).mono ?_; rintro e w2 ⟨rfl, rfl⟩)
        go_ret3
        exact ⟨_, rfl, World.ownsRow_nil _ _ _ _, Below.refl _ _⟩
      · by_cases hm : most < 0
        · have hd : decide (most < 0) = true := decide_eq_true hm
          go_enter Try.func38, Try.ntmps38
          go_wp2_with (go_at_call 37; refine (rget_is _ l p n Q _ w hs ho HG.out hp0 hp1).mono ?_; rintro e w2 ⟨rfl, rfl⟩)
          go_ret3
          exact ⟨_, rfl, World.ownsRow_nil _ _ _ _, Below.refl _ _⟩
        · have hd : decide (most < 0) = false := decide_eq_false hm
          go_enter Try.func38, Try.ntmps38
          go_wp2_with (go_at_call 37; refine (rget_is _ l p n Q _ w hs ho HG.out hp0 hp1).mono ?_; rintro e w2 ⟨rfl, rfl⟩)
          go_ret3
          exact ⟨_, rfl, World.ownsRow_nil _ _ _ _, Below.refl _ _⟩
    · rw [if_neg hms]
      have hms0 : 0 ≤ most := by omega
      have hmsn : n ≤ most := by omega
      have hd : decide (most < 0) = false := decide_eq_false (by omega)
      clear hms
      by_cases hsh : (l.length : Int) - (Q : Int) < n
      · rw [if_pos hsh]
        go_enter Try.func38, Try.ntmps38
        go_wp2_with (go_at_call 37; refine (rget_is _ l p n Q _ w hs ho HG.out hp0 hp1).mono ?_; rintro e w2 ⟨rfl, rfl⟩)
        go_ret3
        exact ⟨_, rfl, World.ownsRow_nil _ _ _ _, Below.refl _ _⟩
      · rw [if_neg hsh]
        obtain ⟨M, rfl⟩ := Int.eq_ofNat_of_zero_le hn0
        rw [Int.toNat_natCast, Int.toNat_natCast]
        have hQM : Q + M ≤ l.length := by omega
        by_cases hcq : cap = Q
        · have hM : M = 0 := by omega
          subst hM
          subst hcq
          unfold maxLen at h2
          go_enter Try.func38, Try.ntmps38
          go_wp2_with (first | (go_at_call 37; refine (rget_is _ l p _ _ _ w hs ho HG.out hp0 hp1).mono ?_; rintro e w2 ⟨rfl, rfl⟩))
          refine (copied_any _ [] w (seg_empty w ⟨b, off, none⟩) (by simp)).mono ?_
          rintro e w3 ⟨v3, rfl, hown3, hb3⟩
          go_wp2
          go_ret3
          exact ⟨v3, rfl, by simpa using hown3, hb3⟩
        · have hsg := seg_part (w := w) Q M hQM h1 h2 hc
          have hle : ((l.drop Q).take M).length ≤ 140737488355328 := by rw [List.length_take, List.length_drop]; omega
          unfold maxLen at h2
          go_enter Try.func38, Try.ntmps38
          go_wp2_with (first | (go_at_call 37; refine (rget_is _ l p M Q _ w hs ho HG.out hp0 hp1).mono ?_; rintro e w2 ⟨rfl, rfl⟩))
          refine (copied_any _ ((l.drop Q).take M) w hsg hle).mono ?_
          rintro e w3 ⟨v3, rfl, hown3, hb3⟩
          go_wp2
          go_ret3
          exact ⟨v3, rfl, hown3, hb3⟩
  · rw [if_neg he]
    have hne : (er != 0) = true := by simp [he]
    clear hg he
    go_enter Try.func38, Try.ntmps38
    go_wp2_with (go_at_call 37; refine (rget_is _ l p n q er w hs ho HG.out hp0 hp1).mono ?_; rintro e w2 ⟨rfl, rfl⟩)
    go_ret3
    exact ⟨_, rfl, World.ownsRow_nil _ _ _ _, Below.refl _ _⟩
/-- Of each text its length and itself. -/
def textsOf (ts : List (List Int)) : List Int := ts.flatMap fun t => Pl.enc 9 t.length ++ t

theorem textsOf_take_succ (ts : List (List Int)) (k : Nat) (h : k < ts.length) : textsOf (ts.take (k + 1)) = textsOf (ts.take k) ++ Pl.enc 9 (ts.getD k []).length ++ ts.getD k [] := by
  rw [List.take_succ_eq_append_getElem h]
  simp only [textsOf, List.flatMap_append, List.flatMap_cons, List.flatMap_nil, List.append_nil]
  simp [List.getD, h]

theorem textsOf_take_le (ts : List (List Int)) (k : Nat) : (textsOf (ts.take k)).length ≤ (textsOf ts).length := by
  conv => rhs; rw [← List.take_append_drop k ts]
  simp only [textsOf, List.flatMap_append, List.length_append]
  omega

set_option maxHeartbeats 1000000 in
theorem texts_any (v : Value) (l : List Int) (b off cap : Nat) (vs : List Value) (ts : List (List Int)) (w : World) (hs : Seg .u8 w v l) (hb : b < w.heap.size) (hc : ∀ i, i < vs.length → w.cell? ⟨b, off + i, none⟩ = some (vs.getD i undef)) (hl : ts.length = vs.length)
    (ht : ∀ i, i < vs.length → Seg .u8 w (vs.getD i undef) (ts.getD i [])) (hc1 : vs.length ≤ cap) (hc2 : cap ≤ 9223372036854775807) (hlen : l.length + (textsOf ts).length + 10 ≤ 140737488355328) :
    Calls Try.prog 50 #[v, .slice (some ⟨b, off, none⟩) vs.length cap] w fun e w' => ∃ v', e = .returned v' ∧ w'.ownsRow w.heap.size 5 1 v' (l ++ textsOf ts).length (u8s (l ++ textsOf ts)) ∧ Below w.heap.size w w' := by
  have HLn : Hid (ts.length = vs.length) := hl
  clear hl
  go_enter Try.func50, Try.ntmps50
  go_wp2_with (go_at_call 65; refine (fresh_any v l w hs (by omega)).mono ?_; rintro e w1 ⟨v1, rfl, hown1, hbel1⟩)
  go_loopw [5, 12] (fun a i wr => ∃ k : Nat, k ≤ vs.length ∧ i = .int .i64 k ∧ wr.ownsRow w.heap.size 5 1 a (l ++ textsOf (ts.take k)).length (u8s (l ++ textsOf (ts.take k))) ∧ Below w.heap.size w wr) (fun _ i _ => vs.length - (intOf i).toNat)
  case atStart => exact ⟨0, Nat.zero_le _, rfl, by simpa [textsOf] using hown1, hbel1⟩
  case round =>
    obtain ⟨k, hk, rfl, hown, hbel⟩ := hrel
    have hsz := hbel.size
    by_cases hlt : k < vs.length
    · have hkt : k < ts.length := by have := HLn.out; omega
      have hck := (hbel.cell (p := ⟨b, off + k, none⟩) hb).trans (hc k hlt)
      have hsk := ht k hlt
      have HS : Hid (textsOf (ts.take (k + 1)) = textsOf (ts.take k) ++ Pl.enc 9 (ts.getD k []).length ++ ts.getD k []) := textsOf_take_succ ts k hkt
      have hle1 := textsOf_take_le ts (k + 1)
      rw [HS.out] at hle1
      simp only [List.length_append] at hle1
      generalize vs.getD k undef = x at *
      generalize ts.getD k [] = t at *
      obtain ⟨ax, cx, hx, hx1, hx2, hx3, hx4⟩ := id hsk
      subst hx
      unfold maxLen at hx2
      clear hc ht hx3 hx4
      go_wp2_with (first | (go_at_call 66; refine (putOne_any w.heap.size _ (l ++ textsOf (ts.take k)) t.length wr (by omega) hown (by omega) (by omega) (by simp only [List.length_append]; omega)).mono ?_; rintro e w2 ⟨v2, rfl, hown2, hbel2⟩) | (at_builtin; refine wpList_append_seg _ rfl _ _ rfl w.heap.size _ _ (l ++ textsOf (ts.take k) ++ Pl.enc 9 t.length) t rfl hown2 rfl (hsk.below (hbel.trans hbel2)) (by simp only [List.length_append]; omega) (by have := hbel2.size; omega) ?_; intro v3 w3 hown3 hb3; have HO : w3.ownsRow w.heap.size 5 1 v3 (l ++ textsOf (ts.take (k + 1))).length (u8s (l ++ textsOf (ts.take (k + 1)))) := (by rw [HS.out, ← List.append_assoc, ← List.append_assoc]; exact hown3); have hb5 := (hbel.trans hbel2).trans hb3; clear hown hown2 hown3 hck))
      go_roundw
      case rel => exact ⟨k + 1, by omega, by go_num, HO, hb5⟩
      case measure => simp [intOf]; omega
    · have hke : k = ts.length := by have := HLn.out; omega
      have HO : wr.ownsRow w.heap.size 5 1 u5 (l ++ textsOf ts).length (u8s (l ++ textsOf ts)) := by rw [hke, List.take_length] at hown; exact hown
      clear hown hke
      go_wp2
      go_ret
      exact ⟨_, rfl, HO, hbel⟩

set_option maxHeartbeats 1000000 in
theorem rtexts_any (v u : Value) (l t : List Int) (w : World) (hs : Seg .u8 w v l) (hu : Seg .u8 w u t) (hlen : l.length + t.length + 10 ≤ 140737488355328) :
    Calls Try.prog 31 #[v, u] w fun e w' => ∃ v', e = .returned v' ∧ w'.ownsRow w.heap.size 5 1 v' (l ++ Pl.enc 9 t.length ++ t).length (u8s (l ++ Pl.enc 9 t.length ++ t)) ∧ Below w.heap.size w w' := by
  obtain ⟨ax, cx, hx, hx1, hx2, hx3, hx4⟩ := id hu
  subst hx
  clear hx3 hx4
  have hel := Pl.enc_len_le 9 t.length
  unfold maxLen at hx2
  go_enter Try.func31, Try.ntmps31
  go_wp2_with (first | (go_at_call 29; refine (rput_any v l t.length w hs (by omega) (by omega) (by omega)).mono ?_; rintro e w2 ⟨v2, rfl, hown2, hbel2⟩) | (at_builtin; refine wpList_append_seg _ rfl _ _ rfl w.heap.size _ _ (l ++ Pl.enc 9 t.length) t rfl hown2 rfl (hu.below hbel2) (by simp only [List.length_append]; omega) hbel2.size ?_; intro v3 w3 hown3 hb3; have HO := (show Hid (w3.ownsRow w.heap.size 5 1 v3 (l ++ Pl.enc 9 t.length ++ t).length (u8s (l ++ Pl.enc 9 t.length ++ t))) from hown3); have hb5 := hbel2.trans hb3; clear hown2 hown3))
  go_ret
  exact ⟨_, rfl, HO.out, hb5⟩
end Go.Proofs.Ytoadcaennlfadaa

