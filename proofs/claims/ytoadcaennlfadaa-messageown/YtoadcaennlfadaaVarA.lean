/- Contracts of Zig, Zag and Size. -/
import Derived.Test.YtoadcaennlfadaaVPlainC
import Derived.Test.YtoadcaennlfadaaBase
import Derived.WalkKit
import Derived.WalkSpells
import Derived.WalkLawsBesides
namespace Go.Proofs.Ytoadcaennlfadaa
open Go.RowKit
set_option maxRecDepth 20000

theorem Try.info58 : (Try.prog.info? 58).map (fun i => (i.zero, i.size, i.bytes)) = some (some (.int .u64 0), 1, 8) := by kernel_rfl

set_option maxHeartbeats 400000 in
theorem putOne_any (B : Nat) (v : Value) (l : List Int) (n : Int) (w : World) (hB : B ≤ w.heap.size) (hown : w.ownsRow B 5 1 v l.length (u8s l)) (h0 : 0 ≤ n) (h1 : n ≤ 18446744073709551615) (hlen : l.length + 10 ≤ 140737488355328) :
    Calls Try.prog 66 #[v, .int .u64 n] w fun e w' => ∃ v', e = .returned v' ∧ w'.ownsRow B 5 1 v' (l ++ Pl.enc 9 n).length (u8s (l ++ Pl.enc 9 n)) ∧ Below B w w' := by
  obtain ⟨i0, hi, hz0, hz1, hz2⟩ := info_parts Try.info5
  have hl := Pl.enc_len_le 9 n
  go_enter Try.func66, Try.ntmps66
  go_wp2
  go_loopw [0, 1] (fun a s wr => ∃ (f : Nat) (m : Int) (l' : List Int), f ≤ 9 ∧ 0 ≤ m ∧ m < Pl.lim f ∧ s = .int .u64 m ∧ wr.ownsRow B 5 1 a l'.length (u8s l') ∧ Hid (l' ++ Pl.enc f m = l ++ Pl.enc 9 n) ∧ Below B w wr) (fun _ s _ => (intOf s).toNat)
  case atStart => exact ⟨9, n, l, by omega, h0, by rw [Pl.lim9]; omega, rfl, hown, (rfl : _ = _), Below.refl _ _⟩
  case round =>
    obtain ⟨f, m, l', hf, hm0, hm1, rfl, hown', HE, hbel⟩ := hrel
    have hll := Pl.enc_len_pos f m
    have hlen2 : l'.length + (Pl.enc f m).length ≤ l.length + 10 := by
      have := congrArg List.length HE.out
      simp only [List.length_append] at this
      omega
    have hsz := hbel.size
    by_cases hlt : m < 128
    · go_wp2_with (at_builtin; refine wpList_append_own _ rfl _ _ 22 rfl B 5 i0 (.int .u8 0) 1 1 Try.underlying22 hi hz0 hz1 hz2 rfl (by decide) _ _ _ rfl (hown'.alloc _) ⟨wr.heap.size, 0, none⟩ 1 1 [.int .u8 m] rfl rfl (cell_one_new _ _ _) ?c2 ?c3 ?c4 ?c5 ?_)
      case c2 => first | rfl | (intro u hu; simp at hu; subst hu; rfl)
      case c3 => unfold maxLen; omega
      case c4 => omega
      case c5 => first | omega | (simp; omega)
      intro v' w1 hown1 hgrow _
      have hb1 : Below B w w1 := (hbel.alloc (by omega) _).grown hgrow (by simp; omega) (fun k hk => (hown'.lt k hk).1)
      have H1 := HE.out
      rw [Pl.enc_lt hlt] at H1
      have HH : Hid (l ++ Pl.enc 9 n = l' ++ [m]) := H1.symm
      clear H1 hown' hgrow hown HE
      go_wp2
      go_ret
      refine ⟨v', rfl, ?_, hb1⟩
      rw [HH.out]
      simpa [u8s] using hown1
    · have hle : m ≤ 18446744073709551615 := by have := Pl.lim_le hf; omega
      have hge : 128 ≤ m := by omega
      have hf1 : ∃ g, f = g + 1 := by
        cases f with
        | zero => simp [Pl.lim] at hm1; omega
        | succ g => exact ⟨g, rfl⟩
      obtain ⟨g, rfl⟩ := hf1
      have hm2 : m / 128 < Pl.lim g := by simp only [Pl.lim] at hm1; omega
      go_wp2_with (at_builtin; refine wpList_append_own _ rfl _ _ 22 rfl B 5 i0 (.int .u8 0) 1 1 Try.underlying22 hi hz0 hz1 hz2 rfl (by decide) _ _ _ rfl (hown'.alloc _) ⟨wr.heap.size, 0, none⟩ 1 1 [.int .u8 (m % 128 + 128)] rfl rfl (cell_one_new _ _ _) ?d2 ?d3 ?d4 ?d5 ?_)
      case d2 => first | rfl | (intro u hu; simp at hu; subst hu; rfl)
      case d3 => unfold maxLen; omega
      case d4 => omega
      case d5 => first | omega | (simp; omega)
      intro v' w1 hown1 hgrow _
      have hb1 : Below B w w1 := (hbel.alloc (by omega) _).grown hgrow (by simp; omega) (fun k hk => (hown'.lt k hk).1)
      have H1 := HE.out
      rw [Pl.enc_ge hge] at H1
      have HH : Hid ((l' ++ [m % 128 + 128]) ++ Pl.enc g (m / 128) = l ++ Pl.enc 9 n) := by show _ = _; rw [← H1]; simp
      have HO : w1.ownsRow B 5 1 v' (l' ++ [m % 128 + 128]).length (u8s (l' ++ [m % 128 + 128])) := by simpa [u8s] using hown1
      clear H1 hown' hgrow hown HE hown1
      go_wp2
      go_roundw
      case rel => exact ⟨g, m / 128, l' ++ [m % 128 + 128], by omega, by omega, hm2, rfl, HO, HH, hb1⟩
      case measure => simp [intOf]; omega
end Go.Proofs.Ytoadcaennlfadaa
