/- waybillref03: Put, behind octets. -/
import Derived.Test.YtoadcaennlfadaaRA
import Derived.Test.YtoadcaennlfadaaMF2
namespace Go.Proofs.Ytoadcaennlfadaa
open Go.RowKit
set_option maxRecDepth 20000

set_option maxHeartbeats 1000000 in
set_option maxRecDepth 4000 in
theorem rput3_any (v u : Value) (l p : List Int) (w : World) (hv : Seg .u8 w v l) (hp : Seg .u8 w u p) (hf : Pl.fits p) (hll : l.length + 4200 ≤ 140737488355328) :
    Calls Try.prog 40 #[v, u] w fun e w' => ∃ v', e = .returned (.tuple #[v', .int .i64 0]) ∧ Seg .u8 w' v' (l ++ Pl.frameOf p) ∧ Below w.heap.size w w' := by
  obtain ⟨hf1, hf2, hoc⟩ := hf
  have hel := Pl.enc_len_le 9 p.length
  have htx := rtexts_any (.slice none 0 0) u [] p w (Seg.nil _ _) hp (by simp; omega)
  have hob : Pl.Octs (Pl.bodyOf p) := Pl.octs_body hoc (by omega)
  have hlt := Pl.sumOf_lt hob
  rw [show ([] : List Int) ++ Pl.enc 9 p.length ++ p = Pl.bodyOf p by simp [Pl.bodyOf]] at htx
  have hbl : (Pl.bodyOf p).length = (Pl.enc 9 p.length).length + p.length := by simp [Pl.bodyOf]
  obtain ⟨ax, cx, hx, hx1, hx2, hx3, hx4⟩ := id hp
  clear hx3 hx4
  generalize hpl : p.length = pn at hx hf1 hf2 hx1
  subst hx
  unfold maxLen at hx2
  have hb0 : ((pn : Int) == 0) = false := by simp; omega
  go_enter Try.func40, Try.ntmps40
  go_wp2_with fail
  refine htx.mono ?_
  rintro e w1 ⟨v1, rfl, hown1, hb1⟩
  go_wp2_with fail
  refine (rsum_any v1 (Pl.bodyOf p) w1 (Seg.own hown1) hob).mono ?_
  rintro e w2 ⟨rfl, rfl⟩
  generalize hce : Pl.sumOf (Pl.bodyOf p) = c at hlt ⊢
  go_wp2_with fail
  refine (copied_any v l w1 (hv.below hb1) (by omega)).mono ?_
  rintro e w3 ⟨v3, rfl, hown3, hb3⟩
  have hP1 := (Part.own hown1).below hb3
  have ha3 := (Since.own hown3).apart (Part.own hown1)
  have htl3 := Till.own hown3
  have hP3 := Part.own hown3
  have hal := (Below.refl w3.heap.size w3).alloc (Nat.le_refl _) (.cells #[.int .u8 ((c : Int) % 256), .int .u8 ((c : Int) / 256 % 256), .int .u8 ((c : Int) / 65536 % 256), .int .u8 ((c : Int) / 16777216)] 5)
  have hs4 := seg_four (w := w3) c hlt
  have hb3' := hb1.trans (hb3.mono hb1.size)
  have hb4 := hb3'.trans (hal.mono hb3'.size)
  have hP1' := hP1.below hal
  have hP3' := hP3.below hal
  have htl3' := htl3.mono hal.size
  have hsi1 := Since.own hown1
  have hsi3 := (Since.own hown3).mono hb1.size
  have hfr : Pl.bodyOf p ++ Pl.four c = Pl.frameOf p := by rw [← hce]; rfl
  have hfl := Pl.frame_len p
  clear hP1 hP3 htl3 hown3 hown1 hb3 hb1
  go_wp2_with (first
    | (at_builtin; refine wpList_append_oct _ rfl (.tmp 22) (.tmp 34) rfl v1 _ (Pl.bodyOf p) (Pl.four c) rfl rfl hP1' hs4 (by rw [Pl.four_len]; omega) ?_; intro v5 w5 hP5 hg5 hm5; rw [hfr] at hP5; have hb5 := below_by hb4 hg5 hb4.size hsi1; have hs5 := hP5.seg; have hP3'' := hP3'.kept hg5 ha3.ne)
    | (at_builtin; refine wpList_append_oct _ rfl (.tmp 21) (.tmp 35) rfl v3 v5 l (Pl.frameOf p) rfl rfl hP3'' hs5 (by omega) ?_; intro v6 w6 hP6 hg6 hm6; have hb6 := below_by hb5 hg6 hb5.size hsi3))
  go_ret2
  exact ⟨v6, rfl, hP6.seg, hb6⟩
end Go.Proofs.Ytoadcaennlfadaa
