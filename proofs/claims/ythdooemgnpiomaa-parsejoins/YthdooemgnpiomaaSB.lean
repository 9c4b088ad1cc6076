/- Are types, methods one? -/
import Derived.Test.YthdooemgnpiomaaSA
namespace Go.Proofs.Ythdooemgnpiomaa
open Go.RowKit

theorem OfC.shape {B : Nat} {w : World} {v : Value} {t : Option Pl.Ty} (h : OfC B w v t) : ∃ ad m cp, v = .slice ad m cp := by
  cases t with
  | none => obtain ⟨cap, rfl⟩ := h; exact ⟨_, _, _, rfl⟩
  | some t => obtain ⟨g, x, y, z, rfl, _⟩ := h; exact ⟨_, _, _, rfl⟩

theorem sameOf (Ba Bb : Nat) : ∀ (t : Pl.Ty) (w : World) (va vb : Value), OfC Ba w va (some t) → OfC Bb w vb (some t) → Calls Try.prog 36 #[va, vb] w fun e w' => e = .returned (.bool true) ∧ Below w.heap.size w w' := by
  have step : ∀ (t : Pl.Ty), (∀ u, inner t = some u → ∀ (w : World) (va vb : Value), OfC Ba w va (some u) → OfC Bb w vb (some u) → Calls Try.prog 36 #[va, vb] w fun e w' => e = .returned (.bool true) ∧ Below w.heap.size w w') → ∀ (w : World) (va vb : Value), OfC Ba w va (some t) → OfC Bb w vb (some t) → Calls Try.prog 36 #[va, vb] w fun e w' => e = .returned (.bool true) ∧ Below w.heap.size w w' := by
    intro t hin w va vb hva hvb
    obtain ⟨ga, x, y, z, rfl, hba, hta⟩ := hva
    obtain ⟨gb, x', y', z', rfl, hbb, htb⟩ := hvb
    obtain ⟨rfl, ⟨s, rfl, hs⟩, hoa⟩ := hta.parts
    obtain ⟨rfl, ⟨s', rfl, hs'⟩, hob⟩ := htb.parts
    have hss : s = s' := bl_inj (hs.trans hs'.symm)
    subst hss
    refine sameTypes_one ga gb 1 1 (kindOf t) s z z' w hba hbb hoa.shape hob.shape (fun W hb => ?_)
    have h1 := hoa.below hb
    have h2 := hob.below hb
    cases hi : inner t with
    | none =>
      rw [hi] at h1 h2
      obtain ⟨c1, rfl⟩ := h1
      obtain ⟨c2, rfl⟩ := h2
      exact sameTypes_none c1 c2 W
    | some u =>
      rw [hi] at h1 h2
      exact hin u hi W z z' h1 h2
  intro t
  induction t with
  | plain k => exact step _ (fun u hu => by simp [inner] at hu)
  | named x => exact step _ (fun u hu => by simp [inner] at hu)
  | list t ih => exact step _ (fun u hu => by simp [inner] at hu; subst hu; exact ih)
  | opt t ih => exact step _ (fun u hu => by simp [inner] at hu; subst hu; exact ih)

set_option maxHeartbeats 4000000 in
set_option maxRecDepth 4000 in
theorem sameType_true (Ba Bb : Nat) (t : Pl.Ty) (w : World) (a b c a' b' c' : Value) (h : TyC Ba t w a b c) (h' : TyC Bb t w a' b' c') : Calls Try.prog 20 #[.agg #[a, b, c], .agg #[a', b', c']] w fun e w' => e = .returned (.bool true) ∧ Below w.heap.size w w' := by
  obtain ⟨k, sn, ad, m, cp, rfl, rfl, rfl⟩ := h.shape
  obtain ⟨k', sn', ad', m', cp', rfl, rfl, rfl⟩ := h'.shape
  have hb1 := below_next (below_alloc w (.cells #[.int .i64 k, .string sn, .slice ad m cp] 46)) (below_alloc _ (.cells #[.int .i64 k', .string sn', .slice ad' m' cp'] 46))
  have hb2 := below_next hb1 (below_alloc _ (.cells #[.int .i64 k, .string sn, .slice ad m cp] 46))
  have hb3 := below_next hb2 (below_alloc _ (.cells #[.int .i64 k', .string sn', .slice ad' m' cp'] 46))
  have hs := sameOf Ba Bb t _ (.slice (some ⟨w.heap.size + 2, 0, none⟩) 1 1) (.slice (some ⟨w.heap.size + 3, 0, none⟩) 1 1) ⟨_, _, _, _, rfl, (Bx.newAt (w := (w.alloc (.cells #[.int .i64 k, .string sn, .slice ad m cp] 46)).alloc (.cells #[.int .i64 k', .string sn', .slice ad' m' cp'] 46)) (g := w.heap.size + 2) (by simp) [.int .i64 k, .string sn, .slice ad m cp] 46).alloc (.cells #[.int .i64 k', .string sn', .slice ad' m' cp'] 46), h.below hb3⟩ ⟨_, _, _, _, rfl, Bx.newAt (by simp) _ _, h'.below hb3⟩
  clear h h'
  go_enter Try.func20, Try.ntmps20
  go_wp2_with fail
  refine hs.mono ?_
  rintro e w5 ⟨rfl, hb5⟩
  go_wp2
  go_ret
  exact ⟨rfl, below_next hb3 hb5⟩
end Go.Proofs.Ythdooemgnpiomaa
