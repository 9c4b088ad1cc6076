/- The contract of Unlike. -/
import Derived.Test.YtoadcaennlfadaaCrcB
import Derived.Laws.ShiftsVarLaws
namespace Go.Proofs.Ytoadcaennlfadaa
open Go.RowKit
set_option maxRecDepth 20000

theorem bit_test (t i : Nat) (ht : t < 4294967296) : (bits .and .u32 ((t : Int) / 2 ^ i) 1 == 1) = (t / 2 ^ i % 2 == 1) := by
  have e : (t : Int) / 2 ^ i = ((t / 2 ^ i : Nat) : Int) := by rw [Int.natCast_ediv]; simp
  have hl : t / 2 ^ i < 4294967296 := Nat.lt_of_le_of_lt (Nat.div_le_self _ _) ht
  rw [e, show (1 : Int) = ((1 : Nat) : Int) from rfl, u32_and_nat _ 1 hl (by decide), nat_mask1]
  rcases Nat.mod_two_eq_zero_or_one (t / 2 ^ i) with h | h <;> rw [h] <;> rfl

theorem ownsRow_drew {w : World} {B : Nat} {e : TypeId} {size : Nat} {v : Value} {n : Nat} {xs : List Value} (h : w.ownsRow B e size v n xs) : w.drew.ownsRow B e size v n xs :=
  h.kept (row := none) ⟨rfl, rfl, rfl, Nat.le_refl _, fun _ _ _ => rfl⟩ (by cases hv : v.ownBlock <;> simp)
theorem below_drew {B : Nat} {w w' : World} (h : Below B w w') : Below B w w'.drew := ⟨h.os, h.tape, h.output, h.size, h.block⟩
theorem ownsRow_lower {w : World} {B C : Nat} {e : TypeId} {size : Nat} {v : Value} {n : Nat} {xs : List Value} (h : w.ownsRow B e size v n xs) (hc : C ≤ B) : w.ownsRow C e size v n xs := by
  refine ⟨h.1, ?_⟩
  rcases h.2 with h | ⟨g, cap, cur, hv, hb, r⟩
  · exact .inl h
  · exact .inr ⟨g, cap, cur, hv, Nat.le_trans hc hb, r⟩

theorem flip_val {m : List Int} (ho : Pl.Octs m) (i j : Nat) (hi : i < m.length) : bits .xor .u8 (m[i]'hi) (2 ^ (j % 8) % 256) = (((m.getD i 0).toNat ^^^ 2 ^ (j % 8) : Nat) : Int) := by
  have hm : m.getD i 0 = m[i] := by simp [List.getD, hi]
  rw [hm]
  have h1 := ho m[i] (by simp)
  have h2 : 2 ^ (j % 8) < 2 ^ 8 := Nat.pow_lt_pow_right (by decide) (by omega)
  have e2 : (2 : Int) ^ (j % 8) % 256 = ((2 ^ (j % 8) : Nat) : Int) := by
    have : ((2 ^ (j % 8) : Nat) : Int) = (2 : Int) ^ (j % 8) := by simp
    rw [← this]
    clear this
    generalize 2 ^ (j % 8) = q at h2 ⊢
    omega
  obtain ⟨o, he⟩ : ∃ o : Nat, m[i] = o := ⟨_, (Int.toNat_of_nonneg h1.1).symm⟩
  rw [he] at h1 ⊢
  rw [e2, u8_xor_nat _ _ (by omega) (by omega)]
  simp
theorem ownsRow_flip {w : World} {B g cap n j : Nat} {m : List Int} {z : Int} (HV : Hid (z = (((m.getD (j / 8) 0).toNat ^^^ 2 ^ (j % 8) : Nat) : Int))) (h : w.ownsRow B 5 1 (.slice (some ⟨g, 0, none⟩) n cap) n ((u8s m).set (j / 8) (.int .u8 z))) :
    w.ownsRow B 5 1 (.slice (some ⟨g, 0, none⟩) n cap) n (u8s (Pl.flip m j)) := by
  rw [HV.out] at h
  unfold Pl.flip u8s
  rw [List.map_set]
  exact h

end Go.Proofs.Ytoadcaennlfadaa
