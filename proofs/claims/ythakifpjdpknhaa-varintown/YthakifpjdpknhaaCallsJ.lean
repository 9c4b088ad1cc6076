/- The contract of Spoil: it writes over octets of one's own, and over nothing else. -/
import Derived.Test.YthakifpjdpknhaaCallsI
namespace Go.Proofs.Ythakifpjdpknhaa
open Go.RowKit

theorem grownBy_refl (w : World) (r : Option Nat) : w.grownBy w r := ⟨rfl, rfl, rfl, Nat.le_refl _, fun _ _ _ => rfl⟩
theorem grownBy_trans {a b c : World} {r : Option Nat} (h : a.grownBy b r) (k : b.grownBy c r) : a.grownBy c r :=
  ⟨k.os.trans h.os, k.tape.trans h.tape, k.output.trans h.output, Nat.le_trans h.size k.size, fun i hi hne => (k.block i (Nat.lt_of_lt_of_le hi h.size) hne).trans (h.block i hi hne)⟩

set_option maxHeartbeats 1000000 in
theorem spoil_any (B : Nat) (v : Value) (n : Nat) (xs : List Value) (w : World) (hown : w.ownsRow B 5 1 v n xs) :
    Calls Try.prog 30 #[v] w fun e w' => e = .returned (.tuple #[]) ∧ w.grownBy w' v.ownBlock := by
  rcases id hown.2 with ⟨rfl, rfl⟩ | ⟨g, cap, cur, rfl, hb, hg, hle, hm, hs, ht⟩
  · clear hown
    go_enter Try.func30, Try.ntmps30
    go_wp2
    refine wp_loop_rounds 1 ?_
    rw [rounds_succ]
    go_wp2
    go_end0
    exact ⟨rfl, grownBy_refl _ _⟩
  · clear ht hs hg hb
    unfold maxLen at hm
    go_enter Try.func30, Try.ntmps30
    go_wp2
    go_loopw [2] (fun i wr => ∃ (k : Nat) (ys : List Value), k ≤ n ∧ i = .int .i64 k ∧ wr.ownsRow B 5 1 (.slice (some ⟨g, 0, none⟩) n cap) n ys ∧ w.grownBy wr (some g)) (fun i _ => n - (intOf i).toNat)
    case atStart => exact ⟨0, xs, Nat.zero_le _, rfl, hown, grownBy_refl _ _⟩
    case round =>
      obtain ⟨k, ys, hk, rfl, hr, hgr⟩ := hrel
      by_cases hlt : k < n
      · have hys : ys.length = n := by have := hr.1; omega
        obtain ⟨z, hc⟩ : ∃ z, wr.cell? ⟨g, k, none⟩ = some z := ⟨ys[k]'(by omega), by rw [hr.cellAt k (by omega), List.getElem?_eq_getElem (by omega)]⟩
        have hf := hr.frozenAt k
        have hst := hr.stored k (.int .u8 7)
        have HO := hst.1
        have HG := grownBy_trans hgr hst.2
        clear hst hys hr
        go_wp2
        go_roundw
        case rel => exact ⟨k + 1, _, by omega, by go_num, HO, HG⟩
        case measure => simp [intOf]; omega
      · go_wp2
        go_end0
        exact ⟨rfl, hgr⟩

theorem ownsRow_below {w w' : World} {B : Nat} {e : TypeId} {size : Nat} {v : Value} {n : Nat} {xs : List Value} (h : w.ownsRow B e size v n xs) (hb : Below w.heap.size w w') : w'.ownsRow B e size v n xs :=
  h.kept (row := none) ⟨hb.os, hb.tape, hb.output, hb.size, fun k hk _ => hb.block k hk⟩ (by cases hv : v.ownBlock <;> simp)

/-- What lies in later memory is not touched. -/
theorem ownsRow_spared {w w' : World} {B : Nat} {e : TypeId} {size : Nat} {v : Value} {n : Nat} {xs : List Value} {r : Option Nat} (h : w.ownsRow B e size v n xs) (hg : w.grownBy w' r) (hr : ∀ k, r = some k → k < B) : w'.ownsRow B e size v n xs := by
  refine h.kept hg ?_
  cases hv : v.ownBlock with
  | none => exact .inl rfl
  | some k =>
    refine .inr fun he => ?_
    have h1 := (h.lt k hv).1
    have h2 := hr k he.symm
    omega
end Go.Proofs.Ythakifpjdpknhaa
