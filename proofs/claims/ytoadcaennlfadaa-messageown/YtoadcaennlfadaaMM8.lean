/- message: what is read, on lists; the method message. -/
import Derived.Test.YtoadcaennlfadaaMM7
namespace Go.Proofs.Ytoadcaennlfadaa
open Go.RowKit
set_option maxRecDepth 20000

def decFs (l : List Int) : List Int → Int → List Int → List Int → List Int × List Int × Int × Int
  | [], p, ns, t => (ns, t, p, 0)
  | f :: r, p, ns, t =>
    if f = 10 then
      (if (Pl.textI l p 1024).2.2 = 0 then decFs l r (Pl.textI l p 1024).2.1 ns (Pl.textI l p 1024).1 else (ns, t, p, (Pl.textI l p 1024).2.2))
    else
      (if (Pl.getI l p).2.2 = 0 then (if (Pl.getI l p).1 ≤ 2147483647 then decFs l r (Pl.getI l p).2.1 (ns.set f.toNat (Pl.getI l p).1) t else (ns, t, p, 4)) else (ns, t, p, (Pl.getI l p).2.2))

def zeros : List Int := [0, 0, 0, 0, 0, 0, 0, 0, 0, 0]
/-- The kind, the numbers, the text, where it ends; the error. -/
def tkm (l : List Int) : (Int × List Int × List Int × Int) × Int :=
  if (Pl.getI l 0).2.2 = 0 then
    (if 1 ≤ (Pl.getI l 0).1 ∧ (Pl.getI l 0).1 ≤ 8 then
      (((Pl.getI l 0).1, (decFs l (usedP (Pl.getI l 0).1) (Pl.getI l 0).2.1 zeros []).1, (decFs l (usedP (Pl.getI l 0).1) (Pl.getI l 0).2.1 zeros []).2.1, (decFs l (usedP (Pl.getI l 0).1) (Pl.getI l 0).2.1 zeros []).2.2.1), (decFs l (usedP (Pl.getI l 0).1) (Pl.getI l 0).2.1 zeros []).2.2.2)
    else ((0, [], [], 0), 23))
  else ((0, [], [], 0), (Pl.getI l 0).2.2)
def mgOf (k : Int) (ns : List Int) : Mg := ⟨k, ns.getD 0 0, ns.getD 1 0, ns.getD 2 0, ns.getD 3 0, ns.getD 4 0, ns.getD 5 0, ns.getD 6 0, ns.getD 7 0, ns.getD 8 0, ns.getD 9 0⟩

theorem textI_ok {l t : List Int} {p q : Int} (ho : ∀ z ∈ l, 0 ≤ z ∧ z ≤ 255) (h : Pl.textI l p 1024 = (t, q, 0)) : p < q ∧ q ≤ l.length ∧ t.length ≤ 1024 ∧ (∀ z ∈ t, 0 ≤ z ∧ z ≤ 255) ∧ 0 ≤ p ∧ ∃ r, l.drop p.toNat = Pl.enc 9 t.length ++ t ++ r ∧ q = p + ((Pl.enc 9 t.length).length : Int) + t.length := by
  obtain ⟨m, s, er, hg⟩ : ∃ m s er, Pl.getI l p = (m, s, er) := ⟨_, _, _, rfl⟩
  unfold Pl.textI at h
  rw [hg] at h
  simp only at h
  by_cases h0 : er = 0
  · subst h0
    rw [if_pos rfl] at h
    by_cases h1 : (1024 : Int) < 0 ∨ 1024 < m
    · rw [if_pos h1] at h; cases h
    rw [if_neg h1] at h
    by_cases h2 : (l.length : Int) - s < m
    · rw [if_pos h2] at h; cases h
    rw [if_neg h2] at h
    obtain ⟨p0, m0, m1, ps, sl, r, hr, hs⟩ := Pl.getI_ok l p m s ho hg
    simp only [Prod.mk.injEq, and_true] at h
    obtain ⟨rfl, rfl⟩ := h
    have hlen : ((l.drop s.toNat).take m.toNat).length = m.toNat := by rw [List.length_take, List.length_drop]; omega
    refine ⟨by omega, by omega, by rw [hlen]; omega, fun z hz => ho z (List.mem_of_mem_drop (List.mem_of_mem_take hz)), p0, (l.drop s.toNat).drop m.toNat, ?_, ?_⟩
    · rw [hlen]
      have hmm : ((m.toNat : Nat) : Int) = m := by omega
      rw [hmm, hr]
      have : l.drop s.toNat = r := by
        have h5 : s.toNat = p.toNat + (Pl.enc 9 m).length := by omega
        rw [h5, ← List.drop_drop, hr]
        simp
      rw [this, List.append_assoc, List.take_append_drop]
    · rw [hlen]
      have hmm : ((m.toNat : Nat) : Int) = m := by omega
      rw [hmm]
      omega
  · rw [if_neg h0] at h
    simp only [Prod.mk.injEq] at h
    exact absurd h.2.2 h0

theorem ret_msg {W : World} {tmps : Array Value} {b : Nat} {x : Mg} {v : Value} (ht : tmps.getD 6 undef = .pointer (some ⟨b, 0, none⟩)) (hB : MBx W b x v) :
    (results Try.f55 tmps).run Try.prog W = .ok (x.val v) W := by
  rw [Array.getD_eq_getD_getElem?] at ht
  obtain ⟨c0, c1, c2, c3, c4, c5, c6, c7, c8, c9, c10, c11⟩ := hB.facts
  simp [results, Try.results55, Mg.val]
  go_simp
theorem ret_take {W : World} {tmps : Array Value} {b : Nat} {x : Mg} {v : Value} (ht : tmps.getD 2 undef = .pointer (some ⟨b, 0, none⟩)) (hB : MBx W b x v) :
    (results Try.f35 tmps).run Try.prog W = .ok (x.val v) W := by
  rw [Array.getD_eq_getD_getElem?] at ht
  obtain ⟨c0, c1, c2, c3, c4, c5, c6, c7, c8, c9, c10, c11⟩ := hB.facts
  simp [results, Try.results35, Mg.val]
  go_simp

set_option maxHeartbeats 2000000 in
theorem message_any (x : Mg) (a : Option Addr) (n c : Nat) (w : World) :
    Calls Try.prog 55 #[.agg #[.int .i64 x.c, .int .i64 x.b, .int .i64 x.i, .int .i64 x.s, .int .i64 x.q, .int .i64 x.m, .int .i64 x.n, .int .i64 x.l, .int .i64 x.o, .int .i64 x.p], .int .i64 x.k, .slice a n c] w fun e w' => e = .returned (x.val (.slice a n c)) ∧ Below w.heap.size w w' := by
  go_enter Try.func55, Try.ntmps55
  go_wp2
  have hB := Bx.new (w.alloc (.cells #[.int .i64 x.c, .int .i64 x.b, .int .i64 x.i, .int .i64 x.s, .int .i64 x.q, .int .i64 x.m, .int .i64 x.n, .int .i64 x.l, .int .i64 x.o, .int .i64 x.p] 83)) (x.cells (.slice a n c)) 24
  have hsz : (w.alloc (.cells #[.int .i64 x.c, .int .i64 x.b, .int .i64 x.i, .int .i64 x.s, .int .i64 x.q, .int .i64 x.m, .int .i64 x.n, .int .i64 x.l, .int .i64 x.o, .int .i64 x.p] 83)).heap.size = w.heap.size + 1 := by simp
  rw [hsz] at hB
  refine bodyPost_ret (ret_msg (b := w.heap.size + 1) (x := x) (v := .slice a n c) rfl hB) rfl ?_
  exact ⟨rfl, (((Below.refl _ w).alloc (Nat.le_refl _) _).alloc (by simp) _)⟩
end Go.Proofs.Ytoadcaennlfadaa
