/- parse: rows are read; alive. -/
import Derived.Test.YthdooemgnpiomaaQZ
namespace Go.Proofs.Ythdooemgnpiomaa
open Go.RowKit

theorem flat_at {α : Type} (m : Nat) (ps : List (α × List Value)) (h : ∀ p ∈ ps, p.2.length = m) (i : Nat) (p : α × List Value) (hi : ps[i]? = some p) (j : Nat) (hj : j < m) : (ps.flatMap Prod.snd)[i * m + j]? = p.2[j]? := by
  induction ps generalizing i with
  | nil => simp at hi
  | cons q ps ih =>
    have hq := h q (by simp)
    rw [List.flatMap_cons]
    cases i with
    | zero =>
      simp at hi
      subst hi
      rw [Nat.zero_mul, Nat.zero_add, List.getElem?_append_left (by omega)]
    | succ i =>
      rw [List.getElem?_cons_succ] at hi
      have e : (i + 1) * m + j = m + (i * m + j) := by rw [Nat.succ_mul]; omega
      rw [e, List.getElem?_append_right (by omega), hq, Nat.add_sub_cancel_left]
      exact ih (fun p hp => h p (by simp [hp])) i hi

theorem Rows.at {α : Type} {T : TypeId} {m : Nat} {R : α → List Value → World → Prop} {B : Nat} {w : World} {v : Value} {xs : List α} (h : Rows T m R B w v xs) {i : Nat} {a : α} (hi : xs[i]? = some a) :
    ∃ g cap c, v = .slice (some ⟨g, 0, none⟩) xs.length cap ∧ xs.length ≤ cap ∧ cap ≤ maxLen ∧ g < w.heap.size ∧ R a c w ∧ c.length = m ∧ ∀ j u, c[j]? = some u → w.cell? ⟨g, i * m + j, none⟩ = some u := by
  obtain ⟨ps, rfl, h2, h3⟩ := h
  rw [List.getElem?_map] at hi
  cases hp : ps[i]? with
  | none => rw [hp] at hi; simp at hi
  | some p =>
    rw [hp] at hi
    simp at hi
    subst hi
    have hil := (List.getElem?_eq_some_iff.1 hp).1
    rcases h3.2 with ⟨_, h0⟩ | ⟨g, cap, cur, rfl, hb, hg, hle, hm, hs, ht⟩
    · omega
    · have hmem := List.mem_of_getElem? hp
      refine ⟨g, cap, p.2, by rw [List.length_map], by rw [List.length_map]; exact hle, hm, lt_of_some hg, (h2 p hmem).1, (h2 p hmem).2, fun j u hu => ?_⟩
      have hj : j < m := by
        have := (List.getElem?_eq_some_iff.1 hu).1
        rw [(h2 p hmem).2] at this
        exact this
      have hlt : i * m + j < ps.length * m := by
        have : (i + 1) * m ≤ ps.length * m := Nat.mul_le_mul_right m hil
        rw [Nat.succ_mul] at this
        omega
      rw [cell_of_row w g _ cur T (0, 0) hg]
      have hf := flat_at m ps (fun p hp => (h2 p hp).2) i p hp j hj
      rw [← ht, List.getElem?_take_of_lt hlt, hu] at hf
      simpa using hf

def sAlive : ByteArray := { data := #[115, 116, 114, 117, 99, 116, 32, 80, 32, 123, 32, 49, 32, 120, 32, 58, 32, 105, 110, 116, 32, 59, 32, 125] }
theorem alive_tok : (tokA sAlive).2.2 = 0 ∧ (tokA sAlive).1.map Pl.kt = [(1, Pl.wStruct), (1, [80]), (3, [123]), (2, [49]), (1, [120]), (3, [58]), (1, Pl.wInt), (3, [59]), (3, [125])] := by decide
theorem alive_decls : Pl.declsP 64 [(1, Pl.wStruct), (1, [80]), (3, [123]), (2, [49]), (1, [120]), (3, [58]), (1, Pl.wInt), (3, [59]), (3, [125])] = .ok [.st [80] [⟨1, [120], .plain 2⟩]] [] := by rfl

set_option maxHeartbeats 8000000 in
set_option maxRecDepth 4000 in
theorem alive_any (w : World) : Calls Try.prog 6 #[] w fun e w' => e = .returned (.bool true) ∧ Below w.heap.size w w' := by
  have ht : Calls Try.prog 10 #[.string sAlive] w fun e w' => ∃ s1 s2 s3, e = .returned (.tuple #[.agg #[s1, s2, s3], .int .i64 0, .int .i64 0]) ∧ SchV w.heap.size [.st [80] [⟨1, [120], .plain 2⟩]] s1 s2 s3 w' ∧ Below w.heap.size w w' := by
    refine (text_any sAlive w).mono ?_
    rintro e w' (h | h)
    · exact absurd alive_tok.1 h.1
    · obtain ⟨_, tl, _, hp⟩ := h
      rw [alive_tok.2, alive_decls] at hp
      exact hp
  unfold sAlive at ht
  go_enter Try.func6, Try.ntmps6
  go_wp2_with fail
  refine ht.mono ?_
  rintro e w1 ⟨s1, s2, s3, rfl, hV, hb⟩
  obtain ⟨a1, c1, a2, c2, a3, c3, h1, h2, h3⟩ := hV.shape
  obtain ⟨g, cap, c, hs, hcl, hcm, hg, ⟨x, ad, m, cp, rfl, hx, hF⟩, -, hc⟩ := hV.1.at (i := 0) (a := ([80], [⟨1, [120], .plain 2⟩])) rfl
  obtain ⟨adf, cpf, hfs⟩ := hF.shape
  injection hfs with _ hm _
  have hm1 : m = 1 := hm
  subst hm1 hs h2 h3
  have hx80 : x = ⟨#[80]⟩ := bl_inj hx
  subst hx80
  have q0 := hc 0 _ rfl
  have q1 := hc 1 _ rfl
  simp only [Nat.zero_mul, Nat.zero_add] at q0 q1
  clear hc hV ht h1 hF hx hm
  generalize hL : (stOf [Pl.Decl.st [80] [⟨1, [120], Pl.Ty.plain 2⟩]]).length = L at *
  have hL1 : L = 1 := by rw [← hL]; rfl
  subst hL1
  clear hL
  generalize (enOf [Pl.Decl.st [80] [⟨1, [120], Pl.Ty.plain 2⟩]]).length = m2
  generalize (svOf [Pl.Decl.st [80] [⟨1, [120], Pl.Ty.plain 2⟩]]).length = m3
  unfold maxLen at hcm
  go_wp2_with (go_at_call 9; refine (num_any _ _).mono ?_; rintro e w2 ⟨rfl, rfl⟩)
  go_ret
  exact ⟨rfl, below_next hb (below_alloc _ _)⟩
end Go.Proofs.Ythdooemgnpiomaa
