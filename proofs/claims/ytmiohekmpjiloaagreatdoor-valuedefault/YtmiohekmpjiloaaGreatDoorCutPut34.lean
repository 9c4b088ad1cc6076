/- value: parts, Size of any value. Values that are wrapped (plain). Check of a value that is wrapped (plain). value: Size of any value. value.Check answers one error. The standard value of a type, plain: it has no error, and is not deep. A schema that has no error: its standard values may be. Values of any make, as they lie in blocks of a kind. The standard value of an enum. Rows of values whose parts lie apart from the row. -/
import Derived.Test.YtmiohekmpjiloaaGreatDoorCutPut33
import Derived.Test.YtmiohekmpjiloaaGreatDoorCutPut29
import Derived.Deep.AppendLies
import Derived.Test.YtmiohekmpjiloaaGreatDoorCutPut23
import Derived.Test.YtmiohekmpjiloaaGreatDoorCutPut22
namespace Go.Proofs.YtmiohekmpjiloaaGreatDoor
open Go.RowKit
set_option maxRecDepth 20000

/-- A value is no deeper than n, and no list of it is long. -/
def DL : Nat → Pl.GV → Prop
  | 0, _ => False
  | n + 1, g => g.l.length ≤ 1000 ∧ ∀ x ∈ g.l, DL n x
/-- A list of values that lies, with as many steps as it is deep. -/
def KR (B : Nat) (x : List Pl.GV) (c : List Value) (w : World) : Prop := ∃ a m cp n, c = [.slice a m cp] ∧ VyS B (n + 1) x w (.slice a m cp) ∧ x.length ≤ 1000 ∧ ∀ y ∈ x, DL n y
theorem KR.bel {B : Nat} {w w' : World} (hb : Below B w w') (x : List Pl.GV) (c : List Value) (h : KR B x c w) : KR B x c w' := by
  obtain ⟨a, m, cp, n, h1, h2, h3⟩ := h
  exact ⟨a, m, cp, n, h1, VyS.bel hb _ _ _ h2, h3⟩
end Go.Proofs.YtmiohekmpjiloaaGreatDoor

namespace Go.Proofs.YtmiohekmpjiloaaGreatDoor
open Go.RowKit
set_option maxRecDepth 20000

theorem emb_one : ∀ (a b : Pl.Ty), Pl.okTy a → Pl.okTy b → Pl.emb a = Pl.emb b → a = b
  | .plain k, .plain m, _, _, h => by simp only [Pl.emb] at h; injection h with h1 _ _; congr 1; omega
  | .plain k, .named y, ha, _, h => by simp only [Pl.emb] at h; injection h with h1 _ _; have := ha.2; omega
  | .plain k, .list b, ha, _, h => by simp only [Pl.emb] at h; injection h with h1 _ _; have := ha.2; omega
  | .plain k, .opt b, ha, _, h => by simp only [Pl.emb] at h; injection h with h1 _ _; have := ha.2; omega
  | .named x, .plain m, _, hb, h => by simp only [Pl.emb] at h; injection h with h1 _ _; have := hb.2; omega
  | .named x, .named y, _, _, h => by simp only [Pl.emb] at h; injection h with _ h2 _; rw [h2]
  | .named x, .list b, _, _, h => by simp only [Pl.emb] at h; injection h with h1 _ _; omega
  | .named x, .opt b, _, _, h => by simp only [Pl.emb] at h; injection h with h1 _ _; omega
  | .list a, .plain m, _, hb, h => by simp only [Pl.emb] at h; injection h with h1 _ _; have := hb.2; omega
  | .list a, .named y, _, _, h => by simp only [Pl.emb] at h; injection h with h1 _ _; omega
  | .list a, .list b, ha, hb, h => by
    simp only [Pl.emb] at h
    injection h with _ _ h3
    injection h3 with h3 _
    rw [emb_one a b ha hb h3]
  | .list a, .opt b, _, _, h => by simp only [Pl.emb] at h; injection h with h1 _ _; omega
  | .opt a, .plain m, _, hb, h => by simp only [Pl.emb] at h; injection h with h1 _ _; have := hb.2; omega
  | .opt a, .named y, _, _, h => by simp only [Pl.emb] at h; injection h with h1 _ _; omega
  | .opt a, .list b, _, _, h => by simp only [Pl.emb] at h; injection h with h1 _ _; omega
  | .opt a, .opt b, ha, hb, h => by
    simp only [Pl.emb] at h
    injection h with _ _ h3
    injection h3 with h3 _
    rw [emb_one a b ha hb h3]

theorem fold_le (m n : Nat) : ∀ (l : List Pl.GV) (d : Nat), d ≤ n → (∀ x ∈ l, 1 + deepV m x.l ≤ n) → l.foldl (deepVF m) d ≤ n
  | [], d, hd, _ => hd
  | x :: l, d, hd, h => by
    rw [List.foldl_cons]
    refine fold_le m n l _ ?_ (fun y hy => h y (List.mem_cons_of_mem _ hy))
    have := h x List.mem_cons_self
    unfold deepVF
    split <;> omega
theorem deep_le (n : Nat) : ∀ (m : Nat) (l : List Pl.GV), (∀ x ∈ l, DV n x) → deepV m l ≤ n := by
  induction n with
  | zero =>
    intro m l h
    cases l with
    | nil => cases m <;> simp [deepV]
    | cons x l => exact (h x List.mem_cons_self).elim
  | succ n ih =>
    intro m l h
    cases m with
    | zero => exact Nat.zero_le _
    | succ m =>
      rw [deepV_succ]
      refine fold_le m (n + 1) l 0 (Nat.zero_le _) (fun x hx => ?_)
      have := ih m x.l (h x hx)
      omega
theorem DV.up {n : Nat} : ∀ {g : Pl.GV}, DV n g → DV (n + 1) g := by
  induction n with
  | zero => intro g h; exact h.elim
  | succ n ih => intro g h x hx; exact ih (h x hx)
end Go.Proofs.YtmiohekmpjiloaaGreatDoor

namespace Go.Proofs.YtmiohekmpjiloaaGreatDoor
open Go.RowKit
set_option maxRecDepth 20000

end Go.Proofs.YtmiohekmpjiloaaGreatDoor

namespace Go.Proofs.YtmiohekmpjiloaaGreatDoor
open Go.RowKit
set_option maxRecDepth 20000

/-- What is left to go over. -/
structure SizI (B : Nat) (W : Nat) (acc kk : Nat) (v : Value) (xs : List (List Pl.GV)) (wr : World) : Prop where
  rows : Rows 31 1 (KR B) W wr v xs
  len : kk = xs.length
  pos : ∀ x ∈ xs, 0 < x.length

end Go.Proofs.YtmiohekmpjiloaaGreatDoor

namespace Go.Proofs.YtmiohekmpjiloaaGreatDoor
open Go.RowKit
set_option maxRecDepth 20000

theorem CkE.det {E : Int} {D : Option Sc} {gt : Pl.GT} {g : Pl.GV} {R R' : Int} (h : CkE E D gt g R) (h' : CkE E D gt g R') : R = R' := by
  rcases h with ⟨h1, h2⟩ | ⟨h1, h2, h3⟩ | ⟨h1, st, en, sv, t, h3, h4, h5, h6, h7⟩ <;> rcases h' with ⟨k1, k2⟩ | ⟨k1, k2, k3⟩ | ⟨k1, st', en', sv', t', k3, k4, k5, k6, k7⟩
  · omega
  · omega
  · omega
  · omega
  · omega
  · exact absurd (by rw [k4]; exact Pl.shape_emb t' k5 k6) h2
  · omega
  · exact absurd (by rw [h4]; exact Pl.shape_emb t h5 h6) k2
  · rw [h3] at k3
    injection k3 with k3
    injection k3 with q1 k3
    injection k3 with q2 q3
    subst q1 q2 q3
    rw [h4] at k4
    have := emb_one _ _ h5 k5 k4
    subst this
    rw [h7, k7]
theorem Check_is {E : Int} {D : Option Sc} {gt : Pl.GT} {g : Pl.GV} {R : Int} (hR : CkE E D gt g R) (B : Nat) (s1 s2 s3 : Value) (k : Int) (s : ByteArray) (ao : Option Addr) (mo co : Nat) (a1 : Option Addr) (m1 c1 : Nat) (w : World) (hS : ScOk w s1 s2 s3 E D) (ht : Tab w.heap.size w) (hL : Ly w.heap.size 99 gt w (.int .i64 k) (.string s) (.slice ao mo co)) (hV : VyS B 65552 g.l w (.slice a1 m1 c1)) (hB : B ≤ w.heap.size) :
    Calls Tryz.prog 20 #[.agg #[s1, s2, s3], .agg #[.int .i64 k, .string s, .slice ao mo co], .agg #[.int .i64 g.i, .int .u64 g.u, .string g.t, .slice a1 m1 c1]] w fun e w' => e = .returned (.int .i64 R) ∧ Below w.heap.size w w' := by
  refine (Check_value E D gt B g s1 s2 s3 k s ao mo co a1 m1 c1 w hS ht hL hV hB).mono ?_
  rintro e w' ⟨R', h1, h2, h3⟩
  rw [hR.det h1]
  exact ⟨h2, h3⟩
theorem VyS.le {B m n : Nat} (h : m ≤ n) : ∀ (l : List Pl.GV) (w : World) (v : Value), VyS B n l w v → VyS B m l w v := by
  obtain ⟨d, rfl⟩ := Nat.exists_eq_add_of_le h
  clear h
  induction d with
  | zero => intro l w v h; exact h
  | succ d ih => intro l w v h; exact ih l w v (VyS.less _ _ _ _ h)
end Go.Proofs.YtmiohekmpjiloaaGreatDoor

namespace Go.Proofs.YtmiohekmpjiloaaGreatDoor
open Go.RowKit
set_option maxRecDepth 20000

/-- The standard value of a type, so many steps down. -/
def stdV (st : List (List Nat × List Pl.Fld)) (en : List (List Nat × List Pl.Cas)) (f : List Nat → Int × Int) : Nat → Pl.Ty → Pl.GV
  | 0, _ => zeroV
  | n + 1, t => if kindM f t = 10 then .node (((cassM en f t)[0]?).map (fun c => (c.num : Int)) |>.getD 0) 0 ⟨#[]⟩ []
    else if kindM f t = 9 then .node 0 0 ⟨#[]⟩ ((fldsM st f t).map fun d => stdV st en f n d.ty) else zeroV
/-- A type's rank: its struct's, or 0. -/
def rkT (f : List Nat → Int × Int) (r : Nat → Nat) : Pl.Ty → Nat
  | .named x => if (f x).1 = 1 then r (f x).2.toNat else 0
  | _ => 0
theorem parts_map {α : Type} (F : Nat → Pl.GV → Int) (G : α → Pl.GV) : ∀ (l : List α) (j : Nat), (∀ (i : Nat) (d : α), l[i]? = some d → F (j + i) (G d) = 0) → partsV F j (l.map G) = 0
  | [], _, _ => rfl
  | d :: l, j, h => by
    have h0 : F j (G d) = 0 := h 0 d rfl
    rw [List.map_cons, partsV, if_pos h0]
    refine parts_map F G l (j + 1) fun i e he => ?_
    have := h (i + 1) e (by simpa using he)
    rwa [show j + 1 + i = j + (i + 1) by omega]
theorem own_zeroV (κ : Int) (hκ : κ ≠ 10 ∧ κ ≠ 9) (fs : List Pl.Fld) (cs : List Pl.Cas) : ownE κ fs cs zeroV = 0 := by
  have h1 : unusedG κ zeroV = zeroV := by
    unfold unusedG zeroV
    simp [uI, uU, uT, Pl.GV.i, Pl.GV.u, Pl.GV.t, Pl.GV.l]
  have h2 : tooL κ zeroV.t.size zeroV.l.length = false := by simp [tooL, zeroV, Pl.GV.t, Pl.GV.l, ByteArray.size]
  have h3 : rangeB κ cs zeroV.i zeroV.t = true := by
    unfold rangeB
    split
    · simp [zeroV, Pl.GV.i]
    · split
      · exact absurd (by assumption) hκ.1
      · split <;> simp [zeroV, Pl.GV.t]
  have h4 : wholeB κ fs.length zeroV.l.length = true := by
    unfold wholeB
    split
    · simp [zeroV, Pl.GV.l]
    · split
      · exact absurd (by assumption) hκ.2
      · rfl
  unfold ownE
  rw [h1, h2, h3, h4, (ord_val 65536).self]
  simp
theorem own_enum (fs : List Pl.Fld) (c : Pl.Cas) (cs : List Pl.Cas) : ownE 10 fs (c :: cs) (.node (c.num : Int) 0 ⟨#[]⟩ []) = 0 := by
  have h1 : unusedG 10 (.node (c.num : Int) 0 ⟨#[]⟩ []) = zeroV := by simp [unusedG, uI, uU, uT, zeroV, Pl.GV.u, Pl.GV.t, Pl.GV.l]
  unfold ownE
  rw [h1, (ord_val 65536).self]
  simp [tooL, rangeB, wholeB, Pl.GV.i, Pl.GV.t, Pl.GV.l, ByteArray.size]
theorem own_struct (fs : List Pl.Fld) (cs : List Pl.Cas) (l : List Pl.GV) (h : l.length = fs.length) : ownE 9 fs cs (.node 0 0 ⟨#[]⟩ l) = 0 := by
  have h1 : unusedG 9 (.node 0 0 ⟨#[]⟩ l) = zeroV := by simp [unusedG, uI, uU, uT, zeroV, Pl.GV.i, Pl.GV.u, Pl.GV.t]
  unfold ownE
  rw [h1, (ord_val 65536).self]
  simp [tooL, rangeB, wholeB, Pl.GV.t, Pl.GV.l, ByteArray.size, h]
theorem kind_named (f : List Nat → Int × Int) (t : Pl.Ty) (h : kindM f t = 9) (hk : Pl.okTy t) : ∃ x, t = .named x ∧ (f x).1 = 1 := by
  cases t with
  | named x =>
    refine ⟨x, rfl, ?_⟩
    simp only [kindM] at h
    by_cases h1 : (f x).1 = 1
    · exact h1
    · rw [if_neg h1] at h
      split at h <;> omega
  | plain k => exfalso; simp only [kindM, kindOf] at h; have : 1 ≤ k ∧ k ≤ 5 := hk; omega
  | list t => simp [kindM, kindOf] at h
  | opt t => simp [kindM, kindOf] at h
theorem kind_enum (f : List Nat → Int × Int) (t : Pl.Ty) (h : kindM f t = 10) (hk : Pl.okTy t) : ∃ x, t = .named x ∧ (f x).1 = 2 := by
  cases t with
  | named x =>
    refine ⟨x, rfl, ?_⟩
    simp only [kindM] at h
    by_cases h1 : (f x).1 = 1
    · rw [if_pos h1] at h; omega
    · rw [if_neg h1] at h
      by_cases h2 : (f x).1 = 2
      · exact h2
      · rw [if_neg h2] at h; omega
  | plain k => exfalso; simp only [kindM, kindOf] at h; have : 1 ≤ k ∧ k ≤ 5 := hk; omega
  | list t => simp [kindM, kindOf] at h
  | opt t => simp [kindM, kindOf] at h
/-- What the standard value wants of a schema: ranks, and an enum's first case. -/
structure StdOk (st : List (List Nat × List Pl.Fld)) (en : List (List Nat × List Pl.Cas)) (f : List Nat → Int × Int) (r : Nat → Nat) : Prop where
  str : ∀ x, (f x).1 = 1 → ∃ a, st[(f x).2.toNat]? = some a ∧ 1 ≤ r (f x).2.toNat ∧ r (f x).2.toNat ≤ 8 ∧ ∀ d ∈ a.2, Pl.okTy d.ty ∧ rkT f r d.ty < r (f x).2.toNat
  enm : ∀ x, (f x).1 = 2 → cassM en f (.named x) ≠ []
theorem std_good {st : List (List Nat × List Pl.Fld)} {en : List (List Nat × List Pl.Cas)} {f : List Nat → Int × Int} {r : Nat → Nat} (H : StdOk st en f r) : ∀ (n m : Nat) (t : Pl.Ty), Pl.okTy t → rkT f r t < n → valE st en f m t (stdV st en f n t) = 0 := by
  intro n
  induction n with
  | zero => intro m t _ h; omega
  | succ n ih =>
    intro m t ho h
    cases m with
    | zero => rfl
    | succ m =>
      rw [valE, stdV]
      by_cases h10 : kindM f t = 10
      · rw [if_pos h10]
        obtain ⟨x, rfl, hx⟩ := kind_enum f t h10 ho
        cases hc : cassM en f (.named x) with
        | nil => exact absurd hc (H.enm x hx)
        | cons c cs =>
          have := own_enum (fldsM st f (.named x)) c cs
          rw [h10]
          simp only [List.getElem?_cons_zero, Option.map_some, Option.getD_some]
          rw [if_pos this]
          rfl
      · rw [if_neg h10]
        by_cases h9 : kindM f t = 9
        · rw [if_pos h9]
          obtain ⟨x, rfl, hx⟩ := kind_named f t h9 ho
          obtain ⟨a, ha, hr1, hr8, hfl⟩ := H.str x hx
          have hfs : fldsM st f (.named x) = a.2 := by simp only [fldsM, if_pos hx, ha, Option.getD_some]
          rw [h9, if_pos (own_struct _ _ _ (by simp))]
          have hrk : rkT f r (.named x) = r (f x).2.toNat := by simp only [rkT, if_pos hx]
          refine parts_map _ _ _ 0 fun i d hd => ?_
          rw [hfs] at hd ⊢
          have hm := List.mem_of_getElem? hd
          obtain ⟨q1, q2⟩ := hfl d hm
          have hp : partT a.2 (.named x) (0 + i) = d.ty := by simp [partT, hd]
          rw [hp]
          exact ih m d.ty q1 (by omega)
        · rw [if_neg h9, if_pos (own_zeroV _ ⟨h10, h9⟩ _ _)]
          rfl
theorem std_deep {st : List (List Nat × List Pl.Fld)} {en : List (List Nat × List Pl.Cas)} {f : List Nat → Int × Int} {r : Nat → Nat} (H : StdOk st en f r) : ∀ (n : Nat) (t : Pl.Ty), Pl.okTy t → rkT f r t < n → DV n (stdV st en f n t) := by
  intro n
  induction n with
  | zero => intro t _ h; omega
  | succ n ih =>
    intro t ho h x hx
    rw [stdV] at hx
    by_cases h10 : kindM f t = 10
    · rw [if_pos h10] at hx; exact absurd hx (by simp [Pl.GV.l])
    · rw [if_neg h10] at hx
      by_cases h9 : kindM f t = 9
      · rw [if_pos h9] at hx
        obtain ⟨y, rfl, hy⟩ := kind_named f t h9 ho
        obtain ⟨a, ha, hr1, hr8, hfl⟩ := H.str y hy
        have hfs : fldsM st f (.named y) = a.2 := by simp only [fldsM, if_pos hy, ha, Option.getD_some]
        have hrk : rkT f r (.named y) = r (f y).2.toNat := by simp only [rkT, if_pos hy]
        rw [hfs] at hx
        obtain ⟨d, hd, rfl⟩ := List.mem_map.1 (show x ∈ a.2.map fun d => stdV st en f n d.ty from hx)
        obtain ⟨q1, q2⟩ := hfl d hd
        exact ih d.ty q1 (by omega)
      · rw [if_neg h9] at hx; exact absurd hx (by simp [zeroV, Pl.GV.l])
/-- The standard value has no error, and is within the bound. -/
theorem std_is {st : List (List Nat × List Pl.Fld)} {en : List (List Nat × List Pl.Cas)} {sv : List (List Nat × List Pl.Mth)} {r : Nat → Nat} (H : StdOk st en (fnd st en sv) r) (t : Pl.Ty) (ho : Pl.okTy t) (hd : Pl.tyD t ≤ 8) (hk : kindM (fnd st en sv) (inmost t) ≠ 8) : CkE 0 (some (st, en, sv)) (Pl.emb t) (stdV st en (fnd st en sv) 9 t) 0 := by
  have hr : rkT (fnd st en sv) r t < 9 := by
    cases t with
    | named x =>
      simp only [rkT]
      split
      · obtain ⟨a, _, _, h8, _⟩ := H.str x (by assumption); omega
      · omega
    | _ => simp [rkT]
  have h1 := deep_le 9 17 [stdV st en (fnd st en sv) 9 t] (by intro x hx; rw [List.mem_singleton.1 hx]; exact std_deep H 9 t ho hr)
  refine .inr (.inr ⟨rfl, st, en, sv, t, rfl, rfl, ho, hd, ?_⟩)
  rw [if_neg hk, if_neg (by omega), std_good H 9 16 t ho hr]
end Go.Proofs.YtmiohekmpjiloaaGreatDoor

namespace Go.Proofs.YtmiohekmpjiloaaGreatDoor
open Go.RowKit
set_option maxRecDepth 20000

theorem enums_zero : ∀ {en : List (List Nat × List Pl.Cas)}, enumsE en = 0 → ∀ a ∈ en, 0 < a.2.length
  | [], _, a, ha => by cases ha
  | x :: r, h, a, ha => by
    obtain ⟨h1, h2⟩ := then_zero h
    rcases List.mem_cons.1 ha with rfl | ha
    · by_cases h0 : 0 < a.2.length
      · exact h0
      · rw [if_neg h0] at h1; omega
    · exact enums_zero (then_zero h2).2 a ha
theorem fnd_enum {st : List (List Nat × List Pl.Fld)} {en : List (List Nat × List Pl.Cas)} {sv : List (List Nat × List Pl.Mth)} {x : List Nat} (h : (fnd st en sv x).1 = 2) : ∃ (i : Nat) (a : List Nat × List Pl.Cas), en[i]? = some a ∧ (fnd st en sv x).2 = (i : Int) := by
  unfold fnd at h ⊢
  by_cases h0 : 0 ≤ idxF (nmIs x) st 0
  · rw [if_pos h0] at h; simp at h
  · rw [if_neg h0] at h ⊢
    by_cases h1 : 0 ≤ idxF (nmIs x) en 0
    · rw [if_pos h1]
      obtain ⟨i, a, e1, e2, e3⟩ := idxF_at _ _ _ h1
      exact ⟨i, a, e1, by simpa using e3⟩
    · rw [if_neg h1] at h
      split at h <;> simp at h
theorem rest_of {st : List (List Nat × List Pl.Fld)} {en : List (List Nat × List Pl.Cas)} {sv : List (List Nat × List Pl.Mth)} (h : allE st en sv = 0) : ∃ f, restE st en sv f = 0 := by
  unfold allE at h
  cases h1 : meetF 1 (st.map Prod.fst) (fun _ => 0) with
  | none => rw [h1] at h; simp at h
  | some f1 =>
    rw [h1] at h
    simp only at h
    cases h2 : meetF 2 (en.map Prod.fst) f1 with
    | none => rw [h2] at h; simp at h
    | some f2 =>
      rw [h2] at h
      simp only at h
      cases h3 : meetF 3 (sv.map Prod.fst) f2 with
      | none => rw [h3] at h; simp at h
      | some f =>
        rw [h3] at h
        exact ⟨f, h⟩
theorem stdok_of {st : List (List Nat × List Pl.Fld)} {en : List (List Nat × List Pl.Cas)} {sv : List (List Nat × List Pl.Mth)} (h : allE st en sv = 0) (hok : ∀ d ∈ Pl.inOrder st en sv, Pl.okDecl d) : ∃ r, StdOk st en (fnd st en sv) r := by
  obtain ⟨f, hf⟩ := rest_of h
  obtain ⟨_, h2⟩ := then_zero hf
  obtain ⟨hen, h3⟩ := then_zero h2
  obtain ⟨_, h4⟩ := then_zero h3
  obtain ⟨hdp, _⟩ := then_zero h4
  have hdp' : mAll mDepth (fnd st en sv) st (List.range st.length) (fun _ => none) = true := by
    by_cases hm : mAll mDepth (fnd st en sv) st (List.range st.length) (fun _ => none) = true
    · exact hm
    · rw [if_neg hm] at hdp; omega
  obtain ⟨r, hr⟩ := rank_of hdp'
  refine ⟨r, fun x hx => ?_, fun x hx => ?_⟩
  · obtain ⟨i, a, h1, _, h3⟩ := fnd_one hx
    have e : (fnd st en sv x).2.toNat = i := by rw [h3]; simp
    rw [e]
    obtain ⟨r1, r2, r3⟩ := hr i a h1
    refine ⟨a, h1, r1, r2, fun d hd => ?_⟩
    obtain ⟨_, _, q3⟩ := hok (Pl.mkSt a) (List.mem_append_left _ (List.mem_append_left _ (List.mem_map_of_mem (List.mem_of_getElem? h1))))
    refine ⟨(q3 d hd).2.2.1, ?_⟩
    cases ht : d.ty with
    | named y =>
      simp only [rkT]
      by_cases hy : (fnd st en sv y).1 = 1
      · rw [if_pos hy]; exact r3 d hd y ht hy
      · rw [if_neg hy]; omega
    | _ => simp only [rkT]; omega
  · obtain ⟨i, a, h1, h2⟩ := fnd_enum hx
    have e : (fnd st en sv x).2.toNat = i := by rw [h2]; simp
    have h3 : cassM en (fnd st en sv) (.named x) = a.2 := by
      simp only [cassM]
      rw [if_neg (by omega), if_pos hx, e, h1]
      rfl
    rw [h3]
    intro h0
    have := enums_zero hen a (List.mem_of_getElem? h1)
    rw [h0] at this
    simp at this
end Go.Proofs.YtmiohekmpjiloaaGreatDoor

namespace Go.Proofs.YtmiohekmpjiloaaGreatDoor
open Go.RowKit
set_option maxRecDepth 20000

/-- Values of any make lie in a slice, so many steps down; their rows lie in blocks of a kind. -/
def VyP (P : Nat → Prop) : Nat → List Pl.GV → World → Value → Prop
  | 0, _, _, v => ∃ ad m cp, v = .slice ad m cp
  | n + 1, l, w, v => ∃ ad cp, v = .slice ad l.length cp ∧ l.length ≤ 9223372036854775807 ∧ ∀ i g, l[i]? = some g → ∃ blk off o, ad = some ⟨blk, off, none⟩ ∧ P blk ∧
      w.cell? ⟨blk, off + i * 4, none⟩ = some (.int .i64 g.i) ∧ w.cell? ⟨blk, off + i * 4 + 1, none⟩ = some (.int .u64 g.u) ∧ w.cell? ⟨blk, off + i * 4 + 2, none⟩ = some (.string g.t) ∧ w.cell? ⟨blk, off + i * 4 + 3, none⟩ = some o ∧ VyP P n g.l w o
theorem VyP.keep {P Q : Nat → Prop} {w w' : World} (hQ : ∀ b, P b → Q b) (hc : ∀ b, P b → ∀ p, w'.cell? ⟨b, p, none⟩ = w.cell? ⟨b, p, none⟩) : ∀ (n : Nat) (l : List Pl.GV) (v : Value), VyP P n l w v → VyP Q n l w' v := by
  intro n
  induction n with
  | zero => intro l v h; exact h
  | succ n ih =>
    rintro l v ⟨ad, cp, h1, h2, h3⟩
    refine ⟨ad, cp, h1, h2, fun i g hg => ?_⟩
    obtain ⟨blk, off, o, q1, q2, q3, q4, q5, q6, q7⟩ := h3 i g hg
    exact ⟨blk, off, o, q1, hQ _ q2, (hc _ q2 _).trans q3, (hc _ q2 _).trans q4, (hc _ q2 _).trans q5, (hc _ q2 _).trans q6, ih _ _ q7⟩
theorem VyP.vys {P : Nat → Prop} {B : Nat} {w : World} (hP : ∀ b, P b → b < B) : ∀ (n : Nat) (l : List Pl.GV) (v : Value), VyP P n l w v → VyS B n l w v := by
  intro n
  induction n with
  | zero => intro l v h; exact h
  | succ n ih =>
    rintro l v ⟨ad, cp, h1, h2, h3⟩
    refine ⟨ad, cp, h1, h2, fun i g hg => ?_⟩
    obtain ⟨blk, off, o, q1, q2, q3, q4, q5, q6, q7⟩ := h3 i g hg
    exact ⟨blk, off, o, q1, hP _ q2, q3, q4, q5, q6, ih _ _ q7⟩
theorem VyP.nil (P : Nat → Prop) (n : Nat) (w : World) : VyP P n [] w (.slice none 0 0) := by
  cases n with
  | zero => exact ⟨_, _, _, rfl⟩
  | succ n => exact ⟨none, 0, rfl, Nat.zero_le _, fun i g hg => by simp at hg⟩
theorem VyP.shape {P : Nat → Prop} {n : Nat} {l : List Pl.GV} {w : World} {v : Value} (h : VyP P n l w v) : ∃ ad m cp, v = .slice ad m cp := by
  cases n with
  | zero => exact h
  | succ n => obtain ⟨ad, cp, h1, _⟩ := h; exact ⟨ad, _, cp, h1⟩
end Go.Proofs.YtmiohekmpjiloaaGreatDoor

namespace Go.Proofs.YtmiohekmpjiloaaGreatDoor
open Go.RowKit
set_option maxRecDepth 20000

set_option maxHeartbeats 16000000 in
theorem std_enum (st : List (List Nat × List Pl.Fld)) (en : List (List Nat × List Pl.Cas)) (sv : List (List Nat × List Pl.Mth)) (hl : st.length ≤ 1000 ∧ en.length ≤ 1000 ∧ sv.length ≤ 1000) (s1 s2 s3 : Value) (x : ByteArray) (i : Nat) (a : List Nat × List Pl.Cas) (hi : en[i]? = some a) (hf : fnd st en sv (bl x) = (2, (i : Int))) (d : Pl.Cas) (hfl : a.2[0]? = some d) (ao : Option Addr) (mo co : Nat) (w : World) (hS : SchG st en sv s1 s2 s3 w) :
    Calls Tryz.prog 30 #[.agg #[s1, s2, s3], .agg #[.int .i64 8, .string x, .slice ao mo co]] w fun e w' => e = .returned (.agg #[.int .i64 (d.num : Int), .int .u64 0, .string ⟨#[]⟩, .slice none 0 0]) ∧ Below w.heap.size w w' := by
  obtain ⟨a1, c1, a2, c2, a3, c3, rfl, rfl, rfl⟩ := hS.shape
  obtain ⟨w4, hw4⟩ : ∃ w4, w4 = (((w.alloc (.cells #[.slice a1 st.length c1, .slice a2 en.length c2, .slice a3 sv.length c3] 65)).alloc (.cells #[.int .i64 8, .string x, .slice ao mo co] 29)).alloc (.cells #[.int .i64 0, .int .u64 0, .string ⟨#[]⟩, .slice none 0 0] 33)).alloc (.cells #[.int .i64 0, .int .u64 0, .string ⟨#[]⟩, .slice none 0 0] 33) := ⟨_, rfl⟩
  have hb1 := below_alloc w (.cells #[.slice a1 st.length c1, .slice a2 en.length c2, .slice a3 sv.length c3] 65)
  have hb2 := below_next hb1 (below_alloc _ (.cells #[.int .i64 8, .string x, .slice ao mo co] 29))
  have hb3 := below_next hb2 (below_alloc _ (.cells #[.int .i64 0, .int .u64 0, .string ⟨#[]⟩, .slice none 0 0] 33))
  have hb4 := below_next hb3 (below_alloc _ (.cells #[.int .i64 0, .int .u64 0, .string ⟨#[]⟩, .slice none 0 0] 33))
  have hB1 : Bx w4 w.heap.size [.slice a1 st.length c1, .slice a2 en.length c2, .slice a3 sv.length c3] 65 := by rw [hw4]; exact (((Bx.new w _ _).below (below_alloc _ _)).below (below_alloc _ _)).below (below_alloc _ _)
  have hB3 : Bx w4 (w.heap.size + 1 + 1) [.int .i64 0, .int .u64 0, .string ⟨#[]⟩, .slice none 0 0] 33 := by rw [hw4]; exact (Bx.newAt (by simp) _ _).below (below_alloc _ _)
  have hB4 : Bx w4 (w.heap.size + 1 + 1 + 1) [.int .i64 0, .int .u64 0, .string ⟨#[]⟩, .slice none 0 0] 33 := by rw [hw4]; exact Bx.newAt (by simp) _ _
  rw [← hw4] at hb4
  have HM := hid (mean_named st en sv hl _ _ _ x ao mo co w4 (hS.below hb4))
  have HB1 := hid hB1
  have HB3 := hid hB3
  have HB4 := hid hB4
  have HB := hid hb4
  have HW4 := hid hw4
  have HFL := hid hfl
  have HF := hid hf
  have HI := hid hi
  obtain ⟨M, hM⟩ : ∃ M, M = a.2.length := ⟨_, rfl⟩
  have HMM := hid hM
  clear hb1 hb2 hb3 hb4 hB1 hB3 hB4 hw4 hfl hf hi hS hl
  generalize st.length = l1 at *
  generalize en.length = l2 at *
  generalize sv.length = l3 at *
  clear hM
  go_enter Tryz.func30, Tryz.ntmps30
  go_wp2_with fail
  rw [← HW4.out]
  refine HM.out.mono ?_
  rintro e w5 ⟨k, f, c, rfl, hmn, hb5⟩
  unfold MeanN at hmn
  rw [if_neg (by rw [HF.out]; simp), if_pos (by rw [HF.out])] at hmn
  obtain ⟨i', a', hi', _, hfi, rfl, rfl, hr⟩ := hmn
  rw [HF.out] at hfi
  obtain rfl : i = i' := by simp only at hfi; omega
  rw [HI.out] at hi'
  cases hi'
  obtain ⟨af, cf, rfl⟩ := hr.shape
  rw [← HMM.out] at hr ⊢
  obtain ⟨g, off, cap, cc, hv, hg, hcas, hcell⟩ := Rw.at hr HFL.out
  injection hv with e1 e2 e3
  subst e1
  clear e2 e3
  obtain ⟨cn, rfl, _⟩ := hcas
  have hM0 : 0 < M := by
    rw [HMM.out]
    have := (List.getElem?_eq_some_iff.1 HFL.out).1
    omega
  obtain ⟨w6, hw6⟩ : ∃ w6, w6 = w5.alloc (.cells #[.int .i64 10, .string x, .slice ao mo co, .slice none 0 0, .slice (some ⟨g, off, none⟩) M cf] 97) := ⟨_, rfl⟩
  have hb56 : Below w5.heap.size w5 w6 := by rw [hw6]; exact below_alloc w5 _
  have hb6 := below_next hb5 hb56
  have k1 := (hb56.cell hg).trans (hcell 1 _ rfl)
  have hX := HB4.out.below hb6
  have hY := HB3.out.below hb6
  have z0 := hX.cell 0 rfl
  have z1 := hX.cell 1 rfl
  have z2 := hX.cell 2 rfl
  have z3 := hX.cell 3 rfl
  have zf := hX.frozen
  have u0 := hY.cell 0 rfl
  have u1 := hY.cell 1 rfl
  have u2 := hY.cell 2 rfl
  have u3 := hY.cell 3 rfl
  have uf := hY.frozen
  simp only [Nat.zero_mul, Nat.add_zero] at k1
  have hX' := hX.set 0 (.int .i64 (d.num : Int))
  have hY' : Bx (w6.setCell ⟨w.heap.size + 1 + 1 + 1, 0, none⟩ (.int .i64 (d.num : Int))) (w.heap.size + 1 + 1) [.int .i64 0, .int .u64 0, .string ⟨#[]⟩, .slice none 0 0] 33 := hY.ch (X := Xo (w.heap.size + 1 + 1 + 1)) (Ch.set hX rfl _) (show ¬ w.heap.size + 1 + 1 = w.heap.size + 1 + 1 + 1 by omega)
  have HR := hid ((((hY'.set 0 (.int .i64 (d.num : Int))).set 1 (.int .u64 0)).set 2 (.string ⟨#[]⟩)).set 3 (.slice none 0 0))
  have hbn := below_next HB.out hb6
  have HBF := hid (((((hbn.setCell (p := ⟨w.heap.size + 1 + 1 + 1, 0, none⟩) (by simp only; omega) (.int .i64 (d.num : Int))).setCell (p := ⟨w.heap.size + 1 + 1, 0, none⟩) (by simp only; omega) (.int .i64 (d.num : Int))).setCell (p := ⟨w.heap.size + 1 + 1, 1, none⟩) (by simp only; omega) (.int .u64 0)).setCell (p := ⟨w.heap.size + 1 + 1, 2, none⟩) (by simp only; omega) (.string ⟨#[]⟩)).setCell (p := ⟨w.heap.size + 1 + 1, 3, none⟩) (by simp only; omega) (.slice none 0 0))
  clear hcell hr hb5 hb56 hX hY hX' hY' hbn hb6 HW4 HB3 HB4 HB HMM HI HF HFL
  subst hw6
  go_wp2_with fail
  exact bodyPost_ret (ret_std rfl (HR.out.cell 0 rfl) (HR.out.cell 1 rfl) (HR.out.cell 2 rfl) (HR.out.cell 3 rfl)) rfl ⟨rfl, HBF.out⟩
end Go.Proofs.YtmiohekmpjiloaaGreatDoor

namespace Go.Proofs.YtmiohekmpjiloaaGreatDoor
open Go.RowKit
set_option maxRecDepth 20000

theorem ty_not {w : World} {b p : Nat} {s fn : ByteArray} {ad : Option Addr} {m cp : Nat} {i n q : Int} {T : TypeId} (h : Bx w b [.int .i64 i, .int .u64 n, .string s, .slice ad m cp] T) (h0 : w.cell? ⟨b, p, none⟩ = some (.int .i64 q)) (h1 : w.cell? ⟨b, p + 1, none⟩ = some (.string fn)) : False := by
  rw [cell_of_row w b p _ T (0, 0) h] at h0
  rw [cell_of_row w b (p + 1) _ T (0, 0) h] at h1
  rcases p with _ | _ | _ | _ | p <;> simp at h0 h1
/-- A type lies as it lay, where nothing but the box of a value has changed. -/
theorem TyG.chX {w w' : World} {b0 : Nat} {i n : Int} {s0 : ByteArray} {ad : Option Addr} {m cp : Nat} {T : TypeId} (hc : Ch (Xo b0) w w') (hB : Bx w b0 [.int .i64 i, .int .u64 n, .string s0, .slice ad m cp] T) (t : Pl.Ty) : ∀ (a b c : Value), TyG w t a b c → TyG w' t a b c := by
  induction t with
  | plain k => intro a b c h; exact h
  | named x => intro a b c h; exact h
  | list t ih =>
    rintro a b c ⟨h1, h2, g, off, cp, x, y, z, h3, h4, h5, h6, h7, h8⟩
    have hne : g ≠ b0 := by
      rintro rfl
      obtain ⟨rfl, ⟨sy, rfl, _⟩, _⟩ := TyG.parts h8
      exact ty_not hB h5 h6
    exact ⟨h1, h2, g, off, cp, x, y, z, h3, Nat.lt_of_lt_of_le h4 hc.size, (hc.cellX h4 hne _).trans h5, (hc.cellX h4 hne _).trans h6, (hc.cellX h4 hne _).trans h7, ih _ _ _ h8⟩
  | opt t ih =>
    rintro a b c ⟨h1, h2, g, off, cp, x, y, z, h3, h4, h5, h6, h7, h8⟩
    have hne : g ≠ b0 := by
      rintro rfl
      obtain ⟨rfl, ⟨sy, rfl, _⟩, _⟩ := TyG.parts h8
      exact ty_not hB h5 h6
    exact ⟨h1, h2, g, off, cp, x, y, z, h3, Nat.lt_of_lt_of_le h4 hc.size, (hc.cellX h4 hne _).trans h5, (hc.cellX h4 hne _).trans h6, (hc.cellX h4 hne _).trans h7, ih _ _ _ h8⟩

/-- The cells of a value whose parts lie in blocks from L on, none of which is the row's own. -/
def RG (L : Nat) (jb : Option Nat) (g : Pl.GV) (c : List Value) (w : World) : Prop :=
  ∃ o lo hi, c = [.int .i64 g.i, .int .u64 g.u, .string g.t, o] ∧ L ≤ lo ∧ hi ≤ w.heap.size ∧ (∀ j, jb = some j → ¬ (lo ≤ j ∧ j < hi)) ∧ ∀ N, VyP (fun b => lo ≤ b ∧ b < hi) N g.l w o
theorem RG.below {L : Nat} {jb : Option Nat} {g : Pl.GV} {c : List Value} {w w' : World} (h : RG L jb g c w) (hb : Below w.heap.size w w') : RG L jb g c w' := by
  obtain ⟨o, lo, hi, h1, h2, h3, h4, h5⟩ := h
  exact ⟨o, lo, hi, h1, h2, Nat.le_trans h3 hb.size, h4, fun N => VyP.keep (fun _ h => h) (fun b hp _ => hb.cell (Nat.lt_of_lt_of_le hp.2 h3)) N _ _ (h5 N)⟩
theorem RG.chX {L b0 : Nat} {jb : Option Nat} {g : Pl.GV} {c : List Value} {w w' : World} (h : RG L jb g c w) (hc : Ch (Xo b0) w w') (hb : b0 < L) : RG L jb g c w' := by
  obtain ⟨o, lo, hi, h1, h2, h3, h4, h5⟩ := h
  exact ⟨o, lo, hi, h1, h2, Nat.le_trans h3 hc.size, h4, fun N => VyP.keep (fun _ h => h) (fun b hp p => hc.cellX (Nat.lt_of_lt_of_le hp.2 h3) (by have := hp.1; omega) p) N _ _ (h5 N)⟩
/-- Behind an append onto the row. -/
theorem RG.grown {L gn : Nat} {jb : Option Nat} {g : Pl.GV} {c : List Value} {w w' : World} (h : RG L jb g c w) (hg : w.grownBy w' jb) (hs : w.heap.size ≤ w'.heap.size) (ha : jb = some gn ∨ gn = w.heap.size) : RG L (some gn) g c w' := by
  obtain ⟨o, lo, hi, h1, h2, h3, h4, h5⟩ := h
  refine ⟨o, lo, hi, h1, h2, Nat.le_trans h3 hs, fun j hj => ?_, fun N => VyP.keep (fun _ h => h) (fun b hp p => hg.cell_far ⟨b, p, none⟩ (Nat.lt_of_lt_of_le hp.2 h3) (fun e => h4 b e.symm hp)) N _ _ (h5 N)⟩
  injection hj with hj
  subst hj
  rcases ha with ha | ha
  · exact h4 _ ha
  · omega
theorem rows_vyp {L k : Nat} {jb : Option Nat} {B : Nat} {w : World} {v : Value} {xs : List Pl.GV} (hk : xs.length ≤ 1000) (h : Rows 33 4 (RG L jb) B w v xs) (hkL : k ≤ L) (hkB : k ≤ B) : ∀ N, VyP (fun b => k ≤ b ∧ b < w.heap.size) N xs w v := by
  intro N
  obtain ⟨ad, cp, hv⟩ := h.shape
  cases N with
  | zero => exact ⟨_, _, _, hv⟩
  | succ N =>
    refine ⟨ad, cp, hv, by omega, fun i g hg => ?_⟩
    obtain ⟨b, cap, c, h1, _, _, h4, h5, _, h7⟩ := h.at hg
    have hBb : B ≤ b := by
      obtain ⟨ps, _, _, ho⟩ := h
      exact (own_block ho (k := b) (by rw [h1]; rfl)).1
    rw [h1] at hv
    cases hv
    obtain ⟨o, lo, hi, rfl, q2, q3, _, q5⟩ := h5
    have c0 := h7 0 _ rfl
    have c1 := h7 1 _ rfl
    have c2 := h7 2 _ rfl
    have c3 := h7 3 _ rfl
    refine ⟨b, 0, o, rfl, ⟨by omega, h4⟩, ?_, ?_, ?_, ?_, VyP.keep (fun b hp => ⟨Nat.le_trans (Nat.le_trans hkL q2) hp.1, Nat.lt_of_lt_of_le hp.2 q3⟩) (fun _ _ _ => rfl) N _ _ (q5 N)⟩
    · simpa using c0
    · simpa using c1
    · simpa using c2
    · simpa using c3
end Go.Proofs.YtmiohekmpjiloaaGreatDoor

