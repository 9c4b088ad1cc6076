/- Are schemas one? What Text has told is printed: a schema told, as one of any make; what a text tells. Types that lie anywhere; are types, methods one? Are schemas one, wherever they lie? schema: each. schema: closures that tell a part's name; checkParts. schema: checkTypes. schema: checkStruct, checkService. slices.IndexFunc: the first one that fits. schema: what structs come to, worked out as the code does (plain). schema: Find. -/
import Derived.Test.YtmiohekmpjiloaaGreatDoorCutPut21
import Derived.Laws.StructEq
import Derived.Deep.CutRange
import Derived.Test.YtmiohekmpjiloaaGreatDoorCutPut19
namespace Go.Proofs.YtmiohekmpjiloaaGreatDoor
open Go.RowKit
set_option maxRecDepth 20000

theorem Rows.below {α : Type} {T : TypeId} {m : Nat} {R : α → List Value → World → Prop} {B : Nat} {w w' : World} {v : Value} {xs : List α} (h : Rows T m R B w v xs) (hb : Below w.heap.size w w') (hR : ∀ a c, R a c w → R a c w') : Rows T m R B w' v xs :=
  h.ch (X := fun _ _ => False) (Ch.below hb) hR (fun _ _ h => h)

end Go.Proofs.YtmiohekmpjiloaaGreatDoor

namespace Go.Proofs.YtmiohekmpjiloaaGreatDoor
open Go.RowKit
set_option maxRecDepth 20000

theorem ly_nil (B n : Nat) (w : World) : LyS B n [] w (.slice none 0 0) := by
  cases n with
  | zero => exact ⟨_, _, _, rfl⟩
  | succ n => exact ⟨none, 0, rfl, by simp, fun i g h => by simp at h⟩

theorem TyC.ly {B : Nat} {w : World} (t : Pl.Ty) : ∀ (n : Nat) (a b c : Value), Pl.okTy t → TyC B t w a b c → Ly w.heap.size n (Pl.emb t) w a b c := by
  induction t with
  | plain k =>
    rintro n a b c hok ⟨rfl, rfl, rfl⟩
    exact ⟨rfl, ⟨_, rfl, rfl, by unfold maxLen; decide⟩, ly_nil _ _ _⟩
  | named x =>
    rintro n a b c hok ⟨rfl, ⟨s, rfl, hs⟩, rfl⟩
    refine ⟨rfl, ⟨s, rfl, hs, ?_⟩, ly_nil _ _ _⟩
    have := Pl.name_len hok
    rw [← hs, bl_length] at this
    unfold maxLen
    omega
  | list t ih =>
    rintro n a b c hok ⟨rfl, rfl, g, x, y, z, rfl, hB, hg, hc⟩
    refine ⟨rfl, ⟨_, rfl, rfl, by unfold maxLen; decide⟩, ?_⟩
    cases n with
    | zero => exact ⟨_, _, _, rfl⟩
    | succ n => exact LyS.one (ih n x y z hok hc) hg.lt hg
  | opt t ih =>
    rintro n a b c hok ⟨rfl, rfl, g, x, y, z, rfl, hB, hg, hc⟩
    refine ⟨rfl, ⟨_, rfl, rfl, by unfold maxLen; decide⟩, ?_⟩
    cases n with
    | zero => exact ⟨_, _, _, rfl⟩
    | succ n => exact LyS.one (ih n x y z hok hc) hg.lt hg

theorem Rows.sl {α β : Type} {T : TypeId} {m : Nat} {R : α → List Value → World → Prop} {R' : β → List Value → World → Prop} {B : Nat} {w : World} {v : Value} {xs : List α} (f : α → β) (h : Rows T m R B w v xs) (hl : xs.length ≤ 1000) (hR : ∀ a ∈ xs, ∀ c, R a c w → R' (f a) c w) : SlR m R' w.heap.size w v (xs.map f) := by
  obtain ⟨ad, cp, hv⟩ := h.shape
  refine ⟨ad, cp, by rw [List.length_map]; exact hv, by rw [List.length_map]; omega, fun i x hx => ?_⟩
  rw [List.getElem?_map] at hx
  obtain ⟨a, ha, rfl⟩ := Option.map_eq_some_iff.1 hx
  obtain ⟨g, cap, c, h1, _, _, h4, h5, _, h7⟩ := h.at ha
  rw [h1] at hv
  cases hv
  exact ⟨g, 0, c, rfl, h4, fun j u hu => by rw [Nat.zero_add]; exact h7 j u hu, hR a (List.mem_of_getElem? ha) c h5⟩

theorem small_name {s : ByteArray} {x : List Nat} (h : bl s = x) (hx : Pl.okName x) : s.size ≤ maxLen := by
  have := Pl.name_len hx
  rw [← h, bl_length] at this
  unfold maxLen
  omega

/-- A schema that was told lies as one of any make. -/
theorem SchV.sch {B : Nat} {ds : List Pl.Decl} {s1 s2 s3 : Value} {w : World} (h : SchV B ds s1 s2 s3 w) (n : Nat) (hok : ∀ d ∈ Pl.inOrder (stOf ds) (enOf ds) (svOf ds), Pl.okDecl d) (hl : (stOf ds).length + (enOf ds).length + (svOf ds).length ≤ 64) :
    SchL w.heap.size n ((stOf ds).map Pl.embSt) ((enOf ds).map Pl.embEn) ((svOf ds).map Pl.embSv) s1 s2 s3 w := by
  obtain ⟨h1, h2, h3⟩ := h
  refine ⟨h1.sl _ (by omega) ?_, h2.sl _ (by omega) ?_, h3.sl _ (by omega) ?_⟩
  · rintro a ha c ⟨s, ad, m, cp, rfl, hs, hr⟩
    have hd := hok (Pl.mkSt a) (List.mem_append_left _ (List.mem_append_left _ (List.mem_map_of_mem ha)))
    refine ⟨s, _, rfl, hs, small_name hs hd.1, hr.sl _ (by have := hd.2.1; omega) ?_⟩
    rintro f hf c ⟨s, k, sn, ad, m, cp, rfl, hs, ht⟩
    have hf2 := hd.2.2 f hf
    exact ⟨s, _, _, _, rfl, hs, small_name hs hf2.2.1, TyC.ly f.ty n _ _ _ hf2.2.2.1 ht⟩
  · rintro a ha c ⟨s, ad, m, cp, rfl, hs, hr⟩
    have hd := hok (Pl.mkEn a) (List.mem_append_left _ (List.mem_append_right _ (List.mem_map_of_mem ha)))
    refine ⟨s, _, rfl, hs, small_name hs hd.1, hr.sl _ (by have := hd.2.1; omega) ?_⟩
    rintro f hf c ⟨s, rfl, hs⟩
    have hf2 := hd.2.2 f hf
    exact ⟨s, rfl, hs, small_name hs hf2.2⟩
  · rintro a ha c ⟨s, ad, m, cp, rfl, hs, hr⟩
    have hd := hok (Pl.mkSv a) (List.mem_append_right _ (List.mem_map_of_mem ha))
    refine ⟨s, _, rfl, hs, small_name hs hd.1, hr.sl _ (by have := hd.2.1; omega) ?_⟩
    rintro f hf c ⟨s, k, sn, ad, m, cp, k', sn', ad', m', cp', rfl, hs, ht, ht'⟩
    have hf2 := hd.2.2 f hf
    exact ⟨s, _, _, _, _, _, _, rfl, hs, small_name hs hf2.1, TyC.ly f.arg n _ _ _ hf2.2.1 ht, TyC.ly f.res n _ _ _ hf2.2.2.2.1 ht'⟩

/-- A text that declares something. -/
def TOk (s : ByteArray) (ds : List Pl.Decl) : Prop := (tokA s).2.2 = 0 ∧ Pl.declsP 64 ((tokA s).1.map Pl.kt) = .ok ds []
theorem of_mem (ds : List Pl.Decl) : ∀ d ∈ Pl.inOrder (stOf ds) (enOf ds) (svOf ds), d ∈ ds := by
  intro d hd
  simp only [Pl.inOrder, List.mem_append, List.mem_map] at hd
  rcases hd with (⟨y, hy, rfl⟩ | ⟨y, hy, rfl⟩) | ⟨y, hy, rfl⟩
  · obtain ⟨x, hx, he⟩ := List.mem_filterMap.1 hy
    cases x <;> simp at he
    subst he
    exact hx
  · obtain ⟨x, hx, he⟩ := List.mem_filterMap.1 hy
    cases x <;> simp at he
    subst he
    exact hx
  · obtain ⟨x, hx, he⟩ := List.mem_filterMap.1 hy
    cases x <;> simp at he
    subst he
    exact hx
theorem of_len (ds : List Pl.Decl) : (stOf ds).length + (enOf ds).length + (svOf ds).length = ds.length := by
  induction ds with
  | nil => rfl
  | cons d ds ih =>
    unfold stOf enOf svOf at *
    cases d <;> simp only [List.filterMap_cons, List.length_cons] <;> omega

theorem tok_okKt (s : ByteArray) : ∀ x ∈ (tokA s).1.map Pl.kt, Pl.okKt x := by
  intro x hx
  obtain ⟨t, ht, rfl⟩ := List.mem_map.1 hx
  unfold tokA at ht
  split at ht
  · cases ht
  · have h := Pl.tok_ok _ _ _ t ht
    exact h

/-- What a text declares may be. -/
theorem TOk.good {s : ByteArray} {ds : List Pl.Decl} (h : TOk s ds) : (∀ d ∈ Pl.inOrder (stOf ds) (enOf ds) (svOf ds), Pl.okDecl d) ∧ (stOf ds).length + (enOf ds).length + (svOf ds).length ≤ 64 := by
  obtain ⟨⟨h1, h2⟩, _⟩ := Pl.Gd.decls 64 _ _ _ (tok_okKt s) h.2
  exact ⟨fun d hd => h2 d (of_mem ds d hd), by rw [of_len]; exact h1⟩

theorem TOk.one {t : ByteArray} {a b : List Pl.Decl} (h : TOk t a) (k : TOk t b) : a = b := by
  have := h.2.symm.trans k.2
  cases this
  rfl
end Go.Proofs.YtmiohekmpjiloaaGreatDoor

namespace Go.Proofs.YtmiohekmpjiloaaGreatDoor
open Go.RowKit
set_option maxRecDepth 20000

/-- A type as it lies, anywhere. -/
def TyG (w : World) : Pl.Ty → Value → Value → Value → Prop
  | .plain k, a, b, c => a = .int .i64 (k : Int) ∧ (∃ s, b = .string s ∧ bl s = []) ∧ ∃ ad cp, c = .slice ad 0 cp
  | .named x, a, b, c => a = .int .i64 8 ∧ (∃ s, b = .string s ∧ bl s = x) ∧ ∃ ad cp, c = .slice ad 0 cp
  | .list t, a, b, c => a = .int .i64 6 ∧ (∃ s, b = .string s ∧ bl s = []) ∧ ∃ g off cp x y z, c = .slice (some ⟨g, off, none⟩) 1 cp ∧ g < w.heap.size ∧ w.cell? ⟨g, off, none⟩ = some x ∧ w.cell? ⟨g, off + 1, none⟩ = some y ∧ w.cell? ⟨g, off + 2, none⟩ = some z ∧ TyG w t x y z
  | .opt t, a, b, c => a = .int .i64 7 ∧ (∃ s, b = .string s ∧ bl s = []) ∧ ∃ g off cp x y z, c = .slice (some ⟨g, off, none⟩) 1 cp ∧ g < w.heap.size ∧ w.cell? ⟨g, off, none⟩ = some x ∧ w.cell? ⟨g, off + 1, none⟩ = some y ∧ w.cell? ⟨g, off + 2, none⟩ = some z ∧ TyG w t x y z
/-- A slice of one type, or of none. -/
def OfG (w : World) (v : Value) (t : Option Pl.Ty) : Prop :=
  match t with
  | none => ∃ ad cp, v = .slice ad 0 cp
  | some t => ∃ g off cp x y z, v = .slice (some ⟨g, off, none⟩) 1 cp ∧ g < w.heap.size ∧ w.cell? ⟨g, off, none⟩ = some x ∧ w.cell? ⟨g, off + 1, none⟩ = some y ∧ w.cell? ⟨g, off + 2, none⟩ = some z ∧ TyG w t x y z
theorem TyG.parts {t : Pl.Ty} {w : World} {a b c : Value} (h : TyG w t a b c) : a = .int .i64 (kindOf t) ∧ (∃ s, b = .string s ∧ bl s = nameOf t) ∧ OfG w c (inner t) := by
  cases t <;> exact h
theorem TyG.below {w w' : World} (hb : Below w.heap.size w w') (t : Pl.Ty) : ∀ (a b c : Value), TyG w t a b c → TyG w' t a b c := by
  induction t with
  | plain k => intro a b c h; exact h
  | named x => intro a b c h; exact h
  | list t ih =>
    rintro a b c ⟨h1, h2, g, off, cp, x, y, z, h3, h4, h5, h6, h7, h8⟩
    exact ⟨h1, h2, g, off, cp, x, y, z, h3, Nat.lt_of_lt_of_le h4 hb.size, (hb.cell h4).trans h5, (hb.cell h4).trans h6, (hb.cell h4).trans h7, ih _ _ _ h8⟩
  | opt t ih =>
    rintro a b c ⟨h1, h2, g, off, cp, x, y, z, h3, h4, h5, h6, h7, h8⟩
    exact ⟨h1, h2, g, off, cp, x, y, z, h3, Nat.lt_of_lt_of_le h4 hb.size, (hb.cell h4).trans h5, (hb.cell h4).trans h6, (hb.cell h4).trans h7, ih _ _ _ h8⟩
theorem OfG.below {w w' : World} {v : Value} {t : Option Pl.Ty} (h : OfG w v t) (hb : Below w.heap.size w w') : OfG w' v t := by
  cases t with
  | none => exact h
  | some t =>
    obtain ⟨g, off, cp, x, y, z, h3, h4, h5, h6, h7, h8⟩ := h
    exact ⟨g, off, cp, x, y, z, h3, Nat.lt_of_lt_of_le h4 hb.size, (hb.cell h4).trans h5, (hb.cell h4).trans h6, (hb.cell h4).trans h7, TyG.below hb _ _ _ _ h8⟩
theorem OfG.shape {w : World} {v : Value} {t : Option Pl.Ty} (h : OfG w v t) : ∃ ad m cp, v = .slice ad m cp := by
  cases t with
  | none => obtain ⟨ad, cp, rfl⟩ := h; exact ⟨_, _, _, rfl⟩
  | some t => obtain ⟨g, off, cp, x, y, z, rfl, _⟩ := h; exact ⟨_, _, _, rfl⟩
theorem TyG.shape {w : World} {t : Pl.Ty} {a b c : Value} (h : TyG w t a b c) : ∃ k s ad m cp, a = .int .i64 k ∧ b = .string s ∧ c = .slice ad m cp := by
  obtain ⟨h1, ⟨s, h2, _⟩, h3⟩ := h.parts
  obtain ⟨ad, m, cp, h4⟩ := h3.shape
  exact ⟨_, s, ad, m, cp, h1, h2, h4⟩

theorem Ly.tyG {B : Nat} {w : World} (hB : B ≤ w.heap.size) (t : Pl.Ty) : ∀ (n : Nat) (a b c : Value), Pl.tyD t ≤ n → Ly B n (Pl.emb t) w a b c → TyG w t a b c := by
  have nil : ∀ (n : Nat) (c : Value), 1 ≤ n → LyS B n [] w c → ∃ ad cp, c = .slice ad 0 cp := by
    intro n c hn h
    obtain ⟨n', rfl⟩ : ∃ n', n = n' + 1 := ⟨n - 1, by omega⟩
    obtain ⟨ad, cp, h1, _⟩ := h
    exact ⟨ad, cp, h1⟩
  induction t with
  | plain k =>
    rintro n a b c hn ⟨h1, ⟨s, h2, h3, _⟩, h4⟩
    exact ⟨h1, ⟨s, h2, h3⟩, nil n c hn h4⟩
  | named x =>
    rintro n a b c hn ⟨h1, ⟨s, h2, h3, _⟩, h4⟩
    exact ⟨h1, ⟨s, h2, h3⟩, nil n c hn h4⟩
  | list t ih =>
    rintro n a b c hn ⟨h1, ⟨s, h2, h3, _⟩, h4⟩
    simp only [Pl.tyD] at hn
    obtain ⟨n', rfl⟩ : ∃ n', n = n' + 1 := ⟨n - 1, by omega⟩
    obtain ⟨blk, off, cp, k', s', o', rfl, q2, q3, q4, q5, hly⟩ := LyS.first (g := Pl.emb t) h4
    exact ⟨h1, ⟨s, h2, h3⟩, blk, off, cp, k', s', o', rfl, Nat.lt_of_lt_of_le q2 hB, q3, q4, q5, ih n' _ _ _ (by omega) hly⟩
  | opt t ih =>
    rintro n a b c hn ⟨h1, ⟨s, h2, h3, _⟩, h4⟩
    simp only [Pl.tyD] at hn
    obtain ⟨n', rfl⟩ : ∃ n', n = n' + 1 := ⟨n - 1, by omega⟩
    obtain ⟨blk, off, cp, k', s', o', rfl, q2, q3, q4, q5, hly⟩ := LyS.first (g := Pl.emb t) h4
    exact ⟨h1, ⟨s, h2, h3⟩, blk, off, cp, k', s', o', rfl, Nat.lt_of_lt_of_le q2 hB, q3, q4, q5, ih n' _ _ _ (by omega) hly⟩

def FldG (f : Pl.Fld) (c : List Value) (w : World) : Prop := ∃ s k sn ad m cp, c = [.string s, .int .i64 (f.num : Int), .int .i64 k, .string sn, .slice ad m cp] ∧ bl s = f.name ∧ TyG w f.ty (.int .i64 k) (.string sn) (.slice ad m cp)
def CasG (f : Pl.Cas) (c : List Value) (_ : World) : Prop := ∃ s, c = [.string s, .int .i64 (f.num : Int)] ∧ bl s = f.name
def MthG (f : Pl.Mth) (c : List Value) (w : World) : Prop := ∃ s k sn ad m cp k' sn' ad' m' cp', c = [.string s, .bool f.once, .int .i64 k, .string sn, .slice ad m cp, .int .i64 k', .string sn', .slice ad' m' cp'] ∧ bl s = f.name ∧ TyG w f.arg (.int .i64 k) (.string sn) (.slice ad m cp) ∧ TyG w f.res (.int .i64 k') (.string sn') (.slice ad' m' cp')

end Go.Proofs.YtmiohekmpjiloaaGreatDoor

namespace Go.Proofs.YtmiohekmpjiloaaGreatDoor
open Go.RowKit
set_option maxRecDepth 20000

/-- A slice of structs of m cells each, anywhere. -/
def Rw {α : Type} (m : Nat) (R : α → List Value → World → Prop) (w : World) (v : Value) (xs : List α) : Prop :=
  ∃ ad cap, v = .slice ad xs.length cap ∧ xs.length ≤ 9223372036854775807 ∧ ∀ (i : Nat) (a : α), xs[i]? = some a → ∃ g off c, ad = some ⟨g, off, none⟩ ∧ g < w.heap.size ∧ R a c w ∧ ∀ (j : Nat) (u : Value), c[j]? = some u → w.cell? ⟨g, off + i * m + j, none⟩ = some u
theorem Rw.shape {α : Type} {m : Nat} {R : α → List Value → World → Prop} {w : World} {v : Value} {xs : List α} (h : Rw m R w v xs) : ∃ ad cp, v = .slice ad xs.length cp := by
  obtain ⟨ad, cp, h1, _⟩ := h
  exact ⟨ad, cp, h1⟩
theorem Rw.at {α : Type} {m : Nat} {R : α → List Value → World → Prop} {w : World} {v : Value} {xs : List α} (h : Rw m R w v xs) {i : Nat} {a : α} (hi : xs[i]? = some a) :
    ∃ g off cap c, v = .slice (some ⟨g, off, none⟩) xs.length cap ∧ g < w.heap.size ∧ R a c w ∧ ∀ (j : Nat) (u : Value), c[j]? = some u → w.cell? ⟨g, off + i * m + j, none⟩ = some u := by
  obtain ⟨ad, cap, h1, _, h3⟩ := h
  obtain ⟨g, off, c, rfl, q2, q3, q4⟩ := h3 i a hi
  exact ⟨g, off, cap, c, h1, q2, q3, q4⟩
theorem Rw.below {α : Type} {m : Nat} {R : α → List Value → World → Prop} {w w' : World} {v : Value} {xs : List α} (h : Rw m R w v xs) (hb : Below w.heap.size w w') (hR : ∀ a c, R a c w → R a c w') : Rw m R w' v xs := by
  obtain ⟨ad, cap, h1, h2, h3⟩ := h
  refine ⟨ad, cap, h1, h2, fun i a hi => ?_⟩
  obtain ⟨g, off, c, q1, q2, q3, q4⟩ := h3 i a hi
  exact ⟨g, off, c, q1, Nat.lt_of_lt_of_le q2 hb.size, hR a c q3, fun j u hu => (hb.cell q2).trans (q4 j u hu)⟩
theorem FldG.below {w w' : World} (hb : Below w.heap.size w w') (f : Pl.Fld) (c : List Value) (h : FldG f c w) : FldG f c w' := by
  obtain ⟨s, k, sn, ad, m, cp, h1, h2, h3⟩ := h
  exact ⟨s, k, sn, ad, m, cp, h1, h2, TyG.below hb _ _ _ _ h3⟩
theorem MthG.below {w w' : World} (hb : Below w.heap.size w w') (f : Pl.Mth) (c : List Value) (h : MthG f c w) : MthG f c w' := by
  obtain ⟨s, k, sn, ad, m, cp, k', sn', ad', m', cp', h1, h2, h3, h4⟩ := h
  exact ⟨s, k, sn, ad, m, cp, k', sn', ad', m', cp', h1, h2, TyG.below hb _ _ _ _ h3, TyG.below hb _ _ _ _ h4⟩
/-- A declaration's cells: name, parts. -/
def DecG {α : Type} (n : Nat) (R : α → List Value → World → Prop) (x : List Nat × List α) (c : List Value) (w : World) : Prop := ∃ s ad m cp, c = [.string s, .slice ad m cp] ∧ bl s = x.1 ∧ Rw n R w (.slice ad m cp) x.2
theorem DecG.below {α : Type} {n : Nat} {R : α → List Value → World → Prop} {w w' : World} (hb : Below w.heap.size w w') (hR : ∀ a c, R a c w → R a c w') (x : List Nat × List α) (c : List Value) (h : DecG n R x c w) : DecG n R x c w' := by
  obtain ⟨s, ad, m, cp, h1, h2, h3⟩ := h
  exact ⟨s, ad, m, cp, h1, h2, h3.below hb hR⟩
/-- A schema of declarations, anywhere. -/
def SchG (st : List (List Nat × List Pl.Fld)) (en : List (List Nat × List Pl.Cas)) (sv : List (List Nat × List Pl.Mth)) (s1 s2 s3 : Value) (w : World) : Prop :=
  Rw 2 (DecG 5 FldG) w s1 st ∧ Rw 2 (DecG 2 CasG) w s2 en ∧ Rw 2 (DecG 8 MthG) w s3 sv
theorem SchG.shape {st : List (List Nat × List Pl.Fld)} {en : List (List Nat × List Pl.Cas)} {sv : List (List Nat × List Pl.Mth)} {s1 s2 s3 : Value} {w : World} (h : SchG st en sv s1 s2 s3 w) : ∃ a1 c1 a2 c2 a3 c3, s1 = .slice a1 st.length c1 ∧ s2 = .slice a2 en.length c2 ∧ s3 = .slice a3 sv.length c3 := by
  obtain ⟨a1, c1, e1⟩ := h.1.shape
  obtain ⟨a2, c2, e2⟩ := h.2.1.shape
  obtain ⟨a3, c3, e3⟩ := h.2.2.shape
  exact ⟨a1, c1, a2, c2, a3, c3, e1, e2, e3⟩
theorem SchG.below {st : List (List Nat × List Pl.Fld)} {en : List (List Nat × List Pl.Cas)} {sv : List (List Nat × List Pl.Mth)} {s1 s2 s3 : Value} {w w' : World} (h : SchG st en sv s1 s2 s3 w) (hb : Below w.heap.size w w') : SchG st en sv s1 s2 s3 w' :=
  ⟨h.1.below hb (DecG.below hb (FldG.below hb)), h.2.1.below hb (DecG.below hb (fun _ _ h => h)), h.2.2.below hb (DecG.below hb (MthG.below hb))⟩

theorem SlR.rw {α β : Type} {m : Nat} {R : β → List Value → World → Prop} {R' : α → List Value → World → Prop} {B : Nat} {w : World} {v : Value} {xs : List α} (f : α → β) (hB : B ≤ w.heap.size) (h : SlR m R B w v (xs.map f)) (hR : ∀ a ∈ xs, ∀ c, R (f a) c w → R' a c w) : Rw m R' w v xs := by
  obtain ⟨ad, cp, h1, h2, h3⟩ := h
  rw [List.length_map] at h1 h2
  refine ⟨ad, cp, h1, h2, fun i a hi => ?_⟩
  obtain ⟨blk, off, c, q1, q2, q3, q4⟩ := h3 i (f a) (by rw [List.getElem?_map, hi]; rfl)
  exact ⟨blk, off, c, q1, Nat.lt_of_lt_of_le q2 hB, hR a (List.mem_of_getElem? hi) c q4, q3⟩
/-- A schema of any make that is one of declarations that may be. -/
theorem SchL.g {B n : Nat} {w : World} {st : List (List Nat × List Pl.Fld)} {en : List (List Nat × List Pl.Cas)} {sv : List (List Nat × List Pl.Mth)} {s1 s2 s3 : Value} (hB : B ≤ w.heap.size) (hn : 8 ≤ n) (h : SchL B n (st.map Pl.embSt) (en.map Pl.embEn) (sv.map Pl.embSv) s1 s2 s3 w) (hok : ∀ d ∈ Pl.inOrder st en sv, Pl.okDecl d) : SchG st en sv s1 s2 s3 w := by
  obtain ⟨h1, h2, h3⟩ := h
  refine ⟨h1.rw _ hB ?_, h2.rw _ hB ?_, h3.rw _ hB ?_⟩
  · rintro a ha c ⟨s, v, rfl, hs, _, hr⟩
    have hd := hok (Pl.mkSt a) (List.mem_append_left _ (List.mem_append_left _ (List.mem_map_of_mem ha)))
    obtain ⟨ad, cp, rfl⟩ := hr.shape
    refine ⟨s, ad, _, cp, rfl, hs, hr.rw _ hB ?_⟩
    rintro f hf c ⟨s, k, sn, o, rfl, hs, _, hl⟩
    have hf2 := hd.2.2 f hf
    have hg := Ly.tyG hB f.ty n _ _ _ (by have := hf2.2.2.2; omega) hl
    obtain ⟨k', s', ad', m', cp', rfl, rfl, rfl⟩ := hg.shape
    exact ⟨s, _, _, _, _, _, rfl, hs, hg⟩
  · rintro a ha c ⟨s, v, rfl, hs, _, hr⟩
    obtain ⟨ad, cp, rfl⟩ := hr.shape
    refine ⟨s, ad, _, cp, rfl, hs, hr.rw _ hB ?_⟩
    rintro f hf c ⟨s, rfl, hs, _⟩
    exact ⟨s, rfl, hs⟩
  · rintro a ha c ⟨s, v, rfl, hs, _, hr⟩
    have hd := hok (Pl.mkSv a) (List.mem_append_right _ (List.mem_map_of_mem ha))
    obtain ⟨ad, cp, rfl⟩ := hr.shape
    refine ⟨s, ad, _, cp, rfl, hs, hr.rw _ hB ?_⟩
    rintro f hf c ⟨s, k, sn, o, k2, sn2, o2, rfl, hs, _, hl, hl2⟩
    have hf2 := hd.2.2 f hf
    have hg := Ly.tyG hB f.arg n _ _ _ (by have := hf2.2.2.1; omega) hl
    have hg2 := Ly.tyG hB f.res n _ _ _ (by have := hf2.2.2.2.2; omega) hl2
    obtain ⟨k', s', ad', m', cp', rfl, rfl, rfl⟩ := hg.shape
    obtain ⟨k3, s3, ad3, m3, cp3, rfl, rfl, rfl⟩ := hg2.shape
    exact ⟨s, _, _, _, _, _, _, _, _, _, _, rfl, hs, hg, hg2⟩

end Go.Proofs.YtmiohekmpjiloaaGreatDoor

namespace Go.Proofs.YtmiohekmpjiloaaGreatDoor
open Go.RowKit
set_option maxRecDepth 20000

structure EachIStructString (w : World) (xs : List (List Nat × List Pl.Fld)) (Q : (List Nat × List Pl.Fld) → ByteArray → Prop) (tv i : Value) (wr : World) : Prop where
  all : ∃ (k : Nat) (ps : List ((List Nat × List Pl.Fld) × List Value)) (ta : Option Addr) (tl tc : Nat), k ≤ xs.length ∧ i = .int .i64 (k : Int) ∧ tv = .slice ta tl tc ∧ ps.map Prod.fst = xs.take k ∧ (∀ p ∈ ps, (fun a c (_ : World) => ∃ s, c = [.string s] ∧ Q a s) p.1 p.2 w ∧ p.2.length = 1) ∧ wr.ownsRow w.heap.size 9 1 tv ps.length (ps.flatMap Prod.snd) ∧ Below w.heap.size w wr

theorem Tryz.infoEachStructString : (Tryz.prog.info? 9).map (fun i => (i.zero, i.size, i.bytes)) = some (some (.string ⟨#[]⟩), 1, 16) := by kernel_rfl

set_option maxHeartbeats 8000000 in
theorem eachStructString_any (ft : Nat) (hen : ∀ (args : Array Value) (w' : World), (callFunc ft args).run Tryz.prog w' = .ok (.enter ft args) w') (v : Value) (xs : List (List Nat × List Pl.Fld)) (hx : xs.length ≤ 100000) (Q : (List Nat × List Pl.Fld) → ByteArray → Prop) (w : World) (hS : Rw 2 (DecG 5 FldG) w v xs)
    (ht : ∀ a ∈ xs, ∀ c W, (DecG 5 FldG) a c w → (DecG 5 FldG) a c W → Below w.heap.size w W → Calls Tryz.prog ft #[.agg ⟨c⟩] W fun e w' => ∃ s, e = .returned (.string s) ∧ Q a s ∧ Below W.heap.size W w') :
    Calls Tryz.prog 100 #[v, .func (.func ft) #[] #[]] w fun e w' => ∃ tv, e = .returned tv ∧ Rows 9 1 (fun a c (_ : World) => ∃ s, c = [.string s] ∧ Q a s) w.heap.size w' tv xs ∧ Below w.heap.size w w' := by
  obtain ⟨i0, hi, hz⟩ := Option.map_eq_some_iff.1 Tryz.infoEachStructString
  obtain ⟨hz0, hz1, hz2⟩ : i0.zero = some (.string ⟨#[]⟩) ∧ i0.size = 1 ∧ i0.bytes = 16 := by
    simp only [Prod.mk.injEq] at hz
    exact hz
  obtain ⟨ad0, cp0, hvv⟩ := hS.shape
  have HS := hid hS
  have HT := hid ht
  obtain ⟨M, hM⟩ : ∃ M, M = xs.length := ⟨_, rfl⟩
  rw [← hM] at hx hvv
  subst hvv
  have HM : Hid (M = xs.length) := hM
  clear hS ht hM
  go_enter Tryz.func100, Tryz.ntmps100
  go_wp2_with fail
  go_loopw [5, 10] (fun tv i wr => EachIStructString w xs Q tv i wr) (fun _ i _ => M - (intOf i).toNat)
  case atStart => exact ⟨0, [], none, 0, 0, Nat.zero_le _, rfl, rfl, rfl, (fun p hp => by cases hp), World.ownsRow_nil _ _ _ _, Below.refl _ _⟩
  case round =>
    obtain ⟨k, ps, ta, tl, tc, hk, rfl, rfl, hps, hpq, hown, hbw⟩ := hrel.all
    clear hrel
    rw [← HM.out] at hk
    have hpl : ps.length = k := by
      have := congrArg List.length hps
      rw [List.length_map, List.length_take, ← HM.out] at this
      omega
    rw [hpl] at hown
    have HPS := hid hps
    have HPQ := hid hpq
    have HPL := hid hpl
    clear hps hpq hpl
    by_cases hlt : k < M
    · obtain ⟨a, ha⟩ : ∃ a, xs[k]? = some a := ⟨xs[k]'(by rw [← HM.out]; exact hlt), by simp⟩
      obtain ⟨g, off, cap, c, hv, hg0, hRc0, hc0⟩ := HS.out.at ha
      have hg := Nat.lt_of_lt_of_le hg0 hbw.size
      have HR0 := hid hRc0
      have hRc : (DecG 5 FldG) a c wr := (fun h => DecG.below hbw (FldG.below hbw) _ _ h) hRc0
      have hc : ∀ (j : Nat) (u : Value), c[j]? = some u → wr.cell? ⟨g, off + k * 2 + j, none⟩ = some u := fun j u hj => (hbw.cell hg0).trans (hc0 j u hj)
      clear hc0 hRc0 hg0
      have HRc := hid hRc
      obtain ⟨xs1, xd, xm, xc, rfl, hxs, hxr⟩ := hRc
      injection hv with hv1 hv2 hv3
      clear hv2
      subst hv1 hv3
      have c0 := hc 0 _ rfl
      have c1 := hc 1 _ rfl
      simp only [Nat.add_zero] at c0
      have hcall := HT.out a (List.mem_of_getElem? ha) _ (wr.alloc (.cells #[.string xs1, .slice xd xm xc] 59)) HR0.out (DecG.below (below_alloc wr _) (FldG.below (below_alloc wr _)) _ _ HRc.out) (below_next hbw (below_alloc wr _))
      have hbA := below_next hbw (below_alloc wr (.cells #[.string xs1, .slice xd xm xc] 59))
      have Ha := hid ha
      clear hc HRc ha hxs HR0
      go_wp2_with fail
      refine hcall.mono ?_
      rintro e w2 ⟨su, rfl, hQ, hb2⟩
      have hbw2 := below_next hbA hb2
      have hown2 := own_ch (X := fun _ _ => False) (hown.alloc (.cells #[.string xs1, .slice xd xm xc] 59)) (Ch.below hb2) (fun _ _ h => h)
      have hB3 := Bx.new w2 [.string su] 9
      have hbw3 := below_next hbw2 (below_alloc w2 (.cells #[.string su] 9))
      clear hcall hown
      go_wp2_with (first
        | (at_builtin; refine wpList_append_own _ rfl _ _ 123 rfl w.heap.size 9 i0 (.string ⟨#[]⟩) 1 16 Tryz.underlying123 hi hz0 hz1 hz2 rfl (by decide) _ _ _ rfl (hown2.alloc (.cells #[.string su] 9)) ⟨w2.heap.size, 0, none⟩ 1 1 [.string su] rfl rfl ?c1 ?c2 ?c3 ?c4 ?c5 ?_)
        | fail)
      case c1 =>
        intro j u hj
        have := hB3.cell j hj
        rw [add_plain, Nat.zero_add]
        exact this
      case c2 =>
        intro u hu
        simp only [List.mem_cons, List.not_mem_nil, or_false] at hu
        subst hu
        rfl
      case c3 => unfold maxLen; omega
      case c4 => omega
      case c5 => exact hbw3.size
      intro tv' w4 hown4 hgr _
      have hbw4 := hbw3.grown hgr hbw3.size (fun j hj => by
        rcases (hown2.alloc (.cells #[.string su] 9)).2 with ⟨h, _⟩ | ⟨g', cap', cur', h, hb', _⟩
        · rw [h] at hj; simp [Value.ownBlock] at hj
        · rw [h] at hj
          simp only [Value.ownBlock, Option.some.injEq] at hj
          omega)
      obtain ⟨ta', tl', tc', htv'⟩ : ∃ ta tl tc, tv' = .slice ta tl tc := by
        rcases hown4.2 with ⟨h, _⟩ | ⟨g, cap, cur, h, _⟩
        · exact ⟨_, _, _, h⟩
        · exact ⟨_, _, _, h⟩
      subst htv'
      have HO4 := hid hown4
      have HB4 := hid hbw4
      have HQ := hid hQ
      clear hown4 hgr hbw4 hown2 hB3 hbw3 hbw2 hQ
      go_wp2
      refine ⟨?_, ?_⟩
      · refine ⟨k + 1, ps ++ [(a, [.string su])], _, _, _, by rw [← HM.out]; omega, by go_num, rfl, ?_, ?_, ?_, HB4.out⟩
        · rw [List.map_append, HPS.out, List.take_add_one, Ha.out]
          rfl
        · intro p hp
          rcases List.mem_append.1 hp with hp | hp
          · exact HPQ.out p hp
          · rw [List.mem_singleton] at hp
            subst hp
            exact ⟨⟨su, rfl, HQ.out⟩, rfl⟩
        · have := HO4.out
          rw [List.length_append, HPL.out, List.flatMap_append]
          simpa using this
      · simp [intOf]; omega
    · have hke : k = M := by omega
      subst hke
      have HO := hid hown
      have HB := hid hbw
      clear hown hbw
      go_wp2
      go_ret
      refine ⟨_, rfl, ⟨ps, ?_, HPQ.out, ?_⟩, HB.out⟩
      · rw [HPS.out, HM.out, List.take_length]
      · rw [HPL.out]; exact HO.out

structure EachIEnumString (w : World) (xs : List (List Nat × List Pl.Cas)) (Q : (List Nat × List Pl.Cas) → ByteArray → Prop) (tv i : Value) (wr : World) : Prop where
  all : ∃ (k : Nat) (ps : List ((List Nat × List Pl.Cas) × List Value)) (ta : Option Addr) (tl tc : Nat), k ≤ xs.length ∧ i = .int .i64 (k : Int) ∧ tv = .slice ta tl tc ∧ ps.map Prod.fst = xs.take k ∧ (∀ p ∈ ps, (fun a c (_ : World) => ∃ s, c = [.string s] ∧ Q a s) p.1 p.2 w ∧ p.2.length = 1) ∧ wr.ownsRow w.heap.size 9 1 tv ps.length (ps.flatMap Prod.snd) ∧ Below w.heap.size w wr

theorem Tryz.infoEachEnumString : (Tryz.prog.info? 9).map (fun i => (i.zero, i.size, i.bytes)) = some (some (.string ⟨#[]⟩), 1, 16) := by kernel_rfl

set_option maxHeartbeats 8000000 in
theorem eachEnumString_any (ft : Nat) (hen : ∀ (args : Array Value) (w' : World), (callFunc ft args).run Tryz.prog w' = .ok (.enter ft args) w') (v : Value) (xs : List (List Nat × List Pl.Cas)) (hx : xs.length ≤ 100000) (Q : (List Nat × List Pl.Cas) → ByteArray → Prop) (w : World) (hS : Rw 2 (DecG 2 CasG) w v xs)
    (ht : ∀ a ∈ xs, ∀ c W, (DecG 2 CasG) a c w → (DecG 2 CasG) a c W → Below w.heap.size w W → Calls Tryz.prog ft #[.agg ⟨c⟩] W fun e w' => ∃ s, e = .returned (.string s) ∧ Q a s ∧ Below W.heap.size W w') :
    Calls Tryz.prog 102 #[v, .func (.func ft) #[] #[]] w fun e w' => ∃ tv, e = .returned tv ∧ Rows 9 1 (fun a c (_ : World) => ∃ s, c = [.string s] ∧ Q a s) w.heap.size w' tv xs ∧ Below w.heap.size w w' := by
  obtain ⟨i0, hi, hz⟩ := Option.map_eq_some_iff.1 Tryz.infoEachEnumString
  obtain ⟨hz0, hz1, hz2⟩ : i0.zero = some (.string ⟨#[]⟩) ∧ i0.size = 1 ∧ i0.bytes = 16 := by
    simp only [Prod.mk.injEq] at hz
    exact hz
  obtain ⟨ad0, cp0, hvv⟩ := hS.shape
  have HS := hid hS
  have HT := hid ht
  obtain ⟨M, hM⟩ : ∃ M, M = xs.length := ⟨_, rfl⟩
  rw [← hM] at hx hvv
  subst hvv
  have HM : Hid (M = xs.length) := hM
  clear hS ht hM
  go_enter Tryz.func102, Tryz.ntmps102
  go_wp2_with fail
  go_loopw [5, 10] (fun tv i wr => EachIEnumString w xs Q tv i wr) (fun _ i _ => M - (intOf i).toNat)
  case atStart => exact ⟨0, [], none, 0, 0, Nat.zero_le _, rfl, rfl, rfl, (fun p hp => by cases hp), World.ownsRow_nil _ _ _ _, Below.refl _ _⟩
  case round =>
    obtain ⟨k, ps, ta, tl, tc, hk, rfl, rfl, hps, hpq, hown, hbw⟩ := hrel.all
    clear hrel
    rw [← HM.out] at hk
    have hpl : ps.length = k := by
      have := congrArg List.length hps
      rw [List.length_map, List.length_take, ← HM.out] at this
      omega
    rw [hpl] at hown
    have HPS := hid hps
    have HPQ := hid hpq
    have HPL := hid hpl
    clear hps hpq hpl
    by_cases hlt : k < M
    · obtain ⟨a, ha⟩ : ∃ a, xs[k]? = some a := ⟨xs[k]'(by rw [← HM.out]; exact hlt), by simp⟩
      obtain ⟨g, off, cap, c, hv, hg0, hRc0, hc0⟩ := HS.out.at ha
      have hg := Nat.lt_of_lt_of_le hg0 hbw.size
      have HR0 := hid hRc0
      have hRc : (DecG 2 CasG) a c wr := (fun h => DecG.below hbw (fun _ _ h => h) _ _ h) hRc0
      have hc : ∀ (j : Nat) (u : Value), c[j]? = some u → wr.cell? ⟨g, off + k * 2 + j, none⟩ = some u := fun j u hj => (hbw.cell hg0).trans (hc0 j u hj)
      clear hc0 hRc0 hg0
      have HRc := hid hRc
      obtain ⟨xs1, xd, xm, xc, rfl, hxs, hxr⟩ := hRc
      injection hv with hv1 hv2 hv3
      clear hv2
      subst hv1 hv3
      have c0 := hc 0 _ rfl
      have c1 := hc 1 _ rfl
      simp only [Nat.add_zero] at c0
      have hcall := HT.out a (List.mem_of_getElem? ha) _ (wr.alloc (.cells #[.string xs1, .slice xd xm xc] 83)) HR0.out (DecG.below (below_alloc wr _) (fun _ _ h => h) _ _ HRc.out) (below_next hbw (below_alloc wr _))
      have hbA := below_next hbw (below_alloc wr (.cells #[.string xs1, .slice xd xm xc] 83))
      have Ha := hid ha
      clear hc HRc ha hxs HR0
      go_wp2_with fail
      refine hcall.mono ?_
      rintro e w2 ⟨su, rfl, hQ, hb2⟩
      have hbw2 := below_next hbA hb2
      have hown2 := own_ch (X := fun _ _ => False) (hown.alloc (.cells #[.string xs1, .slice xd xm xc] 83)) (Ch.below hb2) (fun _ _ h => h)
      have hB3 := Bx.new w2 [.string su] 9
      have hbw3 := below_next hbw2 (below_alloc w2 (.cells #[.string su] 9))
      clear hcall hown
      go_wp2_with (first
        | (at_builtin; refine wpList_append_own _ rfl _ _ 123 rfl w.heap.size 9 i0 (.string ⟨#[]⟩) 1 16 Tryz.underlying123 hi hz0 hz1 hz2 rfl (by decide) _ _ _ rfl (hown2.alloc (.cells #[.string su] 9)) ⟨w2.heap.size, 0, none⟩ 1 1 [.string su] rfl rfl ?c1 ?c2 ?c3 ?c4 ?c5 ?_)
        | fail)
      case c1 =>
        intro j u hj
        have := hB3.cell j hj
        rw [add_plain, Nat.zero_add]
        exact this
      case c2 =>
        intro u hu
        simp only [List.mem_cons, List.not_mem_nil, or_false] at hu
        subst hu
        rfl
      case c3 => unfold maxLen; omega
      case c4 => omega
      case c5 => exact hbw3.size
      intro tv' w4 hown4 hgr _
      have hbw4 := hbw3.grown hgr hbw3.size (fun j hj => by
        rcases (hown2.alloc (.cells #[.string su] 9)).2 with ⟨h, _⟩ | ⟨g', cap', cur', h, hb', _⟩
        · rw [h] at hj; simp [Value.ownBlock] at hj
        · rw [h] at hj
          simp only [Value.ownBlock, Option.some.injEq] at hj
          omega)
      obtain ⟨ta', tl', tc', htv'⟩ : ∃ ta tl tc, tv' = .slice ta tl tc := by
        rcases hown4.2 with ⟨h, _⟩ | ⟨g, cap, cur, h, _⟩
        · exact ⟨_, _, _, h⟩
        · exact ⟨_, _, _, h⟩
      subst htv'
      have HO4 := hid hown4
      have HB4 := hid hbw4
      have HQ := hid hQ
      clear hown4 hgr hbw4 hown2 hB3 hbw3 hbw2 hQ
      go_wp2
      refine ⟨?_, ?_⟩
      · refine ⟨k + 1, ps ++ [(a, [.string su])], _, _, _, by rw [← HM.out]; omega, by go_num, rfl, ?_, ?_, ?_, HB4.out⟩
        · rw [List.map_append, HPS.out, List.take_add_one, Ha.out]
          rfl
        · intro p hp
          rcases List.mem_append.1 hp with hp | hp
          · exact HPQ.out p hp
          · rw [List.mem_singleton] at hp
            subst hp
            exact ⟨⟨su, rfl, HQ.out⟩, rfl⟩
        · have := HO4.out
          rw [List.length_append, HPL.out, List.flatMap_append]
          simpa using this
      · simp [intOf]; omega
    · have hke : k = M := by omega
      subst hke
      have HO := hid hown
      have HB := hid hbw
      clear hown hbw
      go_wp2
      go_ret
      refine ⟨_, rfl, ⟨ps, ?_, HPQ.out, ?_⟩, HB.out⟩
      · rw [HPS.out, HM.out, List.take_length]
      · rw [HPL.out]; exact HO.out

structure EachIServiceString (w : World) (xs : List (List Nat × List Pl.Mth)) (Q : (List Nat × List Pl.Mth) → ByteArray → Prop) (tv i : Value) (wr : World) : Prop where
  all : ∃ (k : Nat) (ps : List ((List Nat × List Pl.Mth) × List Value)) (ta : Option Addr) (tl tc : Nat), k ≤ xs.length ∧ i = .int .i64 (k : Int) ∧ tv = .slice ta tl tc ∧ ps.map Prod.fst = xs.take k ∧ (∀ p ∈ ps, (fun a c (_ : World) => ∃ s, c = [.string s] ∧ Q a s) p.1 p.2 w ∧ p.2.length = 1) ∧ wr.ownsRow w.heap.size 9 1 tv ps.length (ps.flatMap Prod.snd) ∧ Below w.heap.size w wr

theorem Tryz.infoEachServiceString : (Tryz.prog.info? 9).map (fun i => (i.zero, i.size, i.bytes)) = some (some (.string ⟨#[]⟩), 1, 16) := by kernel_rfl

set_option maxHeartbeats 8000000 in
theorem eachServiceString_any (ft : Nat) (hen : ∀ (args : Array Value) (w' : World), (callFunc ft args).run Tryz.prog w' = .ok (.enter ft args) w') (v : Value) (xs : List (List Nat × List Pl.Mth)) (hx : xs.length ≤ 100000) (Q : (List Nat × List Pl.Mth) → ByteArray → Prop) (w : World) (hS : Rw 2 (DecG 8 MthG) w v xs)
    (ht : ∀ a ∈ xs, ∀ c W, (DecG 8 MthG) a c w → (DecG 8 MthG) a c W → Below w.heap.size w W → Calls Tryz.prog ft #[.agg ⟨c⟩] W fun e w' => ∃ s, e = .returned (.string s) ∧ Q a s ∧ Below W.heap.size W w') :
    Calls Tryz.prog 104 #[v, .func (.func ft) #[] #[]] w fun e w' => ∃ tv, e = .returned tv ∧ Rows 9 1 (fun a c (_ : World) => ∃ s, c = [.string s] ∧ Q a s) w.heap.size w' tv xs ∧ Below w.heap.size w w' := by
  obtain ⟨i0, hi, hz⟩ := Option.map_eq_some_iff.1 Tryz.infoEachServiceString
  obtain ⟨hz0, hz1, hz2⟩ : i0.zero = some (.string ⟨#[]⟩) ∧ i0.size = 1 ∧ i0.bytes = 16 := by
    simp only [Prod.mk.injEq] at hz
    exact hz
  obtain ⟨ad0, cp0, hvv⟩ := hS.shape
  have HS := hid hS
  have HT := hid ht
  obtain ⟨M, hM⟩ : ∃ M, M = xs.length := ⟨_, rfl⟩
  rw [← hM] at hx hvv
  subst hvv
  have HM : Hid (M = xs.length) := hM
  clear hS ht hM
  go_enter Tryz.func104, Tryz.ntmps104
  go_wp2_with fail
  go_loopw [5, 10] (fun tv i wr => EachIServiceString w xs Q tv i wr) (fun _ i _ => M - (intOf i).toNat)
  case atStart => exact ⟨0, [], none, 0, 0, Nat.zero_le _, rfl, rfl, rfl, (fun p hp => by cases hp), World.ownsRow_nil _ _ _ _, Below.refl _ _⟩
  case round =>
    obtain ⟨k, ps, ta, tl, tc, hk, rfl, rfl, hps, hpq, hown, hbw⟩ := hrel.all
    clear hrel
    rw [← HM.out] at hk
    have hpl : ps.length = k := by
      have := congrArg List.length hps
      rw [List.length_map, List.length_take, ← HM.out] at this
      omega
    rw [hpl] at hown
    have HPS := hid hps
    have HPQ := hid hpq
    have HPL := hid hpl
    clear hps hpq hpl
    by_cases hlt : k < M
    · obtain ⟨a, ha⟩ : ∃ a, xs[k]? = some a := ⟨xs[k]'(by rw [← HM.out]; exact hlt), by simp⟩
      obtain ⟨g, off, cap, c, hv, hg0, hRc0, hc0⟩ := HS.out.at ha
      have hg := Nat.lt_of_lt_of_le hg0 hbw.size
      have HR0 := hid hRc0
      have hRc : (DecG 8 MthG) a c wr := (fun h => DecG.below hbw (MthG.below hbw) _ _ h) hRc0
      have hc : ∀ (j : Nat) (u : Value), c[j]? = some u → wr.cell? ⟨g, off + k * 2 + j, none⟩ = some u := fun j u hj => (hbw.cell hg0).trans (hc0 j u hj)
      clear hc0 hRc0 hg0
      have HRc := hid hRc
      obtain ⟨xs1, xd, xm, xc, rfl, hxs, hxr⟩ := hRc
      injection hv with hv1 hv2 hv3
      clear hv2
      subst hv1 hv3
      have c0 := hc 0 _ rfl
      have c1 := hc 1 _ rfl
      simp only [Nat.add_zero] at c0
      have hcall := HT.out a (List.mem_of_getElem? ha) _ (wr.alloc (.cells #[.string xs1, .slice xd xm xc] 86)) HR0.out (DecG.below (below_alloc wr _) (MthG.below (below_alloc wr _)) _ _ HRc.out) (below_next hbw (below_alloc wr _))
      have hbA := below_next hbw (below_alloc wr (.cells #[.string xs1, .slice xd xm xc] 86))
      have Ha := hid ha
      clear hc HRc ha hxs HR0
      go_wp2_with fail
      refine hcall.mono ?_
      rintro e w2 ⟨su, rfl, hQ, hb2⟩
      have hbw2 := below_next hbA hb2
      have hown2 := own_ch (X := fun _ _ => False) (hown.alloc (.cells #[.string xs1, .slice xd xm xc] 86)) (Ch.below hb2) (fun _ _ h => h)
      have hB3 := Bx.new w2 [.string su] 9
      have hbw3 := below_next hbw2 (below_alloc w2 (.cells #[.string su] 9))
      clear hcall hown
      go_wp2_with (first
        | (at_builtin; refine wpList_append_own _ rfl _ _ 123 rfl w.heap.size 9 i0 (.string ⟨#[]⟩) 1 16 Tryz.underlying123 hi hz0 hz1 hz2 rfl (by decide) _ _ _ rfl (hown2.alloc (.cells #[.string su] 9)) ⟨w2.heap.size, 0, none⟩ 1 1 [.string su] rfl rfl ?c1 ?c2 ?c3 ?c4 ?c5 ?_)
        | fail)
      case c1 =>
        intro j u hj
        have := hB3.cell j hj
        rw [add_plain, Nat.zero_add]
        exact this
      case c2 =>
        intro u hu
        simp only [List.mem_cons, List.not_mem_nil, or_false] at hu
        subst hu
        rfl
      case c3 => unfold maxLen; omega
      case c4 => omega
      case c5 => exact hbw3.size
      intro tv' w4 hown4 hgr _
      have hbw4 := hbw3.grown hgr hbw3.size (fun j hj => by
        rcases (hown2.alloc (.cells #[.string su] 9)).2 with ⟨h, _⟩ | ⟨g', cap', cur', h, hb', _⟩
        · rw [h] at hj; simp [Value.ownBlock] at hj
        · rw [h] at hj
          simp only [Value.ownBlock, Option.some.injEq] at hj
          omega)
      obtain ⟨ta', tl', tc', htv'⟩ : ∃ ta tl tc, tv' = .slice ta tl tc := by
        rcases hown4.2 with ⟨h, _⟩ | ⟨g, cap, cur, h, _⟩
        · exact ⟨_, _, _, h⟩
        · exact ⟨_, _, _, h⟩
      subst htv'
      have HO4 := hid hown4
      have HB4 := hid hbw4
      have HQ := hid hQ
      clear hown4 hgr hbw4 hown2 hB3 hbw3 hbw2 hQ
      go_wp2
      refine ⟨?_, ?_⟩
      · refine ⟨k + 1, ps ++ [(a, [.string su])], _, _, _, by rw [← HM.out]; omega, by go_num, rfl, ?_, ?_, ?_, HB4.out⟩
        · rw [List.map_append, HPS.out, List.take_add_one, Ha.out]
          rfl
        · intro p hp
          rcases List.mem_append.1 hp with hp | hp
          · exact HPQ.out p hp
          · rw [List.mem_singleton] at hp
            subst hp
            exact ⟨⟨su, rfl, HQ.out⟩, rfl⟩
        · have := HO4.out
          rw [List.length_append, HPL.out, List.flatMap_append]
          simpa using this
      · simp [intOf]; omega
    · have hke : k = M := by omega
      subst hke
      have HO := hid hown
      have HB := hid hbw
      clear hown hbw
      go_wp2
      go_ret
      refine ⟨_, rfl, ⟨ps, ?_, HPQ.out, ?_⟩, HB.out⟩
      · rw [HPS.out, HM.out, List.take_length]
      · rw [HPL.out]; exact HO.out

structure EachICaseString (w : World) (xs : List Pl.Cas) (Q : Pl.Cas → ByteArray → Prop) (tv i : Value) (wr : World) : Prop where
  all : ∃ (k : Nat) (ps : List (Pl.Cas × List Value)) (ta : Option Addr) (tl tc : Nat), k ≤ xs.length ∧ i = .int .i64 (k : Int) ∧ tv = .slice ta tl tc ∧ ps.map Prod.fst = xs.take k ∧ (∀ p ∈ ps, (fun a c (_ : World) => ∃ s, c = [.string s] ∧ Q a s) p.1 p.2 w ∧ p.2.length = 1) ∧ wr.ownsRow w.heap.size 9 1 tv ps.length (ps.flatMap Prod.snd) ∧ Below w.heap.size w wr

theorem Tryz.infoEachCaseString : (Tryz.prog.info? 9).map (fun i => (i.zero, i.size, i.bytes)) = some (some (.string ⟨#[]⟩), 1, 16) := by kernel_rfl

set_option maxHeartbeats 8000000 in
theorem eachCaseString_any (ft : Nat) (hen : ∀ (args : Array Value) (w' : World), (callFunc ft args).run Tryz.prog w' = .ok (.enter ft args) w') (v : Value) (xs : List Pl.Cas) (hx : xs.length ≤ 100000) (Q : Pl.Cas → ByteArray → Prop) (w : World) (hS : Rw 2 (CasG) w v xs)
    (ht : ∀ a ∈ xs, ∀ c W, (CasG) a c w → (CasG) a c W → Below w.heap.size w W → Calls Tryz.prog ft #[.agg ⟨c⟩] W fun e w' => ∃ s, e = .returned (.string s) ∧ Q a s ∧ Below W.heap.size W w') :
    Calls Tryz.prog 144 #[v, .func (.func ft) #[] #[]] w fun e w' => ∃ tv, e = .returned tv ∧ Rows 9 1 (fun a c (_ : World) => ∃ s, c = [.string s] ∧ Q a s) w.heap.size w' tv xs ∧ Below w.heap.size w w' := by
  obtain ⟨i0, hi, hz⟩ := Option.map_eq_some_iff.1 Tryz.infoEachCaseString
  obtain ⟨hz0, hz1, hz2⟩ : i0.zero = some (.string ⟨#[]⟩) ∧ i0.size = 1 ∧ i0.bytes = 16 := by
    simp only [Prod.mk.injEq] at hz
    exact hz
  obtain ⟨ad0, cp0, hvv⟩ := hS.shape
  have HS := hid hS
  have HT := hid ht
  obtain ⟨M, hM⟩ : ∃ M, M = xs.length := ⟨_, rfl⟩
  rw [← hM] at hx hvv
  subst hvv
  have HM : Hid (M = xs.length) := hM
  clear hS ht hM
  go_enter Tryz.func144, Tryz.ntmps144
  go_wp2_with fail
  go_loopw [5, 10] (fun tv i wr => EachICaseString w xs Q tv i wr) (fun _ i _ => M - (intOf i).toNat)
  case atStart => exact ⟨0, [], none, 0, 0, Nat.zero_le _, rfl, rfl, rfl, (fun p hp => by cases hp), World.ownsRow_nil _ _ _ _, Below.refl _ _⟩
  case round =>
    obtain ⟨k, ps, ta, tl, tc, hk, rfl, rfl, hps, hpq, hown, hbw⟩ := hrel.all
    clear hrel
    rw [← HM.out] at hk
    have hpl : ps.length = k := by
      have := congrArg List.length hps
      rw [List.length_map, List.length_take, ← HM.out] at this
      omega
    rw [hpl] at hown
    have HPS := hid hps
    have HPQ := hid hpq
    have HPL := hid hpl
    clear hps hpq hpl
    by_cases hlt : k < M
    · obtain ⟨a, ha⟩ : ∃ a, xs[k]? = some a := ⟨xs[k]'(by rw [← HM.out]; exact hlt), by simp⟩
      obtain ⟨g, off, cap, c, hv, hg0, hRc0, hc0⟩ := HS.out.at ha
      have hg := Nat.lt_of_lt_of_le hg0 hbw.size
      have HR0 := hid hRc0
      have hRc : (CasG) a c wr := (fun h => h) hRc0
      have hc : ∀ (j : Nat) (u : Value), c[j]? = some u → wr.cell? ⟨g, off + k * 2 + j, none⟩ = some u := fun j u hj => (hbw.cell hg0).trans (hc0 j u hj)
      clear hc0 hRc0 hg0
      have HRc := hid hRc
      obtain ⟨xs1, rfl, hxs⟩ := hRc
      injection hv with hv1 hv2 hv3
      clear hv2
      subst hv1 hv3
      have c0 := hc 0 _ rfl
      have c1 := hc 1 _ rfl
      simp only [Nat.add_zero] at c0
      have hcall := HT.out a (List.mem_of_getElem? ha) _ (wr.alloc (.cells #[.string xs1, .int .i64 (a.num : Int)] 101)) HR0.out (HRc.out) (below_next hbw (below_alloc wr _))
      have hbA := below_next hbw (below_alloc wr (.cells #[.string xs1, .int .i64 (a.num : Int)] 101))
      have Ha := hid ha
      clear hc HRc ha hxs HR0
      go_wp2_with fail
      refine hcall.mono ?_
      rintro e w2 ⟨su, rfl, hQ, hb2⟩
      have hbw2 := below_next hbA hb2
      have hown2 := own_ch (X := fun _ _ => False) (hown.alloc (.cells #[.string xs1, .int .i64 (a.num : Int)] 101)) (Ch.below hb2) (fun _ _ h => h)
      have hB3 := Bx.new w2 [.string su] 9
      have hbw3 := below_next hbw2 (below_alloc w2 (.cells #[.string su] 9))
      clear hcall hown
      go_wp2_with (first
        | (at_builtin; refine wpList_append_own _ rfl _ _ 123 rfl w.heap.size 9 i0 (.string ⟨#[]⟩) 1 16 Tryz.underlying123 hi hz0 hz1 hz2 rfl (by decide) _ _ _ rfl (hown2.alloc (.cells #[.string su] 9)) ⟨w2.heap.size, 0, none⟩ 1 1 [.string su] rfl rfl ?c1 ?c2 ?c3 ?c4 ?c5 ?_)
        | fail)
      case c1 =>
        intro j u hj
        have := hB3.cell j hj
        rw [add_plain, Nat.zero_add]
        exact this
      case c2 =>
        intro u hu
        simp only [List.mem_cons, List.not_mem_nil, or_false] at hu
        subst hu
        rfl
      case c3 => unfold maxLen; omega
      case c4 => omega
      case c5 => exact hbw3.size
      intro tv' w4 hown4 hgr _
      have hbw4 := hbw3.grown hgr hbw3.size (fun j hj => by
        rcases (hown2.alloc (.cells #[.string su] 9)).2 with ⟨h, _⟩ | ⟨g', cap', cur', h, hb', _⟩
        · rw [h] at hj; simp [Value.ownBlock] at hj
        · rw [h] at hj
          simp only [Value.ownBlock, Option.some.injEq] at hj
          omega)
      obtain ⟨ta', tl', tc', htv'⟩ : ∃ ta tl tc, tv' = .slice ta tl tc := by
        rcases hown4.2 with ⟨h, _⟩ | ⟨g, cap, cur, h, _⟩
        · exact ⟨_, _, _, h⟩
        · exact ⟨_, _, _, h⟩
      subst htv'
      have HO4 := hid hown4
      have HB4 := hid hbw4
      have HQ := hid hQ
      clear hown4 hgr hbw4 hown2 hB3 hbw3 hbw2 hQ
      go_wp2
      refine ⟨?_, ?_⟩
      · refine ⟨k + 1, ps ++ [(a, [.string su])], _, _, _, by rw [← HM.out]; omega, by go_num, rfl, ?_, ?_, ?_, HB4.out⟩
        · rw [List.map_append, HPS.out, List.take_add_one, Ha.out]
          rfl
        · intro p hp
          rcases List.mem_append.1 hp with hp | hp
          · exact HPQ.out p hp
          · rw [List.mem_singleton] at hp
            subst hp
            exact ⟨⟨su, rfl, HQ.out⟩, rfl⟩
        · have := HO4.out
          rw [List.length_append, HPL.out, List.flatMap_append]
          simpa using this
      · simp [intOf]; omega
    · have hke : k = M := by omega
      subst hke
      have HO := hid hown
      have HB := hid hbw
      clear hown hbw
      go_wp2
      go_ret
      refine ⟨_, rfl, ⟨ps, ?_, HPQ.out, ?_⟩, HB.out⟩
      · rw [HPS.out, HM.out, List.take_length]
      · rw [HPL.out]; exact HO.out

structure EachIMethodString (w : World) (xs : List Pl.Mth) (Q : Pl.Mth → ByteArray → Prop) (tv i : Value) (wr : World) : Prop where
  all : ∃ (k : Nat) (ps : List (Pl.Mth × List Value)) (ta : Option Addr) (tl tc : Nat), k ≤ xs.length ∧ i = .int .i64 (k : Int) ∧ tv = .slice ta tl tc ∧ ps.map Prod.fst = xs.take k ∧ (∀ p ∈ ps, (fun a c (_ : World) => ∃ s, c = [.string s] ∧ Q a s) p.1 p.2 w ∧ p.2.length = 1) ∧ wr.ownsRow w.heap.size 9 1 tv ps.length (ps.flatMap Prod.snd) ∧ Below w.heap.size w wr

theorem Tryz.infoEachMethodString : (Tryz.prog.info? 9).map (fun i => (i.zero, i.size, i.bytes)) = some (some (.string ⟨#[]⟩), 1, 16) := by kernel_rfl

set_option maxHeartbeats 8000000 in
theorem eachMethodString_any (ft : Nat) (hen : ∀ (args : Array Value) (w' : World), (callFunc ft args).run Tryz.prog w' = .ok (.enter ft args) w') (v : Value) (xs : List Pl.Mth) (hx : xs.length ≤ 100000) (Q : Pl.Mth → ByteArray → Prop) (w : World) (hS : Rw 8 (MthG) w v xs)
    (ht : ∀ a ∈ xs, ∀ c W, (MthG) a c w → (MthG) a c W → Below w.heap.size w W → Calls Tryz.prog ft #[.agg ⟨c⟩] W fun e w' => ∃ s, e = .returned (.string s) ∧ Q a s ∧ Below W.heap.size W w') :
    Calls Tryz.prog 146 #[v, .func (.func ft) #[] #[]] w fun e w' => ∃ tv, e = .returned tv ∧ Rows 9 1 (fun a c (_ : World) => ∃ s, c = [.string s] ∧ Q a s) w.heap.size w' tv xs ∧ Below w.heap.size w w' := by
  obtain ⟨i0, hi, hz⟩ := Option.map_eq_some_iff.1 Tryz.infoEachMethodString
  obtain ⟨hz0, hz1, hz2⟩ : i0.zero = some (.string ⟨#[]⟩) ∧ i0.size = 1 ∧ i0.bytes = 16 := by
    simp only [Prod.mk.injEq] at hz
    exact hz
  obtain ⟨ad0, cp0, hvv⟩ := hS.shape
  have HS := hid hS
  have HT := hid ht
  obtain ⟨M, hM⟩ : ∃ M, M = xs.length := ⟨_, rfl⟩
  rw [← hM] at hx hvv
  subst hvv
  have HM : Hid (M = xs.length) := hM
  clear hS ht hM
  go_enter Tryz.func146, Tryz.ntmps146
  go_wp2_with fail
  go_loopw [5, 10] (fun tv i wr => EachIMethodString w xs Q tv i wr) (fun _ i _ => M - (intOf i).toNat)
  case atStart => exact ⟨0, [], none, 0, 0, Nat.zero_le _, rfl, rfl, rfl, (fun p hp => by cases hp), World.ownsRow_nil _ _ _ _, Below.refl _ _⟩
  case round =>
    obtain ⟨k, ps, ta, tl, tc, hk, rfl, rfl, hps, hpq, hown, hbw⟩ := hrel.all
    clear hrel
    rw [← HM.out] at hk
    have hpl : ps.length = k := by
      have := congrArg List.length hps
      rw [List.length_map, List.length_take, ← HM.out] at this
      omega
    rw [hpl] at hown
    have HPS := hid hps
    have HPQ := hid hpq
    have HPL := hid hpl
    clear hps hpq hpl
    by_cases hlt : k < M
    · obtain ⟨a, ha⟩ : ∃ a, xs[k]? = some a := ⟨xs[k]'(by rw [← HM.out]; exact hlt), by simp⟩
      obtain ⟨g, off, cap, c, hv, hg0, hRc0, hc0⟩ := HS.out.at ha
      have hg := Nat.lt_of_lt_of_le hg0 hbw.size
      have HR0 := hid hRc0
      have hRc : (MthG) a c wr := (fun h => MthG.below hbw _ _ h) hRc0
      have hc : ∀ (j : Nat) (u : Value), c[j]? = some u → wr.cell? ⟨g, off + k * 8 + j, none⟩ = some u := fun j u hj => (hbw.cell hg0).trans (hc0 j u hj)
      clear hc0 hRc0 hg0
      have HRc := hid hRc
      obtain ⟨xs1, xk, xn, xd, xm, xc, yk, yn, yd, ym, yc, rfl, hxs, hxr, hyr⟩ := hRc
      injection hv with hv1 hv2 hv3
      clear hv2
      subst hv1 hv3
      have c0 := hc 0 _ rfl
      have c1 := hc 1 _ rfl
      have c2 := hc 2 _ rfl
      have c3 := hc 3 _ rfl
      have c4 := hc 4 _ rfl
      have c5 := hc 5 _ rfl
      have c6 := hc 6 _ rfl
      have c7 := hc 7 _ rfl
      simp only [Nat.add_zero] at c0
      have hcall := HT.out a (List.mem_of_getElem? ha) _ (wr.alloc (.cells #[.string xs1, .bool a.once, .int .i64 xk, .string xn, .slice xd xm xc, .int .i64 yk, .string yn, .slice yd ym yc] 122)) HR0.out (MthG.below (below_alloc wr _) _ _ HRc.out) (below_next hbw (below_alloc wr _))
      have hbA := below_next hbw (below_alloc wr (.cells #[.string xs1, .bool a.once, .int .i64 xk, .string xn, .slice xd xm xc, .int .i64 yk, .string yn, .slice yd ym yc] 122))
      have Ha := hid ha
      clear hc HRc ha hxs HR0
      go_wp2_with fail
      refine hcall.mono ?_
      rintro e w2 ⟨su, rfl, hQ, hb2⟩
      have hbw2 := below_next hbA hb2
      have hown2 := own_ch (X := fun _ _ => False) (hown.alloc (.cells #[.string xs1, .bool a.once, .int .i64 xk, .string xn, .slice xd xm xc, .int .i64 yk, .string yn, .slice yd ym yc] 122)) (Ch.below hb2) (fun _ _ h => h)
      have hB3 := Bx.new w2 [.string su] 9
      have hbw3 := below_next hbw2 (below_alloc w2 (.cells #[.string su] 9))
      clear hcall hown
      go_wp2_with (first
        | (at_builtin; refine wpList_append_own _ rfl _ _ 123 rfl w.heap.size 9 i0 (.string ⟨#[]⟩) 1 16 Tryz.underlying123 hi hz0 hz1 hz2 rfl (by decide) _ _ _ rfl (hown2.alloc (.cells #[.string su] 9)) ⟨w2.heap.size, 0, none⟩ 1 1 [.string su] rfl rfl ?c1 ?c2 ?c3 ?c4 ?c5 ?_)
        | fail)
      case c1 =>
        intro j u hj
        have := hB3.cell j hj
        rw [add_plain, Nat.zero_add]
        exact this
      case c2 =>
        intro u hu
        simp only [List.mem_cons, List.not_mem_nil, or_false] at hu
        subst hu
        rfl
      case c3 => unfold maxLen; omega
      case c4 => omega
      case c5 => exact hbw3.size
      intro tv' w4 hown4 hgr _
      have hbw4 := hbw3.grown hgr hbw3.size (fun j hj => by
        rcases (hown2.alloc (.cells #[.string su] 9)).2 with ⟨h, _⟩ | ⟨g', cap', cur', h, hb', _⟩
        · rw [h] at hj; simp [Value.ownBlock] at hj
        · rw [h] at hj
          simp only [Value.ownBlock, Option.some.injEq] at hj
          omega)
      obtain ⟨ta', tl', tc', htv'⟩ : ∃ ta tl tc, tv' = .slice ta tl tc := by
        rcases hown4.2 with ⟨h, _⟩ | ⟨g, cap, cur, h, _⟩
        · exact ⟨_, _, _, h⟩
        · exact ⟨_, _, _, h⟩
      subst htv'
      have HO4 := hid hown4
      have HB4 := hid hbw4
      have HQ := hid hQ
      clear hown4 hgr hbw4 hown2 hB3 hbw3 hbw2 hQ
      go_wp2
      refine ⟨?_, ?_⟩
      · refine ⟨k + 1, ps ++ [(a, [.string su])], _, _, _, by rw [← HM.out]; omega, by go_num, rfl, ?_, ?_, ?_, HB4.out⟩
        · rw [List.map_append, HPS.out, List.take_add_one, Ha.out]
          rfl
        · intro p hp
          rcases List.mem_append.1 hp with hp | hp
          · exact HPQ.out p hp
          · rw [List.mem_singleton] at hp
            subst hp
            exact ⟨⟨su, rfl, HQ.out⟩, rfl⟩
        · have := HO4.out
          rw [List.length_append, HPL.out, List.flatMap_append]
          simpa using this
      · simp [intOf]; omega
    · have hke : k = M := by omega
      subst hke
      have HO := hid hown
      have HB := hid hbw
      clear hown hbw
      go_wp2
      go_ret
      refine ⟨_, rfl, ⟨ps, ?_, HPQ.out, ?_⟩, HB.out⟩
      · rw [HPS.out, HM.out, List.take_length]
      · rw [HPL.out]; exact HO.out

structure EachIFieldCase (w : World) (xs : List Pl.Fld) (Q : Pl.Fld → ByteArray → Int → Prop) (tv i : Value) (wr : World) : Prop where
  all : ∃ (k : Nat) (ps : List (Pl.Fld × List Value)) (ta : Option Addr) (tl tc : Nat), k ≤ xs.length ∧ i = .int .i64 (k : Int) ∧ tv = .slice ta tl tc ∧ ps.map Prod.fst = xs.take k ∧ (∀ p ∈ ps, (fun a c (_ : World) => ∃ s n, c = [.string s, .int .i64 n] ∧ Q a s n) p.1 p.2 w ∧ p.2.length = 2) ∧ wr.ownsRow w.heap.size 101 2 tv ps.length (ps.flatMap Prod.snd) ∧ Below w.heap.size w wr

theorem Tryz.infoEachFieldCase : (Tryz.prog.info? 101).map (fun i => (i.zero, i.size, i.bytes)) = some (some (.agg #[.string ⟨#[]⟩, .int .i64 0]), 2, 24) := by kernel_rfl

set_option maxHeartbeats 8000000 in
theorem eachFieldCase_any (ft : Nat) (hen : ∀ (args : Array Value) (w' : World), (callFunc ft args).run Tryz.prog w' = .ok (.enter ft args) w') (v : Value) (xs : List Pl.Fld) (hx : xs.length ≤ 100000) (Q : Pl.Fld → ByteArray → Int → Prop) (w : World) (hS : Rw 5 (FldG) w v xs)
    (ht : ∀ a ∈ xs, ∀ c W, (FldG) a c w → (FldG) a c W → Below w.heap.size w W → Calls Tryz.prog ft #[.agg ⟨c⟩] W fun e w' => ∃ s n, e = .returned (.agg #[.string s, .int .i64 n]) ∧ Q a s n ∧ Below W.heap.size W w') :
    Calls Tryz.prog 139 #[v, .func (.func ft) #[] #[]] w fun e w' => ∃ tv, e = .returned tv ∧ Rows 101 2 (fun a c (_ : World) => ∃ s n, c = [.string s, .int .i64 n] ∧ Q a s n) w.heap.size w' tv xs ∧ Below w.heap.size w w' := by
  obtain ⟨i0, hi, hz⟩ := Option.map_eq_some_iff.1 Tryz.infoEachFieldCase
  obtain ⟨hz0, hz1, hz2⟩ : i0.zero = some (.agg #[.string ⟨#[]⟩, .int .i64 0]) ∧ i0.size = 2 ∧ i0.bytes = 24 := by
    simp only [Prod.mk.injEq] at hz
    exact hz
  obtain ⟨ad0, cp0, hvv⟩ := hS.shape
  have HS := hid hS
  have HT := hid ht
  obtain ⟨M, hM⟩ : ∃ M, M = xs.length := ⟨_, rfl⟩
  rw [← hM] at hx hvv
  subst hvv
  have HM : Hid (M = xs.length) := hM
  clear hS ht hM
  go_enter Tryz.func139, Tryz.ntmps139
  go_wp2_with fail
  go_loopw [5, 10] (fun tv i wr => EachIFieldCase w xs Q tv i wr) (fun _ i _ => M - (intOf i).toNat)
  case atStart => exact ⟨0, [], none, 0, 0, Nat.zero_le _, rfl, rfl, rfl, (fun p hp => by cases hp), World.ownsRow_nil _ _ _ _, Below.refl _ _⟩
  case round =>
    obtain ⟨k, ps, ta, tl, tc, hk, rfl, rfl, hps, hpq, hown, hbw⟩ := hrel.all
    clear hrel
    rw [← HM.out] at hk
    have hpl : ps.length = k := by
      have := congrArg List.length hps
      rw [List.length_map, List.length_take, ← HM.out] at this
      omega
    rw [hpl] at hown
    have HPS := hid hps
    have HPQ := hid hpq
    have HPL := hid hpl
    clear hps hpq hpl
    by_cases hlt : k < M
    · obtain ⟨a, ha⟩ : ∃ a, xs[k]? = some a := ⟨xs[k]'(by rw [← HM.out]; exact hlt), by simp⟩
      obtain ⟨g, off, cap, c, hv, hg0, hRc0, hc0⟩ := HS.out.at ha
      have hg := Nat.lt_of_lt_of_le hg0 hbw.size
      have HR0 := hid hRc0
      have hRc : (FldG) a c wr := (fun h => FldG.below hbw _ _ h) hRc0
      have hc : ∀ (j : Nat) (u : Value), c[j]? = some u → wr.cell? ⟨g, off + k * 5 + j, none⟩ = some u := fun j u hj => (hbw.cell hg0).trans (hc0 j u hj)
      clear hc0 hRc0 hg0
      have HRc := hid hRc
      obtain ⟨xs1, xk, xn, xd, xm, xc, rfl, hxs, hxr⟩ := hRc
      injection hv with hv1 hv2 hv3
      clear hv2
      subst hv1 hv3
      have c0 := hc 0 _ rfl
      have c1 := hc 1 _ rfl
      have c2 := hc 2 _ rfl
      have c3 := hc 3 _ rfl
      have c4 := hc 4 _ rfl
      simp only [Nat.add_zero] at c0
      have hcall := HT.out a (List.mem_of_getElem? ha) _ (wr.alloc (.cells #[.string xs1, .int .i64 (a.num : Int), .int .i64 xk, .string xn, .slice xd xm xc] 61)) HR0.out (FldG.below (below_alloc wr _) _ _ HRc.out) (below_next hbw (below_alloc wr _))
      have hbA := below_next hbw (below_alloc wr (.cells #[.string xs1, .int .i64 (a.num : Int), .int .i64 xk, .string xn, .slice xd xm xc] 61))
      have Ha := hid ha
      clear hc HRc ha hxs HR0
      go_wp2_with fail
      refine hcall.mono ?_
      rintro e w2 ⟨su, nu, rfl, hQ, hb2⟩
      have hbw2 := below_next hbA hb2
      have hown2 := own_ch (X := fun _ _ => False) (hown.alloc (.cells #[.string xs1, .int .i64 (a.num : Int), .int .i64 xk, .string xn, .slice xd xm xc] 61)) (Ch.below hb2) (fun _ _ h => h)
      have hB3 := Bx.new w2 [.string su, .int .i64 nu] 101
      have hbw3 := below_next hbw2 (below_alloc w2 (.cells #[.string su, .int .i64 nu] 101))
      clear hcall hown
      go_wp2_with (first
        | (at_builtin; refine wpList_append_own _ rfl _ _ 81 rfl w.heap.size 101 i0 (.agg #[.string ⟨#[]⟩, .int .i64 0]) 2 24 Tryz.underlying81 hi hz0 hz1 hz2 rfl (by decide) _ _ _ rfl (hown2.alloc (.cells #[.string su, .int .i64 nu] 101)) ⟨w2.heap.size, 0, none⟩ 1 1 [.string su, .int .i64 nu] rfl rfl ?c1 ?c2 ?c3 ?c4 ?c5 ?_)
        | fail)
      case c1 =>
        intro j u hj
        have := hB3.cell j hj
        rw [add_plain, Nat.zero_add]
        exact this
      case c2 =>
        intro u hu
        simp only [List.mem_cons, List.not_mem_nil, or_false] at hu
        rcases hu with rfl | rfl <;> rfl
      case c3 => unfold maxLen; omega
      case c4 => omega
      case c5 => exact hbw3.size
      intro tv' w4 hown4 hgr _
      have hbw4 := hbw3.grown hgr hbw3.size (fun j hj => by
        rcases (hown2.alloc (.cells #[.string su, .int .i64 nu] 101)).2 with ⟨h, _⟩ | ⟨g', cap', cur', h, hb', _⟩
        · rw [h] at hj; simp [Value.ownBlock] at hj
        · rw [h] at hj
          simp only [Value.ownBlock, Option.some.injEq] at hj
          omega)
      obtain ⟨ta', tl', tc', htv'⟩ : ∃ ta tl tc, tv' = .slice ta tl tc := by
        rcases hown4.2 with ⟨h, _⟩ | ⟨g, cap, cur, h, _⟩
        · exact ⟨_, _, _, h⟩
        · exact ⟨_, _, _, h⟩
      subst htv'
      have HO4 := hid hown4
      have HB4 := hid hbw4
      have HQ := hid hQ
      clear hown4 hgr hbw4 hown2 hB3 hbw3 hbw2 hQ
      go_wp2
      refine ⟨?_, ?_⟩
      · refine ⟨k + 1, ps ++ [(a, [.string su, .int .i64 nu])], _, _, _, by rw [← HM.out]; omega, by go_num, rfl, ?_, ?_, ?_, HB4.out⟩
        · rw [List.map_append, HPS.out, List.take_add_one, Ha.out]
          rfl
        · intro p hp
          rcases List.mem_append.1 hp with hp | hp
          · exact HPQ.out p hp
          · rw [List.mem_singleton] at hp
            subst hp
            exact ⟨⟨su, nu, rfl, HQ.out⟩, rfl⟩
        · have := HO4.out
          rw [List.length_append, HPL.out, List.flatMap_append]
          simpa using this
      · simp [intOf]; omega
    · have hke : k = M := by omega
      subst hke
      have HO := hid hown
      have HB := hid hbw
      clear hown hbw
      go_wp2
      go_ret
      refine ⟨_, rfl, ⟨ps, ?_, HPQ.out, ?_⟩, HB.out⟩
      · rw [HPS.out, HM.out, List.take_length]
      · rw [HPL.out]; exact HO.out

structure EachIFieldType (w : World) (xs : List Pl.Fld) (Q : Pl.Fld → Int → ByteArray → Option Addr → Nat → Nat → Prop) (tv i : Value) (wr : World) : Prop where
  all : ∃ (k : Nat) (ps : List (Pl.Fld × List Value)) (ta : Option Addr) (tl tc : Nat), k ≤ xs.length ∧ i = .int .i64 (k : Int) ∧ tv = .slice ta tl tc ∧ ps.map Prod.fst = xs.take k ∧ (∀ p ∈ ps, (fun a c (_ : World) => ∃ k s ad m cp, c = [.int .i64 k, .string s, .slice ad m cp] ∧ Q a k s ad m cp) p.1 p.2 w ∧ p.2.length = 3) ∧ wr.ownsRow w.heap.size 29 3 tv ps.length (ps.flatMap Prod.snd) ∧ Below w.heap.size w wr

theorem Tryz.infoEachFieldType : (Tryz.prog.info? 29).map (fun i => (i.zero, i.size, i.bytes)) = some (some (.agg #[.int .i64 0, .string ⟨#[]⟩, .slice none 0 0]), 3, 48) := by kernel_rfl

set_option maxHeartbeats 8000000 in
theorem eachFieldType_any (ft : Nat) (hen : ∀ (args : Array Value) (w' : World), (callFunc ft args).run Tryz.prog w' = .ok (.enter ft args) w') (v : Value) (xs : List Pl.Fld) (hx : xs.length ≤ 100000) (Q : Pl.Fld → Int → ByteArray → Option Addr → Nat → Nat → Prop) (w : World) (hS : Rw 5 (FldG) w v xs)
    (ht : ∀ a ∈ xs, ∀ c W, (FldG) a c w → (FldG) a c W → Below w.heap.size w W → Calls Tryz.prog ft #[.agg ⟨c⟩] W fun e w' => ∃ k s ad m cp, e = .returned (.agg #[.int .i64 k, .string s, .slice ad m cp]) ∧ Q a k s ad m cp ∧ Below W.heap.size W w') :
    Calls Tryz.prog 142 #[v, .func (.func ft) #[] #[]] w fun e w' => ∃ tv, e = .returned tv ∧ Rows 29 3 (fun a c (_ : World) => ∃ k s ad m cp, c = [.int .i64 k, .string s, .slice ad m cp] ∧ Q a k s ad m cp) w.heap.size w' tv xs ∧ Below w.heap.size w w' := by
  obtain ⟨i0, hi, hz⟩ := Option.map_eq_some_iff.1 Tryz.infoEachFieldType
  obtain ⟨hz0, hz1, hz2⟩ : i0.zero = some (.agg #[.int .i64 0, .string ⟨#[]⟩, .slice none 0 0]) ∧ i0.size = 3 ∧ i0.bytes = 48 := by
    simp only [Prod.mk.injEq] at hz
    exact hz
  obtain ⟨ad0, cp0, hvv⟩ := hS.shape
  have HS := hid hS
  have HT := hid ht
  obtain ⟨M, hM⟩ : ∃ M, M = xs.length := ⟨_, rfl⟩
  rw [← hM] at hx hvv
  subst hvv
  have HM : Hid (M = xs.length) := hM
  clear hS ht hM
  go_enter Tryz.func142, Tryz.ntmps142
  go_wp2_with fail
  go_loopw [5, 10] (fun tv i wr => EachIFieldType w xs Q tv i wr) (fun _ i _ => M - (intOf i).toNat)
  case atStart => exact ⟨0, [], none, 0, 0, Nat.zero_le _, rfl, rfl, rfl, (fun p hp => by cases hp), World.ownsRow_nil _ _ _ _, Below.refl _ _⟩
  case round =>
    obtain ⟨k, ps, ta, tl, tc, hk, rfl, rfl, hps, hpq, hown, hbw⟩ := hrel.all
    clear hrel
    rw [← HM.out] at hk
    have hpl : ps.length = k := by
      have := congrArg List.length hps
      rw [List.length_map, List.length_take, ← HM.out] at this
      omega
    rw [hpl] at hown
    have HPS := hid hps
    have HPQ := hid hpq
    have HPL := hid hpl
    clear hps hpq hpl
    by_cases hlt : k < M
    · obtain ⟨a, ha⟩ : ∃ a, xs[k]? = some a := ⟨xs[k]'(by rw [← HM.out]; exact hlt), by simp⟩
      obtain ⟨g, off, cap, c, hv, hg0, hRc0, hc0⟩ := HS.out.at ha
      have hg := Nat.lt_of_lt_of_le hg0 hbw.size
      have HR0 := hid hRc0
      have hRc : (FldG) a c wr := (fun h => FldG.below hbw _ _ h) hRc0
      have hc : ∀ (j : Nat) (u : Value), c[j]? = some u → wr.cell? ⟨g, off + k * 5 + j, none⟩ = some u := fun j u hj => (hbw.cell hg0).trans (hc0 j u hj)
      clear hc0 hRc0 hg0
      have HRc := hid hRc
      obtain ⟨xs1, xk, xn, xd, xm, xc, rfl, hxs, hxr⟩ := hRc
      injection hv with hv1 hv2 hv3
      clear hv2
      subst hv1 hv3
      have c0 := hc 0 _ rfl
      have c1 := hc 1 _ rfl
      have c2 := hc 2 _ rfl
      have c3 := hc 3 _ rfl
      have c4 := hc 4 _ rfl
      simp only [Nat.add_zero] at c0
      have hcall := HT.out a (List.mem_of_getElem? ha) _ (wr.alloc (.cells #[.string xs1, .int .i64 (a.num : Int), .int .i64 xk, .string xn, .slice xd xm xc] 61)) HR0.out (FldG.below (below_alloc wr _) _ _ HRc.out) (below_next hbw (below_alloc wr _))
      have hbA := below_next hbw (below_alloc wr (.cells #[.string xs1, .int .i64 (a.num : Int), .int .i64 xk, .string xn, .slice xd xm xc] 61))
      have Ha := hid ha
      clear hc HRc ha hxs HR0
      go_wp2_with fail
      refine hcall.mono ?_
      rintro e w2 ⟨ku, su, du, mu, cu, rfl, hQ, hb2⟩
      have hbw2 := below_next hbA hb2
      have hown2 := own_ch (X := fun _ _ => False) (hown.alloc (.cells #[.string xs1, .int .i64 (a.num : Int), .int .i64 xk, .string xn, .slice xd xm xc] 61)) (Ch.below hb2) (fun _ _ h => h)
      have hB3 := Bx.new w2 [.int .i64 ku, .string su, .slice du mu cu] 29
      have hbw3 := below_next hbw2 (below_alloc w2 (.cells #[.int .i64 ku, .string su, .slice du mu cu] 29))
      clear hcall hown
      go_wp2_with (first
        | (at_builtin; refine wpList_append_own _ rfl _ _ 27 rfl w.heap.size 29 i0 (.agg #[.int .i64 0, .string ⟨#[]⟩, .slice none 0 0]) 3 48 Tryz.underlying27 hi hz0 hz1 hz2 rfl (by decide) _ _ _ rfl (hown2.alloc (.cells #[.int .i64 ku, .string su, .slice du mu cu] 29)) ⟨w2.heap.size, 0, none⟩ 1 1 [.int .i64 ku, .string su, .slice du mu cu] rfl rfl ?c1 ?c2 ?c3 ?c4 ?c5 ?_)
        | fail)
      case c1 =>
        intro j u hj
        have := hB3.cell j hj
        rw [add_plain, Nat.zero_add]
        exact this
      case c2 =>
        intro u hu
        simp only [List.mem_cons, List.not_mem_nil, or_false] at hu
        rcases hu with rfl | rfl | rfl <;> rfl
      case c3 => unfold maxLen; omega
      case c4 => omega
      case c5 => exact hbw3.size
      intro tv' w4 hown4 hgr _
      have hbw4 := hbw3.grown hgr hbw3.size (fun j hj => by
        rcases (hown2.alloc (.cells #[.int .i64 ku, .string su, .slice du mu cu] 29)).2 with ⟨h, _⟩ | ⟨g', cap', cur', h, hb', _⟩
        · rw [h] at hj; simp [Value.ownBlock] at hj
        · rw [h] at hj
          simp only [Value.ownBlock, Option.some.injEq] at hj
          omega)
      obtain ⟨ta', tl', tc', htv'⟩ : ∃ ta tl tc, tv' = .slice ta tl tc := by
        rcases hown4.2 with ⟨h, _⟩ | ⟨g, cap, cur, h, _⟩
        · exact ⟨_, _, _, h⟩
        · exact ⟨_, _, _, h⟩
      subst htv'
      have HO4 := hid hown4
      have HB4 := hid hbw4
      have HQ := hid hQ
      clear hown4 hgr hbw4 hown2 hB3 hbw3 hbw2 hQ
      go_wp2
      refine ⟨?_, ?_⟩
      · refine ⟨k + 1, ps ++ [(a, [.int .i64 ku, .string su, .slice du mu cu])], _, _, _, by rw [← HM.out]; omega, by go_num, rfl, ?_, ?_, ?_, HB4.out⟩
        · rw [List.map_append, HPS.out, List.take_add_one, Ha.out]
          rfl
        · intro p hp
          rcases List.mem_append.1 hp with hp | hp
          · exact HPQ.out p hp
          · rw [List.mem_singleton] at hp
            subst hp
            exact ⟨⟨ku, su, du, mu, cu, rfl, HQ.out⟩, rfl⟩
        · have := HO4.out
          rw [List.length_append, HPL.out, List.flatMap_append]
          simpa using this
      · simp [intOf]; omega
    · have hke : k = M := by omega
      subst hke
      have HO := hid hown
      have HB := hid hbw
      clear hown hbw
      go_wp2
      go_ret
      refine ⟨_, rfl, ⟨ps, ?_, HPQ.out, ?_⟩, HB.out⟩
      · rw [HPS.out, HM.out, List.take_length]
      · rw [HPL.out]; exact HO.out
end Go.Proofs.YtmiohekmpjiloaaGreatDoor

namespace Go.Proofs.YtmiohekmpjiloaaGreatDoor
open Go.RowKit
set_option maxRecDepth 20000

/-- How a check ends. -/
def rangeE (least : Nat) : List Pl.Cas → Int
  | [] => 0
  | c :: r => if least ≤ c.num ∧ c.num ≤ 65536 then rangeE least r else 4
def riseE : List Pl.Cas → Int
  | [] => 0
  | [_] => 0
  | a :: b :: r => if a.num < b.num then riseE (b :: r) else 43
def meetE (names : List (List Nat)) : Int := if (meetF 4 names (fun _ => 0)).isSome then 0 else 43
def thenE (a b : Int) : Int := if a = 0 then b else a
def partsE (least : Nat) (l : List Pl.Cas) : Int := thenE (rangeE least l) (thenE (riseE l) (meetE (l.map (·.name))))

theorem rows_slT {α : Type} {T : TypeId} {B : Nat} {w : World} {v : Value} {xs : List α} (nm : α → List Nat) (h : Rows T 1 (fun a c (_ : World) => ∃ s, c = [.string s] ∧ (s.size ≤ maxLen ∧ bl s = nm a)) B w v xs) (hl : xs.length ≤ 1000) : ∃ bs, SlT w v bs ∧ bs.map bl = xs.map nm ∧ bs.length = xs.length := by
  have hf : ∀ (a : α) (s : ByteArray), bl s = nm a → Classical.epsilon (fun s : ByteArray => bl s = nm a) = s := fun a s hs => bl_inj ((Classical.epsilon_spec (p := fun s : ByteArray => bl s = nm a) ⟨s, hs⟩).trans hs.symm)
  obtain ⟨ad, cp, hv⟩ := h.shape
  refine ⟨xs.map fun a => Classical.epsilon (fun s : ByteArray => bl s = nm a), ⟨ad, cp, by rw [List.length_map]; exact hv, by rw [List.length_map]; omega, fun i s hs => ?_⟩, ?_, List.length_map _⟩
  · rw [List.getElem?_map] at hs
    obtain ⟨a, ha, rfl⟩ := Option.map_eq_some_iff.1 hs
    obtain ⟨g, cap, c, h1, _, _, h4, ⟨t, rfl, ht, hb⟩, _, h7⟩ := h.at ha
    rw [h1] at hv
    cases hv
    rw [hf a t hb]
    refine ⟨ht, g, 0, rfl, h4, ?_⟩
    have := h7 0 _ rfl
    rwa [Nat.mul_one, Nat.add_zero, ← Nat.zero_add i] at this
  · rw [List.map_map]
    refine List.map_congr_left fun a ha => ?_
    obtain ⟨i, hi, rfl⟩ := List.mem_iff_getElem.1 ha
    obtain ⟨g, cap, c, h1, _, _, h4, ⟨t, rfl, ht, hb⟩, _, h7⟩ := h.at (List.getElem?_eq_getElem hi)
    simp only [Function.comp]
    rw [hf _ t hb, hb]

theorem rise_step {xs : List Pl.Cas} {j : Nat} {a b : Pl.Cas} (ha : xs[j]? = some a) (hb : xs[j + 1]? = some b) : riseE (xs.drop j) = if a.num < b.num then riseE (xs.drop (j + 1)) else 43 := by
  obtain ⟨h1, h2⟩ := List.getElem?_eq_some_iff.1 ha
  obtain ⟨h3, h4⟩ := List.getElem?_eq_some_iff.1 hb
  rw [List.drop_eq_getElem_cons h1, List.drop_eq_getElem_cons h3, h2, h4, riseE]
theorem rise_end {xs : List Pl.Cas} {j : Nat} (h : xs.length ≤ j + 1) : riseE (xs.drop j) = 0 := by
  have hl : (xs.drop j).length ≤ 1 := by rw [List.length_drop]; omega
  match hd : xs.drop j, hl with
  | [], _ => rfl
  | [_], _ => rfl

set_option maxHeartbeats 2000000 in
theorem parts1_any (s : ByteArray) (n : Int) (w : World) : Calls Tryz.prog 145 #[.agg #[.string s, .int .i64 n]] w fun e w' => e = .returned (.string s) ∧ Below w.heap.size w w' := by
  have hb := below_alloc w (.cells #[.string s, .int .i64 n] 101)
  go_enter Tryz.func145, Tryz.ntmps145
  go_wp2
  go_ret
  exact ⟨rfl, hb⟩

structure RiseI (xs : List Pl.Cas) (w : World) (i : Value) (wr : World) : Prop where
  all : ∃ j, j ≤ xs.length ∧ i = .int .i64 ((j : Int) + 1) ∧ riseE (xs.drop j) = riseE xs ∧ Below w.heap.size w wr

structure RangI (least : Nat) (xs : List Pl.Cas) (w : World) (i : Value) (wr : World) : Prop where
  all : ∃ j, j ≤ xs.length ∧ i = .int .i64 (j : Int) ∧ rangeE least (xs.drop j) = rangeE least xs ∧ Below w.heap.size w wr

set_option maxHeartbeats 8000000 in
theorem checkParts_any (least : Nat) (v : Value) (xs : List Pl.Cas) (hx : xs.length ≤ 1000) (hn : ∀ a ∈ xs, a.name.length ≤ 1000) (w : World) (hS : Rw 2 CasG w v xs) :
    Calls Tryz.prog 108 #[.int .i64 (least : Int), v] w fun e w' => Below w.heap.size w w' ∧ e = if partsE least xs = 0 then .returned (.tuple #[]) else .panicked (errp (partsE least xs)) := by
  obtain ⟨R, hR⟩ : ∃ R, R = partsE least xs := ⟨_, rfl⟩
  rw [← hR]
  have HR := hid hR
  clear hR
  obtain ⟨ad0, cp0, hvv⟩ := hS.shape
  have HS := hid hS
  obtain ⟨M, hM⟩ : ∃ M, M = xs.length := ⟨_, rfl⟩
  rw [← hM] at hx hvv
  subst hvv
  have HM : Hid (M = xs.length) := hM
  clear hS hM
  have HN := hid hn
  clear hn
  go_enter Tryz.func108, Tryz.ntmps108
  go_wp2_with fail
  go_loopw [9] (fun i wr => RangI least xs w i wr) (fun i _ => M - (intOf i).toNat)
  case atStart => exact ⟨0, Nat.zero_le _, rfl, rfl, Below.refl _ _⟩
  case round =>
    obtain ⟨j, hj, rfl, hme, hbw⟩ := hrel.all
    clear hrel
    rw [← HM.out] at hj
    have HME := hid hme
    clear hme
    by_cases hlt : j < M
    · obtain ⟨a, ha⟩ : ∃ a, xs[j]? = some a := ⟨xs[j]'(by rw [← HM.out]; exact hlt), by simp⟩
      obtain ⟨g, off, cap, c, hv, hg, hRc, hc⟩ := (HS.out.below hbw (fun _ _ h => h)).at ha
      obtain ⟨xs1, rfl, hxs⟩ := hRc
      injection hv with hv1 hv2 hv3
      clear hv2
      subst hv1 hv3
      have c0 := hc 0 _ rfl
      have c1 := hc 1 _ rfl
      simp only [Nat.add_zero] at c0
      have hdr : xs.drop j = a :: xs.drop (j + 1) := by
        rw [List.drop_eq_getElem_cons (by rw [← HM.out]; exact hlt)]
        congr 1
        exact (List.getElem?_eq_some_iff.1 ha).2
      have hstep := HME.out
      rw [hdr, rangeE] at hstep
      have HST := hid hstep
      clear hc ha hxs hstep hdr HME
      by_cases hz : least ≤ a.num ∧ a.num ≤ 65536
      · have hst2 := HST.out
        rw [if_pos hz] at hst2
        have HS2 := hid hst2
        have hz1 : (least : Int) ≤ (a.num : Int) := by omega
        have hz2 : (a.num : Int) ≤ 65536 := by omega
        clear hst2 HST
        have hbA := below_next hbw (below_alloc wr (.cells #[.string xs1, .int .i64 (a.num : Int)] 101))
        go_wp2_with fail
        refine (sneed_true 4 _).mono ?_
        rintro e w2 ⟨rfl, hq2⟩
        subst w2
        have HBA := hid hbA
        clear hbA
        go_wp2
        exact ⟨⟨j + 1, by rw [← HM.out]; omega, by go_num, HS2.out, HBA.out⟩, by simp [intOf]; omega⟩
      · have hst2 := HST.out
        rw [if_neg hz] at hst2
        have hbA := below_next hbw (below_alloc wr (.cells #[.string xs1, .int .i64 (a.num : Int)] 101))
        have hpe : R = 4 := by
          rw [HR.out]
          unfold partsE
          rw [← hst2, thenE, if_neg (by decide)]
        subst hpe
        clear HST hst2
        by_cases hz1 : (least : Int) ≤ (a.num : Int)
        · have hz2 : ¬ (a.num : Int) ≤ 65536 := by omega
          go_wp2_with fail
          refine (sneed_false 4 _).mono ?_
          rintro e w2 ⟨rfl, hq2⟩
          subst w2
          exact ⟨rfl, hbA, rfl⟩
        · go_wp2_with fail
          refine (sneed_false 4 _).mono ?_
          rintro e w2 ⟨rfl, hq2⟩
          subst w2
          exact ⟨rfl, hbA, rfl⟩
    · have hje : j = M := by omega
      subst hje
      have hr0 : rangeE least xs = 0 := by
        rw [← HME.out, HM.out, List.drop_length]
        rfl
      have hpe : R = thenE (riseE xs) (meetE (xs.map (·.name))) := by
        rw [HR.out]
        unfold partsE
        rw [hr0, thenE, if_pos rfl]
      have HR2 := hid hpe
      have HB1 := hid hbw
      clear hpe hr0 hbw HME
      go_wp2_with fail
      go_loopw [6] (fun i wr => RiseI xs w i wr) (fun i _ => j + 1 - (intOf i).toNat)
      case atStart => exact ⟨0, Nat.zero_le _, rfl, rfl, HB1.out⟩
      case round =>
        obtain ⟨q, hq2, rfl, hme, hbw⟩ := hrel.all
        clear hrel
        rw [← HM.out] at hq2
        have HME := hid hme
        clear hme
        by_cases hlt2 : q + 1 < j
        · obtain ⟨b, hb⟩ : ∃ b, xs[q + 1]? = some b := ⟨xs[q + 1]'(by rw [← HM.out]; exact hlt2), by simp⟩
          obtain ⟨a, ha⟩ : ∃ a, xs[q]? = some a := ⟨xs[q]'(by rw [← HM.out]; omega), by simp⟩
          have hstep := HME.out
          rw [rise_step ha hb] at hstep
          obtain ⟨g, off, cap, c, hv, hg, hRc, hc⟩ := (HS.out.below hbw (fun _ _ h => h)).at ha
          obtain ⟨xs1, rfl, hxs⟩ := hRc
          injection hv with hv1 hv2 hv3
          clear hv2
          subst hv1 hv3
          obtain ⟨g', off', cap', c', hv, hg', hRc, hc'⟩ := (HS.out.below hbw (fun _ _ h => h)).at hb
          obtain ⟨xs2, rfl, hxs2⟩ := hRc
          injection hv with hv1 hv2 hv3
          cases hv1
          clear hv2 hv3
          have c1 := hc 1 _ rfl
          have d1 := hc' 1 _ rfl
          have HST := hid hstep
          have HBW := hid hbw
          clear hc hc' hxs hxs2 hstep hg' hbw ha hb
          have hq3 : (q : Int) + 1 < (j : Int) := by omega
          have hq4 : q < j := by omega
          have hq5 : ¬ ((q : Int) + 1 < 0) := by omega
          have hq6 : ((q : Int) + 1).toNat = q + 1 := by omega
          have hq7 : ¬ j ≤ q := by omega
          have hq8 : ¬ j ≤ q + 1 := by omega
          have hwq : IntKind.i64.wrap (q : Int) = (q : Int) := by unfold IntKind.wrap; simp [IntKind.bits, IntKind.signed]; omega
          by_cases hz : a.num < b.num
          · have hst2 := HST.out
            rw [if_pos hz] at hst2
            have HS2 := hid hst2
            have hz1 : (a.num : Int) < (b.num : Int) := by omega
            clear hst2 HST
            go_wp2_with fail
            go_region_with (refine (sneed_true 43 _).mono ?_; rintro e w2 ⟨rfl, hq2⟩; subst w2)
            all_goals (go_wp2; exact ⟨⟨q + 1, by rw [← HM.out]; omega, by go_num, HS2.out, HBW.out.drew⟩, by simp [intOf]; omega⟩)
          · have hst2 := HST.out
            rw [if_neg hz] at hst2
            have hpe : R = 43 := by
              rw [HR2.out, ← hst2, thenE, if_neg (by decide)]
            subst hpe
            have hz1 : ¬ (a.num : Int) < (b.num : Int) := by omega
            clear hst2 HST
            go_wp2_with fail
            refine wp_region_drawn2 (pred := fun jx v _ => match jx with | 0 => v = .slice (some ⟨g, off, none⟩) j cp0 | 1 => v = .int .i64 ((q : Int) + 1) | 2 => v = .int .i64 (q : Int) | 3 => v = .pointer (some ⟨g, off + q * 2, none⟩) | 4 => v = .pointer (some ⟨g, off + q * 2 + 1, none⟩) | 5 => v = .int .i64 (a.num : Int) | 6 => v = .slice (some ⟨g, off, none⟩) j cp0 | 7 => v = .int .i64 ((q : Int) + 1) | 8 => v = .pointer (some ⟨g, off + (q + 1) * 2, none⟩) | 9 => v = .pointer (some ⟨g, off + (q + 1) * 2 + 1, none⟩) | 10 => v = .int .i64 (b.num : Int) | 11 => v = .bool false | 12 => False | _ => True) (R := fun W => Below wr.heap.size wr W) (by kernel_rfl) (by kernel_rfl) (by kernel_rfl) (fun _ _ _ _ h _ => h) (Below.refl _ _).drew ?step ?done
            case step =>
              intro ix o ho A W hsz hdf hfr hdep hR
              rcases ix with _ | _ | _ | _ | _ | _ | _ | _ | _ | _ | _ | _ | _ | ix
              · injection ho with ho
                subst ho
                have e1 : A.eval (.tmp 1) = .slice (some ⟨g, off, none⟩) j cp0 := (hfr 1 (noDst_spec (by kernel_rfl))).trans rfl
                exact gOp_mv rfl (wanted_plain rfl) (.inl rfl) e1 ⟨_, rfl, rfl, Below.refl _ _, hR⟩
              · injection ho with ho
                subst ho
                have e6 : A.eval (.tmp 6) = .int .i64 ((q : Int) + 1) := (hfr 6 (noDst_spec (by kernel_rfl))).trans rfl
                exact gOp_mv rfl (wanted_plain rfl) (.inl rfl) e6 ⟨_, rfl, rfl, Below.refl _ _, hR⟩
              · injection ho with ho
                subst ho
                have e31 : A.eval (.tmp 31) = .int .i64 ((q : Int) + 1) := hdep ⟨1, .data⟩ (by simp) rfl _ _ rfl rfl
                exact gOp_ok (v := .int .i64 (q : Int)) rfl (wanted_plain rfl) (run_bin rfl e31 rfl (by go_simp) (by go_simp)) ⟨_, rfl, rfl, Below.refl _ _, hR⟩
              · injection ho with ho
                subst ho
                have e30 : A.eval (.tmp 30) = .slice (some ⟨g, off, none⟩) j cp0 := hdep ⟨0, .data⟩ (by simp) rfl _ _ rfl rfl
                have e32 : A.eval (.tmp 32) = .int .i64 (q : Int) := hdep ⟨2, .data⟩ (by simp) rfl _ _ rfl rfl
                have hbW : g < W.heap.size := Nat.lt_of_lt_of_le hg hR.size
                exact gOp_ix (v := .pointer (some ⟨g, off + q * 2, none⟩)) rfl (wanted_plain rfl) rfl e30 e32 (by go_simp) ⟨_, rfl, rfl, Below.refl _ _, hR⟩
              · injection ho with ho
                subst ho
                have e33 : A.eval (.tmp 33) = .pointer (some ⟨g, off + q * 2, none⟩) := hdep ⟨3, .data⟩ (by simp) rfl _ _ rfl rfl
                exact gOp_fld (v := .pointer (some ⟨g, off + q * 2 + 1, none⟩)) rfl (wanted_plain rfl) rfl e33 (by go_simp) ⟨_, rfl, rfl, Below.refl _ _, hR⟩
              · injection ho with ho
                subst ho
                have e34 : A.eval (.tmp 34) = .pointer (some ⟨g, off + q * 2 + 1, none⟩) := hdep ⟨4, .data⟩ (by simp) rfl _ _ rfl rfl
                have x0 := (hR.cell hg).trans c1
                exact gOp_ld (v := .int .i64 (a.num : Int)) rfl (wanted_plain rfl) rfl e34 (by go_simp) ⟨_, rfl, rfl, Below.refl _ _, hR⟩
              · injection ho with ho
                subst ho
                have e1 : A.eval (.tmp 1) = .slice (some ⟨g, off, none⟩) j cp0 := (hfr 1 (noDst_spec (by kernel_rfl))).trans rfl
                exact gOp_mv rfl (wanted_plain rfl) (.inl rfl) e1 ⟨_, rfl, rfl, Below.refl _ _, hR⟩
              · injection ho with ho
                subst ho
                have e6 : A.eval (.tmp 6) = .int .i64 ((q : Int) + 1) := (hfr 6 (noDst_spec (by kernel_rfl))).trans rfl
                exact gOp_mv rfl (wanted_plain rfl) (.inl rfl) e6 ⟨_, rfl, rfl, Below.refl _ _, hR⟩
              · injection ho with ho
                subst ho
                have e36 : A.eval (.tmp 36) = .slice (some ⟨g, off, none⟩) j cp0 := hdep ⟨6, .data⟩ (by simp) rfl _ _ rfl rfl
                have e37 : A.eval (.tmp 37) = .int .i64 ((q : Int) + 1) := hdep ⟨7, .data⟩ (by simp) rfl _ _ rfl rfl
                have hbW : g < W.heap.size := Nat.lt_of_lt_of_le hg hR.size
                exact gOp_ix (v := .pointer (some ⟨g, off + (q + 1) * 2, none⟩)) rfl (wanted_plain rfl) rfl e36 e37 (by go_simp) ⟨_, rfl, rfl, Below.refl _ _, hR⟩
              · injection ho with ho
                subst ho
                have e38 : A.eval (.tmp 38) = .pointer (some ⟨g, off + (q + 1) * 2, none⟩) := hdep ⟨8, .data⟩ (by simp) rfl _ _ rfl rfl
                exact gOp_fld (v := .pointer (some ⟨g, off + (q + 1) * 2 + 1, none⟩)) rfl (wanted_plain rfl) rfl e38 (by go_simp) ⟨_, rfl, rfl, Below.refl _ _, hR⟩
              · injection ho with ho
                subst ho
                have e39 : A.eval (.tmp 39) = .pointer (some ⟨g, off + (q + 1) * 2 + 1, none⟩) := hdep ⟨9, .data⟩ (by simp) rfl _ _ rfl rfl
                have x0 := (hR.cell hg).trans d1
                exact gOp_ld (v := .int .i64 (b.num : Int)) rfl (wanted_plain rfl) rfl e39 (by go_simp) ⟨_, rfl, rfl, Below.refl _ _, hR⟩
              · injection ho with ho
                subst ho
                have e35 : A.eval (.tmp 35) = .int .i64 (a.num : Int) := hdep ⟨5, .data⟩ (by simp) rfl _ _ rfl rfl
                have e40 : A.eval (.tmp 40) = .int .i64 (b.num : Int) := hdep ⟨10, .data⟩ (by simp) rfl _ _ rfl rfl
                exact gOp_ok (v := .bool false) rfl (wanted_plain rfl) (run_bin rfl e35 e40 (by go_simp) (by go_simp)) ⟨_, rfl, rfl, Below.refl _ _, hR⟩
              · injection ho with ho
                subst ho
                have e41 : A.eval (.tmp 41) = .bool false := hdep ⟨11, .data⟩ (by simp) rfl _ _ rfl rfl
                refine gOp_dies rfl (wanted_plain rfl) 107 #[.bool false, .int .i64 43] (run_call _ (fun _ _ => rfl) _ _ rfl _ (by simp [e41]; rfl)) ?_
                refine (sneed_false 43 _).mono ?_
                rintro e w5 ⟨rfl, rfl⟩
                exact ⟨_, rfl, hdf, below_next HBW.out hR, rfl⟩
              · simp at ho
            case done =>
              intro A W _ _ _ hcome _
              exact (hcome 12 _ _ rfl rfl).elim
        · have hr1 : riseE xs = 0 := by rw [← HME.out]; exact rise_end (by rw [← HM.out]; omega)
          have hpe : R = meetE (xs.map (·.name)) := by rw [HR2.out, hr1, thenE, if_pos rfl]
          have HR3 := hid hpe
          have HBW := hid hbw
          clear hbw HME hr1 hpe HR HR2 HB1
          have hmk : ∀ (t : TypeId) (w : World), (Instr.makeMap t none).run Tryz.prog w = .ok (.map (some w.heap.size)) (w.alloc (.map #[] 0)) := fun t w => run_makeMap t w
          have hS2 := HS.out.below (below_next HBW.out (below_alloc wr (.map #[] 0))) (fun _ _ h => h)
          have hE := eachCaseString_any 145 (fun _ _ => rfl) (.slice ad0 j cp0) xs (by rw [← HM.out]; omega) (fun a s => s.size ≤ maxLen ∧ bl s = a.name) (wr.alloc (.map #[] 0)) hS2 (by
            rintro a ha c W _ ⟨s, rfl, hs⟩ hb
            refine (parts1_any s _ W).mono ?_
            rintro e w' ⟨rfl, hb'⟩
            refine ⟨s, rfl, ⟨?_, hs⟩, hb'⟩
            have := HN.out a ha
            rw [← hs, bl_length] at this
            unfold maxLen
            omega)
          have HE := hid hE
          clear hE hS2
          go_wp2_with fail
          refine HE.out.mono ?_
          rintro e w2 ⟨tv, rfl, hrows, hb2⟩
          obtain ⟨bs, hbs, hbm, hbl⟩ := rows_slT (fun a : Pl.Cas => a.name) hrows (by rw [← HM.out]; omega)
          have hM := meet_any wr.heap.size 0 4 43 (by decide) tv bs (by rw [hbl, ← HM.out]; omega) (by omega) (fun _ => 0) w2 ((Mp.made wr).below hb2) hbs
          rw [hbm] at hM
          have hBB := below_next (below_next HBW.out (below_alloc wr (.map #[] 0))) hb2
          have HB2 := hid hBB
          have HMM := hid hM
          have hrs := hrows.shape
          obtain ⟨ta, tc, rfl⟩ := hrs
          clear hrows hbs hM hBB hb2 hbm
          go_wp2_with fail
          refine HMM.out.mono ?_
          rintro e w3 ⟨hg, hres⟩
          have hlast : Below w.heap.size w w3 := HB2.out.grown hg HB2.out.size (fun k hk => by cases hk; exact HBW.out.size)
          have hR := HR3.out
          unfold meetE at hR
          cases hm : meetF 4 (xs.map (·.name)) (fun _ => 0) with
          | some f =>
            rw [hm] at hres hR
            obtain ⟨rfl, _⟩ := hres
            have hR0 : R = 0 := hR
            subst hR0
            go_wp2
            go_end0
            exact ⟨hlast, rfl⟩
          | none =>
            rw [hm] at hres hR
            obtain rfl := hres
            have hR0 : R = 43 := hR
            subst hR0
            exact ⟨rfl, hlast, rfl⟩
end Go.Proofs.YtmiohekmpjiloaaGreatDoor

namespace Go.Proofs.YtmiohekmpjiloaaGreatDoor
open Go.RowKit
set_option maxRecDepth 20000

theorem Mp.look {w : World} {b N : Nat} {f : List Nat → Int} (h : Mp w b N f) (s : ByteArray) (hs : s.size ≤ maxLen) : (Instr.lookup 127 (.map (some b)) (.string s) false).run Tryz.prog w = .ok (.int .i64 (f (bl s))) w := by
  obtain ⟨D, h1, h2, h3⟩ := h
  have hkey := WideMaps.keyOf_string_mk (P := Tryz.prog) Tryz.underlying9 hs
  obtain ⟨c, hrun, hat, hwc⟩ := h1.lookup_int (t := 127) skeyed Tryz.underlying127 Tryz.underlying3 (zero3 _) hkey
  rw [h3 s hs] at hat
  injection hat with h4
  injection h4 with _ h5
  rw [hrun, h5]

/-- Types that name what was met as a struct or an enum. -/
def tyOk (f : List Nat → Int) : Pl.Ty → Bool
  | .plain _ => true
  | .named x => decide (f x = 1) || decide (f x = 2)
  | .list t => tyOk f t
  | .opt t => tyOk f t
def tyNm : Pl.Ty → Prop
  | .plain k => k ≠ 8
  | .named x => x.length ≤ 1000
  | .list t => tyNm t
  | .opt t => tyNm t
def TyR (t : Pl.Ty) (c : List Value) (w : World) : Prop := ∃ k s ad m cp, c = [.int .i64 k, .string s, .slice ad m cp] ∧ TyG w t (.int .i64 k) (.string s) (.slice ad m cp)
theorem TyR.below {w w' : World} (hb : Below w.heap.size w w') (t : Pl.Ty) (c : List Value) (h : TyR t c w) : TyR t c w' := by
  obtain ⟨k, s, ad, m, cp, rfl, h⟩ := h
  exact ⟨k, s, ad, m, cp, rfl, TyG.below hb _ _ _ _ h⟩
theorem OfG.rw {w : World} {v : Value} {t : Option Pl.Ty} (h : OfG w v t) : Rw 3 TyR w v t.toList := by
  cases t with
  | none =>
    obtain ⟨ad, cp, rfl⟩ := h
    exact ⟨ad, cp, rfl, by simp, fun i a hi => by simp at hi⟩
  | some t =>
    obtain ⟨g, off, cp, x, y, z, rfl, h1, h2, h3, h4, h5⟩ := h
    obtain ⟨k, s, ad, m, cp', rfl, rfl, rfl⟩ := h5.shape
    refine ⟨_, cp, rfl, by simp, fun i a hi => ?_⟩
    cases i with
    | succ i => simp at hi
    | zero =>
      simp at hi
      subst hi
      refine ⟨g, off, [.int .i64 k, .string s, .slice ad m cp'], rfl, h1, ⟨k, s, ad, m, cp', rfl, h5⟩, fun j u hj => ?_⟩
      match j, hj with
      | 0, hj => cases hj; simpa using h2
      | 1, hj => cases hj; simpa using h3
      | 2, hj => cases hj; simpa using h4

theorem inner_lt {t t' : Pl.Ty} (h : inner t = some t') : Pl.tyD t' < Pl.tyD t := by
  cases t <;> simp [inner] at h
  all_goals (subst h; simp [Pl.tyD])
theorem tyOk_inner (f : List Nat → Int) (t : Pl.Ty) (h : kindOf t ≠ 8) : tyOk f t = (inner t).toList.all (tyOk f) := by
  cases t <;> simp [inner, tyOk, kindOf] at h ⊢
theorem tyOk_named {f : List Nat → Int} {t : Pl.Ty} (hn : tyNm t) (h : kindOf t = 8) : (tyOk f t = (decide (f (nameOf t) = 1) || decide (f (nameOf t) = 2))) ∧ (nameOf t).length ≤ 1000 ∧ (inner t).toList = [] := by
  cases t with
  | plain k => simp [kindOf] at h; exact absurd (by omega) hn
  | named x => exact ⟨rfl, hn, rfl⟩
  | list t => simp [kindOf] at h
  | opt t => simp [kindOf] at h
theorem tyNm_inner {t t' : Pl.Ty} (hn : tyNm t) (h : inner t = some t') : tyNm t' := by
  cases t <;> simp [inner] at h
  all_goals (subst h; exact hn)

def typesE (f : List Nat → Int) (ts : List Pl.Ty) : Int := if ts.all (tyOk f) then 0 else 41

structure TypsI (ts : List Pl.Ty) (f : List Nat → Int) (w : World) (i : Value) (wr : World) : Prop where
  all : ∃ j, j ≤ ts.length ∧ i = .int .i64 (j : Int) ∧ typesE f (ts.drop j) = typesE f ts ∧ Below w.heap.size w wr

theorem types_nil (p : Nat) (ad : Option Addr) (cp : Nat) (w : World) : Calls Tryz.prog 141 #[.pointer (some ⟨p, 0, none⟩), .slice ad 0 cp] w fun e w' => Below w.heap.size w w' ∧ e = .returned (.tuple #[]) := by
  go_enter Tryz.func141, Tryz.ntmps141
  go_wp2_with fail
  go_rounds 1
  go_end0
  exact ⟨Below.refl _ _, rfl⟩

set_option maxHeartbeats 8000000 in
theorem checkTypes_any (p b N : Nat) (s1 s2 s3 : Value) (f : List Nat → Int) (d : Nat) : ∀ (v : Value) (ts : List Pl.Ty) (_ : ∀ t ∈ ts, Pl.tyD t ≤ d) (_ : ∀ t ∈ ts, tyNm t) (_ : ts.length ≤ 1000) (w : World) (_ : Bx w p [s1, s2, s3, .map (some b)] 129) (_ : Mp w b N f) (_ : Rw 3 TyR w v ts),
    Calls Tryz.prog 141 #[.pointer (some ⟨p, 0, none⟩), v] w fun e w' => Below w.heap.size w w' ∧ e = if typesE f ts = 0 then .returned (.tuple #[]) else .panicked (errp (typesE f ts)) := by
  induction d with
  | zero =>
    intro v ts hd hn hx w hB hm hS
    cases ts with
    | nil =>
      obtain ⟨ad, cp, rfl⟩ := hS.shape
      exact types_nil p ad cp w
    | cons t r =>
      have := hd t (by simp)
      cases t <;> simp [Pl.tyD] at this
  | succ d ih =>
    intro v ts hd hn hx w hB hm hS
    obtain ⟨R, hR⟩ : ∃ R, R = typesE f ts := ⟨_, rfl⟩
    rw [← hR]
    have HR := hid hR
    obtain ⟨ad0, cp0, hvv⟩ := hS.shape
    have HS := hid hS
    obtain ⟨M, hM⟩ : ∃ M, M = ts.length := ⟨_, rfl⟩
    rw [← hM] at hx hvv
    subst hvv
    have HM : Hid (M = ts.length) := hM
    have HIH := hid ih
    have HD := hid hd
    have HN := hid hn
    have HMp := hid hm
    have HBx := hid hB
    have hpl := hB.lt
    clear hS hM hR ih hd hn hm hB
    go_enter Tryz.func141, Tryz.ntmps141
    go_wp2_with fail
    go_loopw [9] (fun i wr => TypsI ts f w i wr) (fun i _ => M - (intOf i).toNat)
    case atStart => exact ⟨0, Nat.zero_le _, rfl, rfl, Below.refl _ _⟩
    case round =>
      obtain ⟨j, hj, rfl, hme, hbw⟩ := hrel.all
      clear hrel
      rw [← HM.out] at hj
      have HME := hid hme
      clear hme
      by_cases hlt : j < M
      · obtain ⟨t, ht⟩ : ∃ t, ts[j]? = some t := ⟨ts[j]'(by rw [← HM.out]; exact hlt), by simp⟩
        have htm := List.mem_of_getElem? ht
        obtain ⟨g, off, cap, c, hv, hg, hRc, hc⟩ := (HS.out.below hbw (fun _ _ h => TyR.below hbw _ _ h)).at ht
        obtain ⟨k, s, ad, m, cp, rfl, hty⟩ := hRc
        injection hv with hv1 hv2 hv3
        clear hv2
        subst hv1 hv3
        have c0 := hc 0 _ rfl
        have c1 := hc 1 _ rfl
        have c2 := hc 2 _ rfl
        simp only [Nat.add_zero] at c0
        have hdr : ts.drop j = t :: ts.drop (j + 1) := by
          rw [List.drop_eq_getElem_cons (by rw [← HM.out]; exact hlt)]
          congr 1
          exact (List.getElem?_eq_some_iff.1 ht).2
        have hstep : (if tyOk f t then typesE f (ts.drop (j + 1)) else 41) = typesE f ts := by
          rw [← HME.out, hdr]
          unfold typesE
          rw [List.all_cons]
          cases tyOk f t <;> simp
        have HST := hid hstep
        obtain ⟨hk, ⟨s', hs', hnm⟩, hof⟩ := hty.parts
        injection hk with _ hk
        cases hs'
        have hbA := below_next hbw (below_alloc wr (.cells #[.int .i64 k, .string s, .slice ad m cp] 29))
        have hrec : ∀ W, Below (wr.alloc (.cells #[.int .i64 k, .string s, .slice ad m cp] 29)).heap.size (wr.alloc (.cells #[.int .i64 k, .string s, .slice ad m cp] 29)) W → Calls Tryz.prog 141 #[.pointer (some ⟨p, 0, none⟩), .slice ad m cp] W fun e w' => Below W.heap.size W w' ∧ e = if typesE f (inner t).toList = 0 then .returned (.tuple #[]) else .panicked (errp (typesE f (inner t).toList)) := by
          intro W hW
          have hbW := below_next hbA hW
          refine HIH.out _ _ ?_ ?_ ?_ W (HBx.out.below hbW) (HMp.out.below hbW) ((hof.below (below_next (below_alloc wr _) hW)).rw)
          · intro t' ht'
            have := inner_lt (Option.mem_toList.1 ht')
            have := HD.out t htm
            omega
          · intro t' ht'
            exact tyNm_inner (HN.out t htm) (Option.mem_toList.1 ht')
          · cases inner t <;> simp
        have HREC := hid hrec
        have hp3 := (HBx.out.below hbA).cell 3 rfl
        have HMA := hid (HMp.out.below (hbA.drew))
        have HNt := hid (HN.out t htm)
        clear hc ht hstep hdr HME hty hof hrec htm
        by_cases hk8 : k = 8
        · subst hk8
          obtain ⟨hok, hnl, hin⟩ := tyOk_named (f := f) HNt.out hk.symm
          have hsz : s.size ≤ maxLen := by
            rw [← hnm, bl_length] at hnl
            unfold maxLen
            omega
          have hlk := HMA.out.look s hsz
          rw [← hnm] at hok
          rw [hin] at HREC
          obtain ⟨x, hx8⟩ : ∃ x, x = f (bl s) := ⟨_, rfl⟩
          rw [← hx8] at hok hlk
          have HOK := hid hok
          have hbD := hbA.drew
          have HBD := hid hbD
          have HST2 := hid HST.out
          have hgood : tyOk f t = true → typesE f (ts.drop (j + 1)) = typesE f ts := fun h => by
            have := HST2.out
            rw [h, if_pos rfl] at this
            exact this
          have HG := hid hgood
          clear HST hok hbD hk hnm hgood hin hx8
          by_cases h1 : x = 1
          · subst h1
            go_wp2_with fail
            go_region
            go_wp2_with fail
            refine (sneed_true 41 _).mono ?_
            rintro e w2 ⟨rfl, hq2⟩
            subst w2
            go_wp2_with fail
            refine (HREC.out _ (Below.refl _ _).drew).mono ?_
            rintro e w2 ⟨hb2, rfl⟩
            have HB2 := hid (below_next HBD.out hb2)
            clear hb2
            go_wp2
            exact ⟨⟨j + 1, by rw [← HM.out]; omega, by go_num, HG.out (by rw [HOK.out]; rfl), HB2.out⟩, by simp [intOf]; omega⟩
          · by_cases h2 : x = 2
            · subst h2
              go_wp2_with fail
              go_region
              go_wp2_with fail
              refine (sneed_true 41 _).mono ?_
              rintro e w2 ⟨rfl, hq2⟩
              subst w2
              go_wp2_with fail
              refine (HREC.out _ (Below.refl _ _).drew).mono ?_
              rintro e w2 ⟨hb2, rfl⟩
              have HB2 := hid (below_next HBD.out hb2)
              clear hb2
              go_wp2
              exact ⟨⟨j + 1, by rw [← HM.out]; omega, by go_num, HG.out (by rw [HOK.out]; rfl), HB2.out⟩, by simp [intOf]; omega⟩
            · have hf : tyOk f t = false := by
                rw [HOK.out, decide_eq_false h1, decide_eq_false h2]
                rfl
              have hst2 := HST2.out
              rw [hf] at hst2
              have hR41 : R = 41 := HR.out.trans hst2.symm
              subst hR41
              clear hst2
              go_wp2_with fail
              go_region
              go_wp2_with fail
              have hxf : (x == 1 || x == 2) = false := by simp [h1, h2]
              rw [hxf]
              refine (sneed_false 41 _).mono ?_
              rintro e w2 ⟨rfl, hq2⟩
              subst w2
              exact ⟨rfl, HBD.out, rfl⟩
        · have hke : tyOk f t = (inner t).toList.all (tyOk f) := tyOk_inner f t (by rw [← hk]; exact hk8)
          have hst2 := HST.out
          rw [hke] at hst2
          have HS2 := hid hst2
          have HBA := hid hbA
          clear hst2 HST hk hke hbA
          go_wp2_with fail
          refine (HREC.out _ (Below.refl _ _)).mono ?_
          rintro e w2 ⟨hb2, rfl⟩
          have HB2 := hid (below_next HBA.out hb2)
          clear hb2
          have hst := HS2.out
          unfold typesE
          by_cases hall : (inner t).toList.all (tyOk f) = true
          · rw [if_pos hall] at hst ⊢
            have HS3 := hid hst
            clear hst
            simp only [if_true]
            go_wp2
            exact ⟨⟨j + 1, by rw [← HM.out]; omega, by go_num, HS3.out, HB2.out⟩, by simp [intOf]; omega⟩
          · rw [if_neg hall] at hst ⊢
            have hR41 : R = 41 := HR.out.trans hst.symm
            subst hR41
            exact ⟨rfl, HB2.out, rfl⟩
      · have hje : j = M := by omega
        subst hje
        have hr0 : R = 0 := by
          rw [HR.out, ← HME.out, HM.out, List.drop_length]
          rfl
        subst hr0
        have HB1 := hid hbw
        clear hbw
        go_wp2
        go_end0
        exact ⟨HB1.out, rfl⟩
end Go.Proofs.YtmiohekmpjiloaaGreatDoor

namespace Go.Proofs.YtmiohekmpjiloaaGreatDoor
open Go.RowKit
set_option maxRecDepth 20000

theorem Rows.rw {α β : Type} {T : TypeId} {m : Nat} {R : α → List Value → World → Prop} {R' : β → List Value → World → Prop} {B : Nat} {w : World} {v : Value} {xs : List α} (f : α → β) (h : Rows T m R B w v xs) (hl : xs.length ≤ 1000) (hR : ∀ a ∈ xs, ∀ c, R a c w → R' (f a) c w) : Rw m R' w v (xs.map f) := by
  obtain ⟨ad, cp, h1, h2, h3⟩ := h.sl f hl hR
  refine ⟨ad, cp, h1, h2, fun i a hi => ?_⟩
  obtain ⟨g, off, c, q1, q2, q3, q4⟩ := h3 i a hi
  exact ⟨g, off, c, q1, q2, q4, q3⟩

/-- A field as a case. -/
def asCas (f : Pl.Fld) : Pl.Cas := ⟨f.num, f.name⟩

theorem ret_case1 {W : World} {tmps : Array Value} {b : Nat} {x y : Value} (ht : tmps.getD 2 undef = .pointer (some ⟨b, 0, none⟩)) (h0 : W.cell? ⟨b, 0, none⟩ = some x) (h1 : W.cell? ⟨b, 1, none⟩ = some y) :
    (results Tryz.f140 tmps).run Tryz.prog W = .ok (.agg #[x, y]) W := by
  have ht' : tmps[2]?.getD undef = .pointer (some ⟨b, 0, none⟩) := by rw [← Array.getD_eq_getD_getElem?]; exact ht
  simp [results, Tryz.results140]
  go_simp
theorem ret_type2 {W : World} {tmps : Array Value} {b : Nat} {x y z : Value} (ht : tmps.getD 2 undef = .pointer (some ⟨b, 0, none⟩)) (h0 : W.cell? ⟨b, 0, none⟩ = some x) (h1 : W.cell? ⟨b, 1, none⟩ = some y) (h2 : W.cell? ⟨b, 2, none⟩ = some z) :
    (results Tryz.f143 tmps).run Tryz.prog W = .ok (.agg #[x, y, z]) W := by
  have ht' : tmps[2]?.getD undef = .pointer (some ⟨b, 0, none⟩) := by rw [← Array.getD_eq_getD_getElem?]; exact ht
  simp [results, Tryz.results143]
  go_simp
set_option maxHeartbeats 2000000 in
theorem struct1_any (s x : ByteArray) (n k : Int) (o : Value) (w : World) : Calls Tryz.prog 140 #[.agg #[.string s, .int .i64 n, .int .i64 k, .string x, o]] w fun e w' => e = .returned (.agg #[.string s, .int .i64 n]) ∧ Below w.heap.size w w' := by
  have hb2 := below_next (below_alloc w (.cells #[.string s, .int .i64 n, .int .i64 k, .string x, o] 61)) (below_alloc _ (.cells #[.string s, .int .i64 n] 101))
  have hB2 := Bx.newAt (w := w.alloc (.cells #[.string s, .int .i64 n, .int .i64 k, .string x, o] 61)) (g := w.heap.size + 1) (by simp) [.string s, .int .i64 n] 101
  go_enter Tryz.func140, Tryz.ntmps140
  go_wp2
  exact bodyPost_ret (ret_case1 rfl (hB2.cell 0 rfl) (hB2.cell 1 rfl)) rfl ⟨rfl, hb2⟩
set_option maxHeartbeats 2000000 in
theorem struct2_any (s x : ByteArray) (n k : Int) (ad : Option Addr) (m cp : Nat) (w : World) : Calls Tryz.prog 143 #[.agg #[.string s, .int .i64 n, .int .i64 k, .string x, .slice ad m cp]] w fun e w' => e = .returned (.agg #[.int .i64 k, .string x, .slice ad m cp]) ∧ Below w.heap.size w w' := by
  have hb2 := below_next (below_alloc w (.cells #[.string s, .int .i64 n, .int .i64 k, .string x, .slice ad m cp] 61)) (below_alloc _ (.cells #[.int .i64 k, .string x, .slice ad m cp] 29))
  have hB2 := Bx.newAt (w := w.alloc (.cells #[.string s, .int .i64 n, .int .i64 k, .string x, .slice ad m cp] 61)) (g := w.heap.size + 1) (by simp) [.int .i64 k, .string x, .slice ad m cp] 29
  go_enter Tryz.func143, Tryz.ntmps143
  go_wp2
  exact bodyPost_ret (ret_type2 rfl (hB2.cell 0 rfl) (hB2.cell 1 rfl) (hB2.cell 2 rfl)) rfl ⟨rfl, hb2⟩
set_option maxHeartbeats 2000000 in
theorem service1_any (s x x' : ByteArray) (o : Bool) (k k' : Int) (v v' : Value) (w : World) : Calls Tryz.prog 147 #[.agg #[.string s, .bool o, .int .i64 k, .string x, v, .int .i64 k', .string x', v']] w fun e w' => e = .returned (.string s) ∧ Below w.heap.size w w' := by
  have hb := below_alloc w (.cells #[.string s, .bool o, .int .i64 k, .string x, v, .int .i64 k', .string x', v'] 122)
  go_enter Tryz.func147, Tryz.ntmps147
  go_wp2
  go_ret
  exact ⟨rfl, hb⟩
set_option maxHeartbeats 2000000 in
theorem all1_any (s : ByteArray) (v : Value) (w : World) : Calls Tryz.prog 101 #[.agg #[.string s, v]] w fun e w' => e = .returned (.string s) ∧ Below w.heap.size w w' := by
  have hb := below_alloc w (.cells #[.string s, v] 59)
  go_enter Tryz.func101, Tryz.ntmps101
  go_wp2
  go_ret
  exact ⟨rfl, hb⟩
set_option maxHeartbeats 2000000 in
theorem all2_any (s : ByteArray) (v : Value) (w : World) : Calls Tryz.prog 103 #[.agg #[.string s, v]] w fun e w' => e = .returned (.string s) ∧ Below w.heap.size w w' := by
  have hb := below_alloc w (.cells #[.string s, v] 83)
  go_enter Tryz.func103, Tryz.ntmps103
  go_wp2
  go_ret
  exact ⟨rfl, hb⟩
set_option maxHeartbeats 2000000 in
theorem all3_any (s : ByteArray) (v : Value) (w : World) : Calls Tryz.prog 105 #[.agg #[.string s, v]] w fun e w' => e = .returned (.string s) ∧ Below w.heap.size w w' := by
  have hb := below_alloc w (.cells #[.string s, v] 86)
  go_enter Tryz.func105, Tryz.ntmps105
  go_wp2
  go_ret
  exact ⟨rfl, hb⟩

/-- Names that are short enough to be met. -/
def fldNm (f : Pl.Fld) : Prop := f.name.length ≤ 1000 ∧ tyNm f.ty ∧ Pl.tyD f.ty ≤ 100
def mthNm (f : Pl.Mth) : Prop := f.name.length ≤ 1000 ∧ (tyNm f.arg ∧ Pl.tyD f.arg ≤ 100) ∧ (tyNm f.res ∧ Pl.tyD f.res ≤ 100)
def structE (f : List Nat → Int) (fs : List Pl.Fld) : Int := thenE (partsE 1 (fs.map asCas)) (typesE f (fs.map (·.ty)))

set_option maxHeartbeats 8000000 in
theorem checkStruct_any (p b N : Nat) (s1 s2 s3 : Value) (f : List Nat → Int) (s : ByteArray) (ad : Option Addr) (m cp : Nat) (fs : List Pl.Fld) (hx : fs.length ≤ 1000) (hn : ∀ a ∈ fs, fldNm a) (w : World) (hB : Bx w p [s1, s2, s3, .map (some b)] 129) (hm : Mp w b N f) (hS : Rw 5 FldG w (.slice ad m cp) fs) :
    Calls Tryz.prog 106 #[.pointer (some ⟨p, 0, none⟩), .agg #[.string s, .slice ad m cp]] w fun e w' => Below w.heap.size w w' ∧ e = if structE f fs = 0 then .returned (.tuple #[]) else .panicked (errp (structE f fs)) := by
  obtain ⟨R, hR⟩ : ∃ R, R = structE f fs := ⟨_, rfl⟩
  rw [← hR]
  obtain ⟨w1, hw1⟩ : ∃ w1, w1 = w.alloc (.cells #[.string s, .slice ad m cp] 59) := ⟨_, rfl⟩
  have hb1 : Below w.heap.size w w1 := by rw [hw1]; exact below_alloc w _
  have hBs : Bx w1 w.heap.size [.string s, .slice ad m cp] 59 := by rw [hw1]; exact Bx.new w _ _
  have hS1 : Rw 5 FldG w1 (.slice ad m cp) fs := hS.below hb1 (FldG.below hb1)
  have hE1 := eachFieldCase_any 140 (fun _ _ => rfl) (.slice ad m cp) fs (by omega) (fun a s n => bl s = a.name ∧ n = (a.num : Int)) w1 hS1 (by
    rintro a ha c W _ ⟨s, k, sn, ad, m, cp, rfl, hs, ht⟩ hb
    refine (struct1_any s sn _ k _ W).mono ?_
    rintro e w' ⟨rfl, hb'⟩
    exact ⟨s, _, rfl, ⟨hs, rfl⟩, hb'⟩)
  have c1 := hBs.cell 1 rfl
  have HE1 := hid hE1
  have HR := hid hR
  have HS := hid hS
  have HN := hid hn
  have HB := hid hB
  have HMp := hid hm
  have HBs := hid hBs
  have Hb1 := hid hb1
  clear hE1 hR hS hn hB hm hBs hS1 hb1
  go_enter Tryz.func106, Tryz.ntmps106
  go_wp2_with fail
  rw [← hw1]
  go_wp2_with fail
  refine HE1.out.mono ?_
  rintro e w2 ⟨tv, rfl, hrows, hb2⟩
  have hRw := hrows.rw asCas (R' := CasG) hx (by
    rintro a ha c ⟨s, n, rfl, hs, rfl⟩
    exact ⟨s, rfl, hs⟩)
  have hP := checkParts_any 1 tv (fs.map asCas) (by rw [List.length_map]; exact hx) (by
    intro c hc
    obtain ⟨a, ha, rfl⟩ := List.mem_map.1 hc
    exact (HN.out a ha).1) w2 hRw
  have hrs := hrows.shape
  obtain ⟨ta, tc, rfl⟩ := hrs
  have Hb2 := hid (below_next Hb1.out hb2)
  have hb12 := hid hb2
  have HP := hid hP
  clear hrows hP hRw hb2
  go_wp2_with fail
  refine HP.out.mono ?_
  rintro e w3 ⟨hb3, rfl⟩
  have Hb3 := hid (below_next Hb2.out hb3)
  have hb13 := below_next hb12.out hb3
  have hB3 := HBs.out.below hb13
  have d1 := hB3.cell 1 rfl
  have hRe := HR.out
  unfold structE at hRe
  by_cases hp0 : partsE 1 (fs.map asCas) = 0
  · rw [if_pos hp0]
    rw [hp0, thenE, if_pos rfl] at hRe
    have HR2 := hid hRe
    have hS3 : Rw 5 FldG w3 (.slice ad m cp) fs := HS.out.below Hb3.out (FldG.below Hb3.out)
    have hE2 := eachFieldType_any 143 (fun _ _ => rfl) (.slice ad m cp) fs (by omega) (fun a k s ad m cp => TyG w3 a.ty (.int .i64 k) (.string s) (.slice ad m cp)) w3 hS3 (by
      rintro a ha c W ⟨s, k, sn, ad, m, cp, rfl, hs, ht⟩ _ hb
      refine (struct2_any s sn _ k ad m cp W).mono ?_
      rintro e w' ⟨rfl, hb'⟩
      exact ⟨k, sn, ad, m, cp, rfl, ht, hb'⟩)
    have HE2 := hid hE2
    clear hE2 hRe hS3 hB3 hb13 hb3
    go_wp2_with fail
    refine HE2.out.mono ?_
    rintro e w4 ⟨tv4, rfl, hrows, hb4⟩
    have Hb4 := hid (below_next Hb3.out hb4)
    have hRw := hrows.rw (fun a : Pl.Fld => a.ty) (R' := TyR) hx (by
      rintro a ha c ⟨k, s, ad, m, cp, rfl, ht⟩
      exact ⟨k, s, ad, m, cp, rfl, TyG.below hb4 _ _ _ _ ht⟩)
    have hT := checkTypes_any p b N s1 s2 s3 f 100 tv4 (fs.map (·.ty)) (by
      intro t ht
      obtain ⟨a, ha, rfl⟩ := List.mem_map.1 ht
      exact (HN.out a ha).2.2) (by
      intro t ht
      obtain ⟨a, ha, rfl⟩ := List.mem_map.1 ht
      exact (HN.out a ha).2.1) (by rw [List.length_map]; exact hx) w4 (HB.out.below Hb4.out) (HMp.out.below Hb4.out) hRw
    have hrs := hrows.shape
    obtain ⟨ta4, tc4, rfl⟩ := hrs
    have HT := hid hT
    clear hrows hT hRw hb4
    go_wp2_with fail
    refine HT.out.mono ?_
    rintro e w5 ⟨hb5, rfl⟩
    have Hb5 := hid (below_next Hb4.out hb5)
    have hRe := HR2.out
    by_cases ht0 : typesE f (fs.map (·.ty)) = 0
    · rw [if_pos ht0]
      rw [ht0] at hRe
      subst hRe
      clear hb5
      go_wp2
      go_end0
      exact ⟨Hb5.out, rfl⟩
    · rw [if_neg ht0]
      rw [← hRe] at ht0 ⊢
      refine ⟨rfl, Hb5.out, ?_⟩
      rw [if_neg ht0]
  · rw [if_neg hp0]
    rw [thenE, if_neg hp0] at hRe
    rw [← hRe] at hp0 ⊢
    refine ⟨rfl, Hb3.out, ?_⟩
    rw [if_neg hp0]

def mtypesE (f : List Nat → Int) : List Pl.Mth → Int
  | [] => 0
  | m :: r => thenE (typesE f [m.arg, m.res]) (mtypesE f r)
def serviceE (f : List Nat → Int) (ms : List Pl.Mth) : Int := thenE (if 0 < ms.length then 0 else 3) (thenE (meetE (ms.map (·.name))) (mtypesE f ms))

structure ServI (ms : List Pl.Mth) (f : List Nat → Int) (w : World) (i : Value) (wr : World) : Prop where
  all : ∃ j, j ≤ ms.length ∧ i = .int .i64 (j : Int) ∧ mtypesE f (ms.drop j) = mtypesE f ms ∧ Below w.heap.size w wr

set_option maxHeartbeats 8000000 in
theorem checkService_any (p b N : Nat) (s1 s2 s3 : Value) (f : List Nat → Int) (s : ByteArray) (ad : Option Addr) (cp : Nat) (ms : List Pl.Mth) (hx : ms.length ≤ 1000) (hn : ∀ a ∈ ms, mthNm a) (w : World) (hB : Bx w p [s1, s2, s3, .map (some b)] 129) (hm : Mp w b N f) (hS : Rw 8 MthG w (.slice ad ms.length cp) ms) :
    Calls Tryz.prog 109 #[.pointer (some ⟨p, 0, none⟩), .agg #[.string s, .slice ad ms.length cp]] w fun e w' => Below w.heap.size w w' ∧ e = if serviceE f ms = 0 then .returned (.tuple #[]) else .panicked (errp (serviceE f ms)) := by
  obtain ⟨R, hR⟩ : ∃ R, R = serviceE f ms := ⟨_, rfl⟩
  rw [← hR]
  obtain ⟨M, hM⟩ : ∃ M, M = ms.length := ⟨_, rfl⟩
  rw [← hM] at hx hS ⊢
  have HM : Hid (M = ms.length) := hM
  obtain ⟨w1, hw1⟩ : ∃ w1, w1 = w.alloc (.cells #[.string s, .slice ad M cp] 86) := ⟨_, rfl⟩
  have hb1 : Below w.heap.size w w1 := by rw [hw1]; exact below_alloc w _
  have hBs : Bx w1 w.heap.size [.string s, .slice ad M cp] 86 := by rw [hw1]; exact Bx.new w _ _
  have c1 := hBs.cell 1 rfl
  have HR := hid hR
  have HS := hid hS
  have HN := hid hn
  have HB := hid hB
  have HMp := hid hm
  have HBs := hid hBs
  have Hb1 := hid hb1
  have hmk : ∀ (t : TypeId) (w : World), (Instr.makeMap t none).run Tryz.prog w = .ok (.map (some w.heap.size)) (w.alloc (.map #[] 0)) := fun t w => run_makeMap t w
  clear hR hS hn hB hm hBs hb1 hM
  by_cases hz : 0 < M
  · have hR1 : R = thenE (meetE (ms.map (·.name))) (mtypesE f ms) := by
      rw [HR.out]
      unfold serviceE
      rw [← HM.out, if_pos hz, thenE, if_pos rfl]
    have HR1 := hid hR1
    have hS1 : Rw 8 MthG (w1.alloc (.map #[] 0)) (.slice ad M cp) ms := HS.out.below (below_next Hb1.out (below_alloc w1 _)) (MthG.below (below_next Hb1.out (below_alloc w1 _)))
    have hE1 := eachMethodString_any 147 (fun _ _ => rfl) (.slice ad M cp) ms (by rw [← HM.out]; omega) (fun a s => s.size ≤ maxLen ∧ bl s = a.name) (w1.alloc (.map #[] 0)) hS1 (by
      rintro a ha c W _ ⟨s, k, sn, ad, m, cp, k', sn', ad', m', cp', rfl, hs, _, _⟩ hb
      refine (service1_any s sn sn' _ k k' _ _ W).mono ?_
      rintro e w' ⟨rfl, hb'⟩
      refine ⟨s, rfl, ⟨?_, hs⟩, hb'⟩
      have := (HN.out a ha).1
      rw [← hs, bl_length] at this
      unfold maxLen
      omega)
    have HE1 := hid hE1
    clear hE1 hS1 hR1
    have c1' := (HBs.out.alloc (.map #[] 0)).cell 1 rfl
    go_enter Tryz.func109, Tryz.ntmps109
    go_wp2_with fail
    rw [← hw1]
    clear hw1
    go_wp2_with fail
    refine (sneed_true 3 _).mono ?_
    rintro e w2 ⟨rfl, hq2⟩
    subst w2
    go_wp2_with fail
    refine HE1.out.mono ?_
    rintro e w2 ⟨tv, rfl, hrows, hb2⟩
    obtain ⟨bs, hbs, hbm, hbl⟩ := rows_slT (fun a : Pl.Mth => a.name) hrows (by rw [← HM.out]; omega)
    have hMt := meet_any w1.heap.size 0 4 43 (by decide) tv bs (by rw [hbl, ← HM.out]; omega) (by omega) (fun _ => 0) w2 ((Mp.made w1).below hb2) hbs
    rw [hbm] at hMt
    have HB2 := hid (below_next (below_next Hb1.out (below_alloc w1 (.map #[] 0))) hb2)
    have HBs2 := hid ((HBs.out.alloc (.map #[] 0)).below hb2)
    have HMM := hid hMt
    have hrs := hrows.shape
    obtain ⟨ta, tc, rfl⟩ := hrs
    clear hrows hbs hMt hb2 hbm
    go_wp2_with fail
    refine HMM.out.mono ?_
    rintro e w3 ⟨hg, hres⟩
    have hb13 : Below w.heap.size w w3 := HB2.out.grown hg HB2.out.size (fun k hk => by cases hk; exact Hb1.out.size)
    have HB3 := hid hb13
    have hcl := (HBs2.out.cell 1 rfl)
    have d1 := hg.cell hcl (by have := HBs.out.lt; simp; omega)
    have hRe := HR1.out
    unfold meetE at hRe
    cases hmf : meetF 4 (ms.map (·.name)) (fun _ => 0) with
    | none =>
      rw [hmf] at hres hRe
      obtain rfl := hres
      have hR0 : R = 43 := hRe
      subst hR0
      exact ⟨rfl, hb13, rfl⟩
    | some g =>
      rw [hmf] at hres hRe
      obtain ⟨rfl, _⟩ := hres
      have hR0 : R = mtypesE f ms := hRe
      have HR2 := hid hR0
      clear hRe hR0 hg hb13 hcl
      go_wp2_with fail
      go_loopw [19] (fun i wr => ServI ms f w i wr) (fun i _ => M - (intOf i).toNat)
      case atStart => exact ⟨0, Nat.zero_le _, rfl, rfl, HB3.out⟩
      case round =>
        obtain ⟨j, hj, rfl, hme, hbw⟩ := hrel.all
        clear hrel
        rw [← HM.out] at hj
        have HME := hid hme
        clear hme
        by_cases hlt : j < M
        · obtain ⟨a, ha⟩ : ∃ a, ms[j]? = some a := ⟨ms[j]'(by rw [← HM.out]; exact hlt), by simp⟩
          have ham := List.mem_of_getElem? ha
          obtain ⟨g, off, cap, c, hv, hg, hRc, hc⟩ := (HS.out.below hbw (fun _ _ h => MthG.below hbw _ _ h)).at ha
          obtain ⟨xs1, xk, xn, xd, xm, xc, yk, yn, yd, ym, yc, rfl, hxs, hxr, hyr⟩ := hRc
          injection hv with hv1 hv2 hv3
          clear hv2
          subst hv1 hv3
          have c0 := hc 0 _ rfl
          have c1 := hc 1 _ rfl
          have c2 := hc 2 _ rfl
          have c3 := hc 3 _ rfl
          have c4 := hc 4 _ rfl
          have c5 := hc 5 _ rfl
          have c6 := hc 6 _ rfl
          have c7 := hc 7 _ rfl
          simp only [Nat.add_zero] at c0
          have hdr : ms.drop j = a :: ms.drop (j + 1) := by
            rw [List.drop_eq_getElem_cons (by rw [← HM.out]; exact hlt)]
            congr 1
            exact (List.getElem?_eq_some_iff.1 ha).2
          have hstep := HME.out
          rw [hdr, mtypesE] at hstep
          have HST := hid hstep
          have HX := hid hxr
          have HY := hid hyr
          have HAM := hid ham
          clear hc ha hstep hdr HME hxr hyr ham hxs
          obtain ⟨wA, hwA⟩ : ∃ wA, wA = wr.alloc (.cells #[.string xs1, .bool a.once, .int .i64 xk, .string xn, .slice xd xm xc, .int .i64 yk, .string yn, .slice yd ym yc] 122) := ⟨_, rfl⟩
          obtain ⟨wB, hwB⟩ : ∃ wB, wB = wA.alloc (.cells #[.int .i64 xk, .string xn, .slice xd xm xc, .int .i64 yk, .string yn, .slice yd ym yc] 29) := ⟨_, rfl⟩
          have hzA : wA.heap.size = wr.heap.size + 1 := by rw [hwA]; simp
          have hbA : Below wr.heap.size wr wA := by rw [hwA]; exact below_alloc wr _
          have hbB : Below wr.heap.size wr wB := below_next hbA (by rw [hwB]; exact below_alloc wA _)
          have hBB : Bx wB (wr.heap.size + 1) [.int .i64 xk, .string xn, .slice xd xm xc, .int .i64 yk, .string yn, .slice yd ym yc] 29 := by rw [hwB]; exact Bx.newAt hzA.symm _ _
          have hRw : Rw 3 TyR wB (.slice (some ⟨wr.heap.size + 1, 0, none⟩) 2 2) [a.arg, a.res] := by
            refine ⟨_, 2, rfl, by simp, fun i t hi => ?_⟩
            match i, hi with
            | 0, hi =>
              cases hi
              refine ⟨_, 0, [.int .i64 xk, .string xn, .slice xd xm xc], rfl, hBB.lt, ⟨xk, xn, xd, xm, xc, rfl, TyG.below hbB _ _ _ _ HX.out⟩, fun j u hj => ?_⟩
              match j, hj with
              | 0, hj => cases hj; exact hBB.cell 0 rfl
              | 1, hj => cases hj; exact hBB.cell 1 rfl
              | 2, hj => cases hj; exact hBB.cell 2 rfl
            | 1, hi =>
              cases hi
              refine ⟨_, 0, [.int .i64 yk, .string yn, .slice yd ym yc], rfl, hBB.lt, ⟨yk, yn, yd, ym, yc, rfl, TyG.below hbB _ _ _ _ HY.out⟩, fun j u hj => ?_⟩
              match j, hj with
              | 0, hj => cases hj; exact hBB.cell 3 rfl
              | 1, hj => cases hj; exact hBB.cell 4 rfl
              | 2, hj => cases hj; exact hBB.cell 5 rfl
          have hnm := HN.out a HAM.out
          have hbW := below_next hbw hbB
          have hT := checkTypes_any p b N s1 s2 s3 f 100 _ [a.arg, a.res] (by
            intro t ht
            simp only [List.mem_cons, List.not_mem_nil, or_false] at ht
            rcases ht with rfl | rfl
            · exact hnm.2.1.2
            · exact hnm.2.2.2) (by
            intro t ht
            simp only [List.mem_cons, List.not_mem_nil, or_false] at ht
            rcases ht with rfl | rfl
            · exact hnm.2.1.1
            · exact hnm.2.2.1) (by simp) wB (HB.out.below hbW) (HMp.out.below hbW) hRw
          have HT := hid hT
          have HbW := hid hbW
          have HwA := hid hwA
          have HwB := hid hwB
          clear hT hbW hRw hnm hBB hbB hbA hwA hwB hzA
          go_wp2_with fail
          rw [← HwA.out, ← HwB.out]
          refine HT.out.mono ?_
          rintro e w5 ⟨hb5, rfl⟩
          have Hb5 := hid (below_next HbW.out hb5)
          clear hb5
          have hst := HST.out
          by_cases ht0 : typesE f [a.arg, a.res] = 0
          · rw [if_pos ht0]
            rw [ht0, thenE, if_pos rfl] at hst
            have HS3 := hid hst
            clear hst
            go_wp2
            exact ⟨⟨j + 1, by rw [← HM.out]; omega, by go_num, HS3.out, Hb5.out⟩, by simp [intOf]; omega⟩
          · rw [if_neg ht0]
            rw [thenE, if_neg ht0] at hst
            have hRe := HR2.out.trans hst.symm
            rw [← hRe] at ht0 ⊢
            refine ⟨rfl, Hb5.out, ?_⟩
            rw [if_neg ht0]
        · have hje : j = M := by omega
          subst hje
          have hr0 : R = 0 := by
            rw [HR2.out, ← HME.out, HM.out, List.drop_length]
            rfl
          subst hr0
          have HB1 := hid hbw
          clear hbw
          go_wp2
          go_end0
          exact ⟨HB1.out, rfl⟩
  · have hR1 : R = 3 := by
      rw [HR.out]
      unfold serviceE
      rw [← HM.out, if_neg hz, thenE, if_neg (by decide)]
    subst hR1
    have hM0 : M = 0 := by omega
    subst hM0
    go_enter Tryz.func109, Tryz.ntmps109
    go_wp2_with fail
    rw [← hw1]
    clear hw1
    go_wp2_with fail
    refine (sneed_false 3 _).mono ?_
    rintro e w2 ⟨rfl, hq2⟩
    subst w2
    exact ⟨rfl, Hb1.out, rfl⟩
end Go.Proofs.YtmiohekmpjiloaaGreatDoor

namespace Go.Proofs.YtmiohekmpjiloaaGreatDoor
open Go.RowKit
set_option maxRecDepth 20000

/-- The place of the first one that fits, from k on; -1: none does. -/
def idxF {α : Type} (P : α → Bool) : List α → Nat → Int
  | [], _ => -1
  | a :: r, k => if P a then (k : Int) else idxF P r (k + 1)

structure IdxIStruct (w : World) (xs : List (List Nat × List Pl.Fld)) (P : (List Nat × List Pl.Fld) → Bool) (i : Value) (wr : World) : Prop where
  all : ∃ k : Nat, k ≤ xs.length ∧ i = .int .i64 (k : Int) ∧ idxF P (xs.drop k) k = idxF P xs 0 ∧ Below w.heap.size w wr

set_option maxHeartbeats 8000000 in
theorem indexStruct_any (ft : Nat) (cv : Value) (hen : ∀ (args : Array Value) (w' : World), (callFunc ft args).run Tryz.prog w' = .ok (.enter ft args) w') (v : Value) (xs : List (List Nat × List Pl.Fld)) (hx : xs.length ≤ 100000) (P : (List Nat × List Pl.Fld) → Bool) (w : World) (hS : Rw 2 (DecG 5 FldG) w v xs)
    (ht : ∀ a ∈ xs, ∀ c W, (DecG 5 FldG) a c W → Below w.heap.size w W → Calls Tryz.prog ft #[.agg ⟨c⟩, cv] W fun e w' => e = .returned (.bool (P a)) ∧ Below W.heap.size W w') :
    Calls Tryz.prog 117 #[v, .func (.func ft) #[] #[cv]] w fun e w' => e = .returned (.int .i64 (idxF P xs 0)) ∧ Below w.heap.size w w' := by
  obtain ⟨R, hR⟩ : ∃ R, R = idxF P xs 0 := ⟨_, rfl⟩
  rw [← hR]
  have HR := hid hR
  obtain ⟨ad0, cp0, hvv⟩ := hS.shape
  have HS := hid hS
  have HT := hid ht
  obtain ⟨M, hM⟩ : ∃ M, M = xs.length := ⟨_, rfl⟩
  rw [← hM] at hx hvv
  subst hvv
  have HM : Hid (M = xs.length) := hM
  clear hS ht hM hR
  go_enter Tryz.func117, Tryz.ntmps117
  go_wp2_with fail
  go_loopw [8] (fun i wr => IdxIStruct w xs P i wr) (fun i _ => M - (intOf i).toNat)
  case atStart => exact ⟨0, Nat.zero_le _, rfl, rfl, Below.refl _ _⟩
  case round =>
    obtain ⟨k, hk, rfl, hme, hbw⟩ := hrel.all
    clear hrel
    rw [← HM.out] at hk
    have HME := hid hme
    clear hme
    by_cases hlt : k < M
    · obtain ⟨a, ha⟩ : ∃ a, xs[k]? = some a := ⟨xs[k]'(by rw [← HM.out]; exact hlt), by simp⟩
      obtain ⟨g, off, cap, c, hv, hg, hRc, hc⟩ := (HS.out.below hbw (fun _ _ h => DecG.below hbw (FldG.below hbw) _ _ h)).at ha
      have HRc := hid hRc
      obtain ⟨xs1, xd, xm, xc, rfl, hxs, hxr⟩ := hRc
      injection hv with hv1 hv2 hv3
      clear hv2
      subst hv1 hv3
      have c0 := hc 0 _ rfl
      have c1 := hc 1 _ rfl
      simp only [Nat.add_zero] at c0
      have hcall := HT.out a (List.mem_of_getElem? ha) _ wr HRc.out hbw
      have hdr : xs.drop k = a :: xs.drop (k + 1) := by
        rw [List.drop_eq_getElem_cons (by rw [← HM.out]; exact hlt)]
        congr 1
        exact (List.getElem?_eq_some_iff.1 ha).2
      have hstep := HME.out
      rw [hdr, idxF] at hstep
      have HST := hid hstep
      have HB := hid hbw
      clear hc HRc ha hxs hdr hstep hbw HME
      go_wp2_with fail
      refine hcall.mono ?_
      rintro e w2 ⟨rfl, hb2⟩
      have HB2 := hid (below_next HB.out hb2)
      have hst := HST.out
      clear hcall hb2
      cases hP : P a with
      | true =>
        rw [hP, if_pos rfl] at hst
        have hRk : R = (k : Int) := HR.out.trans hst.symm
        subst hRk
        clear hst
        go_wp2
        go_ret
        exact ⟨rfl, HB2.out⟩
      | false =>
        rw [hP, if_neg (by decide)] at hst
        have HS2 := hid hst
        clear hst
        go_wp2
        exact ⟨⟨k + 1, by rw [← HM.out]; omega, by go_num, HS2.out, HB2.out⟩, by simp [intOf]; omega⟩
    · have hke : k = M := by omega
      subst hke
      have hr0 : R = -1 := by
        rw [HR.out, ← HME.out, HM.out, List.drop_length]
        rfl
      subst hr0
      have HB := hid hbw
      clear hbw
      go_wp2
      go_ret
      exact ⟨rfl, HB.out⟩

structure IdxIEnum (w : World) (xs : List (List Nat × List Pl.Cas)) (P : (List Nat × List Pl.Cas) → Bool) (i : Value) (wr : World) : Prop where
  all : ∃ k : Nat, k ≤ xs.length ∧ i = .int .i64 (k : Int) ∧ idxF P (xs.drop k) k = idxF P xs 0 ∧ Below w.heap.size w wr

set_option maxHeartbeats 8000000 in
theorem indexEnum_any (ft : Nat) (cv : Value) (hen : ∀ (args : Array Value) (w' : World), (callFunc ft args).run Tryz.prog w' = .ok (.enter ft args) w') (v : Value) (xs : List (List Nat × List Pl.Cas)) (hx : xs.length ≤ 100000) (P : (List Nat × List Pl.Cas) → Bool) (w : World) (hS : Rw 2 (DecG 2 CasG) w v xs)
    (ht : ∀ a ∈ xs, ∀ c W, (DecG 2 CasG) a c W → Below w.heap.size w W → Calls Tryz.prog ft #[.agg ⟨c⟩, cv] W fun e w' => e = .returned (.bool (P a)) ∧ Below W.heap.size W w') :
    Calls Tryz.prog 119 #[v, .func (.func ft) #[] #[cv]] w fun e w' => e = .returned (.int .i64 (idxF P xs 0)) ∧ Below w.heap.size w w' := by
  obtain ⟨R, hR⟩ : ∃ R, R = idxF P xs 0 := ⟨_, rfl⟩
  rw [← hR]
  have HR := hid hR
  obtain ⟨ad0, cp0, hvv⟩ := hS.shape
  have HS := hid hS
  have HT := hid ht
  obtain ⟨M, hM⟩ : ∃ M, M = xs.length := ⟨_, rfl⟩
  rw [← hM] at hx hvv
  subst hvv
  have HM : Hid (M = xs.length) := hM
  clear hS ht hM hR
  go_enter Tryz.func119, Tryz.ntmps119
  go_wp2_with fail
  go_loopw [8] (fun i wr => IdxIEnum w xs P i wr) (fun i _ => M - (intOf i).toNat)
  case atStart => exact ⟨0, Nat.zero_le _, rfl, rfl, Below.refl _ _⟩
  case round =>
    obtain ⟨k, hk, rfl, hme, hbw⟩ := hrel.all
    clear hrel
    rw [← HM.out] at hk
    have HME := hid hme
    clear hme
    by_cases hlt : k < M
    · obtain ⟨a, ha⟩ : ∃ a, xs[k]? = some a := ⟨xs[k]'(by rw [← HM.out]; exact hlt), by simp⟩
      obtain ⟨g, off, cap, c, hv, hg, hRc, hc⟩ := (HS.out.below hbw (fun _ _ h => DecG.below hbw (fun _ _ h => h) _ _ h)).at ha
      have HRc := hid hRc
      obtain ⟨xs1, xd, xm, xc, rfl, hxs, hxr⟩ := hRc
      injection hv with hv1 hv2 hv3
      clear hv2
      subst hv1 hv3
      have c0 := hc 0 _ rfl
      have c1 := hc 1 _ rfl
      simp only [Nat.add_zero] at c0
      have hcall := HT.out a (List.mem_of_getElem? ha) _ wr HRc.out hbw
      have hdr : xs.drop k = a :: xs.drop (k + 1) := by
        rw [List.drop_eq_getElem_cons (by rw [← HM.out]; exact hlt)]
        congr 1
        exact (List.getElem?_eq_some_iff.1 ha).2
      have hstep := HME.out
      rw [hdr, idxF] at hstep
      have HST := hid hstep
      have HB := hid hbw
      clear hc HRc ha hxs hdr hstep hbw HME
      go_wp2_with fail
      refine hcall.mono ?_
      rintro e w2 ⟨rfl, hb2⟩
      have HB2 := hid (below_next HB.out hb2)
      have hst := HST.out
      clear hcall hb2
      cases hP : P a with
      | true =>
        rw [hP, if_pos rfl] at hst
        have hRk : R = (k : Int) := HR.out.trans hst.symm
        subst hRk
        clear hst
        go_wp2
        go_ret
        exact ⟨rfl, HB2.out⟩
      | false =>
        rw [hP, if_neg (by decide)] at hst
        have HS2 := hid hst
        clear hst
        go_wp2
        exact ⟨⟨k + 1, by rw [← HM.out]; omega, by go_num, HS2.out, HB2.out⟩, by simp [intOf]; omega⟩
    · have hke : k = M := by omega
      subst hke
      have hr0 : R = -1 := by
        rw [HR.out, ← HME.out, HM.out, List.drop_length]
        rfl
      subst hr0
      have HB := hid hbw
      clear hbw
      go_wp2
      go_ret
      exact ⟨rfl, HB.out⟩

structure IdxIService (w : World) (xs : List (List Nat × List Pl.Mth)) (P : (List Nat × List Pl.Mth) → Bool) (i : Value) (wr : World) : Prop where
  all : ∃ k : Nat, k ≤ xs.length ∧ i = .int .i64 (k : Int) ∧ idxF P (xs.drop k) k = idxF P xs 0 ∧ Below w.heap.size w wr

set_option maxHeartbeats 8000000 in
theorem indexService_any (ft : Nat) (cv : Value) (hen : ∀ (args : Array Value) (w' : World), (callFunc ft args).run Tryz.prog w' = .ok (.enter ft args) w') (v : Value) (xs : List (List Nat × List Pl.Mth)) (hx : xs.length ≤ 100000) (P : (List Nat × List Pl.Mth) → Bool) (w : World) (hS : Rw 2 (DecG 8 MthG) w v xs)
    (ht : ∀ a ∈ xs, ∀ c W, (DecG 8 MthG) a c W → Below w.heap.size w W → Calls Tryz.prog ft #[.agg ⟨c⟩, cv] W fun e w' => e = .returned (.bool (P a)) ∧ Below W.heap.size W w') :
    Calls Tryz.prog 121 #[v, .func (.func ft) #[] #[cv]] w fun e w' => e = .returned (.int .i64 (idxF P xs 0)) ∧ Below w.heap.size w w' := by
  obtain ⟨R, hR⟩ : ∃ R, R = idxF P xs 0 := ⟨_, rfl⟩
  rw [← hR]
  have HR := hid hR
  obtain ⟨ad0, cp0, hvv⟩ := hS.shape
  have HS := hid hS
  have HT := hid ht
  obtain ⟨M, hM⟩ : ∃ M, M = xs.length := ⟨_, rfl⟩
  rw [← hM] at hx hvv
  subst hvv
  have HM : Hid (M = xs.length) := hM
  clear hS ht hM hR
  go_enter Tryz.func121, Tryz.ntmps121
  go_wp2_with fail
  go_loopw [8] (fun i wr => IdxIService w xs P i wr) (fun i _ => M - (intOf i).toNat)
  case atStart => exact ⟨0, Nat.zero_le _, rfl, rfl, Below.refl _ _⟩
  case round =>
    obtain ⟨k, hk, rfl, hme, hbw⟩ := hrel.all
    clear hrel
    rw [← HM.out] at hk
    have HME := hid hme
    clear hme
    by_cases hlt : k < M
    · obtain ⟨a, ha⟩ : ∃ a, xs[k]? = some a := ⟨xs[k]'(by rw [← HM.out]; exact hlt), by simp⟩
      obtain ⟨g, off, cap, c, hv, hg, hRc, hc⟩ := (HS.out.below hbw (fun _ _ h => DecG.below hbw (MthG.below hbw) _ _ h)).at ha
      have HRc := hid hRc
      obtain ⟨xs1, xd, xm, xc, rfl, hxs, hxr⟩ := hRc
      injection hv with hv1 hv2 hv3
      clear hv2
      subst hv1 hv3
      have c0 := hc 0 _ rfl
      have c1 := hc 1 _ rfl
      simp only [Nat.add_zero] at c0
      have hcall := HT.out a (List.mem_of_getElem? ha) _ wr HRc.out hbw
      have hdr : xs.drop k = a :: xs.drop (k + 1) := by
        rw [List.drop_eq_getElem_cons (by rw [← HM.out]; exact hlt)]
        congr 1
        exact (List.getElem?_eq_some_iff.1 ha).2
      have hstep := HME.out
      rw [hdr, idxF] at hstep
      have HST := hid hstep
      have HB := hid hbw
      clear hc HRc ha hxs hdr hstep hbw HME
      go_wp2_with fail
      refine hcall.mono ?_
      rintro e w2 ⟨rfl, hb2⟩
      have HB2 := hid (below_next HB.out hb2)
      have hst := HST.out
      clear hcall hb2
      cases hP : P a with
      | true =>
        rw [hP, if_pos rfl] at hst
        have hRk : R = (k : Int) := HR.out.trans hst.symm
        subst hRk
        clear hst
        go_wp2
        go_ret
        exact ⟨rfl, HB2.out⟩
      | false =>
        rw [hP, if_neg (by decide)] at hst
        have HS2 := hid hst
        clear hst
        go_wp2
        exact ⟨⟨k + 1, by rw [← HM.out]; omega, by go_num, HS2.out, HB2.out⟩, by simp [intOf]; omega⟩
    · have hke : k = M := by omega
      subst hke
      have hr0 : R = -1 := by
        rw [HR.out, ← HME.out, HM.out, List.drop_length]
        rfl
      subst hr0
      have HB := hid hbw
      clear hbw
      go_wp2
      go_ret
      exact ⟨rfl, HB.out⟩

structure IdxIField (w : World) (xs : List Pl.Fld) (P : Pl.Fld → Bool) (i : Value) (wr : World) : Prop where
  all : ∃ k : Nat, k ≤ xs.length ∧ i = .int .i64 (k : Int) ∧ idxF P (xs.drop k) k = idxF P xs 0 ∧ Below w.heap.size w wr

structure IdxICase (w : World) (xs : List Pl.Cas) (P : Pl.Cas → Bool) (i : Value) (wr : World) : Prop where
  all : ∃ k : Nat, k ≤ xs.length ∧ i = .int .i64 (k : Int) ∧ idxF P (xs.drop k) k = idxF P xs 0 ∧ Below w.heap.size w wr

set_option maxHeartbeats 8000000 in
theorem indexCase_any (ft : Nat) (cv : Value) (hen : ∀ (args : Array Value) (w' : World), (callFunc ft args).run Tryz.prog w' = .ok (.enter ft args) w') (v : Value) (xs : List Pl.Cas) (hx : xs.length ≤ 100000) (P : Pl.Cas → Bool) (w : World) (hS : Rw 2 (CasG) w v xs)
    (ht : ∀ a ∈ xs, ∀ c W, (CasG) a c W → Below w.heap.size w W → Calls Tryz.prog ft #[.agg ⟨c⟩, cv] W fun e w' => e = .returned (.bool (P a)) ∧ Below W.heap.size W w') :
    Calls Tryz.prog 124 #[v, .func (.func ft) #[] #[cv]] w fun e w' => e = .returned (.int .i64 (idxF P xs 0)) ∧ Below w.heap.size w w' := by
  obtain ⟨R, hR⟩ : ∃ R, R = idxF P xs 0 := ⟨_, rfl⟩
  rw [← hR]
  have HR := hid hR
  obtain ⟨ad0, cp0, hvv⟩ := hS.shape
  have HS := hid hS
  have HT := hid ht
  obtain ⟨M, hM⟩ : ∃ M, M = xs.length := ⟨_, rfl⟩
  rw [← hM] at hx hvv
  subst hvv
  have HM : Hid (M = xs.length) := hM
  clear hS ht hM hR
  go_enter Tryz.func124, Tryz.ntmps124
  go_wp2_with fail
  go_loopw [8] (fun i wr => IdxICase w xs P i wr) (fun i _ => M - (intOf i).toNat)
  case atStart => exact ⟨0, Nat.zero_le _, rfl, rfl, Below.refl _ _⟩
  case round =>
    obtain ⟨k, hk, rfl, hme, hbw⟩ := hrel.all
    clear hrel
    rw [← HM.out] at hk
    have HME := hid hme
    clear hme
    by_cases hlt : k < M
    · obtain ⟨a, ha⟩ : ∃ a, xs[k]? = some a := ⟨xs[k]'(by rw [← HM.out]; exact hlt), by simp⟩
      obtain ⟨g, off, cap, c, hv, hg, hRc, hc⟩ := (HS.out.below hbw (fun _ _ h => h)).at ha
      have HRc := hid hRc
      obtain ⟨xs1, rfl, hxs⟩ := hRc
      injection hv with hv1 hv2 hv3
      clear hv2
      subst hv1 hv3
      have c0 := hc 0 _ rfl
      have c1 := hc 1 _ rfl
      simp only [Nat.add_zero] at c0
      have hcall := HT.out a (List.mem_of_getElem? ha) _ wr HRc.out hbw
      have hdr : xs.drop k = a :: xs.drop (k + 1) := by
        rw [List.drop_eq_getElem_cons (by rw [← HM.out]; exact hlt)]
        congr 1
        exact (List.getElem?_eq_some_iff.1 ha).2
      have hstep := HME.out
      rw [hdr, idxF] at hstep
      have HST := hid hstep
      have HB := hid hbw
      clear hc HRc ha hxs hdr hstep hbw HME
      go_wp2_with fail
      refine hcall.mono ?_
      rintro e w2 ⟨rfl, hb2⟩
      have HB2 := hid (below_next HB.out hb2)
      have hst := HST.out
      clear hcall hb2
      cases hP : P a with
      | true =>
        rw [hP, if_pos rfl] at hst
        have hRk : R = (k : Int) := HR.out.trans hst.symm
        subst hRk
        clear hst
        go_wp2
        go_ret
        exact ⟨rfl, HB2.out⟩
      | false =>
        rw [hP, if_neg (by decide)] at hst
        have HS2 := hid hst
        clear hst
        go_wp2
        exact ⟨⟨k + 1, by rw [← HM.out]; omega, by go_num, HS2.out, HB2.out⟩, by simp [intOf]; omega⟩
    · have hke : k = M := by omega
      subst hke
      have hr0 : R = -1 := by
        rw [HR.out, ← HME.out, HM.out, List.drop_length]
        rfl
      subst hr0
      have HB := hid hbw
      clear hbw
      go_wp2
      go_ret
      exact ⟨rfl, HB.out⟩

structure IdxIMethod (w : World) (xs : List Pl.Mth) (P : Pl.Mth → Bool) (i : Value) (wr : World) : Prop where
  all : ∃ k : Nat, k ≤ xs.length ∧ i = .int .i64 (k : Int) ∧ idxF P (xs.drop k) k = idxF P xs 0 ∧ Below w.heap.size w wr

end Go.Proofs.YtmiohekmpjiloaaGreatDoor

namespace Go.Proofs.YtmiohekmpjiloaaGreatDoor
open Go.RowKit
set_option maxRecDepth 20000

def nmIs {α : Type} (x : List Nat) (a : List Nat × α) : Bool := decide (a.1 = x)
/-- The kind and the place of a name. -/
def fnd (st : List (List Nat × List Pl.Fld)) (en : List (List Nat × List Pl.Cas)) (sv : List (List Nat × List Pl.Mth)) (x : List Nat) : Int × Int :=
  if 0 ≤ idxF (nmIs x) st 0 then (1, idxF (nmIs x) st 0) else if 0 ≤ idxF (nmIs x) en 0 then (2, idxF (nmIs x) en 0) else if 0 ≤ idxF (nmIs x) sv 0 then (3, idxF (nmIs x) sv 0) else (0, 0)

theorem idxF_at {α : Type} (P : α → Bool) : ∀ (l : List α) (k : Nat), 0 ≤ idxF P l k → ∃ i a, l[i]? = some a ∧ P a = true ∧ idxF P l k = ((k + i : Nat) : Int) := by
  intro l
  induction l with
  | nil => intro k h; simp [idxF] at h
  | cons a r ih =>
    intro k h
    unfold idxF at h ⊢
    by_cases hP : P a = true
    · rw [if_pos hP]
      exact ⟨0, a, rfl, hP, rfl⟩
    · rw [if_neg hP] at h ⊢
      obtain ⟨i, b, h1, h2, h3⟩ := ih (k + 1) h
      exact ⟨i + 1, b, by simpa using h1, h2, by rw [h3]; congr 1; omega⟩
theorem fnd_one {st : List (List Nat × List Pl.Fld)} {en : List (List Nat × List Pl.Cas)} {sv : List (List Nat × List Pl.Mth)} {x : List Nat} (h : (fnd st en sv x).1 = 1) : ∃ (i : Nat) (a : List Nat × List Pl.Fld), st[i]? = some a ∧ a.1 = x ∧ (fnd st en sv x).2 = (i : Int) := by
  unfold fnd at h ⊢
  by_cases h0 : 0 ≤ idxF (nmIs x) st 0
  · rw [if_pos h0]
    obtain ⟨i, a, h1, h2, h3⟩ := idxF_at _ _ _ h0
    exact ⟨i, a, h1, of_decide_eq_true h2, by simpa using h3⟩
  · rw [if_neg h0] at h
    split at h
    · simp at h
    · split at h <;> simp at h

/-- What is measured: the most that may be, what else than a struct counts, how two are joined. -/
structure Mea where
  most : Int
  above : Int
  other : Int
  join : Int → Int → Int
abbrev Kn := Nat → Option Int
def Kn.set (k : Kn) (i : Nat) (v : Int) : Kn := fun j => if j = i then some v else k j
def mTy (M : Mea) (find : List Nat → Int × Int) (rec : Kn → Nat → Option (Int × Kn)) (k : Kn) : Pl.Ty → Option (Int × Kn)
  | .named x => if (find x).1 = 1 then rec k (find x).2.toNat else some (M.other, k)
  | _ => some (M.other, k)
def mFs (M : Mea) (find : List Nat → Int × Int) (rec : Kn → Nat → Option (Int × Kn)) : List Pl.Fld → Int → Kn → Option (Int × Kn)
  | [], v, k => some (v, k)
  | f :: r, v, k => match mTy M find rec k f.ty with
    | none => none
    | some (x, k') => mFs M find rec r (M.join v x) k'
def mOf (M : Mea) (find : List Nat → Int × Int) (st : List (List Nat × List Pl.Fld)) : Nat → Kn → Nat → Option (Int × Kn)
  | 0, _, _ => none
  | n + 1, k, i => match k i with
    | some v => if 0 < v then some (v, k) else none
    | none => match mFs M find (mOf M find st n) ((st[i]?).getD ([], [])).2 0 (k.set i 0) with
      | none => none
      | some (v, k') => if v + 1 ≤ M.most then some (v + 1, k'.set i (v + 1)) else none
def mAll (M : Mea) (find : List Nat → Int × Int) (st : List (List Nat × List Pl.Fld)) : List Nat → Kn → Bool
  | [], _ => true
  | i :: r, k => match mOf M find st (st.length + 1) k i with
    | none => false
    | some (_, k') => mAll M find st r k'

/-- How many are not known yet. -/
def unm (L : Nat) (k : Kn) : Nat := (List.range L).countP (fun i => (k i).isNone)
def More (k k' : Kn) : Prop := ∀ i, (k i).isSome = true → (k' i).isSome = true
theorem More.refl (k : Kn) : More k k := fun _ h => h
theorem More.trans {a b c : Kn} (h : More a b) (g : More b c) : More a c := fun i hi => g i (h i hi)
theorem More.set (k : Kn) (i : Nat) (v : Int) : More k (k.set i v) := by
  intro j hj
  unfold Kn.set
  split
  · rfl
  · exact hj
theorem More.unm {k k' : Kn} (h : More k k') (L : Nat) : unm L k' ≤ unm L k := by
  unfold Go.Proofs.YtmiohekmpjiloaaGreatDoor.unm
  refine List.countP_mono_left fun i _ hi => ?_
  cases hk : k i with
  | none => rfl
  | some v =>
    have := h i (by rw [hk]; rfl)
    cases hk' : k' i with
    | none => rw [hk'] at this; simp at this
    | some v' => rw [hk'] at hi; simp at hi
theorem unm_set {L i : Nat} {k : Kn} (hi : i < L) (hk : k i = none) (v : Int) : unm L (k.set i v) < unm L k := by
  unfold unm
  refine countP_lt _ _ _ ?_ ⟨i, List.mem_range.2 hi, by rw [hk]; rfl, by simp [Kn.set]⟩
  intro j _ hj
  cases hkj : k j with
  | none => rfl
  | some v' =>
    exfalso
    unfold Kn.set at hj
    split at hj
    · simp at hj
    · rw [hkj] at hj; simp at hj

/-- What was worked out is from 1 to the most. -/
def KnOk (M : Mea) (k : Kn) : Prop := ∀ i v, k i = some v → 0 ≤ v ∧ v ≤ M.most
theorem KnOk.set {M : Mea} {k : Kn} (h : KnOk M k) {i : Nat} {v : Int} (h0 : 0 ≤ v) (h1 : v ≤ M.most) : KnOk M (k.set i v) := by
  intro j u hj
  unfold Kn.set at hj
  split at hj
  · cases hj; exact ⟨h0, h1⟩
  · exact h j u hj
end Go.Proofs.YtmiohekmpjiloaaGreatDoor

namespace Go.Proofs.YtmiohekmpjiloaaGreatDoor
open Go.RowKit
set_option maxRecDepth 20000

theorem str_dec (s x : ByteArray) : (s.toList == x.toList) = decide (bl s = bl x) := by
  by_cases h : s = x
  · subst h
    simp
  · rw [str_no h, decide_eq_false (fun hh => h (bl_inj hh))]

set_option maxHeartbeats 2000000 in
theorem find1_any (s x : ByteArray) (v : Value) (q : Nat) (w : World) (hq : Bx w q [.string x] 9) : Calls Tryz.prog 118 #[.agg #[.string s, v], .pointer (some ⟨q, 0, none⟩)] w fun e w' => e = .returned (.bool (decide (bl s = bl x))) ∧ Below w.heap.size w w' := by
  have hb := below_alloc w (.cells #[.string s, v] 59)
  have c0 := (hq.alloc (.cells #[.string s, v] 59)).cell 0 rfl
  have hdec : (s.toList == x.toList) = decide (bl s = bl x) := str_dec s x
  rw [← hdec]
  clear hdec
  go_enter Tryz.func118, Tryz.ntmps118
  go_wp2
  go_ret
  exact ⟨rfl, hb⟩

set_option maxHeartbeats 2000000 in
theorem find2_any (s x : ByteArray) (v : Value) (q : Nat) (w : World) (hq : Bx w q [.string x] 9) : Calls Tryz.prog 120 #[.agg #[.string s, v], .pointer (some ⟨q, 0, none⟩)] w fun e w' => e = .returned (.bool (decide (bl s = bl x))) ∧ Below w.heap.size w w' := by
  have hb := below_alloc w (.cells #[.string s, v] 83)
  have c0 := (hq.alloc (.cells #[.string s, v] 83)).cell 0 rfl
  have hdec : (s.toList == x.toList) = decide (bl s = bl x) := str_dec s x
  rw [← hdec]
  clear hdec
  go_enter Tryz.func120, Tryz.ntmps120
  go_wp2
  go_ret
  exact ⟨rfl, hb⟩

set_option maxHeartbeats 2000000 in
theorem find3_any (s x : ByteArray) (v : Value) (q : Nat) (w : World) (hq : Bx w q [.string x] 9) : Calls Tryz.prog 122 #[.agg #[.string s, v], .pointer (some ⟨q, 0, none⟩)] w fun e w' => e = .returned (.bool (decide (bl s = bl x))) ∧ Below w.heap.size w w' := by
  have hb := below_alloc w (.cells #[.string s, v] 86)
  have c0 := (hq.alloc (.cells #[.string s, v] 86)).cell 0 rfl
  have hdec : (s.toList == x.toList) = decide (bl s = bl x) := str_dec s x
  rw [← hdec]
  clear hdec
  go_enter Tryz.func122, Tryz.ntmps122
  go_wp2
  go_ret
  exact ⟨rfl, hb⟩

set_option maxHeartbeats 8000000 in
theorem Find_any (st : List (List Nat × List Pl.Fld)) (en : List (List Nat × List Pl.Cas)) (sv : List (List Nat × List Pl.Mth)) (hl : st.length ≤ 1000 ∧ en.length ≤ 1000 ∧ sv.length ≤ 1000) (s1 s2 s3 : Value) (x : ByteArray) (w : World) (hS : SchG st en sv s1 s2 s3 w) :
    Calls Tryz.prog 78 #[.agg #[s1, s2, s3], .string x] w fun e w' => e = .returned (.tuple #[.int .i64 (fnd st en sv (bl x)).1, .int .i64 (fnd st en sv (bl x)).2]) ∧ Below w.heap.size w w' := by
  obtain ⟨F1, F2, hF⟩ : ∃ F1 F2, fnd st en sv (bl x) = (F1, F2) := ⟨_, _, rfl⟩
  rw [hF]
  have HF := hid hF
  obtain ⟨hl1, hl2, hl3⟩ := hl
  have hmf : ∀ (fn : Fn) (first cap : Array Value) (w : World), (Instr.makeFunc fn first cap).run Tryz.prog w = .ok (.func fn first cap) w := fun _ _ _ _ => rfl
  obtain ⟨w1, hw1⟩ : ∃ w1, w1 = w.alloc (.cells #[s1, s2, s3] 26) := ⟨_, rfl⟩
  obtain ⟨w2, hw2⟩ : ∃ w2, w2 = w1.alloc (.cells #[.string x] 9) := ⟨_, rfl⟩
  have hz1 : w1.heap.size = w.heap.size + 1 := by rw [hw1]; simp
  have hb1 : Below w.heap.size w w1 := by rw [hw1]; exact below_alloc w _
  have hb2 : Below w.heap.size w w2 := below_next hb1 (by rw [hw2]; exact below_alloc w1 _)
  have hB1 : Bx w2 w.heap.size [s1, s2, s3] 26 := by rw [hw2, hw1]; exact (Bx.new w _ _).alloc _
  have hB2 : Bx w2 (w.heap.size + 1) [.string x] 9 := by rw [hw2]; exact Bx.newAt hz1.symm _ _
  have hS2 := hS.below hb2
  obtain ⟨a1, c1, a2, c2, a3, c3, rfl, rfl, rfl⟩ := hS.shape
  have hE1 : ∀ W, Below w2.heap.size w2 W → Calls Tryz.prog 117 #[(.slice a1 st.length c1), .func (.func 118) #[] #[.pointer (some ⟨w.heap.size + 1, 0, none⟩)]] W fun e w' => e = .returned (.int .i64 (idxF (nmIs (bl x)) st 0)) ∧ Below W.heap.size W w' := fun W hW => indexStruct_any 118 (.pointer (some ⟨w.heap.size + 1, 0, none⟩)) (fun _ _ => rfl) (.slice a1 st.length c1) st (by omega) (nmIs (bl x)) W (hS2.below hW).1 (by
    rintro a ha c W' ⟨s, ad, m, cp, rfl, hs, hr⟩ hb
    refine (find1_any s x _ (w.heap.size + 1) W' (hB2.below (below_next hW hb))).mono ?_
    rintro e w' ⟨rfl, hb'⟩
    refine ⟨?_, hb'⟩
    unfold nmIs
    rw [hs])
  have hE2 : ∀ W, Below w2.heap.size w2 W → Calls Tryz.prog 119 #[(.slice a2 en.length c2), .func (.func 120) #[] #[.pointer (some ⟨w.heap.size + 1, 0, none⟩)]] W fun e w' => e = .returned (.int .i64 (idxF (nmIs (bl x)) en 0)) ∧ Below W.heap.size W w' := fun W hW => indexEnum_any 120 (.pointer (some ⟨w.heap.size + 1, 0, none⟩)) (fun _ _ => rfl) (.slice a2 en.length c2) en (by omega) (nmIs (bl x)) W (hS2.below hW).2.1 (by
    rintro a ha c W' ⟨s, ad, m, cp, rfl, hs, hr⟩ hb
    refine (find2_any s x _ (w.heap.size + 1) W' (hB2.below (below_next hW hb))).mono ?_
    rintro e w' ⟨rfl, hb'⟩
    refine ⟨?_, hb'⟩
    unfold nmIs
    rw [hs])
  have hE3 : ∀ W, Below w2.heap.size w2 W → Calls Tryz.prog 121 #[(.slice a3 sv.length c3), .func (.func 122) #[] #[.pointer (some ⟨w.heap.size + 1, 0, none⟩)]] W fun e w' => e = .returned (.int .i64 (idxF (nmIs (bl x)) sv 0)) ∧ Below W.heap.size W w' := fun W hW => indexService_any 122 (.pointer (some ⟨w.heap.size + 1, 0, none⟩)) (fun _ _ => rfl) (.slice a3 sv.length c3) sv (by omega) (nmIs (bl x)) W (hS2.below hW).2.2 (by
    rintro a ha c W' ⟨s, ad, m, cp, rfl, hs, hr⟩ hb
    refine (find3_any s x _ (w.heap.size + 1) W' (hB2.below (below_next hW hb))).mono ?_
    rintro e w' ⟨rfl, hb'⟩
    refine ⟨?_, hb'⟩
    unfold nmIs
    rw [hs])
  have q0 := hB1.cell 0 rfl
  have HE1 := hid hE1
  have HE2 := hid hE2
  have HE3 := hid hE3
  have HB1 := hid hB1
  have Hb2 := hid hb2
  have HW1 := hid hw1
  have HW2 := hid hw2
  have hff := HF.out
  unfold fnd at hff
  have HFF := hid hff
  generalize st.length = l1 at *
  generalize en.length = l2 at *
  generalize sv.length = l3 at *
  obtain ⟨I1, hI1⟩ : ∃ I, I = idxF (nmIs (bl x)) st 0 := ⟨_, rfl⟩
  obtain ⟨I2, hI2⟩ : ∃ I, I = idxF (nmIs (bl x)) en 0 := ⟨_, rfl⟩
  obtain ⟨I3, hI3⟩ : ∃ I, I = idxF (nmIs (bl x)) sv 0 := ⟨_, rfl⟩
  rw [← hI1] at HE1 HFF
  rw [← hI2] at HE2 HFF
  rw [← hI3] at HE3 HFF
  clear hE1 hE2 hE3 hB1 hb2 hw1 hw2 hS2 hB2 hS hb1 hz1 hF HF hff hI1 hI2 hI3
  go_enter Tryz.func78, Tryz.ntmps78
  go_wp2_with fail
  rw [← HW1.out, ← HW2.out]
  clear HW1 HW2
  go_wp2_with fail
  refine (HE1.out w2 (Below.refl _ _)).mono ?_
  rintro e w3 ⟨rfl, hb3⟩
  have HB3 := hid hb3
  have q1 := (HB1.out.below hb3).cell 1 rfl
  have hff := HFF.out
  clear hb3 HE1 q0
  by_cases h1 : 0 ≤ I1
  · rw [if_pos h1] at hff
    cases hff
    have HL := hid (below_next Hb2.out HB3.out)
    go_wp2_with fail
    go_ret2
    exact ⟨rfl, HL.out⟩
  · rw [if_neg h1] at hff
    have HFF2 := hid hff
    clear hff
    go_wp2_with fail
    refine (HE2.out w3 HB3.out).mono ?_
    rintro e w4 ⟨rfl, hb4⟩
    have HB4 := hid (below_next HB3.out hb4)
    have q2 := (HB1.out.below HB4.out).cell 2 rfl
    have hff := HFF2.out
    clear hb4 HE2 q1
    by_cases h2 : 0 ≤ I2
    · rw [if_pos h2] at hff
      cases hff
      have HL := hid (below_next Hb2.out HB4.out)
      go_wp2_with fail
      go_ret2
      exact ⟨rfl, HL.out⟩
    · rw [if_neg h2] at hff
      have HFF3 := hid hff
      clear hff
      go_wp2_with fail
      refine (HE3.out w4 HB4.out).mono ?_
      rintro e w5 ⟨rfl, hb5⟩
      have HB5 := hid (below_next HB4.out hb5)
      have hff := HFF3.out
      have HL := hid (below_next Hb2.out HB5.out)
      clear hb5 HE3 q2
      by_cases h3 : 0 ≤ I3
      · rw [if_pos h3] at hff
        cases hff
        go_wp2_with fail
        go_ret2
        exact ⟨rfl, HL.out⟩
      · rw [if_neg h3] at hff
        cases hff
        go_wp2_with fail
        go_ret2
        exact ⟨rfl, HL.out⟩
end Go.Proofs.YtmiohekmpjiloaaGreatDoor

