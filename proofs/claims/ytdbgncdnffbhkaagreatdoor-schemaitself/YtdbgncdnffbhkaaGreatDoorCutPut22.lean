/- Are schemas one? What Text has told is printed: a schema told, as one of any make; what a text tells. Types that lie anywhere; are types, methods one? Are schemas one, wherever they lie? -/
import Derived.Test.YtdbgncdnffbhkaaGreatDoorCutPut21
import Derived.Laws.StructEq
import Derived.Deep.CutRange
import Derived.Test.YtdbgncdnffbhkaaGreatDoorCutPut19
namespace Go.Proofs.YtdbgncdnffbhkaaGreatDoor
open Go.RowKit
set_option maxRecDepth 20000

theorem Rows.below {α : Type} {T : TypeId} {m : Nat} {R : α → List Value → World → Prop} {B : Nat} {w w' : World} {v : Value} {xs : List α} (h : Rows T m R B w v xs) (hb : Below w.heap.size w w') (hR : ∀ a c, R a c w → R a c w') : Rows T m R B w' v xs :=
  h.ch (X := fun _ _ => False) (Ch.below hb) hR (fun _ _ h => h)

end Go.Proofs.YtdbgncdnffbhkaaGreatDoor

namespace Go.Proofs.YtdbgncdnffbhkaaGreatDoor
open Go.RowKit

theorem ly_nil (B n : Nat) (w : World) : LyS B n [] w (.slice none 0 0) := by
  cases n with
  | zero => exact ⟨_, _, _, rfl⟩
  | succ n => exact ⟨none, 0, rfl, by simp, fun i g h => by simp at h⟩

theorem TyC.ly {B : Nat} {w : World} (t : Pl.Ty) : ∀ (n : Nat) (a b c : Value), Pl.okTy t → TyC B t w a b c → Ly w.heap.size n (Pl.emb t) w a b c := by
  induction t with
  | plain k =>
    rintro n a b c hok ⟨rfl, rfl, rfl⟩
    exact ⟨rfl, ⟨_, rfl, rfl, by unfold maxLen; decide⟩, ly_nil _ _ _⟩
  | named x =>
    rintro n a b c hok ⟨rfl, ⟨s, rfl, hs⟩, rfl⟩
    refine ⟨rfl, ⟨s, rfl, hs, ?_⟩, ly_nil _ _ _⟩
    have := Pl.name_len hok
    rw [← hs, bl_length] at this
    unfold maxLen
    omega
  | list t ih =>
    rintro n a b c hok ⟨rfl, rfl, g, x, y, z, rfl, hB, hg, hc⟩
    refine ⟨rfl, ⟨_, rfl, rfl, by unfold maxLen; decide⟩, ?_⟩
    cases n with
    | zero => exact ⟨_, _, _, rfl⟩
    | succ n => exact LyS.one (ih n x y z hok hc) hg.lt hg
  | opt t ih =>
    rintro n a b c hok ⟨rfl, rfl, g, x, y, z, rfl, hB, hg, hc⟩
    refine ⟨rfl, ⟨_, rfl, rfl, by unfold maxLen; decide⟩, ?_⟩
    cases n with
    | zero => exact ⟨_, _, _, rfl⟩
    | succ n => exact LyS.one (ih n x y z hok hc) hg.lt hg

theorem Rows.sl {α β : Type} {T : TypeId} {m : Nat} {R : α → List Value → World → Prop} {R' : β → List Value → World → Prop} {B : Nat} {w : World} {v : Value} {xs : List α} (f : α → β) (h : Rows T m R B w v xs) (hl : xs.length ≤ 1000) (hR : ∀ a ∈ xs, ∀ c, R a c w → R' (f a) c w) : SlR m R' w.heap.size w v (xs.map f) := by
  obtain ⟨ad, cp, hv⟩ := h.shape
  refine ⟨ad, cp, by rw [List.length_map]; exact hv, by rw [List.length_map]; omega, fun i x hx => ?_⟩
  rw [List.getElem?_map] at hx
  obtain ⟨a, ha, rfl⟩ := Option.map_eq_some_iff.1 hx
  obtain ⟨g, cap, c, h1, _, _, h4, h5, _, h7⟩ := h.at ha
  rw [h1] at hv
  cases hv
  exact ⟨g, 0, c, rfl, h4, fun j u hu => by rw [Nat.zero_add]; exact h7 j u hu, hR a (List.mem_of_getElem? ha) c h5⟩

theorem small_name {s : ByteArray} {x : List Nat} (h : bl s = x) (hx : Pl.okName x) : s.size ≤ maxLen := by
  have := Pl.name_len hx
  rw [← h, bl_length] at this
  unfold maxLen
  omega

/-- A schema that was told lies as one of any make. -/
theorem SchV.sch {B : Nat} {ds : List Pl.Decl} {s1 s2 s3 : Value} {w : World} (h : SchV B ds s1 s2 s3 w) (n : Nat) (hok : ∀ d ∈ Pl.inOrder (stOf ds) (enOf ds) (svOf ds), Pl.okDecl d) (hl : (stOf ds).length + (enOf ds).length + (svOf ds).length ≤ 64) :
    SchL w.heap.size n ((stOf ds).map Pl.embSt) ((enOf ds).map Pl.embEn) ((svOf ds).map Pl.embSv) s1 s2 s3 w := by
  obtain ⟨h1, h2, h3⟩ := h
  refine ⟨h1.sl _ (by omega) ?_, h2.sl _ (by omega) ?_, h3.sl _ (by omega) ?_⟩
  · rintro a ha c ⟨s, ad, m, cp, rfl, hs, hr⟩
    have hd := hok (Pl.mkSt a) (List.mem_append_left _ (List.mem_append_left _ (List.mem_map_of_mem ha)))
    refine ⟨s, _, rfl, hs, small_name hs hd.1, hr.sl _ (by have := hd.2.1; omega) ?_⟩
    rintro f hf c ⟨s, k, sn, ad, m, cp, rfl, hs, ht⟩
    have hf2 := hd.2.2 f hf
    exact ⟨s, _, _, _, rfl, hs, small_name hs hf2.2.1, TyC.ly f.ty n _ _ _ hf2.2.2.1 ht⟩
  · rintro a ha c ⟨s, ad, m, cp, rfl, hs, hr⟩
    have hd := hok (Pl.mkEn a) (List.mem_append_left _ (List.mem_append_right _ (List.mem_map_of_mem ha)))
    refine ⟨s, _, rfl, hs, small_name hs hd.1, hr.sl _ (by have := hd.2.1; omega) ?_⟩
    rintro f hf c ⟨s, rfl, hs⟩
    have hf2 := hd.2.2 f hf
    exact ⟨s, rfl, hs, small_name hs hf2.2⟩
  · rintro a ha c ⟨s, ad, m, cp, rfl, hs, hr⟩
    have hd := hok (Pl.mkSv a) (List.mem_append_right _ (List.mem_map_of_mem ha))
    refine ⟨s, _, rfl, hs, small_name hs hd.1, hr.sl _ (by have := hd.2.1; omega) ?_⟩
    rintro f hf c ⟨s, k, sn, ad, m, cp, k', sn', ad', m', cp', rfl, hs, ht, ht'⟩
    have hf2 := hd.2.2 f hf
    exact ⟨s, _, _, _, _, _, _, rfl, hs, small_name hs hf2.1, TyC.ly f.arg n _ _ _ hf2.2.1 ht, TyC.ly f.res n _ _ _ hf2.2.2.2.1 ht'⟩

/-- A text that declares something. -/
def TOk (s : ByteArray) (ds : List Pl.Decl) : Prop := (tokA s).2.2 = 0 ∧ Pl.declsP 64 ((tokA s).1.map Pl.kt) = .ok ds []
def TBad (s : ByteArray) (er : Int) : Prop := (tokA s).2.2 = er ∨ ∃ r e, (tokA s).2.2 = 0 ∧ Pl.declsP 64 ((tokA s).1.map Pl.kt) = .bad r e ∧ er = (e : Int)

theorem cons_line {t : Pl.Tok} {x : List Pl.Tok × Nat × Int} {ln : Nat} (h : x.2.2 ≠ 0 → ln ≤ x.2.1) : (Pl.tokCons t x).2.2 ≠ 0 → ln ≤ (Pl.tokCons t x).2.1 := by
  unfold Pl.tokCons
  split
  · intro h; exact absurd rfl h
  · exact h
theorem tok_line (f : Nat) : ∀ (l : List Nat) (ln : Nat), (Pl.tokS f l ln).2.2 ≠ 0 → ln ≤ (Pl.tokS f l ln).2.1 := by
  induction f with
  | zero => intro l ln h; exact absurd rfl h
  | succ f ih =>
    intro l ln
    cases l with
    | nil => intro h; exact absurd rfl h
    | cons c r =>
      simp only [Pl.tokS]
      split
      · intro h; exact Nat.le_trans (Nat.le_succ _) (ih r (ln + 1) h)
      · split
        · exact ih r ln
        · split
          · exact ih _ ln
          · split
            · exact cons_line (ih r ln)
            · split
              · split
                · exact cons_line (ih _ ln)
                · intro _; exact Nat.le_refl _
              · intro _; exact Nat.le_refl _

theorem lines_pos (s : ByteArray) (tl : List T3) (h : tl.map asTok = (tokA s).1) (i : Nat) : 0 < lineAt tl i := by
  unfold lineAt
  cases hg : tl[min i (tl.length - 1)]? with
  | none => simp
  | some t =>
    have hm : asTok t ∈ (tokA s).1 := by rw [← h]; exact List.mem_map_of_mem (List.mem_of_getElem? hg)
    unfold tokA at hm
    split at hm
    · cases hm
    · have := ((Pl.tok_within _ _ _).1 _ hm).1
      exact this

theorem text_out (s : ByteArray) (w : World) : Calls Tryz.prog 26 #[.string s] w fun e w' =>
    (∃ (ln : Nat) (er : Int), er ≠ 0 ∧ TBad s er ∧ (0 < ln ∨ er = 5) ∧ e = .returned (.tuple #[.agg #[.slice none 0 0, .slice none 0 0, .slice none 0 0], .int .i64 (ln : Int), .int .i64 er]) ∧ Below w.heap.size w w') ∨
    (∃ ds s1 s2 s3, TOk s ds ∧ e = .returned (.tuple #[.agg #[s1, s2, s3], .int .i64 0, .int .i64 0]) ∧ SchV w.heap.size ds s1 s2 s3 w' ∧ Below w.heap.size w w') := by
  refine (text_any s w).mono ?_
  rintro e w' (⟨h1, rfl, hb⟩ | ⟨h1, tl, hm, hp⟩)
  · refine .inl ⟨_, _, h1, .inl rfl, ?_, rfl, hb⟩
    unfold tokA at h1 ⊢
    split
    · exact .inr rfl
    · rename_i hs
      rw [if_neg hs] at h1
      exact .inl (tok_line _ _ _ h1)
  · cases hR : Pl.declsP 64 ((tokA s).1.map Pl.kt) with
    | ok ds r =>
      rw [hR] at hp
      obtain ⟨s1, s2, s3, rfl, hV, hb⟩ := hp
      have hr := Pl.decls_end 64 _ _ _ hR
      subst hr
      exact .inr ⟨ds, s1, s2, s3, ⟨h1, hR⟩, rfl, hV, hb⟩
    | bad r er =>
      rw [hR] at hp
      obtain ⟨i', _, _, rfl, hb⟩ := hp
      have hne := NZ.decls 64 _ _ _ hR
      exact .inl ⟨_, _, by simpa using hne, .inr ⟨r, er, h1, hR, rfl⟩, .inl (lines_pos s tl hm i'), rfl, hb⟩

theorem fm_none {α β : Type} (l : List α) : List.filterMap (fun _ => (none : Option β)) l = [] := List.filterMap_eq_nil_iff.2 (fun _ _ => rfl)
theorem stOf_in (a : List (List Nat × List Pl.Fld)) (b : List (List Nat × List Pl.Cas)) (c : List (List Nat × List Pl.Mth)) : stOf (Pl.inOrder a b c) = a ∧ enOf (Pl.inOrder a b c) = b ∧ svOf (Pl.inOrder a b c) = c := by
  unfold stOf enOf svOf Pl.inOrder
  refine ⟨?_, ?_, ?_⟩
  · simp only [List.filterMap_append, List.filterMap_map]
    show List.filterMap some a ++ List.filterMap (fun _ => none) b ++ List.filterMap (fun _ => none) c = a
    rw [fm_none, fm_none]
    simp
  · simp only [List.filterMap_append, List.filterMap_map]
    show List.filterMap (fun _ => none) a ++ List.filterMap some b ++ List.filterMap (fun _ => none) c = b
    rw [fm_none, fm_none]
    simp
  · simp only [List.filterMap_append, List.filterMap_map]
    show List.filterMap (fun _ => none) a ++ List.filterMap (fun _ => none) b ++ List.filterMap some c = c
    rw [fm_none, fm_none]
    simp
theorem of_mem (ds : List Pl.Decl) : ∀ d ∈ Pl.inOrder (stOf ds) (enOf ds) (svOf ds), d ∈ ds := by
  intro d hd
  simp only [Pl.inOrder, List.mem_append, List.mem_map] at hd
  rcases hd with (⟨y, hy, rfl⟩ | ⟨y, hy, rfl⟩) | ⟨y, hy, rfl⟩
  · obtain ⟨x, hx, he⟩ := List.mem_filterMap.1 hy
    cases x <;> simp at he
    subst he
    exact hx
  · obtain ⟨x, hx, he⟩ := List.mem_filterMap.1 hy
    cases x <;> simp at he
    subst he
    exact hx
  · obtain ⟨x, hx, he⟩ := List.mem_filterMap.1 hy
    cases x <;> simp at he
    subst he
    exact hx
theorem of_len (ds : List Pl.Decl) : (stOf ds).length + (enOf ds).length + (svOf ds).length = ds.length := by
  induction ds with
  | nil => rfl
  | cons d ds ih =>
    unfold stOf enOf svOf at *
    cases d <;> simp only [List.filterMap_cons, List.length_cons] <;> omega

theorem tok_okKt (s : ByteArray) : ∀ x ∈ (tokA s).1.map Pl.kt, Pl.okKt x := by
  intro x hx
  obtain ⟨t, ht, rfl⟩ := List.mem_map.1 hx
  unfold tokA at ht
  split at ht
  · cases ht
  · have h := Pl.tok_ok _ _ _ t ht
    exact h

/-- What a text declares may be. -/
theorem TOk.good {s : ByteArray} {ds : List Pl.Decl} (h : TOk s ds) : (∀ d ∈ Pl.inOrder (stOf ds) (enOf ds) (svOf ds), Pl.okDecl d) ∧ (stOf ds).length + (enOf ds).length + (svOf ds).length ≤ 64 := by
  obtain ⟨⟨h1, h2⟩, _⟩ := Pl.Gd.decls 64 _ _ _ (tok_okKt s) h.2
  exact ⟨fun d hd => h2 d (of_mem ds d hd), by rw [of_len]; exact h1⟩

/-- The text of declarations declares them. -/
theorem back_out (t : ByteArray) (ds : List Pl.Decl) (hok : ∀ d ∈ ds, Pl.okDecl d) (hl : ds.length ≤ 64) (ht : bl t = (ds.map Pl.declX).flatten) (hs : t.size ≤ 65536) : TOk t ds := by
  have hA : tokA t = Pl.tok (bl t) 1 := by unfold tokA; rw [if_neg (by omega)]
  obtain ⟨h1, h2⟩ := Pl.text_toks ds hok
  rw [← ht, ← hA] at h1 h2
  refine ⟨h1, ?_⟩
  rw [h2]
  exact Pl.decls_back ds 64 hl hok
theorem TOk.one {t : ByteArray} {a b : List Pl.Decl} (h : TOk t a) (k : TOk t b) : a = b := by
  have := h.2.symm.trans k.2
  cases this
  rfl
theorem TOk.notBad {t : ByteArray} {a : List Pl.Decl} (h : TOk t a) {er : Int} (k : TBad t er) : er = 0 := by
  rcases k with k | ⟨r, e, _, k, _⟩
  · rw [← k]; exact h.1
  · rw [h.2] at k; cases k
end Go.Proofs.YtdbgncdnffbhkaaGreatDoor

namespace Go.Proofs.YtdbgncdnffbhkaaGreatDoor
open Go.RowKit
set_option maxRecDepth 20000

/-- A type as it lies, anywhere. -/
def TyG (w : World) : Pl.Ty → Value → Value → Value → Prop
  | .plain k, a, b, c => a = .int .i64 (k : Int) ∧ (∃ s, b = .string s ∧ bl s = []) ∧ ∃ ad cp, c = .slice ad 0 cp
  | .named x, a, b, c => a = .int .i64 8 ∧ (∃ s, b = .string s ∧ bl s = x) ∧ ∃ ad cp, c = .slice ad 0 cp
  | .list t, a, b, c => a = .int .i64 6 ∧ (∃ s, b = .string s ∧ bl s = []) ∧ ∃ g off cp x y z, c = .slice (some ⟨g, off, none⟩) 1 cp ∧ g < w.heap.size ∧ w.cell? ⟨g, off, none⟩ = some x ∧ w.cell? ⟨g, off + 1, none⟩ = some y ∧ w.cell? ⟨g, off + 2, none⟩ = some z ∧ TyG w t x y z
  | .opt t, a, b, c => a = .int .i64 7 ∧ (∃ s, b = .string s ∧ bl s = []) ∧ ∃ g off cp x y z, c = .slice (some ⟨g, off, none⟩) 1 cp ∧ g < w.heap.size ∧ w.cell? ⟨g, off, none⟩ = some x ∧ w.cell? ⟨g, off + 1, none⟩ = some y ∧ w.cell? ⟨g, off + 2, none⟩ = some z ∧ TyG w t x y z
/-- A slice of one type, or of none. -/
def OfG (w : World) (v : Value) (t : Option Pl.Ty) : Prop :=
  match t with
  | none => ∃ ad cp, v = .slice ad 0 cp
  | some t => ∃ g off cp x y z, v = .slice (some ⟨g, off, none⟩) 1 cp ∧ g < w.heap.size ∧ w.cell? ⟨g, off, none⟩ = some x ∧ w.cell? ⟨g, off + 1, none⟩ = some y ∧ w.cell? ⟨g, off + 2, none⟩ = some z ∧ TyG w t x y z
theorem TyG.parts {t : Pl.Ty} {w : World} {a b c : Value} (h : TyG w t a b c) : a = .int .i64 (kindOf t) ∧ (∃ s, b = .string s ∧ bl s = nameOf t) ∧ OfG w c (inner t) := by
  cases t <;> exact h
theorem TyG.below {w w' : World} (hb : Below w.heap.size w w') (t : Pl.Ty) : ∀ (a b c : Value), TyG w t a b c → TyG w' t a b c := by
  induction t with
  | plain k => intro a b c h; exact h
  | named x => intro a b c h; exact h
  | list t ih =>
    rintro a b c ⟨h1, h2, g, off, cp, x, y, z, h3, h4, h5, h6, h7, h8⟩
    exact ⟨h1, h2, g, off, cp, x, y, z, h3, Nat.lt_of_lt_of_le h4 hb.size, (hb.cell h4).trans h5, (hb.cell h4).trans h6, (hb.cell h4).trans h7, ih _ _ _ h8⟩
  | opt t ih =>
    rintro a b c ⟨h1, h2, g, off, cp, x, y, z, h3, h4, h5, h6, h7, h8⟩
    exact ⟨h1, h2, g, off, cp, x, y, z, h3, Nat.lt_of_lt_of_le h4 hb.size, (hb.cell h4).trans h5, (hb.cell h4).trans h6, (hb.cell h4).trans h7, ih _ _ _ h8⟩
theorem OfG.below {w w' : World} {v : Value} {t : Option Pl.Ty} (h : OfG w v t) (hb : Below w.heap.size w w') : OfG w' v t := by
  cases t with
  | none => exact h
  | some t =>
    obtain ⟨g, off, cp, x, y, z, h3, h4, h5, h6, h7, h8⟩ := h
    exact ⟨g, off, cp, x, y, z, h3, Nat.lt_of_lt_of_le h4 hb.size, (hb.cell h4).trans h5, (hb.cell h4).trans h6, (hb.cell h4).trans h7, TyG.below hb _ _ _ _ h8⟩
theorem OfG.shape {w : World} {v : Value} {t : Option Pl.Ty} (h : OfG w v t) : ∃ ad m cp, v = .slice ad m cp := by
  cases t with
  | none => obtain ⟨ad, cp, rfl⟩ := h; exact ⟨_, _, _, rfl⟩
  | some t => obtain ⟨g, off, cp, x, y, z, rfl, _⟩ := h; exact ⟨_, _, _, rfl⟩
theorem TyG.shape {w : World} {t : Pl.Ty} {a b c : Value} (h : TyG w t a b c) : ∃ k s ad m cp, a = .int .i64 k ∧ b = .string s ∧ c = .slice ad m cp := by
  obtain ⟨h1, ⟨s, h2, _⟩, h3⟩ := h.parts
  obtain ⟨ad, m, cp, h4⟩ := h3.shape
  exact ⟨_, s, ad, m, cp, h1, h2, h4⟩

theorem Ly.tyG {B : Nat} {w : World} (hB : B ≤ w.heap.size) (t : Pl.Ty) : ∀ (n : Nat) (a b c : Value), Pl.tyD t ≤ n → Ly B n (Pl.emb t) w a b c → TyG w t a b c := by
  have nil : ∀ (n : Nat) (c : Value), 1 ≤ n → LyS B n [] w c → ∃ ad cp, c = .slice ad 0 cp := by
    intro n c hn h
    obtain ⟨n', rfl⟩ : ∃ n', n = n' + 1 := ⟨n - 1, by omega⟩
    obtain ⟨ad, cp, h1, _⟩ := h
    exact ⟨ad, cp, h1⟩
  induction t with
  | plain k =>
    rintro n a b c hn ⟨h1, ⟨s, h2, h3, _⟩, h4⟩
    exact ⟨h1, ⟨s, h2, h3⟩, nil n c hn h4⟩
  | named x =>
    rintro n a b c hn ⟨h1, ⟨s, h2, h3, _⟩, h4⟩
    exact ⟨h1, ⟨s, h2, h3⟩, nil n c hn h4⟩
  | list t ih =>
    rintro n a b c hn ⟨h1, ⟨s, h2, h3, _⟩, h4⟩
    simp only [Pl.tyD] at hn
    obtain ⟨n', rfl⟩ : ∃ n', n = n' + 1 := ⟨n - 1, by omega⟩
    obtain ⟨blk, off, cp, k', s', o', rfl, q2, q3, q4, q5, hly⟩ := LyS.first (g := Pl.emb t) h4
    exact ⟨h1, ⟨s, h2, h3⟩, blk, off, cp, k', s', o', rfl, Nat.lt_of_lt_of_le q2 hB, q3, q4, q5, ih n' _ _ _ (by omega) hly⟩
  | opt t ih =>
    rintro n a b c hn ⟨h1, ⟨s, h2, h3, _⟩, h4⟩
    simp only [Pl.tyD] at hn
    obtain ⟨n', rfl⟩ : ∃ n', n = n' + 1 := ⟨n - 1, by omega⟩
    obtain ⟨blk, off, cp, k', s', o', rfl, q2, q3, q4, q5, hly⟩ := LyS.first (g := Pl.emb t) h4
    exact ⟨h1, ⟨s, h2, h3⟩, blk, off, cp, k', s', o', rfl, Nat.lt_of_lt_of_le q2 hB, q3, q4, q5, ih n' _ _ _ (by omega) hly⟩

def FldG (f : Pl.Fld) (c : List Value) (w : World) : Prop := ∃ s k sn ad m cp, c = [.string s, .int .i64 (f.num : Int), .int .i64 k, .string sn, .slice ad m cp] ∧ bl s = f.name ∧ TyG w f.ty (.int .i64 k) (.string sn) (.slice ad m cp)
def CasG (f : Pl.Cas) (c : List Value) (_ : World) : Prop := ∃ s, c = [.string s, .int .i64 (f.num : Int)] ∧ bl s = f.name
def MthG (f : Pl.Mth) (c : List Value) (w : World) : Prop := ∃ s k sn ad m cp k' sn' ad' m' cp', c = [.string s, .bool f.once, .int .i64 k, .string sn, .slice ad m cp, .int .i64 k', .string sn', .slice ad' m' cp'] ∧ bl s = f.name ∧ TyG w f.arg (.int .i64 k) (.string sn) (.slice ad m cp) ∧ TyG w f.res (.int .i64 k') (.string sn') (.slice ad' m' cp')

end Go.Proofs.YtdbgncdnffbhkaaGreatDoor

namespace Go.Proofs.YtdbgncdnffbhkaaGreatDoor
open Go.RowKit
set_option maxRecDepth 20000

/-- A slice of structs of m cells each, anywhere. -/
def Rw {α : Type} (m : Nat) (R : α → List Value → World → Prop) (w : World) (v : Value) (xs : List α) : Prop :=
  ∃ ad cap, v = .slice ad xs.length cap ∧ xs.length ≤ 9223372036854775807 ∧ ∀ (i : Nat) (a : α), xs[i]? = some a → ∃ g off c, ad = some ⟨g, off, none⟩ ∧ g < w.heap.size ∧ R a c w ∧ ∀ (j : Nat) (u : Value), c[j]? = some u → w.cell? ⟨g, off + i * m + j, none⟩ = some u
theorem Rw.shape {α : Type} {m : Nat} {R : α → List Value → World → Prop} {w : World} {v : Value} {xs : List α} (h : Rw m R w v xs) : ∃ ad cp, v = .slice ad xs.length cp := by
  obtain ⟨ad, cp, h1, _⟩ := h
  exact ⟨ad, cp, h1⟩
theorem Rw.at {α : Type} {m : Nat} {R : α → List Value → World → Prop} {w : World} {v : Value} {xs : List α} (h : Rw m R w v xs) {i : Nat} {a : α} (hi : xs[i]? = some a) :
    ∃ g off cap c, v = .slice (some ⟨g, off, none⟩) xs.length cap ∧ g < w.heap.size ∧ R a c w ∧ ∀ (j : Nat) (u : Value), c[j]? = some u → w.cell? ⟨g, off + i * m + j, none⟩ = some u := by
  obtain ⟨ad, cap, h1, _, h3⟩ := h
  obtain ⟨g, off, c, rfl, q2, q3, q4⟩ := h3 i a hi
  exact ⟨g, off, cap, c, h1, q2, q3, q4⟩
theorem Rw.below {α : Type} {m : Nat} {R : α → List Value → World → Prop} {w w' : World} {v : Value} {xs : List α} (h : Rw m R w v xs) (hb : Below w.heap.size w w') (hR : ∀ a c, R a c w → R a c w') : Rw m R w' v xs := by
  obtain ⟨ad, cap, h1, h2, h3⟩ := h
  refine ⟨ad, cap, h1, h2, fun i a hi => ?_⟩
  obtain ⟨g, off, c, q1, q2, q3, q4⟩ := h3 i a hi
  exact ⟨g, off, c, q1, Nat.lt_of_lt_of_le q2 hb.size, hR a c q3, fun j u hu => (hb.cell q2).trans (q4 j u hu)⟩
theorem FldG.below {w w' : World} (hb : Below w.heap.size w w') (f : Pl.Fld) (c : List Value) (h : FldG f c w) : FldG f c w' := by
  obtain ⟨s, k, sn, ad, m, cp, h1, h2, h3⟩ := h
  exact ⟨s, k, sn, ad, m, cp, h1, h2, TyG.below hb _ _ _ _ h3⟩
theorem MthG.below {w w' : World} (hb : Below w.heap.size w w') (f : Pl.Mth) (c : List Value) (h : MthG f c w) : MthG f c w' := by
  obtain ⟨s, k, sn, ad, m, cp, k', sn', ad', m', cp', h1, h2, h3, h4⟩ := h
  exact ⟨s, k, sn, ad, m, cp, k', sn', ad', m', cp', h1, h2, TyG.below hb _ _ _ _ h3, TyG.below hb _ _ _ _ h4⟩
/-- A declaration's cells: name, parts. -/
def DecG {α : Type} (n : Nat) (R : α → List Value → World → Prop) (x : List Nat × List α) (c : List Value) (w : World) : Prop := ∃ s ad m cp, c = [.string s, .slice ad m cp] ∧ bl s = x.1 ∧ Rw n R w (.slice ad m cp) x.2
theorem DecG.below {α : Type} {n : Nat} {R : α → List Value → World → Prop} {w w' : World} (hb : Below w.heap.size w w') (hR : ∀ a c, R a c w → R a c w') (x : List Nat × List α) (c : List Value) (h : DecG n R x c w) : DecG n R x c w' := by
  obtain ⟨s, ad, m, cp, h1, h2, h3⟩ := h
  exact ⟨s, ad, m, cp, h1, h2, h3.below hb hR⟩
/-- A schema of declarations, anywhere. -/
def SchG (st : List (List Nat × List Pl.Fld)) (en : List (List Nat × List Pl.Cas)) (sv : List (List Nat × List Pl.Mth)) (s1 s2 s3 : Value) (w : World) : Prop :=
  Rw 2 (DecG 5 FldG) w s1 st ∧ Rw 2 (DecG 2 CasG) w s2 en ∧ Rw 2 (DecG 8 MthG) w s3 sv
theorem SchG.shape {st : List (List Nat × List Pl.Fld)} {en : List (List Nat × List Pl.Cas)} {sv : List (List Nat × List Pl.Mth)} {s1 s2 s3 : Value} {w : World} (h : SchG st en sv s1 s2 s3 w) : ∃ a1 c1 a2 c2 a3 c3, s1 = .slice a1 st.length c1 ∧ s2 = .slice a2 en.length c2 ∧ s3 = .slice a3 sv.length c3 := by
  obtain ⟨a1, c1, e1⟩ := h.1.shape
  obtain ⟨a2, c2, e2⟩ := h.2.1.shape
  obtain ⟨a3, c3, e3⟩ := h.2.2.shape
  exact ⟨a1, c1, a2, c2, a3, c3, e1, e2, e3⟩
theorem SchG.below {st : List (List Nat × List Pl.Fld)} {en : List (List Nat × List Pl.Cas)} {sv : List (List Nat × List Pl.Mth)} {s1 s2 s3 : Value} {w w' : World} (h : SchG st en sv s1 s2 s3 w) (hb : Below w.heap.size w w') : SchG st en sv s1 s2 s3 w' :=
  ⟨h.1.below hb (DecG.below hb (FldG.below hb)), h.2.1.below hb (DecG.below hb (fun _ _ h => h)), h.2.2.below hb (DecG.below hb (MthG.below hb))⟩

theorem SlR.rw {α β : Type} {m : Nat} {R : β → List Value → World → Prop} {R' : α → List Value → World → Prop} {B : Nat} {w : World} {v : Value} {xs : List α} (f : α → β) (hB : B ≤ w.heap.size) (h : SlR m R B w v (xs.map f)) (hR : ∀ a ∈ xs, ∀ c, R (f a) c w → R' a c w) : Rw m R' w v xs := by
  obtain ⟨ad, cp, h1, h2, h3⟩ := h
  rw [List.length_map] at h1 h2
  refine ⟨ad, cp, h1, h2, fun i a hi => ?_⟩
  obtain ⟨blk, off, c, q1, q2, q3, q4⟩ := h3 i (f a) (by rw [List.getElem?_map, hi]; rfl)
  exact ⟨blk, off, c, q1, Nat.lt_of_lt_of_le q2 hB, hR a (List.mem_of_getElem? hi) c q4, q3⟩
/-- A schema of any make that is one of declarations that may be. -/
theorem SchL.g {B n : Nat} {w : World} {st : List (List Nat × List Pl.Fld)} {en : List (List Nat × List Pl.Cas)} {sv : List (List Nat × List Pl.Mth)} {s1 s2 s3 : Value} (hB : B ≤ w.heap.size) (hn : 8 ≤ n) (h : SchL B n (st.map Pl.embSt) (en.map Pl.embEn) (sv.map Pl.embSv) s1 s2 s3 w) (hok : ∀ d ∈ Pl.inOrder st en sv, Pl.okDecl d) : SchG st en sv s1 s2 s3 w := by
  obtain ⟨h1, h2, h3⟩ := h
  refine ⟨h1.rw _ hB ?_, h2.rw _ hB ?_, h3.rw _ hB ?_⟩
  · rintro a ha c ⟨s, v, rfl, hs, _, hr⟩
    have hd := hok (Pl.mkSt a) (List.mem_append_left _ (List.mem_append_left _ (List.mem_map_of_mem ha)))
    obtain ⟨ad, cp, rfl⟩ := hr.shape
    refine ⟨s, ad, _, cp, rfl, hs, hr.rw _ hB ?_⟩
    rintro f hf c ⟨s, k, sn, o, rfl, hs, _, hl⟩
    have hf2 := hd.2.2 f hf
    have hg := Ly.tyG hB f.ty n _ _ _ (by have := hf2.2.2.2; omega) hl
    obtain ⟨k', s', ad', m', cp', rfl, rfl, rfl⟩ := hg.shape
    exact ⟨s, _, _, _, _, _, rfl, hs, hg⟩
  · rintro a ha c ⟨s, v, rfl, hs, _, hr⟩
    obtain ⟨ad, cp, rfl⟩ := hr.shape
    refine ⟨s, ad, _, cp, rfl, hs, hr.rw _ hB ?_⟩
    rintro f hf c ⟨s, rfl, hs, _⟩
    exact ⟨s, rfl, hs⟩
  · rintro a ha c ⟨s, v, rfl, hs, _, hr⟩
    have hd := hok (Pl.mkSv a) (List.mem_append_right _ (List.mem_map_of_mem ha))
    obtain ⟨ad, cp, rfl⟩ := hr.shape
    refine ⟨s, ad, _, cp, rfl, hs, hr.rw _ hB ?_⟩
    rintro f hf c ⟨s, k, sn, o, k2, sn2, o2, rfl, hs, _, hl, hl2⟩
    have hf2 := hd.2.2 f hf
    have hg := Ly.tyG hB f.arg n _ _ _ (by have := hf2.2.2.1; omega) hl
    have hg2 := Ly.tyG hB f.res n _ _ _ (by have := hf2.2.2.2.2; omega) hl2
    obtain ⟨k', s', ad', m', cp', rfl, rfl, rfl⟩ := hg.shape
    obtain ⟨k3, s3, ad3, m3, cp3, rfl, rfl, rfl⟩ := hg2.shape
    exact ⟨s, _, _, _, _, _, _, _, _, _, _, rfl, hs, hg, hg2⟩

end Go.Proofs.YtdbgncdnffbhkaaGreatDoor

