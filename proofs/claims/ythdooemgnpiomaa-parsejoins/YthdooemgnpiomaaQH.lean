/- parse: takeType. -/
import Derived.Test.YthdooemgnpiomaaQG
namespace Go.Proofs.Ythdooemgnpiomaa
open Go.RowKit

/-- A type's three cells: kind, name, what it is of; its blocks are from B on. -/
def TyC (B : Nat) : Pl.Ty → World → Value → Value → Value → Prop
  | .plain k, _, a, b, c => a = .int .i64 (k : Int) ∧ b = .string ⟨#[]⟩ ∧ c = .slice none 0 0
  | .named x, _, a, b, c => a = .int .i64 8 ∧ (∃ s, b = .string s ∧ bl s = x) ∧ c = .slice none 0 0
  | .list t, w, a, b, c => a = .int .i64 6 ∧ b = .string ⟨#[]⟩ ∧ ∃ g x y z, c = .slice (some ⟨g, 0, none⟩) 1 1 ∧ B ≤ g ∧ Bx w g [x, y, z] 46 ∧ TyC B t w x y z
  | .opt t, w, a, b, c => a = .int .i64 7 ∧ b = .string ⟨#[]⟩ ∧ ∃ g x y z, c = .slice (some ⟨g, 0, none⟩) 1 1 ∧ B ≤ g ∧ Bx w g [x, y, z] 46 ∧ TyC B t w x y z
def TyV (B : Nat) (t : Pl.Ty) (v : Value) (w : World) : Prop := ∃ a b c, v = .agg #[a, b, c] ∧ TyC B t w a b c

theorem ok_bind {α β : Type} (a : α) (r : List Pl.Kt) (f : α → List Pl.Kt → Pl.Res β) : (Pl.Res.ok a r).bind f = f a r := rfl

theorem TyC.ch {B : Nat} {X : Nat → TypeId → Prop} {w w' : World} (hc : Ch X w w') (hX : ∀ g, B ≤ g → ¬ X g 46) : ∀ (t : Pl.Ty) (a b c : Value), TyC B t w a b c → TyC B t w' a b c := by
  intro t
  induction t with
  | plain k => intro a b c h; exact h
  | named x => intro a b c h; exact h
  | list t ih =>
    rintro a b c ⟨h1, h2, g, x, y, z, h3, hB, h4, h5⟩
    exact ⟨h1, h2, g, x, y, z, h3, hB, h4.ch hc (hX g hB), ih _ _ _ h5⟩
  | opt t ih =>
    rintro a b c ⟨h1, h2, g, x, y, z, h3, hB, h4, h5⟩
    exact ⟨h1, h2, g, x, y, z, h3, hB, h4.ch hc (hX g hB), ih _ _ _ h5⟩
theorem TyC.mono {B B' : Nat} (hBB : B' ≤ B) {w : World} : ∀ (t : Pl.Ty) (a b c : Value), TyC B t w a b c → TyC B' t w a b c := by
  intro t
  induction t with
  | plain k => intro a b c h; exact h
  | named x => intro a b c h; exact h
  | list t ih =>
    rintro a b c ⟨h1, h2, g, x, y, z, h3, hB, h4, h5⟩
    exact ⟨h1, h2, g, x, y, z, h3, Nat.le_trans hBB hB, h4, ih _ _ _ h5⟩
  | opt t ih =>
    rintro a b c ⟨h1, h2, g, x, y, z, h3, hB, h4, h5⟩
    exact ⟨h1, h2, g, x, y, z, h3, Nat.le_trans hBB hB, h4, ih _ _ _ h5⟩
theorem TyC.shape {B : Nat} {w : World} (t : Pl.Ty) {a b c : Value} (h : TyC B t w a b c) : ∃ k s ad m cp, a = .int .i64 k ∧ b = .string s ∧ c = .slice ad m cp := by
  cases t with
  | plain k => obtain ⟨rfl, rfl, rfl⟩ := h; exact ⟨_, _, _, _, _, rfl, rfl, rfl⟩
  | named x => obtain ⟨rfl, ⟨s, rfl, _⟩, rfl⟩ := h; exact ⟨_, _, _, _, _, rfl, rfl, rfl⟩
  | list t => obtain ⟨rfl, rfl, g, x, y, z, rfl, _⟩ := h; exact ⟨_, _, _, _, _, rfl, rfl, rfl⟩
  | opt t => obtain ⟨rfl, rfl, g, x, y, z, rfl, _⟩ := h; exact ⟨_, _, _, _, _, rfl, rfl, rfl⟩
theorem TyC.set {B : Nat} {w : World} {t : Pl.Ty} {x y z : Value} (h : TyC B t w x y z) {b k : Nat} (hb : b < B) (u : Value) : TyC B t (w.setCell ⟨b, k, none⟩ u) x y z := by
  have hc : Ch (fun g _ => g = b) w (w.setCell ⟨b, k, none⟩ u) := by
    refine ⟨rfl, rfl, rfl, by simp, fun g o ho hn => ?_⟩
    by_cases hg : g = b
    · cases o with
      | cells cs T r => exact absurd hg (hn cs T r rfl)
      | _ =>
        subst hg
        simp only [World.setCell, Array.getElem?_modify, if_true, ho]
        rfl
    · exact (heap_setCell_other w ⟨b, k, none⟩ g u hg).trans ho
  exact TyC.ch hc (fun g hg he => by omega) _ _ _ _ h
theorem Bx.newAt {w : World} {g : Nat} (hg : g = w.heap.size) (cs : List Value) (T : TypeId) : Bx (w.alloc (.cells ⟨cs⟩ T)) g cs T := by
  subst hg
  exact heap_alloc_new w _
theorem Xp.ty {n : Nat} {B : Nat} : ∀ g, B ≤ g → ¬ Xp n g 46 := fun _ _ h => by have := h.2; revert this; decide

theorem ret_ty77 {W : World} {tmps : Array Value} {b : Nat} {x y z : Value} (ht : tmps.getD 4 undef = .pointer (some ⟨b, 0, none⟩)) (h0 : W.cell? ⟨b, 0, none⟩ = some x) (h1 : W.cell? ⟨b, 1, none⟩ = some y) (h2 : W.cell? ⟨b, 2, none⟩ = some z) :
    (results Try.f77 tmps).run Try.prog W = .ok (.agg #[x, y, z]) W := by
  have ht' : tmps[4]?.getD undef = .pointer (some ⟨b, 0, none⟩) := by rw [← Array.getD_eq_getD_getElem?]; exact ht
  simp [results, Try.results77]
  go_simp

set_option maxHeartbeats 4000000 in
set_option maxRecDepth 4000 in
theorem ptype_zero (n : Nat) (sv : Value) (l : List T3) (rest : List Value) (w : World) (i : Nat) (h : Pos n sv rest w i) (hS : TSeg w sv (l.map toZ)) (hl : 0 < l.length) (hi : i ≤ l.length) :
    Calls Try.prog 77 #[.pointer (some ⟨n, 0, none⟩), .int .i64 9] w (Runs l n sv rest w (Pl.typeP 0 ((l.drop i).map kt3)) (TyV w.heap.size)) := by
  have hb0 := below_alloc w (.cells #[.int .i64 0, .string ⟨#[]⟩, .slice none 0 0] 46)
  have hF := fits_type (w.alloc (.cells #[.int .i64 0, .string ⟨#[]⟩, .slice none 0 0] 46))
  simp only [Pl.typeP]
  cases hp : Pl.takeP Pl.begT ((l.drop i).map kt3) with
  | bad r er =>
    have hnx := pnext_bad n sv l rest _ i (h.below hb0) (hS.below hb0) hl hi _ _ hF r er hp
    have hr : r = (l.drop i).map kt3 := by rcases take_bad hp hi with ⟨_, _, hr⟩ | ⟨_, _, _, _, hr⟩ <;> exact hr
    have HR : Hid (r = (l.drop i).map kt3) := hr
    clear hS hp hF hr
    go_enter Try.func77, Try.ntmps77
    go_wp2_with fail
    refine hnx.mono ?_
    rintro e w1 ⟨rfl, hb1⟩
    exact ⟨rfl, i, rfl, hi, HR.out, Ch.below (below_next hb0 hb1)⟩
  | ok kk r =>
    obtain ⟨t, ht, hpt, rfl, rfl⟩ := take_ok hp
    have hnx := pnext_ok n sv l rest _ i (h.below hb0) (hS.below hb0) t ht _ _ hF hpt
    simp only [Pl.Res.bind]
    have hfl := fun W (hb : Below w.heap.size w W) => pfail_any n sv l rest W i (h.below hb) (hS.below hb) hl 42
    clear hS hp hF ht hpt
    go_enter Try.func77, Try.ntmps77
    go_wp2_with fail
    refine hnx.mono ?_
    rintro e w1 ⟨rfl, hb1⟩
    have hb1' := below_next hb0 hb1
    unfold tokV
    go_wp2_with fail
    refine (hfl _ hb1').mono ?_
    rintro e w2 ⟨rfl, q, rfl⟩
    exact ⟨rfl, i, rfl, hi, by simp [List.map_drop], Ch.below (below_drewN hb1' q)⟩

theorem TSeg.ch {X : Nat → TypeId → Prop} {w w' : World} {v : Value} {l : List Z3} (h : TSeg w v l) (hc : Ch X w w') (hX : ∀ g, v.ownBlock = some g → ∀ T, ¬ X g T) : TSeg w' v l := by
  obtain ⟨a, cap, h1, h2, h3, h4, h5⟩ := h
  refine ⟨a, cap, h1, h2, h3, h4, fun g off ar ha h0 => ?_⟩
  obtain ⟨k1, k2, k3⟩ := h5 g off ar ha h0
  refine ⟨k1, Nat.lt_of_lt_of_le k2 hc.size, fun i t ht => ?_⟩
  obtain ⟨q1, q2, q3⟩ := k3 i t ht
  have hb : w'.heap[g]? = w.heap[g]? := by
    have ho : w.heap[g]? = some w.heap[g] := by simp [k2]
    rw [ho]
    exact hc.block g _ ho (fun cs T r _ => hX g (by rw [h1, ha]; rfl) T)
  exact ⟨(World.cell?_of_block hb).trans q1, (World.cell?_of_block hb).trans q2, (World.cell?_of_block hb).trans q3⟩
theorem TSeg.pos {n : Nat} {w w' : World} {v : Value} {l : List Z3} (h : TSeg w v l) (hc : Ch (Xp n) w w') (hn : ∀ g, v.ownBlock = some g → g ≠ n) : TSeg w' v l := h.ch hc (fun g hg _ hx => hn g hg hx.1)

/-- One sign is looked for. -/
theorem psign_any (s : ByteArray) (x : List Nat) (hx : bl s = x) (w : World) (g : Nat) (hg : g = w.heap.size) : Calls Try.prog 29 #[.slice (some ⟨g, 0, none⟩) 1 1] (w.alloc (.cells #[.string s] 9)) fun e w' => ∃ fk cap, e = .returned (.func (.func fk) #[] cap) ∧ FitsT w' (.func (.func fk) #[] cap) (Pl.isT x) ∧ Below w.heap.size w w' := by
  subst hg
  refine (poneOf_any _ [s] (by simp) _ ⟨_, rfl, heap_alloc_new w _⟩).mono ?_
  rintro e w' ⟨fv, rfl, hF, hb⟩
  obtain ⟨fk, cap, rfl, _, _⟩ := id hF
  refine ⟨fk, cap, rfl, ?_, below_next (below_alloc w _) hb⟩
  have e : (fun t : Pl.Kt => memB [s] t.2) = Pl.isT x := by
    funext t
    simp [memB, Pl.isT, hx]
  rw [← e]
  exact hF

set_option maxHeartbeats 8000000 in
set_option maxRecDepth 4000 in
theorem ptype_any (n : Nat) (sv : Value) (l : List T3) (rest : List Value) (hl : 0 < l.length) (hbig : l.length ≤ 1000000) (hG : GoodT l) (d : Nat) : ∀ (w : World) (i : Nat), d ≤ 8 → Pos n sv rest w i → TSeg w sv (l.map toZ) → i ≤ l.length → (∀ g, sv.ownBlock = some g → g ≠ n) →
    Calls Try.prog 77 #[.pointer (some ⟨n, 0, none⟩), .int .i64 (9 - (d : Int))] w (Runs l n sv rest w (Pl.typeP d ((l.drop i).map kt3)) (TyV w.heap.size)) := by
  induction d with
  | zero => intro w i _ h hS hi _; exact ptype_zero n sv l rest w i h hS hl hi
  | succ d ih =>
    intro w i hd h hS hi hsn
    have hb0 := below_alloc w (.cells #[.int .i64 0, .string ⟨#[]⟩, .slice none 0 0] 46)
    have hB0 := Bx.new w [.int .i64 0, .string ⟨#[]⟩, .slice none 0 0] 46
    have hF := fits_type (w.alloc (.cells #[.int .i64 0, .string ⟨#[]⟩, .slice none 0 0] 46))
    have hlt : n < w.heap.size := h.facts.2.2.2
    simp only [Pl.typeP]
    cases hp : Pl.takeP Pl.begT ((l.drop i).map kt3) with
    | bad r er =>
      have hnx := pnext_bad n sv l rest _ i (h.below hb0) (hS.below hb0) hl hi _ _ hF r er hp
      have hr : r = (l.drop i).map kt3 := by rcases take_bad hp hi with ⟨_, _, hr⟩ | ⟨_, _, _, _, hr⟩ <;> exact hr
      have HR : Hid (r = (l.drop i).map kt3) := hr
      clear hS hp hF hr ih
      go_enter Try.func77, Try.ntmps77
      go_wp2_with fail
      refine hnx.mono ?_
      rintro e w1 ⟨rfl, hb1⟩
      exact ⟨rfl, i, rfl, hi, HR.out, Ch.below (below_next hb0 hb1)⟩
    | ok kk r =>
      obtain ⟨t, ht, hpt, rfl, rfl⟩ := take_ok hp
      have hnx := pnext_ok n sv l rest _ i (h.below hb0) (hS.below hb0) t ht _ _ hF hpt
      simp only [ok_bind]
      have htk := fun W (hb : Below w.heap.size w W) => ptake_ok n sv l rest W i (h.below hb) (hS.below hb) hbig t ht _ _ (fits_type W) hpt
      have hil := (List.getElem?_eq_some_iff.1 ht).1
      have hxs := (check_kt (hG t (List.mem_of_getElem? ht))).2.2.1
      obtain ⟨b, hbe⟩ : ∃ b, b = w.heap.size := ⟨_, rfl⟩
      have hdl : (9 : Int) - ((d + 1 : Nat) : Int) = 8 - (d : Int) := by omega
      rw [hdl]
      have hd8 : ¬ (8 : Int) < 8 - (d : Int) := by omega
      obtain ⟨k, x, ln⟩ := t
      have HH : Hid (∀ (w : World) (i : Nat), d ≤ 8 → Pos n sv rest w i → TSeg w sv (l.map toZ) → i ≤ l.length → (∀ g, sv.ownBlock = some g → g ≠ n) →
        Calls Try.prog 77 #[.pointer (some ⟨n, 0, none⟩), .int .i64 (9 - (d : Int))] w (Runs l n sv rest w (Pl.typeP d ((l.drop i).map kt3)) (TyV w.heap.size))) := ih
      have HS : Hid (TSeg w sv (l.map toZ)) := hS
      have HG : Hid (GoodT l) := hG
      have HN : Hid (∀ g, sv.ownBlock = some g → g ≠ n) := hsn
      simp only at hxs
      clear ih hp hF ht hpt hS hG hsn hi
      have hkx : (kt3 (k, x, ln)).2 = bl x := rfl
      rw [hkx]
      generalize hRES : (if bl x = [91] then (Pl.typeP d ((l.drop (i + 1)).map kt3)).bind fun x r1 => (Pl.takeP (Pl.isT [93]) r1).bind fun _ r2 => Pl.Res.ok (Pl.Ty.list x) r2
        else if bl x = [63] then (Pl.typeP d ((l.drop (i + 1)).map kt3)).bind fun x r1 => Pl.Res.ok (Pl.Ty.opt x) r1
        else if Pl.nameT (kt3 (k, x, ln)) = true then Pl.Res.ok (Pl.Ty.named (bl x)) ((l.drop (i + 1)).map kt3)
        else Pl.Res.ok (Pl.Ty.plain (Pl.plainK (bl x))) ((l.drop (i + 1)).map kt3)) = RES
      have HRES : Hid ((if bl x = [91] then (Pl.typeP d ((l.drop (i + 1)).map kt3)).bind fun x r1 => (Pl.takeP (Pl.isT [93]) r1).bind fun _ r2 => Pl.Res.ok (Pl.Ty.list x) r2
        else if bl x = [63] then (Pl.typeP d ((l.drop (i + 1)).map kt3)).bind fun x r1 => Pl.Res.ok (Pl.Ty.opt x) r1
        else if Pl.nameT (kt3 (k, x, ln)) = true then Pl.Res.ok (Pl.Ty.named (bl x)) ((l.drop (i + 1)).map kt3)
        else Pl.Res.ok (Pl.Ty.plain (Pl.plainK (bl x))) ((l.drop (i + 1)).map kt3)) = RES) := hRES
      clear hRES hkx
      go_enter Try.func77, Try.ntmps77
      go_wp2_with fail
      rw [← hbe] at hB0 ⊢
      have hnb : b ≠ n := by omega
      change Bx (w.alloc (.cells #[.int .i64 0, .string ⟨#[]⟩, .slice none 0 0] 46)) b _ _ at hB0
      have HB : Hid (b = w.heap.size) := hbe
      clear hbe
      generalize w.alloc (.cells #[.int .i64 0, .string ⟨#[]⟩, .slice none 0 0] 46) = w0 at *
      refine hnx.mono ?_
      rintro e w1 ⟨rfl, hb1'⟩
      have hbw1 := below_next hb0 hb1'
      have hB1 := hB0.below hb1'
      have hT1 := htk _ hbw1
      clear hnx htk hb0 hB0 hb1'
      unfold tokV at hT1 ⊢
      go_wp2_with fail
      refine hT1.mono ?_
      rintro e w2 ⟨rfl, hP2, hC2⟩
      have hB2 := hB1.ch hC2 (fun hx => hnb hx.1)
      have hC2' : Ch (Xp n) w w2 := (Ch.below hbw1).trans hC2
      clear hB1 hT1 hC2
      have hS2 := HS.out.pos hC2' HN.out
      have hb3 := below_alloc w2 (.cells #[.int .i64 (k : Int), .string x, .int .i64 (ln : Int)] 36)
      have hX3 := Bx.new w2 [.int .i64 (k : Int), .string x, .int .i64 (ln : Int)] 36
      have hC3 := hC2'.bel hb3
      have hB3 := hB2.below hb3
      have hS3 := hS2.below hb3
      have hP3 := hP2.below hb3
      have hlb : b < w2.heap.size := hB2.lt
      by_cases h1 : x = ⟨#[91]⟩
      · have hb1 : bl x = [91] := by rw [h1]; rfl
        have HR3 := HRES.out
        rw [if_pos hb1] at HR3
        have HRES : Hid (((Pl.typeP d ((l.drop (i + 1)).map kt3)).bind fun x r1 => (Pl.takeP (Pl.isT [93]) r1).bind fun _ r2 => Pl.Res.ok (Pl.Ty.list x) r2) = RES) := HR3
        subst h1
        clear HR3 hb1
        go_wp2_with fail
        have e9 : (8 : Int) - (d : Int) + 1 = 9 - (d : Int) := by omega
        rw [e9]
        have hrec := HH.out _ (i + 1) (by omega) hP3 hS3 hil HN.out
        have HB3 : Hid (b < (w2.alloc (.cells #[.int .i64 (k : Int), .string ⟨#[91]⟩, .int .i64 (ln : Int)] 36)).heap.size) := hB3.lt
        generalize (w2.alloc (.cells #[.int .i64 (k : Int), .string ⟨#[91]⟩, .int .i64 (ln : Int)] 36)) = w3 at *
        clear hB2 hP2 hC2' hS2 hb3 e9 hd8 hdl hX3 hP3 hlb
        have HR4 := HRES.out
        refine hrec.mono ?_
        generalize Pl.typeP d ((l.drop (i + 1)).map kt3) = R4 at *
        cases R4 with
        | bad r er =>
          rintro e w4 ⟨i4, rfl, hi4, hr4, hC4⟩
          subst HR4
          exact ⟨rfl, i4, rfl, hi4, hr4, hC3.trans hC4⟩
        | ok ty r =>
          rintro e w4 ⟨v4, i4, rfl, hi4, rfl, hP4, ⟨a4, b4, c4, rfl, hty⟩, hC4⟩
          have HR4' : Hid (((Pl.takeP (Pl.isT [93]) ((l.drop i4).map kt3)).bind fun _ r2 => Pl.Res.ok (Pl.Ty.list ty) r2) = RES) := HR4
          obtain ⟨k4, s4, ad4, m4, cp4, rfl, rfl, rfl⟩ := hty.shape
          have hC4' := hC3.trans hC4
          have hB4 := hB3.ch hC4 (fun hx => hnb hx.1)
          have hS4 := hS3.pos hC4 HN.out
          clear hrec hC3 hC4 hB3 hS3 HR4 HRES
          go_wp2_with fail
          refine (psign_any _ [93] rfl _ _ (by simp)).mono ?_
          rintro e w5 ⟨fk, cap, rfl, hF5, hb5⟩
          have hba := below_alloc w4 (.cells #[.int .i64 k4, .string s4, .slice ad4 m4 cp4] 46)
          have hbx := Bx.new w4 [.int .i64 k4, .string s4, .slice ad4 m4 cp4] 46
          have hb45 := below_next hba hb5
          have hX5 := hbx.below hb5
          have hB5 := hB4.below hb45
          have hP5 := hP4.below hb45
          have hC5 := hC4'.bel hb45
          have hty5 := TyC.ch (X := Xp n) (Ch.below hb45) Xp.ty _ _ _ _ hty
          have hnx4 : n ≠ w4.heap.size := by have := hP4.facts.2.2.2; omega
          have hbx4 : b ≠ w4.heap.size := by have := hB4.lt; omega
          obtain ⟨g4, hg4⟩ : ∃ g4, g4 = w4.heap.size := ⟨_, rfl⟩
          rw [← hg4] at hX5 hnx4 hbx4 ⊢
          have htk5 := ptake_any n sv l rest w5 i4 hP5 (hS4.below hb45) hl hbig hi4 _ _ hF5
          have hgw : w.heap.size ≤ g4 := by rw [hg4]; exact hC4'.size
          clear hg4 hb45 hba hbx hb5 hB4 hP4 hC4' hty hF5 hS4
          go_wp2_with fail
          have HR5 := HR4'.out
          refine htk5.mono ?_
          generalize Pl.takeP (Pl.isT [93]) ((l.drop i4).map kt3) = R5 at *
          cases R5 with
          | bad r er =>
            rintro e w6 ⟨i6, rfl, hi6, hr6, hC6⟩
            subst HR5
            exact ⟨rfl, i6, rfl, hi6, hr6, hC5.trans hC6⟩
          | ok kt5 r5 =>
            rintro e w6 ⟨v6, i6, rfl, hi6, rfl, hP6, ⟨t6, -, -, rfl⟩, hC6⟩
            have hC6' := hC5.trans hC6
            have hB6 := hB5.ch hC6 (fun hx => hnb hx.1)
            have hX6 := hX5.ch hC6 (fun hx => hnx4 hx.1.symm)
            have hty6 := TyC.ch hC6 Xp.ty _ _ _ _ hty5
            have x0 := hX6.cell 0 rfl
            have x1 := hX6.cell 1 rfl
            have x2 := hX6.cell 2 rfl
            have d0 := hB6.cell 0 rfl
            have d1 := hB6.cell 1 rfl
            have d2 := hB6.cell 2 rfl
            have hfb := hB6.frozen
            have hlt6 := hX6.lt
            have hlb6 := hB6.lt
            unfold tokV
            have HR6 : Hid (Pl.Res.ok (Pl.Ty.list ty) ((l.drop i6).map kt3) = RES) := HR5
            clear htk5 hC5 hC6 hB5 hX5 hty5 hP5 HR5 HR4'
            go_wp2
            have hge : w.heap.size ≤ b := by rw [HB.out]; exact Nat.le_refl _
            have hB7 := (((hB6.set 0 (.int .i64 6)).set 1 (.string ⟨#[]⟩)).set 2 (.slice (some ⟨w6.heap.size, 0, none⟩) 1 1)).alloc (.cells #[.int .i64 k4, .string s4, .slice ad4 m4 cp4] 46)
            refine bodyPost_ret (ret_ty77 rfl (hB7.cell 0 rfl) (hB7.cell 1 rfl) (hB7.cell 2 rfl)) rfl ?_
            rw [← HR6.out]
            have hb3 := HB3.out
            have hty7 := TyC.ch (X := Xp n) (Ch.alloc _ (.cells #[.int .i64 k4, .string s4, .slice ad4 m4 cp4] 46)) Xp.ty _ _ _ _ (((hty6.set (k := 0) hb3 (.int .i64 6)).set (k := 1) hb3 (.string ⟨#[]⟩)).set (k := 2) hb3 (.slice (some ⟨w6.heap.size, 0, none⟩) 1 1))
            refine ⟨_, i6, rfl, hi6, rfl, (((hP6.other (Ne.symm hnb) _).other (Ne.symm hnb) _).other (Ne.symm hnb) _).below (below_alloc _ _), ⟨_, _, _, rfl, rfl, rfl, w6.heap.size, _, _, _, rfl, ?_, ?_, TyC.mono ?_ _ _ _ _ hty7⟩, (((hC6'.new hge _).new hge _).new hge _).al _⟩
            · exact hC6'.size
            · exact Bx.newAt (by simp) _ _
            · omega
      · have hs1 : (x.toList == [91]) = false := by simpa [ByteArray.toList_eq] using str_no h1
        have hb1 : ¬ bl x = [91] := fun e => h1 (bl_inj e)
        have HR3 := HRES.out
        rw [if_neg hb1] at HR3
        by_cases h2 : x = ⟨#[63]⟩
        · have hb2 : bl x = [63] := by rw [h2]; rfl
          rw [if_pos hb2] at HR3
          have HRES : Hid (((Pl.typeP d ((l.drop (i + 1)).map kt3)).bind fun x r1 => Pl.Res.ok (Pl.Ty.opt x) r1) = RES) := HR3
          subst h2
          clear HR3 hb1 hb2 h1 hs1
          go_wp2_with fail
          have e9 : (8 : Int) - (d : Int) + 1 = 9 - (d : Int) := by omega
          rw [e9]
          have hrec := HH.out _ (i + 1) (by omega) hP3 hS3 hil HN.out
          have HB3 : Hid (b < (w2.alloc (.cells #[.int .i64 (k : Int), .string ⟨#[63]⟩, .int .i64 (ln : Int)] 36)).heap.size) := hB3.lt
          generalize (w2.alloc (.cells #[.int .i64 (k : Int), .string ⟨#[63]⟩, .int .i64 (ln : Int)] 36)) = w3 at *
          clear hB2 hP2 hC2' hS2 hb3 e9 hd8 hdl hX3 hP3 hlb
          have HR4 := HRES.out
          refine hrec.mono ?_
          generalize Pl.typeP d ((l.drop (i + 1)).map kt3) = R4 at *
          cases R4 with
          | bad r er =>
            rintro e w4 ⟨i4, rfl, hi4, hr4, hC4⟩
            subst HR4
            exact ⟨rfl, i4, rfl, hi4, hr4, hC3.trans hC4⟩
          | ok ty r =>
            rintro e w6 ⟨v4, i6, rfl, hi6, rfl, hP6, ⟨a4, b4, c4, rfl, hty⟩, hC4⟩
            have HR6 : Hid (Pl.Res.ok (Pl.Ty.opt ty) ((l.drop i6).map kt3) = RES) := HR4
            obtain ⟨k4, s4, ad4, m4, cp4, rfl, rfl, rfl⟩ := hty.shape
            have hC6' := hC3.trans hC4
            have hB6 := hB3.ch hC4 (fun hx => hnb hx.1)
            have d0 := hB6.cell 0 rfl
            have d1 := hB6.cell 1 rfl
            have d2 := hB6.cell 2 rfl
            have hfb := hB6.frozen
            have hlb6 := hB6.lt
            clear hrec hC3 hC4 hB3 hS3 HR4 HRES
            go_wp2
            have hge : w.heap.size ≤ b := by rw [HB.out]; exact Nat.le_refl _
            have hB7 := ((((hB6.set 0 (.int .i64 7)).set 1 (.string ⟨#[]⟩)).set 2 (.slice (some ⟨w6.heap.size + 1, 0, none⟩) 1 1)).alloc (.cells #[.int .i64 k4, .string s4, .slice ad4 m4 cp4] 46)).alloc (.cells #[.int .i64 k4, .string s4, .slice ad4 m4 cp4] 46)
            refine bodyPost_ret (ret_ty77 rfl (hB7.cell 0 rfl) (hB7.cell 1 rfl) (hB7.cell 2 rfl)) rfl ?_
            rw [← HR6.out]
            have hb3 := HB3.out
            have hty7 := TyC.ch (X := Xp n) (Ch.al (Ch.alloc _ (.cells #[.int .i64 k4, .string s4, .slice ad4 m4 cp4] 46)) (.cells #[.int .i64 k4, .string s4, .slice ad4 m4 cp4] 46)) Xp.ty _ _ _ _ (((hty.set (k := 0) hb3 (.int .i64 7)).set (k := 1) hb3 (.string ⟨#[]⟩)).set (k := 2) hb3 (.slice (some ⟨w6.heap.size + 1, 0, none⟩) 1 1))
            refine ⟨_, i6, rfl, hi6, rfl, ((((hP6.other (Ne.symm hnb) _).other (Ne.symm hnb) _).other (Ne.symm hnb) _).below (below_alloc _ _)).below (below_alloc _ _), ⟨_, _, _, rfl, rfl, rfl, w6.heap.size + 1, _, _, _, rfl, ?_, ?_, TyC.mono ?_ _ _ _ _ hty7⟩, ((((hC6'.new hge _).new hge _).new hge _).al _).al _⟩
            · have := hC6'.size
              omega
            · exact Bx.newAt (by simp) _ _
            · omega
        · have hs2 : (x.toList == [63]) = false := by simpa [ByteArray.toList_eq] using str_no h2
          have hb2 : ¬ bl x = [63] := fun e => h2 (bl_inj e)
          rw [if_neg hb2] at HR3
          have hnm := fun w => isName_any (k, x, ln) w
          unfold tokV at hnm
          have x0 := hX3.cell 0 rfl
          have x1 := hX3.cell 1 rfl
          have x2 := hX3.cell 2 rfl
          by_cases hnt : Pl.nameT (kt3 (k, x, ln)) = true
          · rw [if_pos hnt] at HR3
            rw [hnt] at hnm
            have HR6 : Hid (Pl.Res.ok (Pl.Ty.named (bl x)) ((l.drop (i + 1)).map kt3) = RES) := HR3
            clear HR3 HRES hb1 hb2 h1 h2 hnt
            go_wp2_with fail
            refine (hnm _).mono ?_
            rintro e w4 ⟨rfl, hb4⟩
            have hX4 := hX3.below hb4
            have y1 := hX4.cell 1 rfl
            go_wp2_with fail
            refine (clone_any x _ (by omega)).mono ?_
            rintro e w5 ⟨rfl, hb5⟩
            have hb45 := below_next hb4 hb5
            have hB5 := hB3.below hb45
            have d0 := hB5.cell 0 rfl
            have d1 := hB5.cell 1 rfl
            have d2 := hB5.cell 2 rfl
            have hfb := hB5.frozen
            go_wp2
            have hge : w.heap.size ≤ b := by rw [HB.out]; exact Nat.le_refl _
            have hB7 := ((hB5.set 0 (.int .i64 8)).set 1 (.string x)).set 2 (.slice none 0 0)
            refine bodyPost_ret (ret_ty77 rfl (hB7.cell 0 rfl) (hB7.cell 1 rfl) (hB7.cell 2 rfl)) rfl ?_
            rw [← HR6.out]
            exact ⟨_, i + 1, rfl, hil, rfl, (((hP3.below hb45).other (Ne.symm hnb) _).other (Ne.symm hnb) _).other (Ne.symm hnb) _, ⟨_, _, _, rfl, rfl, ⟨x, rfl, rfl⟩, rfl⟩, (((hC3.bel hb45).new hge _).new hge _).new hge _⟩
          · rw [if_neg hnt] at HR3
            have hpk := fun w => plainKind_any x w
            rw [Bool.eq_false_iff.2 hnt] at hnm
            have HR6 : Hid (Pl.Res.ok (Pl.Ty.plain (Pl.plainK (bl x))) ((l.drop (i + 1)).map kt3) = RES) := HR3
            clear HR3 HRES hb1 hb2 h1 h2 hnt
            generalize Pl.plainK (bl x) = K at *
            go_wp2_with fail
            refine (hnm _).mono ?_
            rintro e w4 ⟨rfl, hb4⟩
            have hX4 := hX3.below hb4
            have y1 := hX4.cell 1 rfl
            go_wp2_with fail
            refine (hpk _).mono ?_
            rintro e w5 ⟨rfl, hb5⟩
            have hb45 := below_next hb4 hb5
            have hB5 := hB3.below hb45
            have d0 := hB5.cell 0 rfl
            have d1 := hB5.cell 1 rfl
            have d2 := hB5.cell 2 rfl
            have hfb := hB5.frozen
            go_wp2
            have hge : w.heap.size ≤ b := by rw [HB.out]; exact Nat.le_refl _
            have hB7 := ((hB5.set 0 (.int .i64 (K : Int))).set 1 (.string ⟨#[]⟩)).set 2 (.slice none 0 0)
            refine bodyPost_ret (ret_ty77 rfl (hB7.cell 0 rfl) (hB7.cell 1 rfl) (hB7.cell 2 rfl)) rfl ?_
            rw [← HR6.out]
            exact ⟨_, i + 1, rfl, hil, rfl, (((hP3.below hb45).other (Ne.symm hnb) _).other (Ne.symm hnb) _).other (Ne.symm hnb) _, ⟨_, _, _, rfl, rfl, rfl, rfl⟩, (((hC3.bel hb45).new hge _).new hge _).new hge _⟩
end Go.Proofs.Ythdooemgnpiomaa
