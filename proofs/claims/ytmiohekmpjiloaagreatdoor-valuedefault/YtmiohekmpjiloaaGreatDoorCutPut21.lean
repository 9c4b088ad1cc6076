/- schema: names that were met. Are types, methods one? Are methods, schemas one? -/
import Derived.Test.YtmiohekmpjiloaaGreatDoorCutPut20
import Derived.Maps.OwnOps
import Derived.Maps.OwnSet
import Derived.Maps.Views
import Derived.Test.YtmiohekmpjiloaaGreatDoorCutPut17
namespace Go.Proofs.YtmiohekmpjiloaaGreatDoor
open Go.RowKit
set_option maxRecDepth 20000
open Go.Maps

theorem gb_trans {b : Nat} {w1 w2 w3 : World} (h : w1.grownBy w2 (some b)) (k : w2.grownBy w3 (some b)) : w1.grownBy w3 (some b) :=
  ⟨k.os.trans h.os, k.tape.trans h.tape, k.output.trans h.output, Nat.le_trans h.size k.size, fun i hi hn => (k.block i (Nat.lt_of_lt_of_le hi h.size) hn).trans (h.block i hi hn)⟩
theorem gb_refl (b : Nat) (w : World) : w.grownBy w (some b) := ⟨rfl, rfl, rfl, Nat.le_refl _, fun _ _ _ => rfl⟩

theorem skeyed : Keyed Tryz.prog 9 := string_keyed Tryz.underlying9
theorem zero3 (w : World) : (zeroValue 3).run Tryz.prog w = .ok (.int .i64 0) w := by kernel_rfl

/-- A map of names, of N entries at most: what each is, 0 where it was not met. -/
def Mp (w : World) (b N : Nat) (f : List Nat → Int) : Prop :=
  ∃ D, w.ownsMap (H := Unit) Tryz.prog 9 (plainElem Tryz.prog 3) b N D ∧ IsMap D ∧ ∀ s : ByteArray, s.size ≤ maxLen → D.atKey (.string s.data.toList) (.lit (.int .i64 0)) = .lit (.int .i64 (f (bl s)))

theorem Mp.made (w : World) : Mp (w.alloc (.map #[] 0)) w.heap.size 0 (fun _ => 0) :=
  ⟨.map [], World.ownsMap_made _ _ _ _, isMap_empty, fun s _ => by simp [DataW.atKey]⟩
theorem Mp.lt {w : World} {b N : Nat} {f : List Nat → Int} (h : Mp w b N f) : b < w.heap.size := by
  obtain ⟨D, h1, _⟩ := h
  exact h1.lt
theorem Mp.cell {w : World} {b N : Nat} {f : List Nat → Int} (h : Mp w b N f) {g off : Nat} {u : Value} (hc : w.cell? ⟨g, off, none⟩ = some u) : g ≠ b := by
  obtain ⟨D, ⟨es, clock, h1, _⟩, _⟩ := h
  rintro rfl
  simp [World.cell?, h1] at hc
theorem Mp.below {w w' : World} {b N : Nat} {f : List Nat → Int} (h : Mp w b N f) (hb : Below w.heap.size w w') : Mp w' b N f := by
  obtain ⟨D, h1, h2, h3⟩ := h
  exact ⟨D, h1.kept (row := none) ⟨hb.os, hb.tape, hb.output, hb.size, fun k hk _ => hb.block k hk⟩ (by simp), h2, h3⟩
theorem Mp.other {w w' : World} {b c N : Nat} {f : List Nat → Int} (h : Mp w b N f) (hg : w.grownBy w' (some c)) (hbc : b ≠ c) : Mp w' b N f := by
  obtain ⟨D, h1, h2, h3⟩ := h
  exact ⟨D, h1.kept hg (by simpa using hbc), h2, h3⟩

theorem bl_data (s t : ByteArray) : s.data.toList = t.data.toList ↔ bl s = bl t := by
  constructor
  · intro h
    unfold bl
    rw [h]
  · intro h
    rw [bl_inj h]

/-- Names are met one by one, each for the first time. -/
def meetF (k : Int) : List (List Nat) → (List Nat → Int) → Option (List Nat → Int)
  | [], f => some f
  | x :: r, f => if f x = 0 then meetF k r (fun y => if y = x then k else f y) else none

/-- A slice of texts, anywhere. -/
def SlT (w : World) (v : Value) (xs : List ByteArray) : Prop :=
  ∃ ad cp, v = .slice ad xs.length cp ∧ xs.length ≤ 9223372036854775807 ∧ ∀ (i : Nat) (s : ByteArray), xs[i]? = some s → s.size ≤ maxLen ∧ ∃ g off, ad = some ⟨g, off, none⟩ ∧ g < w.heap.size ∧ w.cell? ⟨g, off + i, none⟩ = some (.string s)

structure MeetI (b N : Nat) (k : Int) (xs : List ByteArray) (f0 : List Nat → Int) (w : World) (i : Value) (wr : World) : Prop where
  all : ∃ j f, j ≤ xs.length ∧ i = .int .i64 (j : Int) ∧ Mp wr b (N + j) f ∧ meetF k ((xs.drop j).map bl) f = meetF k (xs.map bl) f0 ∧ w.grownBy wr (some b)

set_option maxHeartbeats 8000000 in
theorem meet_any (b N : Nat) (k er : Int) (hk : (Lit.int .i64 k).wf = true) (v : Value) (xs : List ByteArray) (hx : xs.length ≤ 100000) (hN : N ≤ 100000) (f0 : List Nat → Int) (w : World) (hm : Mp w b N f0) (hS : SlT w v xs) :
    Calls Tryz.prog 99 #[.map (some b), .int .i64 k, .int .i64 er, v] w fun e w' => w.grownBy w' (some b) ∧ match meetF k (xs.map bl) f0 with
      | some f => e = .returned (.tuple #[]) ∧ Mp w' b (N + xs.length) f
      | none => e = .panicked (errp er) := by
  obtain ⟨R, hR⟩ : ∃ R, R = meetF k (xs.map bl) f0 := ⟨_, rfl⟩
  rw [← hR]
  have HR := hid hR
  obtain ⟨ad, cp, rfl, hlen, hcells⟩ := hS
  obtain ⟨M, hM⟩ : ∃ M, M = xs.length := ⟨_, rfl⟩
  rw [← hM] at hlen ⊢
  have HM : Hid (M = xs.length) := hM
  have HC := hid hcells
  have HX : Hid (xs.length ≤ 100000) := hx
  have HMp := hid hm
  have hMb : M ≤ 100000 := by omega
  clear hR hcells hM hx hm
  go_enter Tryz.func99, Tryz.ntmps99
  go_wp2_with fail
  go_loopw [12] (fun i wr => MeetI b N k xs f0 w i wr) (fun i _ => M - (intOf i).toNat)
  case atStart => exact ⟨0, f0, Nat.zero_le _, rfl, HMp.out, rfl, gb_refl _ _⟩
  case round =>
    obtain ⟨j, f, hj, rfl, hmp, hme, hg⟩ := hrel.all
    clear hrel
    rw [← HM.out] at hj
    have HME := hid hme
    have HG := hid hg
    clear hme hg
    by_cases hlt : j < M
    · obtain ⟨s, hs⟩ : ∃ s, xs[j]? = some s := ⟨xs[j]'(by rw [← HM.out]; exact hlt), by simp⟩
      obtain ⟨hss, g, off, rfl, hgl, hc⟩ := HC.out j s hs
      have hgb : g ≠ b := HMp.out.cell hc
      have hc1 := HG.out.cell hc (by simpa using hgb)
      have hgl1 : g < wr.heap.size := Nat.lt_of_lt_of_le hgl HG.out.size
      have hdr : xs.drop j = s :: xs.drop (j + 1) := by
        rw [List.drop_eq_getElem_cons (by rw [← HM.out]; exact hlt)]
        congr 1
        exact (List.getElem?_eq_some_iff.1 hs).2
      have hkey := WideMaps.keyOf_string_mk (P := Tryz.prog) Tryz.underlying9 hss
      obtain ⟨D, hown, hD, hat⟩ := id hmp
      have hats := hat s hss
      have hstep := HME.out
      rw [hdr, List.map_cons, meetF] at hstep
      have HST := hid hstep
      have HAT := hid hat
      clear hstep hat hdr hc hs HC
      by_cases hz : f (bl s) = 0
      · have hst2 := HST.out
        rw [if_pos hz] at hst2
        have HS2 := hid hst2
        clear hst2 HST
        go_wp2_with (first
          | (at_lookup; refine wpList_lookup_own_int _ rfl _ _ 127 rfl 9 3 .i64 skeyed Tryz.underlying127 Tryz.underlying3 (zero3 _) b _ D rfl hown _ _ rfl hkey ?_; intro c hcc hwc)
          | fail)
        have hce : c = f (bl s) := by
          rw [hats] at hcc
          injection hcc with h1
          injection h1 with _ h2
          exact h2.symm
        rw [hz] at hce
        subst hce
        clear hcc hwc
        refine (sneed_true er _).mono ?_
        rintro e w2 ⟨rfl, hq2⟩
        subst w2
        have hel := plainElem_int (H := Unit) (P := Tryz.prog) Tryz.underlying3 hk
        go_wp2_with (first
          | (at_mapUpdate; refine wpList_mapUpdate_own _ rfl _ _ _ 127 rfl 9 3 skeyed Tryz.underlying127 _ b (N + j) D rfl hown (by unfold maxLen; omega) _ _ _ rfl rfl hkey _ [] hel ?_; intro w1 hown1 hgrow1)
          | fail)
        have HG1 := hid (gb_trans HG.out hgrow1)
        have HMp1 : Hid (Mp w1 b (N + (j + 1)) (fun y => if y = bl s then k else f y)) := by
          refine ⟨D.put (.string s.data.toList) (.lit (.int .i64 k)), by rw [← Nat.add_assoc]; exact hown1, hD.put _ _, fun t ht => ?_⟩
          by_cases hts : bl t = bl s
          · have e1 : t = s := bl_inj hts
            subst e1
            rw [atKey_put_same hD (by simp [WideAt.IsKeyLit])]
            simp
          · rw [atKey_put_other (fun h => hts ((bl_data t s).1 (by injection h)))]
            rw [HAT.out t ht]
            simp only [if_neg hts]
        clear hown hown1 hgrow1 hmp hats HAT
        go_wp2
        refine ⟨⟨j + 1, _, by rw [← HM.out]; omega, by go_num, HMp1.out, HS2.out, HG1.out⟩, by simp [intOf]; omega⟩
      · have hst2 := HST.out
        rw [if_neg hz] at hst2
        have hRn : R = none := HR.out.trans hst2.symm
        subst hRn
        go_wp2_with (first
          | (at_lookup; refine wpList_lookup_own_int _ rfl _ _ 127 rfl 9 3 .i64 skeyed Tryz.underlying127 Tryz.underlying3 (zero3 _) b _ D rfl hown _ _ rfl hkey ?_; intro c hcc hwc)
          | fail)
        have hce : c = f (bl s) := by
          rw [hats] at hcc
          injection hcc with h1
          injection h1 with _ h2
          exact h2.symm
        subst hce
        have hcz : (f (bl s) == 0) = false := by simp [hz]
        rw [hcz]
        refine (sneed_false er _).mono ?_
        rintro e w2 ⟨rfl, hq2⟩
        subst w2
        exact ⟨rfl, HG.out, rfl⟩
    · have hje : j = M := by omega
      subst hje
      have hRs : R = some f := by
        rw [HR.out, ← HME.out, HM.out, List.drop_length]
        rfl
      subst hRs
      have HMp2 := hid hmp
      clear hmp
      go_wp2
      go_end0
      exact ⟨HG.out, rfl, HMp2.out⟩
end Go.Proofs.YtmiohekmpjiloaaGreatDoor

namespace Go.Proofs.YtmiohekmpjiloaaGreatDoor
open Go.RowKit
set_option maxRecDepth 20000

theorem OfC.shape {B : Nat} {w : World} {v : Value} {t : Option Pl.Ty} (h : OfC B w v t) : ∃ ad m cp, v = .slice ad m cp := by
  cases t with
  | none => obtain ⟨cap, rfl⟩ := h; exact ⟨_, _, _, rfl⟩
  | some t => obtain ⟨g, x, y, z, rfl, _⟩ := h; exact ⟨_, _, _, rfl⟩

end Go.Proofs.YtmiohekmpjiloaaGreatDoor

namespace Go.Proofs.YtmiohekmpjiloaaGreatDoor
open Go.RowKit
set_option maxRecDepth 20000

theorem MthR.below {B : Nat} {w w' : World} {f : Pl.Mth} {c : List Value} (h : MthR B f c w) (hb : Below w.heap.size w w') : MthR B f c w' := MthR.ch (X := fun _ _ => False) (Ch.below hb) (fun _ _ h => h) f c h
theorem FldR.below {B : Nat} {w w' : World} {f : Pl.Fld} {c : List Value} (h : FldR B f c w) (hb : Below w.heap.size w w') : FldR B f c w' := FldR.ch (X := fun _ _ => False) (Ch.below hb) (fun _ _ h => h) f c h

end Go.Proofs.YtmiohekmpjiloaaGreatDoor

