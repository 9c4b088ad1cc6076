/- outlier, plainly: what is known, settings, steps. -/
namespace Go.Proofs.Ytfjcilkllgaimaa

structure Ou.St where
  r : Int
  g : Int
  b : Int
  n : Int
  s : Int
  u : Int
  o : Bool
structure Ou.Se where
  w : Int
  m : Int
  l : Int
  b : Int
  x : Int
  p : Int
  c : Int

/-- A number from a to c. -/
def Ou.inn (n a c : Int) : Bool := decide (a ≤ n) && decide (n ≤ c)
def Ou.sets (s : Ou.Se) : Bool := Ou.inn s.w 1 1000 && Ou.inn s.m 1 1000 && Ou.inn s.l 1 1000 && Ou.inn s.b 1 1048576 && Ou.inn s.x s.b 1048576 && Ou.inn s.p 0 100 && Ou.inn s.c 0 100
def Ou.may (o : Ou.St) : Bool := Ou.inn o.r 0 1048576 && Ou.inn o.g 0 1048576 && Ou.inn o.b 0 1048576 && Ou.inn o.n 0 1000 && Ou.inn o.s 0 1073741824 && Ou.inn o.u 0 1073741824
def Ou.chk (o : Ou.St) (s : Ou.Se) (t : Int) : Int := if (Ou.sets s && Ou.inn t 0 536870912) = true then (if Ou.may o = true then 0 else 9) else 4
def Ou.zero : Ou.St := ⟨0, 0, 0, 0, 0, 0, false⟩
/-- One more, at most c. -/
def Ou.up (n c : Int) : Int := if n + 1 ≤ c then n + 1 else c
def Ou.rec1 (o : Ou.St) (g : Bool) : Ou.St := if g = true then { o with r := 0, g := Ou.up o.g 1048576 } else { o with r := Ou.up o.r 1048576, b := Ou.up o.b 1048576 }
def Ou.recs (o : Ou.St) (l : List Bool) : Ou.St := l.foldl Ou.rec1 o
def Ou.row (o : Ou.St) (s : Ou.Se) : Bool := decide (s.w ≤ o.r)
def Ou.share (o : Ou.St) (s : Ou.Se) : Bool := decide (s.l ≤ o.g + o.b) && decide (s.m * (o.g + o.b) ≤ 1000 * o.b)
def Ou.ripe (o : Ou.St) (s : Ou.Se) : Bool := !o.o && (Ou.row o s || Ou.share o s)
def Ou.long (n : Int) (s : Ou.Se) : Int := if s.b * n ≤ s.x then s.b * n else s.x
def Ou.eject (o : Ou.St) (s : Ou.Se) (t : Int) : Ou.St := ⟨0, 0, 0, Ou.up o.n 1000, t, t + Ou.long (Ou.up o.n 1000) s, true⟩
def Ou.wake (o : Ou.St) (t : Int) : Ou.St := if o.u ≤ t then { o with o := false } else o
def Ou.mayN (s : Ou.Se) (n k : Int) : Bool := Ou.sets s && Ou.inn n 0 32 && Ou.inn k 0 n
def Ou.room (s : Ou.Se) (n k : Int) : Int := if 0 ≤ s.p * n / 100 - k then s.p * n / 100 - k else 0
def Ou.pan (s : Ou.Se) (n k : Int) : Bool := decide (100 * k < s.c * n)

def Ou.recR (o : Ou.St) (s : Ou.Se) (t : Int) (l : List Bool) : Ou.St := if Ou.chk o s t = 0 then Ou.recs o l else Ou.zero
def Ou.ripeR (o : Ou.St) (s : Ou.Se) (t : Int) : Bool := if Ou.chk o s t = 0 then Ou.ripe o s else false
def Ou.ejR (o : Ou.St) (s : Ou.Se) (t : Int) : Ou.St := if Ou.chk o s t = 0 ∧ o.o = false then Ou.eject o s t else Ou.zero
def Ou.ejE (o : Ou.St) (s : Ou.Se) (t : Int) : Int := if Ou.chk o s t = 0 then (if o.o = true then 9 else 0) else Ou.chk o s t
def Ou.tickR (o : Ou.St) (s : Ou.Se) (t : Int) : Ou.St := if Ou.chk o s t = 0 then Ou.wake o t else Ou.zero
def Ou.nE (s : Ou.Se) (n k : Int) : Int := if Ou.mayN s n k = true then 0 else 4
def Ou.roomR (s : Ou.Se) (n k : Int) : Int := if Ou.mayN s n k = true then Ou.room s n k else 0
def Ou.panR (s : Ou.Se) (n k : Int) : Bool := if Ou.mayN s n k = true then Ou.pan s n k else false

theorem Ou.inn_iff {n a c : Int} : Ou.inn n a c = true ↔ a ≤ n ∧ n ≤ c := by simp [Ou.inn]
theorem Ou.sets_iff {s : Ou.Se} : Ou.sets s = true ↔ (1 ≤ s.w ∧ s.w ≤ 1000 ∧ 1 ≤ s.m ∧ s.m ≤ 1000 ∧ 1 ≤ s.l ∧ s.l ≤ 1000) ∧ 1 ≤ s.b ∧ s.b ≤ 1048576 ∧ s.b ≤ s.x ∧ s.x ≤ 1048576 ∧ 0 ≤ s.p ∧ s.p ≤ 100 ∧ 0 ≤ s.c ∧ s.c ≤ 100 := by
  simp [Ou.sets, Ou.inn]; omega
theorem Ou.may_iff {o : Ou.St} : Ou.may o = true ↔ (0 ≤ o.r ∧ o.r ≤ 1048576 ∧ 0 ≤ o.g ∧ o.g ≤ 1048576 ∧ 0 ≤ o.b ∧ o.b ≤ 1048576) ∧ 0 ≤ o.n ∧ o.n ≤ 1000 ∧ 0 ≤ o.s ∧ o.s ≤ 1073741824 ∧ 0 ≤ o.u ∧ o.u ≤ 1073741824 := by
  simp [Ou.may, Ou.inn]; omega
theorem Ou.mayN_iff {s : Ou.Se} {n k : Int} : Ou.mayN s n k = true ↔ Ou.sets s = true ∧ 0 ≤ n ∧ n ≤ 32 ∧ 0 ≤ k ∧ k ≤ n := by
  simp [Ou.mayN, Ou.inn, and_assoc]
theorem Ou.chk_zero {o : Ou.St} {s : Ou.Se} {t : Int} (h : Ou.chk o s t = 0) : Ou.sets s = true ∧ 0 ≤ t ∧ t ≤ 536870912 ∧ Ou.may o = true := by
  unfold Ou.chk at h
  split at h
  · rename_i h1
    rw [Bool.and_eq_true, Ou.inn_iff] at h1
    split at h
    · rename_i h2
      exact ⟨h1.1, h1.2.1, h1.2.2, h2⟩
    · cases h
  · cases h
theorem Ou.chk_good {o : Ou.St} {s : Ou.Se} {t : Int} (h1 : Ou.sets s = true) (h2 : 0 ≤ t) (h3 : t ≤ 536870912) (h4 : Ou.may o = true) : Ou.chk o s t = 0 := by
  unfold Ou.chk
  rw [if_pos (by rw [h1, Ou.inn_iff.2 ⟨h2, h3⟩]; rfl), if_pos h4]
theorem Ou.up_range {n c : Int} (h : 0 ≤ n) (hc : 0 ≤ c) : 0 ≤ Ou.up n c ∧ Ou.up n c ≤ c := by
  unfold Ou.up; split <;> omega

end Go.Proofs.Ytfjcilkllgaimaa
