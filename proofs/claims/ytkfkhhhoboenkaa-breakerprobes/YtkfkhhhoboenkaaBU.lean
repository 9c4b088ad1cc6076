/- breaker, plainly: what may be still may be behind a step. -/
import Derived.Test.YtkfkhhhoboenkaaBT
namespace Go.Proofs.Ytkfkhhhoboenkaa
theorem Br.tick_may {b : Br.St} {t : Int} (h : Br.may b = true) : Br.may (Br.tick b t) = true := by
  rw [Br.may_iff] at h ⊢
  unfold Br.tick
  split <;> (first | omega | (dsimp only; omega))
theorem Br.beg_may {b : Br.St} (h : Br.may b = true) (hp : b.p ≠ 1000) : Br.may (Br.beg b) = true := by
  rw [Br.may_iff] at h ⊢
  unfold Br.beg
  split <;> (first | omega | (dsimp only; omega))
theorem Br.dn_may {b : Br.St} {pr : Bool} (h : Br.may b = true) : Br.may (Br.dn b pr) = true := by
  rw [Br.may_iff] at h ⊢
  unfold Br.dn
  split <;> (first | omega | (dsimp only; omega))
theorem Br.count_may {b : Br.St} {s : Br.Se} {t : Int} {g : Bool} (h : Br.may b = true) (hs : Br.sets s = true) (h1 : 0 ≤ t) (h2 : t ≤ 536870912) : Br.may (Br.count b s t g) = true := by
  rw [Br.may_iff] at h ⊢
  rw [Br.sets_iff] at hs
  unfold Br.count Br.trip
  split
  · first | omega | (dsimp only; omega)
  · split <;> (first | omega | (dsimp only; omega))
theorem Br.weigh_may {b : Br.St} {s : Br.Se} {t : Int} {g : Bool} (h : Br.may b = true) (hs : Br.sets s = true) (h1 : 0 ≤ t) (h2 : t ≤ 536870912) : Br.may (Br.weigh b s t g) = true := by
  rw [Br.may_iff] at h ⊢
  rw [Br.sets_iff] at hs
  unfold Br.weigh Br.trip
  split
  · split <;> (first | omega | (dsimp only; omega))
  · first | omega | (dsimp only; omega)
theorem Br.fin_may {b : Br.St} {s : Br.Se} {t : Int} {pr g : Bool} (h : Br.may b = true) (hs : Br.sets s = true) (h1 : 0 ≤ t) (h2 : t ≤ 536870912) : Br.may (Br.fin b s t pr g) = true := by
  unfold Br.fin
  split
  · exact Br.count_may (Br.dn_may h) hs h1 h2
  · split
    · exact Br.weigh_may (Br.dn_may h) hs h1 h2
    · exact Br.dn_may h
end Go.Proofs.Ytkfkhhhoboenkaa
