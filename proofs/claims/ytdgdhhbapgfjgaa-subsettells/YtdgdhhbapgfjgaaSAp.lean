/- subset: clients of one round share nothing, plainly. -/
import Derived.Test.YtdgdhhbapgfjgaaSSp
namespace Go.Proofs.Ytdgdhhbapgfjgaa

theorem Sp.place_apart {n : Nat} {a b k : Int} (ha : Sp.rE n a k = 0) (hb : Sp.rE n b k = 0) (hk : k < n) (hab : a ≠ b) (hR : Sp.rR n a k = Sp.rR n b k) : Sp.rP n a k ≠ Sp.rP n b k := by
  have e1 : ∀ c, Sp.rE n c k = 0 → Sp.rR n c k = c / (n / k) ∧ Sp.rP n c k = c % (n / k) := by
    intro c h
    unfold Sp.rE at h
    split at h
    · cases h
    · rename_i hb
      unfold Sp.rR Sp.rP
      rw [if_neg hb, if_neg hb, if_neg (by omega), if_neg (by omega)]
      exact ⟨rfl, rfl⟩
  rw [(e1 a ha).1, (e1 b hb).1] at hR
  rw [(e1 a ha).2, (e1 b hb).2]
  intro hP
  have m1 := Int.mul_ediv_add_emod a (n / k)
  have m2 := Int.mul_ediv_add_emod b (n / k)
  rw [hR, hP] at m1
  omega
theorem Sp.cut_apart {n : Nat} {a b k : Int} (s : Nat) (ha : Sp.rE n a k = 0) (hb : Sp.rE n b k = 0) (hk : k < n) (hab : a ≠ b) (hR : Sp.rR n a k = Sp.rR n b k) {z : Int} (h1 : z ∈ Sp.cut n a k s) (h2 : z ∈ Sp.cut n b k s) : False := by
  have hP := Sp.place_apart ha hb hk hab hR
  obtain ⟨a1, a2, a3, a4, a5, a6, a7, a8, a9, a10, a11, a12⟩ := Sp.place_fits ha
  obtain ⟨b1, b2, b3, b4, b5, b6, b7, b8, b9, b10, b11, b12⟩ := Sp.place_fits hb
  have hN := Sp.ord_nodup n a k s
  unfold Sp.cut at h1 h2
  have hO : Sp.ord n b k s = Sp.ord n a k s := by unfold Sp.ord; rw [hR]
  rw [hO] at h2
  generalize (Sp.ord n a k s).map Int.ofNat = O at *
  generalize Sp.rP n a k = p at *
  generalize Sp.rP n b k = q at *
  obtain ⟨i, hi, ei⟩ := List.mem_iff_getElem.1 h1
  obtain ⟨j, hj, ej⟩ := List.mem_iff_getElem.1 h2
  rw [List.getElem_take, List.getElem_drop] at ei ej
  rw [List.length_take] at hi hj
  have hij : (p * k).toNat + i = (q * k).toNat + j := by
    have := List.pairwise_iff_getElem.1 hN
    rcases Nat.lt_trichotomy ((p * k).toNat + i) ((q * k).toNat + j) with g | g | g
    · exact absurd (ei.trans ej.symm) (this _ _ _ _ g)
    · exact g
    · exact absurd (ej.trans ei.symm) (this _ _ _ _ g)
  have hpq : p < q ∨ q < p := by omega
  have hi' : (i : Int) < k := by omega
  have hj' : (j : Int) < k := by omega
  have hij' : p * k + i = q * k + j := by omega
  rcases hpq with h | h
  · have : (p + 1) * k ≤ q * k := Int.mul_le_mul_of_nonneg_right (by omega) (by omega)
    rw [Int.add_mul, Int.one_mul] at this
    omega
  · have : (q + 1) * k ≤ p * k := Int.mul_le_mul_of_nonneg_right (by omega) (by omega)
    rw [Int.add_mul, Int.one_mul] at this
    omega
theorem Sp.plc_apart {n : Nat} {a b k : Int} (s : Nat) (ha : Sp.rE n a k = 0) (hb : Sp.rE n b k = 0) (hk : k < n) (hab : a ≠ b) (hR : Sp.rR n a k = Sp.rR n b k) {z : Int} (h1 : z ∈ Sp.plc n a k s) (h2 : z ∈ Sp.plc n b k s) : False := by
  unfold Sp.plc at h1 h2
  rw [if_pos ha] at h1
  rw [if_pos hb] at h2
  exact Sp.cut_apart s ha hb hk hab hR (Sp.srt_mem.1 h1) (Sp.srt_mem.1 h2)
theorem up_inj {l : List Int} (h : Sp.Up l) {i j : Nat} (hi : i < l.length) (hj : j < l.length) (he : l.getD i 0 = l.getD j 0) : i = j := by
  rcases Nat.lt_trichotomy i j with g | g | g
  · have := up_getD h g hj; omega
  · exact g
  · have := up_getD h g hi; omega
theorem Sp.ofL_apart {ids : List Int} {a b k : Int} (s : Nat) (ha : Sp.ofE ids a k = 0) (hb : Sp.ofE ids b k = 0) (hk : k < ids.length) (hab : a ≠ b) (hR : Sp.rR ids.length a k = Sp.rR ids.length b k) {z : Int} (h1 : z ∈ Sp.ofL ids a k s) : ¬ z ∈ Sp.ofL ids b k s := by
  intro h2
  obtain ⟨c1, r1⟩ := Sp.of_zero ha
  obtain ⟨_, r2⟩ := Sp.of_zero hb
  obtain ⟨u1, u2, u3⟩ := Sp.ch_up c1
  unfold Sp.ofL at h1 h2
  rw [if_pos ha] at h1
  rw [if_pos hb] at h2
  obtain ⟨p, hp, ep⟩ := List.mem_map.1 h1
  obtain ⟨q, hq, eq⟩ := List.mem_map.1 h2
  have p1 := Sp.plc_mem hp
  have q1 := Sp.plc_mem hq
  have := up_inj u3 (by omega) (by omega) (ep.trans eq.symm)
  obtain rfl : p = q := by omega
  exact Sp.plc_apart s r1 r2 hk hab hR hp hq
end Go.Proofs.Ytdgdhhbapgfjgaa
