/- breaker: the reference's Check. -/
import Derived.Test.YtkfkhhhoboenkaaBJ
namespace Go.Proofs.Ytkfkhhhoboenkaa
open Go.RowKit
set_option maxRecDepth 20000
set_option linter.unusedVariables false
set_option maxHeartbeats 2000000 in
theorem rcheck_any (b : Br.St) (s : Br.Se) (t : Int) (w : World) : Calls Try.prog 19 #[vB b, vS s, .int .i64 t] w fun e w' => e = .returned (.int .i64 (Br.chk b s t)) ∧ Below w.heap.size w w' := by
  have c1 := fun W => rsets_any s W
  have HR := hidD (@Br.chk_range b s t)
  have HS9 := hidD (@Br.chk_state b s t)
  have HG := hidD (@Br.chk_good b s t)
  have HMN := hidD (@Br.may_no b)
  have HMY := hidD (@Br.may_iff b)
  obtain ⟨W0, hW0, B0, B1, HB, HS⟩ := two_boxes w (bL b) (sL s) 23 25
  generalize Br.chk b s t = k at *
  generalize Br.may b = mb at *
  generalize Br.sets s = b1 at *
  simp only [bL, sL] at hW0
  obtain ⟨M, F, U, P, W⟩ := b
  dsimp only at *
  obtain ⟨N, hN⟩ : ∃ N, N = w.heap.size := ⟨_, rfl⟩
  rw [← hN] at B0 B1 HB HS ⊢
  have HN := hidD hN
  go_enter Try.func19, Try.ntmps19
  go_wp2_with fail
  rw [← hN, ← hW0]
  clear hN hW0
  with_reducible refine (c1 _).mono ?_
  rintro e w1 ⟨rfl, h1⟩
  have X0 := B0.below h1
  have hb1 : Below N w w1 := below_on HB (by omega) h1
  have p0 := X0.cell 0 rfl
  have p1 := X0.cell 1 rfl
  have p2 := X0.cell 2 rfl
  have p3 := X0.cell 3 rfl
  have p4 := X0.cell 4 rfl
  have HB1 := hidD hb1
  clear X0 B0 B1 HB HS h1 hb1 c1
  cases b1
  · have hk := HR.out (.inl rfl)
    subst hk
    clear HR HS9 HG HMN HMY
    go_wp2
    go_ret
    exact ⟨rfl, HB1.out⟩
  by_cases t0 : t < 0
  · have hk := HR.out (.inr (.inl t0))
    subst hk
    clear HR HS9 HG HMN HMY
    go_wp2
    go_ret
    exact ⟨rfl, HB1.out⟩
  by_cases t1 : 536870912 < t
  · have hk := HR.out (.inr (.inr t1))
    subst hk
    clear HR HS9 HG HMN HMY
    go_wp2
    go_ret
    exact ⟨rfl, HB1.out⟩
  have HS8 := hidD (HS9.out rfl (by omega) (by omega))
  have HG8 := hidD (HG.out rfl (by omega) (by omega))
  clear HR HS9 HG
  by_cases g0 : M < 0
  · have hm := HMN.out (fun e => by omega)
    subst hm
    have hk := HS8.out rfl
    subst hk
    clear HS8 HG8 HMN HMY
    go_wp2
    go_ret
    exact ⟨rfl, HB1.out⟩
  by_cases g1 : 2 < M
  · have hm := HMN.out (fun e => by omega)
    subst hm
    have hk := HS8.out rfl
    subst hk
    clear HS8 HG8 HMN HMY
    go_wp2
    go_ret
    exact ⟨rfl, HB1.out⟩
  by_cases g2 : F < 0
  · have hm := HMN.out (fun e => by omega)
    subst hm
    have hk := HS8.out rfl
    subst hk
    clear HS8 HG8 HMN HMY
    go_wp2
    go_ret
    exact ⟨rfl, HB1.out⟩
  by_cases g3 : 1000 < F
  · have hm := HMN.out (fun e => by omega)
    subst hm
    have hk := HS8.out rfl
    subst hk
    clear HS8 HG8 HMN HMY
    go_wp2
    go_ret
    exact ⟨rfl, HB1.out⟩
  by_cases g4 : U < 0
  · have hm := HMN.out (fun e => by omega)
    subst hm
    have hk := HS8.out rfl
    subst hk
    clear HS8 HG8 HMN HMY
    go_wp2
    go_ret
    exact ⟨rfl, HB1.out⟩
  by_cases g5 : 1073741824 < U
  · have hm := HMN.out (fun e => by omega)
    subst hm
    have hk := HS8.out rfl
    subst hk
    clear HS8 HG8 HMN HMY
    go_wp2
    go_ret
    exact ⟨rfl, HB1.out⟩
  by_cases g6 : P < 0
  · have hm := HMN.out (fun e => by omega)
    subst hm
    have hk := HS8.out rfl
    subst hk
    clear HS8 HG8 HMN HMY
    go_wp2
    go_ret
    exact ⟨rfl, HB1.out⟩
  by_cases g7 : 1000 < P
  · have hm := HMN.out (fun e => by omega)
    subst hm
    have hk := HS8.out rfl
    subst hk
    clear HS8 HG8 HMN HMY
    go_wp2
    go_ret
    exact ⟨rfl, HB1.out⟩
  by_cases g8 : W < 0
  · have hm := HMN.out (fun e => by omega)
    subst hm
    have hk := HS8.out rfl
    subst hk
    clear HS8 HG8 HMN HMY
    go_wp2
    go_ret
    exact ⟨rfl, HB1.out⟩
  by_cases g9 : 1000 < W
  · have hm := HMN.out (fun e => by omega)
    subst hm
    have hk := HS8.out rfl
    subst hk
    clear HS8 HG8 HMN HMY
    go_wp2
    go_ret
    exact ⟨rfl, HB1.out⟩
  have hm := HMY.out.2 (by omega)
  subst hm
  have hk := HG8.out rfl
  subst hk
  clear HS8 HG8 HMN HMY
  go_wp2
  go_ret
  exact ⟨rfl, HB1.out⟩
end Go.Proofs.Ytkfkhhhoboenkaa
