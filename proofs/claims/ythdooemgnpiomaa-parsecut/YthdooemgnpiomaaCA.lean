/- ParseCut: the walk. -/
import Derived.Test.YthdooemgnpiomaaRD
import Derived.Test.YthdooemgnpiomaaRC
namespace Go.Proofs.Ythdooemgnpiomaa
open Go.RowKit

theorem seg_take {w : World} {a : Option Addr} {L cp : Nat} {l : List T3} (h : TSeg w (.slice a L cp) (l.map toZ)) (M : Nat) (hM : M ≤ l.length) : TSeg w (.slice a M cp) ((l.take M).map toZ) := by
  obtain ⟨a', cap, he, h2, h3, h4, h5⟩ := h
  injection he with e1 e2 e3
  subst e1 e3
  have hl : ((l.take M).map toZ).length = M := by rw [List.length_map, List.length_take]; omega
  rw [List.length_map] at h2
  refine ⟨a, cp, by rw [hl], by rw [hl]; omega, h3, fun ha => ?_, fun g off ar ha h0 => ?_⟩
  · obtain ⟨q1, q2⟩ := h4 ha
    have : l = [] := by simpa using q1
    subst this
    exact ⟨by simp, q2⟩
  · rw [hl] at h0
    obtain ⟨k1, k2, k3⟩ := h5 g off ar ha (by rw [List.length_map]; omega)
    refine ⟨k1, k2, fun i t ht => k3 i t ?_⟩
    rw [List.getElem?_map] at ht ⊢
    cases hq : (l.take M)[i]? with
    | none => rw [hq] at ht; simp at ht
    | some x =>
      rw [hq] at ht
      have hi : i < M := by
        have := (List.getElem?_eq_some_iff.1 hq).1
        rw [List.length_take] at this
        omega
      rw [List.getElem?_take_of_lt hi] at hq
      rw [hq]
      exact ht

theorem ParseR.ok {B : Nat} {l : List T3} {w : World} {ds : List Pl.Decl} {r : List Pl.Kt} {e : Ending} {w' : World} (h : ParseR B l w (.ok ds r) e w') : ∃ s1 s2 s3, e = .returned (.tuple #[.agg #[s1, s2, s3], .int .i64 0, .int .i64 0]) ∧ SchV B ds s1 s2 s3 w' ∧ Below w.heap.size w w' := h

/-- What is cut off declares fewer, or ends too early, at its last token. -/
theorem cut_pure (tl : List T3) (ds : List Pl.Decl) (r : List Pl.Kt) (hG : GoodT tl) (h : Pl.declsP 64 (tl.map kt3) = .ok ds r) (M : Nat) (hM : M < tl.length) :
    ((M = 0 ∨ ∃ t, tl[M - 1]? = some t ∧ bl t.2.1 = [125]) → ∃ n, Pl.declsP 64 ((tl.take M).map kt3) = .ok (ds.take n) []) ∧
    (¬ (M = 0 ∨ ∃ t, tl[M - 1]? = some t ∧ bl t.2.1 = [125]) → Pl.declsP 64 ((tl.take M).map kt3) = .bad [] 8) := by
  have hr := Pl.decls_end 64 _ _ _ h
  subst hr
  have hok : ∀ t ∈ tl.map kt3, Pl.okKt t := by
    intro t ht
    obtain ⟨u, hu, rfl⟩ := List.mem_map.1 ht
    exact (check_kt (hG u hu)).1
  have hcd : tl.map kt3 = (tl.take M).map kt3 ++ (tl.drop M).map kt3 := by rw [← List.map_append, List.take_append_drop]
  have hd : (tl.drop M).map kt3 ≠ [] := by
    intro he
    have := congrArg List.length he
    simp at this
    omega
  have hc := Pl.decls_cut 64 _ ds h hok _ _ hcd hd
  have hiff : ((tl.take M).map kt3 = [] ∨ ∃ c0 u, (tl.take M).map kt3 = c0 ++ [u] ∧ u.2 = [125]) ↔ (M = 0 ∨ ∃ t, tl[M - 1]? = some t ∧ bl t.2.1 = [125]) := by
    by_cases h0 : M = 0
    · subst h0
      simp
    · obtain ⟨t, ht⟩ : ∃ t, tl[M - 1]? = some t := ⟨tl[M - 1]'(by omega), by simp⟩
      have htk : tl.take M = tl.take (M - 1) ++ [t] := by
        have : M = (M - 1) + 1 := by omega
        rw [this, List.take_add_one]
        simp only [Nat.add_sub_cancel]
        rw [ht]
        rfl
      rw [htk, List.map_append]
      constructor
      · rintro (hq | ⟨c0, u, hq, hu⟩)
        · simp at hq
        · right
          have := List.append_inj_right' hq rfl
          simp at this
          refine ⟨t, ht, ?_⟩
          have e : (kt3 t).2 = bl t.2.1 := rfl
          rw [← e, this]
          exact hu
      · rintro (hq | ⟨u, hu, hx⟩)
        · exact absurd hq h0
        · rw [ht] at hu
          cases hu
          exact .inr ⟨(tl.take (M - 1)).map kt3, kt3 t, rfl, hx⟩
  exact ⟨fun hp => hc.1 (hiff.2 hp), fun hn => hc.2 (fun hp => hn (hiff.1 hp))⟩

theorem take_len {α β : Type} (f : α → Option β) (ds : List α) (n : Nat) : ((ds.take n).filterMap f).length ≤ (ds.filterMap f).length := by
  conv => rhs; rw [← List.take_append_drop n ds, List.filterMap_append]
  rw [List.length_append]
  omega

theorem decls_len (k : Nat) : ∀ l ds r, Pl.declsP k l = .ok ds r → ds.length ≤ k := by
  induction k with
  | zero =>
    intro l ds r h
    cases l with
    | nil => cases h; simp
    | cons t l => simp only [Pl.declsP] at h; split at h <;> cases h
  | succ k ih =>
    intro l ds r h
    cases l with
    | nil => cases h; simp
    | cons t l =>
      obtain ⟨a, xs, c, u, r1, _, rfl, _, _, _, _, h3⟩ := Pl.decls_cons k t l ds r h
      have := ih _ _ _ h3
      simp
      omega
theorem decls_none {ds : List Pl.Decl} {r : List Pl.Kt} (h : Pl.declsP 64 [] = .ok ds r) : ds = [] := by
  have e : Pl.declsP 64 [] = .ok [] [] := rfl
  rw [e] at h
  simp only [Pl.Res.ok.injEq] at h
  exact h.1.symm

theorem text_none (s : ByteArray) (h : (tokA s).2.2 ≠ 0) : (tokA s).1 = [] := by
  unfold tokA at h ⊢
  split
  · rfl
  · rename_i hs
    rw [if_neg hs] at h
    exact (Pl.tok_shape _ _ _).2 h

set_option maxHeartbeats 16000000 in
set_option maxRecDepth 4000 in
theorem cut_walk (s : ByteArray) (z : Int) (w : World) : Calls Try.prog 3 #[.string s, .int .i64 z] w fun e w' => e = .returned (.bool true) ∧ Below w.heap.size w w' := by
  have ht := fun w => rtokens_any s w
  obtain ⟨TL, LN, ER, hA⟩ : ∃ TL LN ER, tokA s = (TL, LN, ER) := ⟨_, _, _, rfl⟩
  have HA := hid hA
  rw [hA] at ht
  simp only at ht
  clear hA
  go_enter Try.func3, Try.ntmps3
  go_wp2_with fail
  refine (alive_any w).mono ?_
  rintro e w1 ⟨rfl, hb1⟩
  go_wp2_with fail
  refine (ht w1).mono ?_
  rintro e w2 ⟨v, tl, rfl, hT, hm, hb2⟩
  obtain ⟨hG, htl, hkt⟩ := text_good s tl (by rw [HA.out]; exact hm)
  have hS := hT.seg
  obtain ⟨ad, cp, rfl⟩ := hT.shape
  have hbb := below_next hb1 hb2
  have HG := hid hG
  have hpa := parse_any _ tl (by omega) hG w2 hS
  obtain ⟨N, hN⟩ : ∃ N, N = tl.length := ⟨_, rfl⟩
  rw [← hN] at hpa hS htl ⊢
  have HN := hid hN
  have HM := hid hm
  clear hN hT hkt ht hG hm
  generalize hRES : Pl.declsP 64 (tl.map kt3) = RES at *
  have HR := hid hRES
  clear hRES
  cases RES with
  | bad r er =>
    have hne : er ≠ 0 := NZ.decls 64 _ _ _ HR.out
    have hne' : ((er : Int) == 0) = false := by simp; omega
    by_cases her : ER = 0
    · subst her
      go_wp2_with fail
      refine hpa.mono ?_
      rintro e w3 ⟨i', -, -, rfl, hb3⟩
      go_wp2_with (go_at_call 9; refine (num_any _ _).mono ?_; rintro e w4 ⟨rfl, rfl⟩)
      go_ret
      exact ⟨rfl, below_next (below_next hbb hb3) (below_alloc _ _)⟩
    · have her' : (ER == 0) = false := by simp [her]
      go_wp2_with fail
      refine hpa.mono ?_
      rintro e w3 ⟨i', -, -, rfl, hb3⟩
      go_wp2_with (go_at_call 9; refine (num_any _ _).mono ?_; rintro e w4 ⟨rfl, rfl⟩)
      go_ret
      exact ⟨rfl, below_next (below_next hbb hb3) (below_alloc _ _)⟩
  | ok ds r =>
    go_wp2_with fail
    refine hpa.mono ?_
    clear hpa
    intro e w3 hp
    obtain ⟨s1, s2, s3, rfl, hV, hb3⟩ := hp.ok
    obtain ⟨a1, c1, a2, c2, a3, c3, rfl, rfl, rfl⟩ := hV.shape
    have hb4 := below_next hbb hb3
    have hS3 := hS.below hb3
    have H1 : Hid (ER ≠ 0 → (stOf ds).length = 0) := fun her => by
      have h1 := text_none s (by rw [HA.out]; exact her)
      rw [HA.out] at h1
      have h2 : tl = [] := by
        have := HM.out
        simp only at h1
        rw [h1] at this
        simpa using this
      have h3 := HR.out
      rw [h2] at h3
      rw [decls_none h3]
      rfl
    have H2 : Hid (N = 0 → (stOf ds).length = 0) := fun hN0 => by
      have h2 : tl = [] := List.length_eq_zero_iff.1 (by rw [← HN.out]; exact hN0)
      have h3 := HR.out
      rw [h2] at h3
      rw [decls_none h3]
      rfl
    have H3 : (stOf ds).length ≤ 64 ∧ (enOf ds).length ≤ 64 ∧ (svOf ds).length ≤ 64 := by
      have h0 := decls_len 64 _ _ _ HR.out
      have h1 := st_len ds
      have h2 := en_len ds
      have h3 := sv_len ds
      omega
    clear hp hV hb3 hS hbb
    generalize hm1 : (stOf ds).length = m1 at *
    generalize hm2 : (enOf ds).length = m2 at *
    generalize hm3 : (svOf ds).length = m3 at *
    by_cases her : ER = 0
    · subst her
      by_cases hN0 : N = 0
      · have hm10 := H2.out hN0
        subst hN0 hm10
        clear hm1 hm2 hm3
        go_wp2_with (go_at_call 9; refine (num_any _ _).mono ?_; rintro e w4 ⟨rfl, rfl⟩)
        go_ret
        exact ⟨rfl, below_next hb4 (below_alloc _ _)⟩
      · have hNi : ¬ (N : Int) = 0 := by omega
        have hNb : ((N : Int) == 0) = false := by simp; omega
        have hr1 : -(N : Int) < z.tmod N := Int.lt_tmod_of_pos z (by omega)
        have hr2 : z.tmod N < N := Int.tmod_lt_of_pos z (by omega)
        obtain ⟨M, hM, hMN⟩ : ∃ M : Nat, (z.tmod N + N).tmod N = (M : Int) ∧ M < N := by
          have h1 : (z.tmod N + N).tmod N = (z.tmod N + N) % N := Int.tmod_eq_emod_of_nonneg (by omega)
          have h2 := Int.emod_nonneg (z.tmod N + N) (b := (N : Int)) (by omega)
          have h3 := Int.emod_lt_of_pos (z.tmod N + N) (b := (N : Int)) (by omega)
          exact ⟨((z.tmod N + N) % N).toNat, by rw [h1]; omega, by omega⟩
        have hM' : M < tl.length := by rw [← HN.out]; exact hMN
        have hb5 := below_alloc w3 (.cells #[.slice a1 m1 c1, .slice a2 m2 c2, .slice a3 m3 c3] 30)
        have hpb := parse_any (.slice ad M cp) (tl.take M) (by rw [List.length_take]; omega) (fun t ht => HG.out t (List.mem_of_mem_take ht)) _ (seg_take (hS3.below hb5) M (by omega))
        have hcut := cut_pure tl ds r HG.out HR.out M hM'
        obtain ⟨t0, ht0⟩ : ∃ t, tl[M - 1]? = some t := ⟨tl[M - 1]'(by omega), by simp⟩
        obtain ⟨g, off, hag, hg, -, q1, q2, q3⟩ := hS3.token (M - 1) t0 ht0
        have hM1 : M ≤ cp := by
          obtain ⟨_, _, he, h2, _⟩ := hS3
          injection he with _ e2 e3
          rw [← e2, ← e3] at h2
          omega
        subst hag
        have hg5 : g < (w3.alloc (.cells #[.slice a1 m1 c1, .slice a2 m2 c2, .slice a3 m3 c3] 30)).heap.size := by simp; omega
        have q1' := (hb5.cell hg).trans q1
        have q2' := (hb5.cell hg).trans q2
        have q3' := (hb5.cell hg).trans q3
        have hX5 := Bx.new w3 [.slice a1 m1 c1, .slice a2 m2 c2, .slice a3 m3 c3] 30
        have hb05 := below_next hb4 hb5
        have hd1 : ∀ n, (stOf (ds.take n)).length ≤ m1 := fun n => by rw [← hm1]; exact take_len _ ds n
        have hd2 : ∀ n, (enOf (ds.take n)).length ≤ m2 := fun n => by rw [← hm2]; exact take_len _ ds n
        have hd3 : ∀ n, (svOf (ds.take n)).length ≤ m3 := fun n => by rw [← hm3]; exact take_len _ ds n
        have HD1 := hid hd1
        have HD2 := hid hd2
        have HD3 := hid hd3
        clear hm1 hm2 hm3 hd1 hd2 hd3 hS3 q1 q2 q3 HG hb5 H1 H2 hb1 hb2
        by_cases hM0 : M = 0
        · subst hM0
          obtain ⟨k, hk⟩ := hcut.1 (.inl rfl)
          rw [hk] at hpb
          clear hcut q1' q2' q3' ht0
          go_wp2_with (go_at_call 9; refine (num_any _ _).mono ?_; rintro e w9 ⟨rfl, rfl⟩)
          refine hpb.mono ?_
          intro e w6 hp
          obtain ⟨t1, t2, t3, rfl, hV6, hb6⟩ := hp.ok
          obtain ⟨b1, d1, b2, d2, b3, d3, rfl, rfl, rfl⟩ := hV6.shape
          have hX6 := hX5.below hb6
          have hl1 := HD1.out k
          have hl2 := HD2.out k
          have hl3 := HD3.out k
          clear hp hV6 hpb hk
          generalize (stOf (ds.take k)).length = n1 at *
          generalize (enOf (ds.take k)).length = n2 at *
          generalize (svOf (ds.take k)).length = n3 at *
          have hle : (n1 : Int) + n2 + n3 ≤ (m1 : Int) + m2 + m3 := by omega
          have y0 := hX6.cell 0 rfl
          have y1 := hX6.cell 1 rfl
          have y2 := hX6.cell 2 rfl
          have hlx := hX6.lt
          have hw6 : Below w.heap.size w w6 := below_next hb05 hb6
          go_wp2_with (go_at_call 9; refine (num_any _ _).mono ?_; rintro e w9 ⟨rfl, rfl⟩)
          go_ret
          exact ⟨rfl, below_next hw6 (below_alloc _ _)⟩
        · obtain ⟨K, rfl⟩ : ∃ K, M = K + 1 := ⟨M - 1, by omega⟩
          simp only [Nat.add_sub_cancel] at ht0 q1' q2' q3' hcut
          have hK0 : ((K : Int) + 1 == 0) = false := by simp; omega
          have hKi : (0 : Int) ≤ (K : Int) ∧ (K : Int) < (N : Int) := by omega
          by_cases hx : t0.2.1 = ⟨#[125]⟩
          · obtain ⟨k, hk⟩ := hcut.1 (.inr ⟨t0, ht0, by rw [hx]; rfl⟩)
            rw [hk] at hpb
            rw [hx] at q2'
            clear hcut ht0 hx
            go_wp2_with (go_at_call 9; refine (num_any _ _).mono ?_; rintro e w9 ⟨rfl, rfl⟩)
            refine hpb.mono ?_
            intro e w6 hp
            obtain ⟨t1, t2, t3, rfl, hV6, hb6⟩ := hp.ok
            obtain ⟨b1, d1, b2, d2, b3, d3, rfl, rfl, rfl⟩ := hV6.shape
            have hX6 := hX5.below hb6
            have hl1 := HD1.out k
            have hl2 := HD2.out k
            have hl3 := HD3.out k
            clear hp hV6 hpb hk
            generalize (stOf (ds.take k)).length = n1 at *
            generalize (enOf (ds.take k)).length = n2 at *
            generalize (svOf (ds.take k)).length = n3 at *
            have hle : (n1 : Int) + n2 + n3 ≤ (m1 : Int) + m2 + m3 := by omega
            have y0 := hX6.cell 0 rfl
            have y1 := hX6.cell 1 rfl
            have y2 := hX6.cell 2 rfl
            have hlx := hX6.lt
            have hw6 : Below w.heap.size w w6 := below_next hb05 hb6
            have Q2 := (hb6.cell (p := ⟨g, off + K * 3 + 1, none⟩) hg5).trans q2'
            have hg6 : g < w6.heap.size := Nat.lt_of_lt_of_le hg5 hb6.size
            go_wp2_with (go_at_call 9; refine (num_any _ _).mono ?_; rintro e w9 ⟨rfl, rfl⟩)
            go_ret
            exact ⟨rfl, below_next hw6 (below_alloc _ _)⟩

          · have hnb : ¬ (K + 1 = 0 ∨ ∃ t, tl[K]? = some t ∧ bl t.2.1 = [125]) := by
              rintro (h | ⟨t, h1, h2⟩)
              · omega
              · rw [ht0] at h1
                cases h1
                exact hx (bl_inj h2)
            have hk := hcut.2 hnb
            rw [hk] at hpb
            have hsx : (t0.2.1.toList == [125]) = false := by simpa [ByteArray.toList_eq] using str_no hx
            have hlen : (tl.take (K + 1)).length = K + 1 := by rw [List.length_take]; have := HN.out; omega
            have hline : lineAt (tl.take (K + 1)) (K + 1) = t0.2.2 := by
              unfold lineAt
              rw [hlen, show min (K + 1) (K + 1 - 1) = K from by omega, List.getElem?_take_of_lt (by omega), ht0]
              rfl
            have Hlen := hid hlen
            have Hline := hid hline
            clear hcut ht0 hx hnb hlen hline hk
            go_wp2_with (go_at_call 9; refine (num_any _ _).mono ?_; rintro e w9 ⟨rfl, rfl⟩)
            refine hpb.mono ?_
            rintro e w6 ⟨i', hr', hi', rfl, hb6⟩
            have hie : i' = K + 1 := by
              have h1 := congrArg List.length hr'
              rw [List.length_map, List.length_drop, Hlen.out] at h1
              rw [Hlen.out] at hi'
              simp at h1
              omega
            subst hie
            rw [Hline.out]
            have Q2 := (hb6.cell (p := ⟨g, off + K * 3 + 1, none⟩) hg5).trans q2'
            have Q3 := (hb6.cell (p := ⟨g, off + K * 3 + 2, none⟩) hg5).trans q3'
            have hw6 : Below w.heap.size w w6 := below_next hb05 hb6
            have hg6 : g < w6.heap.size := Nat.lt_of_lt_of_le hg5 hb6.size
            clear hr' hi' hpb
            go_wp2_with (go_at_call 9; refine (num_any _ _).mono ?_; rintro e w9 ⟨rfl, rfl⟩)
            go_ret
            exact ⟨rfl, below_next hw6 (below_alloc _ _)⟩
    · have hm10 := H1.out her
      have her' : (ER == 0) = false := by simp [her]
      subst hm10
      clear hm1 hm2 hm3
      go_wp2_with (go_at_call 9; refine (num_any _ _).mono ?_; rintro e w4 ⟨rfl, rfl⟩)
      go_ret
      exact ⟨rfl, below_next hb4 (below_alloc _ _)⟩
end Go.Proofs.Ythdooemgnpiomaa
