/- parse: takeParts, whatever the parts are. -/
import Derived.Test.YthdooemgnpiomaaQI
namespace Go.Proofs.Ythdooemgnpiomaa
open Go.RowKit

/-- As Runs, of a call that turns what X says. -/
def RunsX {α : Type} (X : Nat → TypeId → Prop) (l : List T3) (n : Nat) (sv : Value) (rest : List Value) (w : World) (res : Pl.Res α) (V : α → World → Prop) (e : Ending) (w' : World) : Prop :=
  match res with
  | .ok a r => ∃ i', e = .returned (.tuple #[]) ∧ i' ≤ l.length ∧ r = (l.drop i').map kt3 ∧ Pos n sv rest w' i' ∧ V a w' ∧ Ch X w w'
  | .bad r er => ∃ i', e = .panicked (fault (lineAt l i') er) ∧ i' ≤ l.length ∧ r = (l.drop i').map kt3 ∧ Ch X w w'

def preR {α : Type} (xs : List α) (x : Pl.Res (List α)) : Pl.Res (List α) := x.bind fun bs r => .ok (xs ++ bs) r

theorem parts_end {α : Type} (beg : Pl.Kt → Bool) (part : Pl.Kt → List Pl.Kt → Pl.Res α) (k : Nat) (t : Pl.Kt) (r : List Pl.Kt) (h : t.2 = [125]) : Pl.partsP beg part k (t :: r) = .ok [] r := by
  cases k <;> simp [Pl.partsP, h]
theorem parts_step {α : Type} (beg : Pl.Kt → Bool) (part : Pl.Kt → List Pl.Kt → Pl.Res α) (m : Nat) (hm : m ≤ 32) (x : List Pl.Kt) (h : ∀ t r, x = t :: r → t.2 ≠ [125]) :
    Pl.partsP beg part (32 - m) x = (moreP beg m 32 x).bind fun t r => (part t r).bind fun a r1 => preR [a] (Pl.partsP beg part (32 - (m + 1)) r1) := by
  cases x with
  | nil => cases (32 - m) <;> rfl
  | cons t r =>
    have ht := h t r rfl
    by_cases hb : beg t = true
    · by_cases h32 : m = 32
      · subst h32
        simp [Pl.partsP, moreP, Pl.takeP, ht, hb, Pl.Res.bind]
      · obtain ⟨k, hk⟩ : ∃ k, 32 - m = k + 1 := ⟨31 - m, by omega⟩
        have hk2 : 32 - (m + 1) = k := by omega
        rw [hk, hk2]
        simp only [Pl.partsP, moreP, Pl.takeP, if_neg ht, if_pos hb, ok_bind, if_neg h32]
        rfl
    · have hq : moreP beg m 32 (t :: r) = .bad (t :: r) 33 := by simp [moreP, Pl.takeP, hb, Pl.Res.bind]
      rw [hq]
      cases (32 - m) <;> simp [Pl.partsP, ht, hb, Pl.Res.bind]

theorem preR_preR {α : Type} (xs bs : List α) (x : Pl.Res (List α)) : preR xs (preR bs x) = preR (xs ++ bs) x := by
  cases x with
  | ok a r => simp [preR, Pl.Res.bind]
  | bad r e => rfl

theorem more_ok {p : Pl.Kt → Bool} {m k : Nat} {x r : List Pl.Kt} {t : Pl.Kt} (h : moreP p m k x = .ok t r) : p t = true ∧ m ≠ k := by
  unfold moreP at h
  obtain ⟨a, r1, h1, h2⟩ := Pl.bind_ok h
  split at h2
  · cases h2
  · rename_i hm
    cases x with
    | nil => simp [Pl.takeP] at h1
    | cons y x =>
      simp only [Pl.takeP] at h1
      split at h1
      · rename_i hp
        simp only [Pl.Res.ok.injEq] at h1 h2
        rw [← h2.1, ← h1.1]
        exact ⟨hp, hm⟩
      · cases h1

set_option maxHeartbeats 16000000 in
set_option maxRecDepth 4000 in
theorem pparts_any {α : Type} (X : Nat → TypeId → Prop) (n : Nat) (sv : Value) (l : List T3) (rest : List Value) (hl : 0 < l.length) (hbig : l.length ≤ 1000000) (w : World) (i : Nat) (h : Pos n sv rest w i) (hS : TSeg w sv (l.map toZ)) (hi : i ≤ l.length)
    (hXp : ∀ g T, Xp n g T → X g T) (hXs : ∀ g T, X g T → Xs g T) (hsn : ∀ g, sv.ownBlock = some g → ∀ T, ¬ X g T)
    (beg : Pl.Kt → Bool) (bv : Value) (hF : FitsT w bv beg) (part : Pl.Kt → List Pl.Kt → Pl.Res α) (Inv : List α → World → Prop) (hI0 : Inv [] w) (hIk : ∀ xs W W', Inv xs W → Ch (Xp n) W W' → Inv xs W')
    (fr : Nat) (capr : Array Value) (hen : ∀ (args : Array Value) (w' : World), (callFunc fr args).run Try.prog w' = .ok (.enter fr args) w')
    (hrest : ∀ (xs : List α) (W : World) (j : Nat) (t : T3), Ch X w W → Inv xs W → Pos n sv rest W j → j ≤ l.length → t ∈ l → beg (kt3 t) = true → xs.length < 32 →
      Calls Try.prog fr (#[tokV t] ++ capr) W (RunsX X l n sv rest W (part (kt3 t) ((l.drop j).map kt3)) (fun a w' => Inv (xs ++ [a]) w'))) :
    Calls Try.prog 51 #[.pointer (some ⟨n, 0, none⟩), bv, .func (.func fr) #[] capr] w
      (RunsX X l n sv rest w ((Pl.takeP (Pl.isT [123]) ((l.drop i).map kt3)).bind fun _ r => Pl.partsP beg part 32 r) Inv) := by
  generalize hRES : ((Pl.takeP (Pl.isT [123]) ((l.drop i).map kt3)).bind fun _ r => Pl.partsP beg part 32 r) = RES
  have HR := hid hRES
  have HS := hid hS
  have HN := hid hsn
  have HIk := hid hIk
  have Hrest := hid hrest
  have HF := hid hF
  have HXp := hid hXp
  have HXs := hid hXs
  obtain ⟨fk, cap, rfl, _, _⟩ := id hF
  have hlt : n < w.heap.size := h.facts.2.2.2
  clear hRES hsn hIk hrest hXp hXs hF
  go_enter Try.func51, Try.ntmps51
  go_wp2_with fail
  refine (psign_any _ [123] rfl _ _ (by simp)).mono ?_
  rintro e w1 ⟨fk1, cap1, rfl, hF1, hb1⟩
  have htk1 := ptake_any n sv l rest w1 i (h.below hb1) (hS.below hb1) hl hbig hi _ _ hF1
  have hC1 : Ch (Xp n) w w1 := Ch.below hb1
  clear hF1 hb1 h hS
  go_wp2_with fail
  have HX1 := HR.out
  clear HR
  refine htk1.mono ?_
  clear htk1
  generalize Pl.takeP (Pl.isT [123]) ((l.drop i).map kt3) = R1 at *
  cases R1 with
  | bad r er =>
    rintro e wz ⟨iz, rfl, hiz, hrz, hCz⟩
    subst HX1
    exact ⟨rfl, iz, rfl, hiz, hrz, (hC1.trans hCz).mono HXp.out⟩
  | ok kk1 r1 =>
    simp only [ok_bind] at HX1
    rintro e w2 ⟨v1, i2, rfl, hi2, rfl, hP2, ⟨t1, -, -, rfl⟩, hc2⟩
    have hC2 := hC1.trans hc2
    have hI2 := HIk.out _ _ _ hI0 hC2
    have HR := hid HX1
    unfold tokV
    clear HX1 hc2 hC1 hI0
    go_wp2_with fail
    go_loopw [6] (fun v wr => ∃ (xs : List α) (j : Nat), v = .int .i64 (xs.length : Int) ∧ xs.length ≤ 32 ∧ j ≤ l.length ∧ preR xs (Pl.partsP beg part (32 - xs.length) ((l.drop j).map kt3)) = RES ∧ Pos n sv rest wr j ∧ Inv xs wr ∧ Ch X w wr) (fun v _ => 33 - (intOf v).toNat)
    case atStart =>
      refine ⟨[], i2, rfl, by simp, hi2, ?_, hP2, hI2, hC2.mono HXp.out⟩
      rw [← HR.out]
      simp only [List.length_nil, Nat.sub_zero]
      generalize Pl.partsP beg part 32 ((l.drop i2).map kt3) = R
      cases R <;> rfl
    case round =>
      obtain ⟨xs, j, rfl, has, hj, hT, hP, hI, hC⟩ := hrel
      have HT := hid hT
      clear hT hP2 hI2 hC2 HR
      go_wp2_with fail
      refine (psign_any _ [125] rfl _ _ (by simp)).mono ?_
      rintro e w3 ⟨fk3, cap3, rfl, hF3, hb3⟩
      have hP3 := hP.below hb3
      have hC3 := hC.bel hb3
      have hS3 := HS.out.ch hC3 HN.out
      have hI3 := HIk.out _ _ _ hI (Ch.below hb3)
      have hse := psees_any n sv l rest w3 j hP3 hS3 hj _ _ hF3
      clear hP hC hI hb3 hF3
      go_wp2_with fail
      refine hse.mono ?_
      clear hse
      cases hq : seesT (Pl.isT [125]) (l.drop j) with
      | true =>
        rintro e w4 ⟨rfl, hb4⟩
        obtain ⟨t, ht, htx⟩ : ∃ t, l[j]? = some t ∧ Pl.isT [125] (kt3 t) = true := by
          cases hd : l.drop j with
          | nil => rw [hd] at hq; simp [seesT] at hq
          | cons t r' =>
            rw [hd] at hq
            have := congrArg (fun x => x[0]?) hd
            exact ⟨t, by simpa using this, hq⟩
        have hT2 := HT.out
        rw [drop_token l j t ht, List.map_cons, parts_end _ _ _ _ _ (by simpa [Pl.isT] using htx)] at hT2
        have HT2 : Hid (Pl.Res.ok xs ((l.drop (j + 1)).map kt3) = RES) := by
          rw [← hT2]
          simp [preR, Pl.Res.bind, Hid]
        have hjl := (List.getElem?_eq_some_iff.1 ht).1
        clear hT2 HT hq
        go_wp2_with fail
        refine (psign_any _ [125] rfl _ _ (by simp)).mono ?_
        rintro e w5 ⟨fk5, cap5, rfl, hF5, hb5⟩
        have hb45 := below_next hb4 hb5
        have htk5 := ptake_ok n sv l rest w5 j (hP3.below hb45) (hS3.below hb45) hbig t ht _ _ hF5 htx
        have hC5 := hC3.bel hb45
        have hI5 := HIk.out _ _ _ hI3 (Ch.below hb45)
        clear hF5 hb5 hb4 hb45 ht htx hP3 hS3 hC3 hI3
        go_wp2_with fail
        refine htk5.mono ?_
        rintro e w6 ⟨rfl, hP6, hC6⟩
        unfold tokV
        go_wp2
        go_end0
        rw [← HT2.out]
        exact ⟨j + 1, rfl, hjl, rfl, hP6, HIk.out _ _ _ hI5 hC6, hC5.trans (hC6.mono HXp.out)⟩
      | false =>
        rintro e w4 ⟨rfl, hb4⟩
        have hnc : ∀ t r, (l.drop j).map kt3 = t :: r → t.2 ≠ [125] := by
          intro t r htr hc
          cases hd : l.drop j with
          | nil => rw [hd] at htr; simp at htr
          | cons t' r' =>
            rw [hd] at htr hq
            simp only [List.map_cons, List.cons.injEq] at htr
            simp [seesT, Pl.isT, htr.1, hc] at hq
        have hT2 := HT.out
        rw [parts_step beg part xs.length has _ hnc] at hT2
        have HT2 := hid hT2
        have hP4 := hP3.below hb4
        have hC4 := hC3.bel hb4
        have hmo := pmore_any n sv l rest w4 j hP4 (hS3.below hb4) hl hbig hj _ _ (HF.out.ch (hC4.mono HXs.out)) xs.length 32
        have hI4 := HIk.out _ _ _ hI3 (Ch.below hb4)
        clear hT2 HT hnc hq hb4 hP3 hS3 hC3 hI3
        go_wp2_with fail
        refine hmo.mono ?_
        clear hmo
        have HX4 := HT2.out
        clear HT2
        generalize hR4 : moreP beg xs.length 32 ((l.drop j).map kt3) = R4 at *
        cases R4 with
        | bad r er =>
          rintro e wz ⟨iz, rfl, hiz, hrz, hCz⟩
          subst HX4
          exact ⟨rfl, iz, rfl, hiz, hrz, hC4.trans (hCz.mono HXp.out)⟩
        | ok kk r =>
          rintro e w5 ⟨v5, i5, rfl, hi5, rfl, hP5, ⟨t5, ht5, rfl, rfl⟩, hc5⟩
          simp only [ok_bind] at HX4
          obtain ⟨hbt, hmk⟩ := more_ok hR4
          have hI5 := HIk.out _ _ _ hI4 hc5
          have hC5 := hC4.trans (hc5.mono HXp.out)
          have hrs := Hrest.out xs w5 i5 t5 hC5 hI5 hP5 hi5 ht5 hbt (by omega)
          have HX5 := hid HX4
          clear HX4 hR4 hI5 hI4 hC4 hc5 hP4 hP5 hbt
          unfold tokV at hrs ⊢
          go_wp2_with fail
          refine hrs.mono ?_
          clear hrs
          have HX6 := HX5.out
          clear HX5
          generalize part (kt3 t5) ((l.drop i5).map kt3) = R5 at *
          cases R5 with
          | bad r er =>
            rintro e wz ⟨iz, rfl, hiz, hrz, hCz⟩
            subst HX6
            exact ⟨rfl, iz, rfl, hiz, hrz, hC5.trans hCz⟩
          | ok a r =>
            rintro e w6 ⟨i6, rfl, hi6, rfl, hP6, hI6, hc6⟩
            simp only [ok_bind] at HX6
            rw [preR_preR] at HX6
            have HX7 := hid HX6
            have hC6 := hC5.trans hc6
            clear HX6 hC5 hc6
            go_wp2
            refine ⟨⟨xs ++ [a], i6, ?_, ?_, hi6, ?_, hP6, hI6, hC6⟩, ?_⟩
            · rw [List.length_append]
              go_num
            · rw [List.length_append]
              simp
              omega
            · rw [List.length_append]
              exact HX7.out
            · simp [intOf]
              omega
end Go.Proofs.Ythdooemgnpiomaa
