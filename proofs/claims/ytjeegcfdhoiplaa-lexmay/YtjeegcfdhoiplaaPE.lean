/- lex: Print, the walk. -/
import Derived.Test.YtjeegcfdhoiplaaPD
namespace Go.Proofs.Ytjeegcfdhoiplaa
open Go.RowKit

theorem pre_next (l : List Pl.Tok) (k : Nat) (t : Pl.Tok) (h : l[k]? = some t) : pre 1 true (l.take (k + 1)) = pre 1 true (l.take k) ++ ((if t.line = lastLine 1 (l.take k) ∧ k ≠ 0 then [32] else []) ++ List.replicate (t.line - lastLine 1 (l.take k)) 10 ++ t.text) ∧ lastLine 1 (l.take (k + 1)) = t.line := by
  have hk : k < l.length := (List.getElem?_eq_some_iff.1 h).1
  have e : l.take (k + 1) = l.take k ++ [t] := by rw [List.take_add_one, h]; rfl
  rw [e, pre_append, last_append]
  refine ⟨?_, rfl⟩
  have hemp : (true && (l.take k).isEmpty) = decide (k = 0) := by
    cases k with
    | zero => simp
    | succ k =>
      cases l with
      | nil => simp at hk
      | cons a l => simp
  rw [hemp]
  simp [pre]

/-- Lines do not fall, so the line that is come to is not below the last one. -/
theorem last_le (l : List Pl.Tok) (k : Nat) (t : Pl.Tok) (a : Nat) (hr : Pl.rises a l) (h : l[k]? = some t) : lastLine a (l.take k) ≤ t.line := by
  induction l generalizing k a with
  | nil => simp at h
  | cons x r ih =>
    cases k with
    | zero =>
      simp at h
      subst h
      exact hr.1
    | succ k =>
      rw [List.getElem?_cons_succ] at h
      exact ih k x.line hr.2 h

theorem pre_room (l : List Pl.Tok) (k : Nat) (hr : Pl.rises 1 l) (hx : ∀ t ∈ l, t.text.length ≤ 32) (hL : ∀ t ∈ l, t.line ≤ 65536) (hk : k ≤ l.length) : (pre 1 true (l.take k)).length ≤ 33 * l.length + 65536 ∧ lastLine 1 (l.take k) ≤ 65536 := by
  have hrt : ∀ (m : List Pl.Tok) (a k : Nat), Pl.rises a m → Pl.rises a (m.take k) := by
    intro m
    induction m with
    | nil => intro a k _; simp; trivial
    | cons x m ih =>
      intro a k h
      cases k with
      | zero => trivial
      | succ k => exact ⟨h.1, ih x.line k h.2⟩
  have hlast : ∀ (m : List Pl.Tok) (a : Nat), a ≤ 65536 → (∀ t ∈ m, t.line ≤ 65536) → lastLine a m ≤ 65536 := by
    intro m
    induction m with
    | nil => intro a h _; exact h
    | cons x m ih => intro a _ h; exact ih x.line (h x (by simp)) (fun t ht => h t (by simp [ht]))
  have h1 := pre_length (l.take k) 1 true (fun t ht => hx t (List.mem_of_mem_take ht)) (hrt l 1 k hr)
  have h2 := hlast (l.take k) 1 (by decide) (fun t ht => hL t (List.mem_of_mem_take ht))
  rw [List.length_take] at h1
  refine ⟨by omega, h2⟩

theorem good_toks {l : List Z3} (h : Good l) : (∀ t ∈ l.map zTok, Pl.okTok t) ∧ Pl.rises 1 (l.map zTok) ∧ (∀ t ∈ l.map zTok, t.line ≤ 65536) ∧ (∀ t ∈ l.map zTok, t.text.length ≤ 32) := by
  have hc := fun t ht => check_zero (h.1 t ht)
  refine ⟨?_, ?_, ?_, ?_⟩
  · intro t ht
    obtain ⟨u, hu, rfl⟩ := List.mem_map.1 ht
    exact (hc u hu).1
  · refine Pl.rises_of _ 1 ?_ ?_
    · intro t ht
      rw [List.getElem?_map] at ht
      cases hq : l[0]? with
      | none => rw [hq] at ht; simp at ht
      | some u =>
        rw [hq] at ht
        simp at ht
        subst ht
        have := (hc u (List.mem_of_getElem? hq)).2.2.2.1
        simp only [zTok]
        omega
    · intro i t u ht hu
      rw [List.getElem?_map] at ht hu
      cases hq : l[i]? with
      | none => rw [hq] at ht; simp at ht
      | some x =>
        cases hq2 : l[i + 1]? with
        | none => rw [hq2] at hu; simp at hu
        | some y =>
          rw [hq] at ht
          rw [hq2] at hu
          simp at ht hu
          subst ht hu
          have := h.2.1 i x y hq hq2
          simp only [zTok]
          omega
  · intro t ht
    obtain ⟨u, hu, rfl⟩ := List.mem_map.1 ht
    have := h.2.2 u hu
    simp only [zTok]
    omega
  · intro t ht
    obtain ⟨u, hu, rfl⟩ := List.mem_map.1 ht
    have := (hc u hu).2.2.2.2.2
    have e : (zTok u).text.length = u.2.1.size := bl_length u.2.1
    omega

/-- The octets, as a text. -/
def txt (l : List Nat) : ByteArray := strOf (l.map fun (c : Nat) => (c : Int))

theorem bl_txt (l : List Nat) (h : ∀ c ∈ l, c < 256) : bl (txt l) = l := by
  have h1 : (txt l).data.toList = (l.map fun (c : Nat) => (c : Int)).map (fun n => UInt8.ofNat n.toNat) := by
    rw [← strOf_list, ByteArray.toList_eq]
    rfl
  unfold bl
  rw [h1, List.map_map, List.map_map]
  have : ∀ (m : List Nat), (∀ c ∈ m, c < 256) → m.map ((UInt8.toNat ∘ fun n : Int => UInt8.ofNat n.toNat) ∘ fun (c : Nat) => (c : Int)) = m := by
    intro m hm
    induction m with
    | nil => rfl
    | cons c m ih =>
      rw [List.map_cons, ih (fun d hd => hm d (by simp [hd]))]
      have hc := hm c (by simp)
      simp [Nat.mod_eq_of_lt hc]
  exact this l h
theorem Oct.text {B : Nat} {w : World} {v : Value} {l : List Nat} (h : Oct B w v l) : (convert 41 9 v).run Try.prog w = .ok (.string (txt l)) w := by
  have e : u8n l = (l.map fun (c : Nat) => (c : Int)).map (Value.int .u8) := by unfold u8n; rw [List.map_map]; rfl
  have h1 : Seg .u8 w v (l.map fun (c : Nat) => (c : Int)) := by
    refine Seg.own (e := 5) (B := B) ?_
    rw [List.length_map, ← e]
    exact h
  exact seg_string h1
theorem bl_lt (x : ByteArray) : ∀ c ∈ bl x, c < 256 := by
  intro c hc
  obtain ⟨b, _, rfl⟩ := List.mem_map.1 hc
  exact UInt8.toNat_lt b
theorem pre_lt (l : List Pl.Tok) (h : ∀ t ∈ l, ∀ c ∈ t.text, c < 256) : ∀ line first, ∀ c ∈ pre line first l, c < 256 := by
  induction l with
  | nil => intro line first c hc; cases hc
  | cons t r ih =>
    intro line first c hc
    simp only [pre, List.mem_append] at hc
    rcases hc with ((hc | hc) | hc) | hc
    · split at hc
      · simp at hc; omega
      · cases hc
    · have := (List.mem_replicate.1 hc).2; omega
    · exact h t (by simp) c hc
    · exact ih (fun u hu => h u (by simp [hu])) _ _ c hc

set_option maxHeartbeats 4000000 in
set_option maxRecDepth 4000 in
theorem print_any (v : Value) (l : List Z3) (w : World) (hv : TSeg w v l) (hx : ∀ t ∈ l, t.2.1.size ≤ maxLen) (hN40 : l.length ≤ 1099511627776) :
    Calls Try.prog 9 #[v] w fun e w' => ∃ (x : ByteArray) (er : Int), e = .returned (.tuple #[.string x, .int .i64 er]) ∧ (er ≠ 0 → x = empty) ∧ (er = 0 → Good l ∧ x.size ≤ 65536 ∧ bl x = Pl.printS 1 true (l.map zTok)) ∧ (Good l → er = 0 ∨ er = 5) ∧ Below w.heap.size w w' := by
  have hmp := mayPrint_any v l w hv hx
  obtain ⟨a, cap, rfl, h1, h2, h3, h4⟩ := id hv
  obtain ⟨N, hN⟩ : ∃ N, N = l.length := ⟨_, rfl⟩
  rw [← hN] at h1 hv hN40 hmp ⊢
  unfold maxLen at h2
  have HN : Hid (N = l.length) := hN
  obtain ⟨B, hB⟩ : ∃ B, B = w.heap.size := ⟨_, rfl⟩
  rw [← hB] at hmp ⊢
  have hB1 : B ≤ w.heap.size := by omega
  have hB2 : w.heap.size ≤ B := by omega
  obtain ⟨i0, hi, hz0, hz1, hz2⟩ := info_parts Try.info5
  clear h3 h4 hN hB
  go_enter Try.func9, Try.ntmps9
  go_wp2_with fail
  refine hmp.mono ?_
  rintro e w1 ⟨er, rfl, hgood, hb1⟩
  have HG : Hid (er = 0 ↔ Good l) := hgood
  clear hgood
  by_cases her : er = 0
  · have hG : Good l := HG.out.1 her
    subst her
    have HGG : Hid (Good l) := hG
    obtain ⟨g1, g2, g3, g4⟩ := good_toks hG
    have GT : Hid ((∀ t ∈ l.map zTok, Pl.okTok t) ∧ Pl.rises 1 (l.map zTok) ∧ (∀ t ∈ l.map zTok, t.line ≤ 65536) ∧ (∀ t ∈ l.map zTok, t.text.length ≤ 32)) := ⟨g1, g2, g3, g4⟩
    clear g1 g2 g3 g4 HG hG hmp
    go_wp2_with fail
    go_loopw [5, 6, 16] (fun v ln i wr => ∃ k : Nat, k ≤ N ∧ i = .int .i64 k ∧ ln = .int .i64 ((lastLine 1 ((l.map zTok).take k) : Nat) : Int) ∧ Oct B wr v (pre 1 true ((l.map zTok).take k)) ∧ Below B w wr) (fun _ _ i _ => N - (intOf i).toNat)
    case atStart => exact ⟨0, Nat.zero_le _, rfl, rfl, ⟨rfl, .inl ⟨rfl, rfl⟩⟩, hb1⟩
    case round =>
      obtain ⟨k, hk, rfl, rfl, hO, hb⟩ := hrel
      have hBw : B ≤ wr.heap.size := by have := hb.size; omega
      obtain ⟨r1, r2⟩ := pre_room (l.map zTok) k GT.out.2.1 GT.out.2.2.2 GT.out.2.2.1 (by rw [List.length_map]; have := HN.out; omega)
      rw [List.length_map] at r1
      have hrm : (pre 1 true ((l.map zTok).take k)).length ≤ 33 * N + 65536 := by rw [HN.out]; exact r1
      clear r1
      by_cases hlt : k < N
      · obtain ⟨t, ht⟩ : ∃ t, l[k]? = some t := ⟨l[k]'(by have := HN.out; omega), by simp⟩
        obtain ⟨g, off, rfl, k2, q1, q2, q3⟩ := hv.at k t ht
        have Q1 := (hb.cell (p := ⟨g, off + k * 3, none⟩) (by simp; omega)).trans q1
        have Q2 := (hb.cell (p := ⟨g, off + k * 3 + 1, none⟩) (by simp; omega)).trans q2
        have Q3 := (hb.cell (p := ⟨g, off + k * 3 + 2, none⟩) (by simp; omega)).trans q3
        have hztk : (l.map zTok)[k]? = some (zTok t) := by rw [List.getElem?_map, ht]; rfl
        obtain ⟨hp1, hp2⟩ := pre_next (l.map zTok) k (zTok t) hztk
        have hll := last_le (l.map zTok) k (zTok t) 1 GT.out.2.1 hztk
        have hzm := List.mem_of_getElem? hztk
        have hzl := GT.out.2.2.1 _ hzm
        have hzx := GT.out.2.2.2 _ hzm
        have hck := check_zero (HGG.out.1 t (List.mem_of_getElem? ht))
        have hl1 := hck.2.2.2.1
        obtain ⟨T, hT⟩ : ∃ T : Nat, t.2.2 = (T : Int) := ⟨t.2.2.toNat, by omega⟩
        have hTl0 : (zTok t).line = T := by simp only [zTok, hT]; simp
        have hTx0 : (zTok t).text = bl t.2.1 := rfl
        rw [hTl0] at hll hzl hp1 hp2
        rw [hTx0] at hp1
        have HP1 : Hid (pre 1 true (List.take (k + 1) (List.map zTok l)) = _) := hp1
        have HP2 : Hid (lastLine 1 (List.take (k + 1) (List.map zTok l)) = _) := hp2
        have hxs : t.2.1.size ≤ 32 := hck.2.2.2.2.2
        obtain ⟨kz, xz, lz⟩ := t
        simp only at hT hxs Q1 Q2 Q3 hl1 HP1
        subst hT
        generalize pre 1 true ((l.map zTok).take k) = P0 at hO hrm HP1
        generalize lastLine 1 ((l.map zTok).take k) = LL at r2 hll HP1 ⊢
        clear q1 q2 q3 ht hztk hp1 hp2 hzm hzx hck hTl0 hTx0
        have hO1 := hO.below ((Below.refl _ wr).alloc (Nat.le_refl _) (.cells #[.int .i64 kz, .string xz, .int .i64 (T : Int)] 34))
        have hX1 : TBox (wr.alloc (.cells #[.int .i64 kz, .string xz, .int .i64 (T : Int)] 34)) wr.heap.size (kz, xz, (T : Int)) := heap_alloc_new wr _
        have hb1' : Below B w (wr.alloc (.cells #[.int .i64 kz, .string xz, .int .i64 (T : Int)] 34)) := hb.alloc hBw _
        by_cases hk0 : k = 0
        · have hkI : ¬ (0 : Int) < (k : Int) := by omega
          have HK : Hid (¬ (T = LL ∧ k ≠ 0)) := fun h => h.2 hk0
          clear hk0
          obtain ⟨ad, cp, rfl⟩ := hO.shape
          go_wp2_with fail
          generalize wr.heap.size = b at hX1 ⊢
          go_loopw [5, 6] (fun v ln wr2 => ∃ (j : Nat), LL + j ≤ T ∧ ln = .int .i64 ((LL : Int) + j) ∧ Oct B wr2 v (P0 ++ List.replicate j 10) ∧ TBox wr2 b (kz, xz, (T : Int)) ∧ Below B w wr2) (fun _ ln _ => T - (intOf ln).toNat)
          case atStart => exact ⟨0, by omega, by simp, by simpa using hO1, hX1, hb1'⟩
          case round =>
            obtain ⟨j, hj, rfl, hOj, hXj, hbj⟩ := hrel
            obtain ⟨f1, f2, f3⟩ := hXj.facts
            simp only at f1 f2
            have hBj : B ≤ wr.heap.size := by have := hbj.size; omega
            obtain ⟨adj, cpj, rfl⟩ := hOj.shape
            obtain ⟨M, hM⟩ : ∃ M, M = (P0 ++ List.replicate j 10).length := ⟨_, rfl⟩
            have hMl : M ≤ 33 * N + 140000 := by rw [hM]; simp; omega
            have HM : Hid (M = (P0 ++ List.replicate j 10).length) := hM
            rw [← hM]
            by_cases hjT : LL + j < T
            · have hjI : (LL : Int) + j < T := by omega
              have hOa : (wr.alloc (.cells #[.int .u8 10] 5)).ownsRow B 5 1 (.slice adj M cpj) M (u8n (P0 ++ List.replicate j 10)) := by
                have := hOj.below ((Below.refl _ wr).alloc (Nat.le_refl _) (.cells #[.int .u8 10] 5))
                unfold Oct at this
                rw [← HM.out] at this
                exact this
              clear hM
              go_wp2_with (at_builtin; refine wpList_append_lies _ rfl (.tmp 38) (.tmp 39) 41 rfl B 5 i0 _ 1 1 Try.underlying41 hi hz0 hz1 hz2 rfl (by decide) (.slice adj M cpj) M (u8n (P0 ++ List.replicate j 10)) rfl hOa ⟨wr.heap.size, 0, none⟩ 1 1 [.int .u8 10] rfl rfl (World.news_of_block (heap_alloc_new wr _)) (fun u hu => by simp at hu; subst hu; rfl) (by decide) (by unfold maxLen; omega) (by omega) (by simp; omega) _ rfl ?_; intro g5 cap5 w5 hown5 hgr5 hat5 hlt5)
              obtain ⟨o1, o2, o3⟩ := oct_app (c := 10) hbj hBj (by rw [← HM.out] at hOj; exact hOj) hXj HM.out hown5 hgr5
              refine ⟨⟨j + 1, by omega, by go_num, ?_, o2, o3⟩, by simp [intOf]; omega⟩
              rw [List.replicate_succ', ← List.append_assoc]
              exact o1
            · have hjE : j = T - LL := by omega
              have hjI : ¬ (LL : Int) + j < T := by omega
              clear hM
              have hOa : wr.ownsRow B 5 1 (.slice adj M cpj) M (u8n (P0 ++ List.replicate j 10)) := by
                have := hOj
                unfold Oct at this
                rw [← HM.out] at this
                exact this
              go_wp2_with (at_builtin; refine Lib.wpList_append_own_string _ rfl (.tmp 41) (.tmp 43) 41 9 rfl B 5 i0 Try.underlying41 Try.underlying9 hi hz0 hz1 hz2 (.slice adj M cpj) M (u8n (P0 ++ List.replicate j 10)) rfl hOa xz rfl (by unfold maxLen; omega) (by omega) hBj ?_; intro v5 w5 hown5 hgr5 hiff5)
              obtain ⟨o1, o2⟩ := oct_str hbj hBj (by rw [← HM.out] at hOj; exact hOj) HM.out hown5 hgr5
              have o3 : Oct B w5 v5 (pre 1 true (List.take (k + 1) (List.map zTok l))) := by
                rw [HP1.out, if_neg HK.out, ← hjE]
                simpa using o1
              go_roundw
              case rel => exact ⟨k + 1, by omega, by go_num, by rw [HP2.out]; congr 1; omega, o3, o2⟩
              case measure => simp [intOf]; omega
        · have hkI : (0 : Int) < (k : Int) := by omega
          by_cases hTL : T = LL
          · have HK : Hid (T = LL ∧ k ≠ 0) := ⟨hTL, hk0⟩
            have hq : ((T : Int) == (LL : Int)) = true := by rw [hTL]; simp
            clear hk0 hTL
            obtain ⟨ad, cp, rfl⟩ := hO.shape
            obtain ⟨M0, hM0⟩ : ∃ M0, M0 = P0.length := ⟨_, rfl⟩
            have HM0 : Hid (M0 = P0.length) := hM0
            have hMl0 : M0 ≤ 33 * N + 65536 := by omega
            have hO2 : ((wr.alloc (.cells #[.int .i64 kz, .string xz, .int .i64 (T : Int)] 34)).alloc (.cells #[.int .u8 32] 5)).ownsRow B 5 1 (.slice ad M0 cp) M0 (u8n P0) := by
              have := hO1.below ((Below.refl _ (wr.alloc (.cells #[.int .i64 kz, .string xz, .int .i64 (T : Int)] 34))).alloc (Nat.le_refl _) (.cells #[.int .u8 32] 5))
              unfold Oct at this
              rw [← HM0.out] at this
              exact this
            have hnew : ((wr.alloc (.cells #[.int .i64 kz, .string xz, .int .i64 (T : Int)] 34)).alloc (.cells #[.int .u8 32] 5)).heap[wr.heap.size + 1]? = some (.cells #[.int .u8 32] 5 (0, 0)) := by
              have h := heap_alloc_new (wr.alloc (.cells #[.int .i64 kz, .string xz, .int .i64 (T : Int)] 34)) (.cells #[.int .u8 32] 5)
              rw [show (wr.alloc (.cells #[.int .i64 kz, .string xz, .int .i64 (T : Int)] 34)).heap.size = wr.heap.size + 1 by simp] at h
              exact h
            rw [← hM0]
            clear hM0
            go_wp2_with (at_builtin; refine wpList_append_lies _ rfl (.tmp 29) (.tmp 30) 41 rfl B 5 i0 _ 1 1 Try.underlying41 hi hz0 hz1 hz2 rfl (by decide) (.slice ad M0 cp) M0 (u8n P0) rfl hO2 ⟨wr.heap.size + 1, 0, none⟩ 1 1 [.int .u8 32] rfl rfl (World.news_of_block hnew) (fun u hu => by simp at hu; subst hu; rfl) (by decide) (by unfold maxLen; omega) (by omega) (by simp; omega) _ rfl ?_; intro g5 cap5 w5 hown5 hgr5 hat5 hlt5)
            obtain ⟨o1, o2, o3⟩ := oct_app (c := 32) hb1' (by simp; omega) (by rw [← HM0.out] at hO1; exact hO1) hX1 HM0.out hown5 hgr5
            have hrm2 : (P0 ++ [32]).length ≤ 33 * N + 65537 := by rw [List.length_append]; simp; omega
            generalize wr.heap.size = b at o2 ⊢
            go_loopw [5, 6] (fun v ln wr2 => ∃ (j : Nat), LL + j ≤ T ∧ ln = .int .i64 ((LL : Int) + j) ∧ Oct B wr2 v ((P0 ++ [32]) ++ List.replicate j 10) ∧ TBox wr2 b (kz, xz, (T : Int)) ∧ Below B w wr2) (fun _ ln _ => T - (intOf ln).toNat)
            case atStart => exact ⟨0, by omega, by simp, by simpa using o1, o2, o3⟩
            case round =>
              obtain ⟨j, hj, rfl, hOj, hXj, hbj⟩ := hrel
              obtain ⟨f1, f2, f3⟩ := hXj.facts
              simp only at f1 f2
              have hBj : B ≤ wr.heap.size := by have := hbj.size; omega
              obtain ⟨adj, cpj, rfl⟩ := hOj.shape
              obtain ⟨M, hM⟩ : ∃ M, M = ((P0 ++ [32]) ++ List.replicate j 10).length := ⟨_, rfl⟩
              have hMl : M ≤ 33 * N + 140000 := by rw [hM, List.length_append, List.length_replicate]; omega
              have HM : Hid (M = ((P0 ++ [32]) ++ List.replicate j 10).length) := hM
              rw [← hM]
              by_cases hjT : LL + j < T
              · have hjI : (LL : Int) + j < T := by omega
                have hOa : (wr.alloc (.cells #[.int .u8 10] 5)).ownsRow B 5 1 (.slice adj M cpj) M (u8n ((P0 ++ [32]) ++ List.replicate j 10)) := by
                  have := hOj.below ((Below.refl _ wr).alloc (Nat.le_refl _) (.cells #[.int .u8 10] 5))
                  unfold Oct at this
                  rw [← HM.out] at this
                  exact this
                clear hM
                go_wp2_with (at_builtin; refine wpList_append_lies _ rfl (.tmp 38) (.tmp 39) 41 rfl B 5 i0 _ 1 1 Try.underlying41 hi hz0 hz1 hz2 rfl (by decide) (.slice adj M cpj) M (u8n ((P0 ++ [32]) ++ List.replicate j 10)) rfl hOa ⟨wr.heap.size, 0, none⟩ 1 1 [.int .u8 10] rfl rfl (World.news_of_block (heap_alloc_new wr _)) (fun u hu => by simp at hu; subst hu; rfl) (by decide) (by unfold maxLen; omega) (by omega) (by simp; omega) _ rfl ?_; intro g5 cap5 w5 hown5 hgr5 hat5 hlt5)
                obtain ⟨o1, o2, o3⟩ := oct_app (c := 10) hbj hBj (by rw [← HM.out] at hOj; exact hOj) hXj HM.out hown5 hgr5
                refine ⟨⟨j + 1, by omega, by go_num, ?_, o2, o3⟩, by simp [intOf]; omega⟩
                rw [List.replicate_succ', ← List.append_assoc]
                exact o1
              · have hjE : j = T - LL := by omega
                have hjI : ¬ (LL : Int) + j < T := by omega
                clear hM
                have hOa : wr.ownsRow B 5 1 (.slice adj M cpj) M (u8n ((P0 ++ [32]) ++ List.replicate j 10)) := by
                  have := hOj
                  unfold Oct at this
                  rw [← HM.out] at this
                  exact this
                go_wp2_with (at_builtin; refine Lib.wpList_append_own_string _ rfl (.tmp 41) (.tmp 43) 41 9 rfl B 5 i0 Try.underlying41 Try.underlying9 hi hz0 hz1 hz2 (.slice adj M cpj) M (u8n ((P0 ++ [32]) ++ List.replicate j 10)) rfl hOa xz rfl (by unfold maxLen; omega) (by omega) hBj ?_; intro v5 w5 hown5 hgr5 hiff5)
                obtain ⟨o1, o2⟩ := oct_str hbj hBj (by rw [← HM.out] at hOj; exact hOj) HM.out hown5 hgr5
                have o3 : Oct B w5 v5 (pre 1 true (List.take (k + 1) (List.map zTok l))) := by
                  rw [HP1.out, if_pos HK.out, ← hjE]
                  simpa using o1
                go_roundw
                case rel => exact ⟨k + 1, by omega, by go_num, by rw [HP2.out]; congr 1; omega, o3, o2⟩
                case measure => simp [intOf]; omega
          · have HK : Hid (¬ (T = LL ∧ k ≠ 0)) := fun h => hTL h.1
            have hq : ((T : Int) == (LL : Int)) = false := by simp; omega
            clear hk0
            obtain ⟨ad, cp, rfl⟩ := hO.shape
            go_wp2_with fail
            generalize wr.heap.size = b at hX1 ⊢
            go_loopw [5, 6] (fun v ln wr2 => ∃ (j : Nat), LL + j ≤ T ∧ ln = .int .i64 ((LL : Int) + j) ∧ Oct B wr2 v (P0 ++ List.replicate j 10) ∧ TBox wr2 b (kz, xz, (T : Int)) ∧ Below B w wr2) (fun _ ln _ => T - (intOf ln).toNat)
            case atStart => exact ⟨0, by omega, by simp, by simpa using hO1, hX1, hb1'⟩
            case round =>
              obtain ⟨j, hj, rfl, hOj, hXj, hbj⟩ := hrel
              obtain ⟨f1, f2, f3⟩ := hXj.facts
              simp only at f1 f2
              have hBj : B ≤ wr.heap.size := by have := hbj.size; omega
              obtain ⟨adj, cpj, rfl⟩ := hOj.shape
              obtain ⟨M, hM⟩ : ∃ M, M = (P0 ++ List.replicate j 10).length := ⟨_, rfl⟩
              have hMl : M ≤ 33 * N + 140000 := by rw [hM]; simp; omega
              have HM : Hid (M = (P0 ++ List.replicate j 10).length) := hM
              rw [← hM]
              by_cases hjT : LL + j < T
              · have hjI : (LL : Int) + j < T := by omega
                have hOa : (wr.alloc (.cells #[.int .u8 10] 5)).ownsRow B 5 1 (.slice adj M cpj) M (u8n (P0 ++ List.replicate j 10)) := by
                  have := hOj.below ((Below.refl _ wr).alloc (Nat.le_refl _) (.cells #[.int .u8 10] 5))
                  unfold Oct at this
                  rw [← HM.out] at this
                  exact this
                clear hM
                go_wp2_with (at_builtin; refine wpList_append_lies _ rfl (.tmp 38) (.tmp 39) 41 rfl B 5 i0 _ 1 1 Try.underlying41 hi hz0 hz1 hz2 rfl (by decide) (.slice adj M cpj) M (u8n (P0 ++ List.replicate j 10)) rfl hOa ⟨wr.heap.size, 0, none⟩ 1 1 [.int .u8 10] rfl rfl (World.news_of_block (heap_alloc_new wr _)) (fun u hu => by simp at hu; subst hu; rfl) (by decide) (by unfold maxLen; omega) (by omega) (by simp; omega) _ rfl ?_; intro g5 cap5 w5 hown5 hgr5 hat5 hlt5)
                obtain ⟨o1, o2, o3⟩ := oct_app (c := 10) hbj hBj (by rw [← HM.out] at hOj; exact hOj) hXj HM.out hown5 hgr5
                refine ⟨⟨j + 1, by omega, by go_num, ?_, o2, o3⟩, by simp [intOf]; omega⟩
                rw [List.replicate_succ', ← List.append_assoc]
                exact o1
              · have hjE : j = T - LL := by omega
                have hjI : ¬ (LL : Int) + j < T := by omega
                clear hM
                have hOa : wr.ownsRow B 5 1 (.slice adj M cpj) M (u8n (P0 ++ List.replicate j 10)) := by
                  have := hOj
                  unfold Oct at this
                  rw [← HM.out] at this
                  exact this
                go_wp2_with (at_builtin; refine Lib.wpList_append_own_string _ rfl (.tmp 41) (.tmp 43) 41 9 rfl B 5 i0 Try.underlying41 Try.underlying9 hi hz0 hz1 hz2 (.slice adj M cpj) M (u8n (P0 ++ List.replicate j 10)) rfl hOa xz rfl (by unfold maxLen; omega) (by omega) hBj ?_; intro v5 w5 hown5 hgr5 hiff5)
                obtain ⟨o1, o2⟩ := oct_str hbj hBj (by rw [← HM.out] at hOj; exact hOj) HM.out hown5 hgr5
                have o3 : Oct B w5 v5 (pre 1 true (List.take (k + 1) (List.map zTok l))) := by
                  rw [HP1.out, if_neg HK.out, ← hjE]
                  simpa using o1
                go_roundw
                case rel => exact ⟨k + 1, by omega, by go_num, by rw [HP2.out]; congr 1; omega, o3, o2⟩
                case measure => simp [intOf]; omega
      · have hkN : (l.map zTok).take k = l.map zTok := List.take_of_length_le (by rw [List.length_map]; have := HN.out; omega)
        rw [hkN] at hO hrm
        have hplt : ∀ c ∈ pre 1 true (l.map zTok), c < 256 := pre_lt _ (fun t ht => by
          obtain ⟨u, _, rfl⟩ := List.mem_map.1 ht
          exact bl_lt u.2.1) 1 true
        have hpr := print_pre 1 true (l.map zTok)
        by_cases hN0 : N = 0
        · have hl0 : l = [] := List.length_eq_zero_iff.1 (by have := HN.out; omega)
          have hpr2 : Pl.printS 1 true (l.map zTok) = pre 1 true (l.map zTok) := by rw [hl0]; rfl
          have hNI : ¬ (0 : Int) < (N : Int) := by omega
          clear hkN hpr hl0 hN0
          generalize pre 1 true (l.map zTok) = QF at *
          have hlen2 : (QF).length ≤ 33 * N + 70000 := by omega
          obtain ⟨M, hM⟩ : ∃ M, M = (QF).length := ⟨_, rfl⟩
          have HM : Hid (M = (QF).length) := hM
          obtain ⟨adf, cpf, rfl⟩ := (hO).shape
          have htx := (hO).text
          rw [← hM] at htx hO ⊢
          have HT : Hid (Pl.printS 1 true (List.map zTok l) = QF) := hpr2
          have HL : Hid (∀ c ∈ QF, c < 256) := hplt
          clear hM hpr2 hplt
          by_cases h65 : 65536 < M
          · have h65' : (65536 : Int) < (M : Int) := by omega
            go_wp2
            go_returns
            exact ⟨empty, 5, rfl, fun _ => rfl, fun h => by simp at h, fun _ => .inr rfl, hb⟩
          · have h65' : ¬ (65536 : Int) < (M : Int) := by omega
            go_wp2
            go_returns
            refine ⟨_, 0, rfl, fun h => absurd rfl h, fun _ => ⟨HGG.out, ?_, ?_⟩, fun _ => .inl rfl, hb⟩
            · rw [← bl_length, bl_txt _ HL.out, ← HM.out]
              omega
            · rw [HT.out, bl_txt _ HL.out]
        · have hpr2 : Pl.printS 1 true (l.map zTok) = pre 1 true (l.map zTok) ++ [10] := by
            rw [hpr, if_neg]
            rintro ⟨_, h⟩
            have : l.length = 0 := by simpa using h
            have := HN.out
            omega
          have hNI : (0 : Int) < (N : Int) := by omega
          have hplt2 : ∀ c ∈ pre 1 true (l.map zTok) ++ [10], c < 256 := by
            intro c hc
            rcases List.mem_append.1 hc with hc | hc
            · exact hplt c hc
            · simp at hc; omega
          clear hkN hpr hN0 hplt
          generalize pre 1 true (l.map zTok) = P0 at *
          obtain ⟨ad, cp, rfl⟩ := hO.shape
          obtain ⟨M0, hM0⟩ : ∃ M0, M0 = P0.length := ⟨_, rfl⟩
          have HM0 : Hid (M0 = P0.length) := hM0
          have hMl0 : M0 ≤ 33 * N + 65536 := by omega
          have hO2 : (wr.alloc (.cells #[.int .u8 10] 5)).ownsRow B 5 1 (.slice ad M0 cp) M0 (u8n P0) := by
            have := hO.below ((Below.refl _ wr).alloc (Nat.le_refl _) (.cells #[.int .u8 10] 5))
            unfold Oct at this
            rw [← HM0.out] at this
            exact this
          rw [← hM0]
          clear hM0
          have HPR : Hid (Pl.printS 1 true (List.map zTok l) = P0 ++ [10]) := hpr2
          clear hpr2
          by_cases h65 : 65536 < M0 + 1
          · have h65' : (65536 : Int) < (M0 : Int) + 1 := by omega
            go_wp2_with (at_builtin; refine wpList_append_lies _ rfl (.tmp 49) (.tmp 50) 41 rfl B 5 i0 _ 1 1 Try.underlying41 hi hz0 hz1 hz2 rfl (by decide) (.slice ad M0 cp) M0 (u8n P0) rfl hO2 ⟨wr.heap.size, 0, none⟩ 1 1 [.int .u8 10] rfl rfl (World.news_of_block (heap_alloc_new wr _)) (fun u hu => by simp at hu; subst hu; rfl) (by decide) (by unfold maxLen; omega) (by omega) (by simp; omega) _ rfl ?_; intro g5 cap5 w5 hown5 hgr5 hat5 hlt5)
            go_returns
            exact ⟨empty, 5, rfl, fun _ => rfl, fun h => by simp at h, fun _ => .inr rfl, below_grown (hb.alloc hBw _) hgr5 (by simp; omega) (by rw [HM0.out]; exact hO.since)⟩
          · have h65' : ¬ (65536 : Int) < (M0 : Int) + 1 := by omega
            go_wp2_with (at_builtin; refine wpList_append_lies _ rfl (.tmp 49) (.tmp 50) 41 rfl B 5 i0 _ 1 1 Try.underlying41 hi hz0 hz1 hz2 rfl (by decide) (.slice ad M0 cp) M0 (u8n P0) rfl hO2 ⟨wr.heap.size, 0, none⟩ 1 1 [.int .u8 10] rfl rfl (World.news_of_block (heap_alloc_new wr _)) (fun u hu => by simp at hu; subst hu; rfl) (by decide) (by unfold maxLen; omega) (by omega) (by simp; omega) _ rfl ?_; intro g5 cap5 w5 hown5 hgr5 hat5 hlt5; have hO5 : Oct B w5 (.slice (some ⟨g5, 0, none⟩) (M0 + 1) cap5) (P0 ++ [10]) := (by unfold Oct u8n; rw [List.length_append, List.map_append, ← HM0.out]; exact hown5); have htx := hO5.text)
            go_returns
            refine ⟨_, 0, rfl, fun h => absurd rfl h, fun _ => ⟨HGG.out, ?_, ?_⟩, fun _ => .inl rfl, below_grown (hb.alloc hBw _) hgr5 (by simp; omega) (by rw [HM0.out]; exact hO.since)⟩
            · rw [← bl_length, bl_txt _ hplt2, List.length_append, ← HM0.out]
              simp
              omega
            · rw [HPR.out, bl_txt _ hplt2]
  · have hne : (er != 0) = true := by simp [her]
    have HG2 : Hid (¬ Good l) := fun h => her (HG.out.2 h)
    go_wp2
    go_returns
    exact ⟨empty, er, rfl, fun _ => rfl, fun h => absurd h her, fun h => absurd h HG2.out, hb1⟩
end Go.Proofs.Ytjeegcfdhoiplaa
