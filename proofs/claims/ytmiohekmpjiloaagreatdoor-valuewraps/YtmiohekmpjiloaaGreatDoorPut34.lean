/- value: parts, Size of any value. Values that are wrapped (plain). Check of a value that is wrapped (plain). value: Size of any value. value.Check answers one error. ValueWraps: the walk. -/
import Derived.Test.YtmiohekmpjiloaaGreatDoorPut33
import Derived.Test.YtmiohekmpjiloaaGreatDoorPut29
import Derived.Deep.AppendLies
import Derived.Test.YtmiohekmpjiloaaGreatDoorPut31
namespace Go.Proofs.YtmiohekmpjiloaaGreatDoor
open Go.RowKit
set_option maxRecDepth 20000

/-- How many values there are in all. -/
def gsize : Pl.GV → Nat
  | .node _ _ _ l => 1 + (l.attach.map fun x => gsize x.1).sum
termination_by g => SizeOf.sizeOf g
decreasing_by
  have := List.sizeOf_lt_of_mem x.2
  simp
  omega
theorem gsize_eq (g : Pl.GV) : gsize g = 1 + (g.l.map gsize).sum := by
  cases g with
  | node i u t l =>
    rw [gsize]
    congr 2
    exact List.attach_map_val (f := gsize) 
def gsum (l : List Pl.GV) : Nat := (l.map gsize).sum
def kids (l : List Pl.GV) : List (List Pl.GV) := (l.map Pl.GV.l).filter fun x => decide (0 < x.length)
def ksum (l : List (List Pl.GV)) : Nat := (l.map gsum).sum
theorem gsum_kids : ∀ (l : List Pl.GV), gsum l = l.length + ksum (kids l)
  | [] => rfl
  | x :: l => by
    have ih := gsum_kids l
    have h1 : gsum (x :: l) = gsize x + gsum l := by simp [gsum]
    rw [h1, ih, gsize_eq]
    unfold kids
    rw [List.map_cons, List.filter_cons]
    split
    · simp only [ksum, List.map_cons, List.sum_cons, gsum, List.length_cons]
      omega
    · rename_i h0
      have h2 : x.l = [] := by
        cases hl : x.l with
        | nil => rfl
        | cons a b => rw [hl] at h0; simp at h0
      rw [h2]
      simp only [List.map_nil, List.sum_nil, List.length_cons]
      omega

/-- A value is no deeper than n, and no list of it is long. -/
def DL : Nat → Pl.GV → Prop
  | 0, _ => False
  | n + 1, g => g.l.length ≤ 1000 ∧ ∀ x ∈ g.l, DL n x
/-- A list of values that lies, with as many steps as it is deep. -/
def KR (B : Nat) (x : List Pl.GV) (c : List Value) (w : World) : Prop := ∃ a m cp n, c = [.slice a m cp] ∧ VyS B (n + 1) x w (.slice a m cp) ∧ x.length ≤ 1000 ∧ ∀ y ∈ x, DL n y
theorem KR.bel {B : Nat} {w w' : World} (hb : Below B w w') (x : List Pl.GV) (c : List Value) (h : KR B x c w) : KR B x c w' := by
  obtain ⟨a, m, cp, n, h1, h2, h3⟩ := h
  exact ⟨a, m, cp, n, h1, VyS.bel hb _ _ _ h2, h3⟩
theorem infoS : (Tryz.prog.info? 31).map (fun i => (i.zero, i.size, i.bytes)) = some (some (.slice none 0 0), 1, 24) := by kernel_rfl
theorem kids_snoc (l : List Pl.GV) (k : Nat) (x : Pl.GV) (h : l[k]? = some x) : kids (l.take (k + 1)) = kids (l.take k) ++ (if 0 < x.l.length then [x.l] else []) := by
  rw [List.take_add_one, h]
  unfold kids
  simp only [Option.toList_some, List.map_append, List.map_cons, List.map_nil, List.filter_append]
  congr 1
  by_cases hx : 0 < x.l.length
  · simp [hx]
  · simp [hx]

set_option maxHeartbeats 8000000 in
theorem parts_any (B n : Nat) (l : List Pl.GV) (hd : ∀ y ∈ l, DL n y) (hl : l.length ≤ 1000) (ad : Option Addr) (m cp : Nat) (w : World) (h : VyS B (n + 1) l w (.slice ad m cp)) (hB : B ≤ w.heap.size) :
    Calls Tryz.prog 35 #[.slice ad m cp] w fun e w' => ∃ v, e = .returned v ∧ Rows 31 1 (KR B) w.heap.size w' v (kids l) ∧ Below w.heap.size w w' := by
  obtain ⟨hm, hm1⟩ := h.len
  have HV := hid h
  have HM := hid hm
  have HD := hid hd
  rw [← hm] at hl
  clear h hm hd
  go_enter Tryz.func35, Tryz.ntmps35
  go_wp2_with fail
  go_loopw [3, 8] (fun ls i wr => ∃ (k : Nat) (aa : Option Addr) (kk cc : Nat), k ≤ m ∧ kk ≤ k ∧ ls = .slice aa kk cc ∧ i = .int .i64 k ∧ Hid (Rows 31 1 (KR B) w.heap.size wr (.slice aa kk cc) (kids (l.take k)) ∧ kk = (kids (l.take k)).length) ∧ Below w.heap.size w wr) (fun _ i _ => m - (intOf i).toNat)
  case atStart => exact ⟨0, none, 0, 0, Nat.zero_le _, Nat.le_refl _, rfl, rfl, ⟨Rows.nil _ _ _ _ _, rfl⟩, Below.refl _ _⟩
  case round =>
    obtain ⟨k, aa, kk, cc, hk, hkk, rfl, rfl, HR, hbw⟩ := hrel
    by_cases hlt : k < m
    · obtain ⟨x, hx⟩ : ∃ x, l[k]? = some x := ⟨l[k]'(by rw [← HM.out]; exact hlt), by simp⟩
      obtain ⟨blk, off, xa, xm, xc, rfl, hblk, q0, q1, q2, q3, q4⟩ := HV.out.cells hx
      have hblk' := Nat.lt_of_lt_of_le hblk hB
      have d0 := (hbw.cell hblk').trans q0
      have d1 := (hbw.cell hblk').trans q1
      have d2 := (hbw.cell hblk').trans q2
      have d3 := (hbw.cell hblk').trans q3
      have hdx := HD.out x (List.mem_of_getElem? hx)
      obtain ⟨n', rfl⟩ : ∃ n', n = n' + 1 := by
        cases n with
        | zero => exact hdx.elim
        | succ n => exact ⟨n, rfl⟩
      have hxm := q4.len.1
      have HKS := hid (kids_snoc l k x hx)
      have HQ4 := hid q4
      have HDX : Hid (x.l.length ≤ 1000 ∧ ∀ y ∈ x.l, DL n' y) := hdx
      have hba := below_alloc wr (.cells #[.int .i64 x.i, .int .u64 x.u, .string x.t, .slice xa xm xc] 33)
      have HB2 := hid (below_next hbw hba)
      have HBA := hid hba
      have HXM := hid hxm
      have hszr : w.heap.size ≤ wr.heap.size := hbw.size
      clear q0 q1 q2 q3 q4 hx hbw hdx hba hxm
      by_cases hx0 : 0 < xm
      · have hxI : (0 : Int) < (xm : Int) := by omega
        obtain ⟨ps, hps, hRp, hown⟩ := HR.out.1
        have hpl : ps.length = kk := by rw [HR.out.2, ← hps, List.length_map]
        rw [hpl] at hown
        have HPS := hid hps
        have HRP := hid hRp
        have HOWN := hid hown
        have HPL := hid hpl
        obtain ⟨i0, hi0, hz0, hz1, hz2⟩ := info_parts infoS
        clear hps hRp hown hpl
        go_wp2_with (at_builtin; refine wpList_append_lies _ rfl (.tmp 16) (.tmp 19) 73 rfl w.heap.size 31 i0 _ 1 24 Tryz.underlying73 hi0 hz0 hz1 hz2 rfl (by decide) (.slice aa kk cc) kk (ps.flatMap Prod.snd) rfl (own_ch (X := fun _ _ => False) HOWN.out ((Ch.alloc _ _).trans (Ch.alloc _ _)) (fun _ _ hx => hx)) ⟨wr.heap.size + 1, 0, none⟩ 1 1 [.slice xa xm xc] rfl rfl (World.news_of_block (by rw [show wr.heap.size + 1 = (wr.alloc (.cells #[.int .i64 x.i, .int .u64 x.u, .string x.t, .slice xa xm xc] 33)).heap.size by simp]; exact heap_alloc_new _ _)) (fun u hu => by simp at hu; subst hu; rfl) (by decide) (by unfold maxLen; omega) (by omega) (by simp; omega) _ rfl ?_; intro gn capn w9 hown9 hgr9 hat9 hlt9)
        have hbal : Below w.heap.size w (((wr.alloc (.cells #[.int .i64 x.i, .int .u64 x.u, .string x.t, .slice xa xm xc] 33))).alloc (.cells #[.slice xa xm xc] 31)) := below_next HB2.out (below_alloc _ _)
        have hrowne : ∀ j, (Value.slice aa kk cc).ownBlock = some j → w.heap.size ≤ j := fun j hj => (own_block HOWN.out hj).1
        have hb9 : Below w.heap.size w w9 := hbal.grown hgr9 hbal.size hrowne
        have hbr0 : Below wr.heap.size wr (((wr.alloc (.cells #[.int .i64 x.i, .int .u64 x.u, .string x.t, .slice xa xm xc] 33))).alloc (.cells #[.slice xa xm xc] 31)) := below_next HBA.out (below_alloc _ _)
        have hbr : Below w.heap.size wr w9 := (hbr0.mono hszr).grown hgr9 hbal.size hrowne
        have hRow : Rows 31 1 (KR B) w.heap.size w9 (.slice (some ⟨gn, 0, none⟩) (kk + 1) capn) (ps.map Prod.fst ++ [x.l]) := Rows.more (w := wr) (w' := w9) HRP.out (fun a c hh => KR.bel (hbr.mono hB) a c hh) x.l [.slice xa xm xc] ⟨xa, xm, xc, n', rfl, VyS.bel (hb9.mono hB) _ _ _ HQ4.out, HDX.out⟩ rfl (by rw [HPL.out]; exact hown9)
        have hks := HKS.out
        rw [← HXM.out, if_pos hx0] at hks
        rw [HPS.out, ← hks] at hRow
        have hkl : kk + 1 = (kids (l.take (k + 1))).length := by rw [hks, List.length_append, ← HR.out.2]; rfl
        exact ⟨⟨k + 1, _, _, _, by omega, by omega, rfl, by go_num, ⟨hRow, hkl⟩, hb9⟩, by simp [intOf]; omega⟩
      · obtain rfl : xm = 0 := by omega
        have hks := HKS.out
        rw [← HXM.out, if_neg (by omega), List.append_nil] at hks
        have HRN : Hid (Rows 31 1 (KR B) w.heap.size (wr.alloc (.cells #[.int .i64 x.i, .int .u64 x.u, .string x.t, .slice xa 0 xc] 33)) (.slice aa kk cc) (kids (l.take (k + 1))) ∧ kk = (kids (l.take (k + 1))).length) := by
          rw [hks]
          exact ⟨HR.out.1.ch (X := fun _ _ => False) (Ch.below HBA.out) (fun a c hh => KR.bel (HBA.out.mono (Nat.le_trans hB hszr)) a c hh) (fun _ _ hx => hx), HR.out.2⟩
        clear hks
        go_wp2
        exact ⟨⟨k + 1, _, _, _, by omega, by omega, rfl, by go_num, HRN.out, HB2.out⟩, by simp [intOf]; omega⟩
    · obtain rfl : k = m := by omega
      have hkI : ¬ (k : Int) < (k : Int) := by omega
      have hr := HR.out.1
      rw [List.take_of_length_le (by rw [← HM.out]; omega)] at hr
      have HRR := hid hr
      have HBW := hid hbw
      clear hbw hr
      go_wp2
      go_ret
      exact ⟨_, rfl, HRR.out, HBW.out⟩
end Go.Proofs.YtmiohekmpjiloaaGreatDoor

namespace Go.Proofs.YtmiohekmpjiloaaGreatDoor
open Go.RowKit
set_option maxRecDepth 20000

theorem emb_one : ∀ (a b : Pl.Ty), Pl.okTy a → Pl.okTy b → Pl.emb a = Pl.emb b → a = b
  | .plain k, .plain m, _, _, h => by simp only [Pl.emb] at h; injection h with h1 _ _; congr 1; omega
  | .plain k, .named y, ha, _, h => by simp only [Pl.emb] at h; injection h with h1 _ _; have := ha.2; omega
  | .plain k, .list b, ha, _, h => by simp only [Pl.emb] at h; injection h with h1 _ _; have := ha.2; omega
  | .plain k, .opt b, ha, _, h => by simp only [Pl.emb] at h; injection h with h1 _ _; have := ha.2; omega
  | .named x, .plain m, _, hb, h => by simp only [Pl.emb] at h; injection h with h1 _ _; have := hb.2; omega
  | .named x, .named y, _, _, h => by simp only [Pl.emb] at h; injection h with _ h2 _; rw [h2]
  | .named x, .list b, _, _, h => by simp only [Pl.emb] at h; injection h with h1 _ _; omega
  | .named x, .opt b, _, _, h => by simp only [Pl.emb] at h; injection h with h1 _ _; omega
  | .list a, .plain m, _, hb, h => by simp only [Pl.emb] at h; injection h with h1 _ _; have := hb.2; omega
  | .list a, .named y, _, _, h => by simp only [Pl.emb] at h; injection h with h1 _ _; omega
  | .list a, .list b, ha, hb, h => by
    simp only [Pl.emb] at h
    injection h with _ _ h3
    injection h3 with h3 _
    rw [emb_one a b ha hb h3]
  | .list a, .opt b, _, _, h => by simp only [Pl.emb] at h; injection h with h1 _ _; omega
  | .opt a, .plain m, _, hb, h => by simp only [Pl.emb] at h; injection h with h1 _ _; have := hb.2; omega
  | .opt a, .named y, _, _, h => by simp only [Pl.emb] at h; injection h with h1 _ _; omega
  | .opt a, .list b, _, _, h => by simp only [Pl.emb] at h; injection h with h1 _ _; omega
  | .opt a, .opt b, ha, hb, h => by
    simp only [Pl.emb] at h
    injection h with _ _ h3
    injection h3 with h3 _
    rw [emb_one a b ha hb h3]

/-- A value within a list of its own. -/
def wrapG (g : Pl.GV) : Pl.GV := .node 0 0 ⟨#[]⟩ [g]
theorem fold_le (m n : Nat) : ∀ (l : List Pl.GV) (d : Nat), d ≤ n → (∀ x ∈ l, 1 + deepV m x.l ≤ n) → l.foldl (deepVF m) d ≤ n
  | [], d, hd, _ => hd
  | x :: l, d, hd, h => by
    rw [List.foldl_cons]
    refine fold_le m n l _ ?_ (fun y hy => h y (List.mem_cons_of_mem _ hy))
    have := h x List.mem_cons_self
    unfold deepVF
    split <;> omega
theorem deep_le (n : Nat) : ∀ (m : Nat) (l : List Pl.GV), (∀ x ∈ l, DV n x) → deepV m l ≤ n := by
  induction n with
  | zero =>
    intro m l h
    cases l with
    | nil => cases m <;> simp [deepV]
    | cons x l => exact (h x List.mem_cons_self).elim
  | succ n ih =>
    intro m l h
    cases m with
    | zero => exact Nat.zero_le _
    | succ m =>
      rw [deepV_succ]
      refine fold_le m (n + 1) l 0 (Nat.zero_le _) (fun x hx => ?_)
      have := ih m x.l (h x hx)
      omega
theorem fold_same (m n : Nat) (hn : n ≤ m + 1) : ∀ (l : List Pl.GV) (d : Nat), d ≤ n → (∀ x ∈ l, 1 + deepV m x.l ≤ n ∧ deepV m x.l = deepV (m + 1) x.l) → l.foldl (deepVF m) d = l.foldl (deepVF (m + 1)) d
  | [], d, _, _ => rfl
  | x :: l, d, hd, h => by
    obtain ⟨h1, h2⟩ := h x List.mem_cons_self
    rw [List.foldl_cons, List.foldl_cons]
    have e : deepVF m d x = deepVF (m + 1) d x := by
      unfold deepVF
      rw [← h2]
      split <;> split <;> omega
    rw [← e]
    refine fold_same m n hn l _ ?_ (fun y hy => h y (List.mem_cons_of_mem _ hy))
    unfold deepVF
    split <;> omega
theorem deep_same (n : Nat) : ∀ (m : Nat) (l : List Pl.GV), n ≤ m → (∀ x ∈ l, DV n x) → deepV m l = deepV (m + 1) l := by
  induction n with
  | zero =>
    intro m l _ h
    cases l with
    | nil => cases m <;> simp [deepV]
    | cons x l => exact (h x List.mem_cons_self).elim
  | succ n ih =>
    intro m l hm h
    obtain ⟨m, rfl⟩ : ∃ k, m = k + 1 := ⟨m - 1, by omega⟩
    rw [deepV_succ, deepV_succ]
    exact fold_same m (n + 1) hm l 0 (Nat.zero_le _) (fun x hx => ⟨by have := deep_le n m x.l (h x hx); omega, ih m x.l (by omega) (h x hx)⟩)
theorem deep_wrap (m : Nat) (g : Pl.GV) : deepV (m + 1) [wrapG g] = 1 + deepV m [g] := by
  rw [deepV_succ, List.foldl_cons, List.foldl_nil, deepVF, if_pos (by omega)]
  show max 0 (1 + deepV m [g]) = _
  omega
theorem DV.up {n : Nat} : ∀ {g : Pl.GV}, DV n g → DV (n + 1) g := by
  induction n with
  | zero => intro g h; exact h.elim
  | succ n ih => intro g h x hx; exact ih (h x hx)
theorem parts_same (f g : Nat → Pl.GV → Int) : ∀ (l : List Pl.GV) (j : Nat), (∀ x ∈ l, ∀ i, f i x = g i x) → partsV f j l = partsV g j l
  | [], _, _ => rfl
  | x :: l, j, h => by
    rw [partsV_cons, partsV_cons, h x List.mem_cons_self j, parts_same f g l (j + 1) (fun y hy => h y (List.mem_cons_of_mem _ hy))]
theorem val_same (st : List (List Nat × List Pl.Fld)) (en : List (List Nat × List Pl.Cas)) (f : List Nat → Int × Int) (n : Nat) : ∀ (t : Pl.Ty) (g : Pl.GV), DV n g → valE st en f n t g = valE st en f (n + 1) t g := by
  induction n with
  | zero => intro t g h; exact h.elim
  | succ n ih =>
    intro t g h
    rw [valE, valE]
    split
    · exact parts_same _ _ _ _ (fun x hx i => ih _ x (h x hx))
    · rfl
theorem own_wrap (κ : Int) (hκ : κ = 6 ∨ κ = 7) (fs : List Pl.Fld) (cs : List Pl.Cas) (g : Pl.GV) : ownE κ fs cs (wrapG g) = 0 := by
  unfold ownE
  have h1 : tooL κ (wrapG g).t.size (wrapG g).l.length = false := by
    unfold tooL
    simp [wrapG, Pl.GV.t, Pl.GV.l]
    rfl
  have h2 : rangeB κ cs (wrapG g).i (wrapG g).t = true := by
    unfold rangeB
    rw [if_neg (by omega), if_neg (by omega), if_neg (by omega)]
  have h3 : wholeB κ fs.length (wrapG g).l.length = true := by
    unfold wholeB
    rcases hκ with rfl | rfl
    · rfl
    · rfl
  have h4 : cmpV 65536 (unusedG κ (wrapG g)) zeroV = 0 := by
    have e : unusedG κ (wrapG g) = zeroV := by
      unfold unusedG wrapG zeroV
      simp only [Pl.GV.i, Pl.GV.u, Pl.GV.t, Pl.GV.l]
      rw [if_pos (by omega)]
      unfold uI uU uT
      rw [if_neg (by omega), if_neg (by omega), if_neg (by omega)]
    rw [e]
    exact (ord_val 65536).self zeroV
  rw [h1, h2, h3, if_neg (by decide), if_neg (by decide), if_neg (by decide), if_pos h4]
theorem val_wrap (st : List (List Nat × List Pl.Fld)) (en : List (List Nat × List Pl.Cas)) (f : List Nat → Int × Int) (n : Nat) (t u : Pl.Ty) (hu : u = .list t ∨ u = .opt t) (g : Pl.GV) : valE st en f (n + 1) u (wrapG g) = valE st en f n t g := by
  have hk : kindM f u = 6 ∨ kindM f u = 7 := by
    rcases hu with rfl | rfl
    · exact .inl rfl
    · exact .inr rfl
  rw [valE, if_pos (own_wrap _ hk _ _ g)]
  have hp : partT (fldsM st f u) u 0 = t := by rcases hu with rfl | rfl <;> rfl
  show partsV _ 0 [g] = _
  rw [partsV_cons]
  simp only [hp, partsV]
  split
  · rename_i h; exact h.symm
  · rfl
end Go.Proofs.YtmiohekmpjiloaaGreatDoor

namespace Go.Proofs.YtmiohekmpjiloaaGreatDoor
open Go.RowKit
set_option maxRecDepth 20000

theorem shape_wrap (κ : Int) (hκ : κ = 6 ∨ κ = 7) (gt : Pl.GT) (h : Pl.shapeP (.node κ [] [gt]) = 0) : Pl.shapeP gt = 0 := by
  obtain ⟨t, h1, ho, hd⟩ := Pl.shape_of _ h
  cases t with
  | plain k => simp only [Pl.emb] at h1; injection h1 with h1 _ _; have := ho.2; omega
  | named x => simp only [Pl.emb] at h1; injection h1 with h1 _ _; omega
  | list t =>
    simp only [Pl.emb] at h1
    injection h1 with _ _ h3
    injection h3 with h3 _
    rw [h3]
    exact Pl.shape_emb t ho (by simp only [Pl.tyD] at hd; omega)
  | opt t =>
    simp only [Pl.emb] at h1
    injection h1 with _ _ h3
    injection h3 with h3 _
    rw [h3]
    exact Pl.shape_emb t ho (by simp only [Pl.tyD] at hd; omega)
/-- The type that a type is wrapped into. -/
def wrapT (κ : Int) (t : Pl.Ty) : Pl.Ty := if κ = 6 then .list t else .opt t
theorem wrapT_or (κ : Int) (t : Pl.Ty) : wrapT κ t = .list t ∨ wrapT κ t = .opt t := by
  unfold wrapT
  split
  · exact .inl rfl
  · exact .inr rfl
theorem emb_wrap (κ : Int) (hκ : κ = 6 ∨ κ = 7) (t : Pl.Ty) : Pl.GT.node κ [] [Pl.emb t] = Pl.emb (wrapT κ t) := by
  rcases hκ with rfl | rfl <;> rfl
theorem ok_wrap (κ : Int) (t : Pl.Ty) (h : Pl.okTy t) : Pl.okTy (wrapT κ t) := by
  rcases wrapT_or κ t with e | e <;> rw [e] <;> exact h
theorem tyD_wrap (κ : Int) (t : Pl.Ty) : Pl.tyD (wrapT κ t) = Pl.tyD t + 1 := by
  rcases wrapT_or κ t with e | e <;> rw [e] <;> simp only [Pl.tyD] <;> omega
theorem inmost_wrap (κ : Int) (t : Pl.Ty) : inmost (wrapT κ t) = inmost t := by
  rcases wrapT_or κ t with e | e <;> rw [e] <;> rfl
theorem shape_deep (t : Pl.Ty) (ho : Pl.okTy t) (hd : 8 < Pl.tyD t) (h100 : Pl.tyD t ≤ 100) : Pl.shapeP (Pl.emb t) = 42 := by
  unfold Pl.shapeP
  rw [Pl.deep_emb t 100 h100 ho, if_pos hd]

/-- What Check answers of a value that is wrapped, where the schema may be and the type too. -/
theorem ck_wrap {κ : Int} (hκ : κ = 6 ∨ κ = 7) {st : List (List Nat × List Pl.Fld)} {en : List (List Nat × List Pl.Cas)} {sv : List (List Nat × List Pl.Mth)} {t : Pl.Ty} (ho : Pl.okTy t) (hd : Pl.tyD t ≤ 8) {g : Pl.GV} {R : Int} (h : CkE 0 (some (st, en, sv)) (.node κ [] [Pl.emb t]) (wrapG g) R) :
    R = if 8 < Pl.tyD t + 1 then 42 else if kindM (fnd st en sv) (inmost t) = 8 then 41 else if 16 < 1 + deepV 16 [g] then 42 else valE st en (fnd st en sv) 15 t g := by
  rw [emb_wrap κ hκ] at h
  have hw := ok_wrap κ t ho
  have hdw := tyD_wrap κ t
  rcases h with ⟨h, _⟩ | ⟨_, hs, hR⟩ | ⟨_, st', en', sv', u, hD, hu, hou, hdu, hR⟩
  · exact absurd rfl h
  · by_cases h8 : 8 < Pl.tyD t + 1
    · rw [if_pos h8, hR, shape_deep _ hw (by omega) (by omega)]
      rfl
    · exact absurd (Pl.shape_emb _ hw (by omega)) hs
  · have e := emb_one _ _ hw hou hu
    subst e
    cases hD
    rw [if_neg (by omega), hR, inmost_wrap, deep_wrap, val_wrap st en _ 15 t _ (wrapT_or κ t)]
theorem ck_inner {st : List (List Nat × List Pl.Fld)} {en : List (List Nat × List Pl.Cas)} {sv : List (List Nat × List Pl.Mth)} {t : Pl.Ty} (ho : Pl.okTy t) (hd : Pl.tyD t ≤ 8) {g : Pl.GV} {R : Int} (h : CkE 0 (some (st, en, sv)) (Pl.emb t) g R) :
    R = if kindM (fnd st en sv) (inmost t) = 8 then 41 else if 16 < deepV 17 [g] then 42 else valE st en (fnd st en sv) 16 t g := by
  rcases h with ⟨h, _⟩ | ⟨_, hs, _⟩ | ⟨_, st', en', sv', u, hD, hu, hou, hdu, hR⟩
  · exact absurd rfl h
  · exact absurd (Pl.shape_emb t ho hd) hs
  · have e := emb_one _ _ ho hou hu
    subst e
    cases hD
    exact hR
theorem dv_in {g : Pl.GV} (h : ¬ 16 < 1 + deepV 16 [g]) : DV 15 g := by
  refine dv_of 15 15 g (Nat.le_refl _) ?_
  show deepV 16 [g] ≤ 15
  omega

theorem wrap_bad {κ : Int} (hκ : κ = 6 ∨ κ = 7) {E : Int} {D : Option Sc} {gt : Pl.GT} {g : Pl.GV} {R R' : Int} (h : CkE E D gt g R) (h0 : R ≠ 0) (h' : CkE E D (.node κ [] [gt]) (wrapG g) R') : R' ≠ 0 := by
  rcases h with ⟨hE, _⟩ | ⟨hE, hs, _⟩ | ⟨hE, st, en, sv, t, rfl, rfl, ho, hd, hR⟩
  · rcases h' with ⟨_, h⟩ | ⟨h, _⟩ | ⟨h, _⟩
    · rw [h]; exact hE
    · exact absurd h hE
    · exact absurd h hE
  · rcases h' with ⟨h, _⟩ | ⟨_, h, hR⟩ | ⟨_, _, _, _, u, _, hu, hou, hdu, _⟩
    · exact absurd hE h
    · rw [hR]; omega
    · refine absurd (shape_wrap κ hκ gt ?_) hs
      rw [hu]
      exact Pl.shape_emb u hou hdu
  · subst hE
    have h2 := ck_wrap hκ ho hd h'
    rw [h2]
    split
    · decide
    · split
      · decide
      · rename_i hk
        rw [if_neg hk] at hR
        split
        · decide
        · rename_i hdp
          have hdv := dv_in hdp
          have hle : deepV 17 [g] ≤ 16 := by
            have := deep_le 15 17 [g] (fun x hx => by rw [List.mem_singleton.1 hx]; exact hdv)
            omega
          rw [if_neg (by omega)] at hR
          rw [val_same st en _ 15 t g hdv, ← hR]
          exact h0

theorem wrap_good {E : Int} {D : Option Sc} {gt : Pl.GT} {g : Pl.GV} {R6 R7 : Int} (h : CkE E D gt g 0) (h6 : CkE E D (.node 6 [] [gt]) (wrapG g) R6) (h7 : CkE E D (.node 7 [] [gt]) (wrapG g) R7) : (∃ st en sv t, D = some (st, en, sv) ∧ E = 0 ∧ gt = Pl.emb t ∧ Pl.okTy t ∧ Pl.tyD t ≤ 8 ∧ kindM (fnd st en sv) (inmost t) ≠ 8 ∧ DV 16 g ∧ valE st en (fnd st en sv) 16 t g = 0) ∧ (R6 = 42 ∧ R7 = 42 ∨ R6 = 0 ∧ R7 = 0) := by
  rcases h with ⟨hE, h0⟩ | ⟨_, hs, h0⟩ | ⟨hE, st, en, sv, t, rfl, rfl, ho, hd, hR⟩
  · exact absurd h0.symm hE
  · omega
  · subst hE
    have e6 := ck_wrap (.inl rfl) ho hd h6
    have e7 := ck_wrap (.inr rfl) ho hd h7
    rw [← e7] at e6
    have hk : kindM (fnd st en sv) (inmost t) ≠ 8 := fun h => by rw [if_pos h] at hR; omega
    rw [if_neg hk] at hR e7
    have hdp : ¬ 16 < deepV 17 [g] := fun h => by rw [if_pos h] at hR; omega
    rw [if_neg hdp] at hR
    have hdv : DV 16 g := dv_of 16 16 g (Nat.le_refl _) (Nat.le_of_not_lt hdp)
    refine ⟨⟨st, en, sv, t, rfl, rfl, rfl, ho, hd, hk, hdv, hR.symm⟩, ?_⟩
    rw [e6, e7]
    split
    · exact .inl ⟨rfl, rfl⟩
    · split
      · exact .inl ⟨rfl, rfl⟩
      · rename_i h15
        rw [val_same st en _ 15 t g (dv_in h15), ← hR]
        exact .inr ⟨rfl, rfl⟩

theorem parts_zero (f : Nat → Pl.GV → Int) : ∀ (l : List Pl.GV) (j : Nat), partsV f j l = 0 → ∀ (i : Nat) (x : Pl.GV), l[i]? = some x → f (j + i) x = 0
  | [], _, _, i, x, h => by simp at h
  | y :: l, j, h0, i, x, h => by
    rw [partsV_cons] at h0
    split at h0
    · rename_i hy
      cases i with
      | zero => simp at h; subst h; exact hy
      | succ i =>
        have := parts_zero f l (j + 1) h0 i x (by simpa using h)
        rw [show j + (i + 1) = j + 1 + i by omega]
        exact this
    · rename_i hy
      exact absurd h0 hy
theorem own_len {st : List (List Nat × List Pl.Fld)} {en : List (List Nat × List Pl.Cas)} {sv : List (List Nat × List Pl.Mth)} (hC : Closed st en sv) {t : Pl.Ty} {g : Pl.GV} (h : ownE (kindM (fnd st en sv) t) (fldsM st (fnd st en sv) t) (cassM en (fnd st en sv) t) g = 0) : g.l.length ≤ 1000 := by
  have hf := flds_len hC t
  have hw := (own_zero h).1
  generalize fldsM st (fnd st en sv) t = fs at *
  generalize cassM en (fnd st en sv) t = cs at *
  generalize kindM (fnd st en sv) t = κ at *
  by_cases h6 : κ = 6
  · subst h6
    unfold ownE at h
    split at h
    · omega
    · rename_i hl
      unfold tooL at hl
      simp at hl
      omega
  · by_cases h7 : κ = 7
    · subst h7
      simp [wholeB] at hw
      omega
    · by_cases h9 : κ = 9
      · subst h9
        simp [wholeB] at hw
        omega
      · rw [own_leaf h (by omega)]
        simp
theorem DL_of {st : List (List Nat × List Pl.Fld)} {en : List (List Nat × List Pl.Cas)} {sv : List (List Nat × List Pl.Mth)} (hC : Closed st en sv) (n : Nat) : ∀ (t : Pl.Ty) (g : Pl.GV), DV n g → valE st en (fnd st en sv) n t g = 0 → DL n g := by
  induction n with
  | zero => intro t g h; exact h.elim
  | succ n ih =>
    intro t g hd hv
    rw [valE] at hv
    split at hv
    · rename_i h0
      refine ⟨own_len hC h0, fun x hx => ?_⟩
      obtain ⟨i, hi⟩ := List.getElem?_of_mem hx
      exact ih _ x (hd x hx) (parts_zero _ _ 0 hv i x hi)
    · rename_i h0
      exact absurd hv h0
end Go.Proofs.YtmiohekmpjiloaaGreatDoor

namespace Go.Proofs.YtmiohekmpjiloaaGreatDoor
open Go.RowKit
set_option maxRecDepth 20000

theorem own_cells {T : TypeId} {B g cap n : Nat} {w : World} {cs : List Value} (h : w.ownsRow B T 1 (.slice (some ⟨g, 0, none⟩) n cap) n cs) : n ≤ cap ∧ cap ≤ maxLen ∧ g < w.heap.size ∧ ∀ j u, cs[j]? = some u → w.cell? ⟨g, j, none⟩ = some u := by
  obtain ⟨h1, h2⟩ := h
  rcases h2 with ⟨h, _⟩ | ⟨g', cap', cur, hv, _, hg, hn, hc, hs, ht⟩
  · cases h
  · cases hv
    refine ⟨hn, hc, lt_of_some hg, fun j u hu => ?_⟩
    rw [cell_of_row w g j _ T (0, 0) hg]
    rw [← ht, List.getElem?_take] at hu
    split at hu
    · simpa using hu
    · cases hu
theorem own_less {T : TypeId} {B g cap n : Nat} {w : World} {cs ds : List Value} {d : Value} (h : w.ownsRow B T 1 (.slice (some ⟨g, 0, none⟩) (n + 1) cap) (n + 1) cs) (hc : cs = ds ++ [d]) : w.ownsRow B T 1 (.slice (some ⟨g, 0, none⟩) n cap) n ds := by
  subst hc
  obtain ⟨h1, h2⟩ := h
  have hl : ds.length = n := by simp at h1; omega
  rcases h2 with ⟨h, _⟩ | ⟨g', cap', cur, hv, hb, hg, hn, hcc, hs, ht⟩
  · cases h
  · cases hv
    refine ⟨by rw [hl]; omega, .inr ⟨g, cap, cur, rfl, hb, hg, by omega, hcc, hs, ?_⟩⟩
    have h3 := congrArg (List.take n) ht
    rw [List.take_take, show min n ((n + 1) * 1) = n by omega, List.take_append_of_le_length (by omega), List.take_of_length_le (l := ds) (by omega)] at h3
    rw [Nat.mul_one]
    exact h3
theorem ksum_snoc (ys : List (List Pl.GV)) (x : List Pl.GV) : ksum (ys ++ [x]) = ksum ys + gsum x := by simp [ksum]
theorem ksum_app (ys zs : List (List Pl.GV)) : ksum (ys ++ zs) = ksum ys + ksum zs := by simp [ksum]
theorem kids_len (l : List Pl.GV) : (kids l).length ≤ l.length := by
  unfold kids
  exact Nat.le_trans (List.length_filter_le _ _) (by simp)
theorem kids_pos {l : List Pl.GV} : ∀ x ∈ kids l, 0 < x.length := by
  intro x hx
  unfold kids at hx
  exact of_decide_eq_true (List.mem_filter.1 hx).2
/-- What is left to go over. -/
structure SizI (B : Nat) (W : Nat) (acc kk : Nat) (v : Value) (xs : List (List Pl.GV)) (wr : World) : Prop where
  rows : Rows 31 1 (KR B) W wr v xs
  len : kk = xs.length
  pos : ∀ x ∈ xs, 0 < x.length

set_option maxHeartbeats 16000000 in
theorem Size_any (B : Nat) (l : List Pl.GV) (b m cp n : Nat) (w : World) (hl0 : 0 < l.length ∧ l.length ≤ 1000) (hd : ∀ y ∈ l, DL n y) (h : VyS B (n + 1) l w (.slice (some ⟨b, 0, none⟩) m cp)) (hB : B ≤ w.heap.size) :
    Calls Tryz.prog 18 #[.slice (some ⟨b, 0, none⟩) m cp] w fun e w' => e = .returned (.int .i64 (min (gsum l) 1048576 : Nat)) ∧ Below w.heap.size w w' := by
  obtain ⟨TOT, hTOT⟩ : ∃ t, t = gsum l := ⟨_, rfl⟩
  rw [← hTOT]
  obtain ⟨RES, hRES⟩ : ∃ r : Int, r = ((min TOT 1048576 : Nat) : Int) := ⟨_, rfl⟩
  rw [← hRES]
  have HRES := hid hRES
  clear hRES
  obtain ⟨w1, hw1⟩ : ∃ w1, w1 = w.alloc (.cells #[.slice (some ⟨b, 0, none⟩) m cp] 31) := ⟨_, rfl⟩
  have hb1 : Below w.heap.size w w1 := by rw [hw1]; exact below_alloc w _
  have HI0 : Hid (SizI B w.heap.size 0 1 (.slice (some ⟨w.heap.size, 0, none⟩) 1 1) [l] w1) := by
    refine ⟨⟨[(l, [.slice (some ⟨b, 0, none⟩) m cp])], rfl, ?_, ?_⟩, rfl, fun x hx => by simp at hx; rw [hx]; exact hl0.1⟩
    · intro p hp
      simp at hp
      subst hp
      exact ⟨⟨_, _, _, n, rfl, VyS.bel (hb1.mono hB) _ _ _ h, hl0.2, hd⟩, rfl⟩
    · rw [hw1]
      exact ⟨rfl, .inr ⟨w.heap.size, 1, _, rfl, Nat.le_refl _, heap_alloc_new w _, Nat.le_refl _, by unfold maxLen; omega, rfl, rfl⟩⟩
  have HT0 : Hid (0 + ksum [l] = TOT) := by
    show _ = _
    rw [hTOT]
    simp [ksum]
  have HW1 := hid hw1
  have Hb1 := hid hb1
  obtain ⟨C, hC⟩ : ∃ C : Nat, C = 1048576 := ⟨_, rfl⟩
  have HC := hid hC
  clear hw1 hb1 hd h hTOT hl0 hC
  go_enter Tryz.func18, Tryz.ntmps18
  go_wp2_with fail
  rw [← HW1.out]
  go_loopw [3, 4] (fun nn le wr => ∃ (A : Int) (acc kk : Nat) (aa : Option Addr) (cc : Nat) (xs : List (List Pl.GV)), nn = .int .i64 A ∧ le = .slice aa kk cc ∧ Hid (A = (acc : Int) ∧ kk ≤ acc + 1) ∧ Hid (acc ≤ 9223372036854775807 ∧ SizI B w.heap.size acc kk (.slice aa kk cc) xs wr ∧ (acc + ksum xs = TOT ∨ 1048576 ≤ acc ∧ acc ≤ TOT)) ∧ Below w.heap.size w wr) (fun nn _ _ => C - (intOf nn).toNat)
  case atStart => exact ⟨0, 0, 1, _, _, [l], rfl, rfl, ⟨rfl, by omega⟩, ⟨by omega, HI0.out, .inl HT0.out⟩, Hb1.out⟩
  case round =>
    obtain ⟨A, acc, kk, aa, cc, xs, rfl, rfl, HAK, HI, hbw⟩ := hrel
    obtain ⟨hA, hkk⟩ := HAK.out
    have hacc := HI.out.1
    by_cases hk0 : 0 < kk
    · by_cases ha : acc < 1048576
      · obtain ⟨kk, rfl⟩ : ∃ k, kk = k + 1 := ⟨kk - 1, by omega⟩
        obtain ⟨ps, hps, hRp, hown⟩ := HI.out.2.1.rows
        have hpl : ps.length = kk + 1 := by
          have h1 := congrArg List.length hps
          rw [List.length_map, ← HI.out.2.1.len] at h1
          exact h1
        obtain ⟨qs, p, rfl⟩ : ∃ qs p, ps = qs ++ [p] := ⟨ps.dropLast, ps.getLast (by intro h0; rw [h0] at hpl; simp at hpl), (List.dropLast_concat_getLast _).symm⟩
        obtain ⟨x, pc⟩ := p
        have hql : qs.length = kk := by simpa using hpl
        obtain ⟨⟨xa, xm, xc, nx, hpc, hVx0, hx1k0, hDx0⟩, _⟩ := hRp (x, pc) (by simp)
        have hVx : VyS B (nx + 1) x wr (.slice xa xm xc) := hVx0
        have hx1k : x.length ≤ 1000 := hx1k0
        have hDx : ∀ y ∈ x, DL nx y := hDx0
        have hpc : pc = [.slice xa xm xc] := hpc
        subst hpc
        clear hVx0 hx1k0 hDx0
        obtain ⟨g, rfl, hgB⟩ : ∃ g, aa = some ⟨g, 0, none⟩ ∧ w.heap.size ≤ g := by
          rcases hown.2 with ⟨h, _⟩ | ⟨g, cap, cur, hv, hb, _⟩
          · injection h with _ h2 _
            omega
          · injection hv with h1 h2 h3
            exact ⟨g, h1, hb⟩
        rw [hpl] at hown
        obtain ⟨hcap, hcap2, hgl, hcells⟩ := own_cells hown
        have hfm : (qs ++ [(x, [Value.slice xa xm xc])]).flatMap Prod.snd = qs.flatMap Prod.snd ++ [Value.slice xa xm xc] := by simp
        rw [hfm] at hown hcells
        have hown2 := own_less hown rfl
        have hfl : (qs.flatMap Prod.snd).length = kk := by have := hown2.1; omega
        have d0 := hcells kk (.slice xa xm xc) (by rw [List.getElem?_append_right (by omega), hfl]; simp)
        have hxm : xm = x.length := hVx.len.1
        have hxpos : 0 < x.length := HI.out.2.1.pos x (by rw [← hps]; simp)
        have hxs : xs = qs.map Prod.fst ++ [x] := by rw [← hps]; simp
        have hTT : acc + ksum (qs.map Prod.fst) + gsum x = TOT := by
          rcases HI.out.2.2 with h | h
          · rw [hxs, ksum_snoc] at h; omega
          · omega
        have hpq : ∀ q ∈ qs, KR B q.1 q.2 wr ∧ q.2.length = 1 := fun q hq => hRp q (by simp [hq])
        have hposq : ∀ y ∈ qs.map Prod.fst, 0 < y.length := fun y hy => HI.out.2.1.pos y (by rw [hxs]; exact List.mem_append_left _ hy)
        have hgk := gsum_kids x
        have hxm1k : xm ≤ 1000 := by omega
        have haI : A < 1048576 := by omega
        have HVX := hid hVx
        have HDX := hid hDx
        have HOWN2 := hid hown2
        have HPQ := hid hpq
        have HPOS := hid hposq
        have HXM := hid hxm
        have HQL := hid hql
        have HTT := hid hTT
        have HGK := hid hgk
        have hszr : w.heap.size ≤ wr.heap.size := hbw.size
        have HBW := hid hbw
        have hxm2 : xm = x.length := hxm
        have hxmp : 0 < xm := by omega
        clear hps hRp hown hpl hql hcells hfm hown2 hfl hxm hxs hTT hpq hposq hgk hVx hDx hbw HI hxm2 hxpos
        have HAA := hid ha
        have HKK := hid hkk
        obtain ⟨K, hK⟩ : ∃ K, K = kk + 1 := ⟨_, rfl⟩
        rw [← hK]
        have hKI : (0 : Int) < (K : Int) := by omega
        have hK1 : (K : Int) - 1 = (kk : Int) := by omega
        have hK2 : (kk : Int) < (K : Int) := by omega
        have hK3 : kk < K := by omega
        have hK4 : kk ≤ cc := by omega
        have hK5 : (kk : Int) ≤ (cc : Int) := by omega
        have hKb : K ≤ 9223372036854775807 := by omega
        have hKb2 : (kk : Int) ≤ 9223372036854775807 := by omega
        have HwK : Hid (wrap64 ((K : Int) - 1) = (kk : Int)) := by show wrap64 _ = _; unfold wrap64; omega
        obtain ⟨S, hS⟩ : ∃ S : Int, S = A + (xm : Int) := ⟨_, rfl⟩
        have HwA : Hid (wrap64 (A + (xm : Int)) = S) := by show wrap64 _ = _; unfold wrap64; omega
        have HSS := hid hS
        have HAA2 := hid hA
        have HKQ := hid hK
        clear ha hkk hK hk0 hcap
        have HZ := hid (show w.heap.size ≤ wr.heap.size ∧ g < wr.heap.size ∧ w.heap.size ≤ g ∧ 0 < xm ∧ xm ≤ 1000 ∧ acc ≤ 9223372036854775807 ∧ K = kk + 1 ∧ cc ≤ maxLen ∧ x.length ≤ 1000 from ⟨hszr, hgl, hgB, hxmp, hxm1k, hacc, HKQ.out, hcap2, hx1k⟩)
        clear hszr hgl hgB hxmp hxm1k hacc hcap2 hx1k hKb hKb2 hK1
        by_cases hn : acc + xm < 1048576
        · have hSn : S < 1048576 := by omega
          have HNN := hid hn
          have HP := hid (parts_any B nx x HDX.out HZ.out.2.2.2.2.2.2.2.2 xa xm xc wr HVX.out (Nat.le_trans hB HZ.out.1))
          clear hn hS hA
          have hwK := HwK.out
          have hwA := HwA.out
          go_wp2_with fail
          refine HP.out.mono ?_
          rintro e w2 ⟨v, rfl, hRk, hb2⟩
          obtain ⟨va, vc, rfl⟩ := hRk.shape
          obtain ⟨ps2, hps2, hRp2, hown3⟩ := hRk
          have hpl2 : ps2.length = (kids x).length := by rw [← hps2, List.length_map]
          have hkl := kids_len x
          obtain ⟨z1, z2, z3, z4, z5, z6, z7, z8, z9⟩ := HZ.out
          have t1 := HSS.out
          have t2 := HAA2.out
          have t3 := HAA.out
          have t4 := HNN.out
          have t5 := HKK.out
          have t6 := HTT.out
          have t7 := HGK.out
          have t8 := HXM.out
          have t9 := HC.out
          obtain ⟨M, hM⟩ : ∃ M, M = (kids x).length := ⟨_, rfl⟩
          rw [← hM]
          rw [← hM] at hpl2 hkl
          rw [← hM, hpl2] at hown3
          have hbB : Below B wr w2 := hb2.mono (Nat.le_trans hB z1)
          have hcF : Ch (fun _ _ => False) wr w2 := Ch.below hb2
          have hown4 : w2.ownsRow w.heap.size 31 1 (.slice (some ⟨g, 0, none⟩) kk cc) kk (qs.flatMap Prod.snd) := own_ch HOWN2.out hcF (fun _ _ hx => hx)
          have hb3 := below_next HBW.out hb2
          have hTn : acc + xm + ksum (qs.map Prod.fst ++ kids x) = TOT := by rw [ksum_app]; omega
          have hposn : ∀ y ∈ qs.map Prod.fst ++ kids x, 0 < y.length := fun y hy => by
            rcases List.mem_append.1 hy with h | h
            · exact HPOS.out y h
            · exact kids_pos y h
          have hme : C - S.toNat < C - A.toNat := by omega
          have hSA : S = ((acc + xm : Nat) : Int) := by omega
          by_cases hM0 : M = 0
          · subst hM0
            have hk0' : kids x = [] := List.eq_nil_of_length_eq_zero hM.symm
            rw [hk0', List.append_nil] at hTn hposn
            have hrows : Rows 31 1 (KR B) w.heap.size w2 (.slice (some ⟨g, 0, none⟩) kk cc) (qs.map Prod.fst) := ⟨qs, rfl, fun q hq => ⟨KR.bel hbB _ _ (HPQ.out q hq).1, (HPQ.out q hq).2⟩, by rw [HQL.out]; exact hown4⟩
            have HFIN : Hid ((∃ (A : Int) (acc kk' : Nat) (aa : Option Addr) (cc' : Nat) (xs : List (List Pl.GV)), Value.int .i64 S = .int .i64 A ∧ Value.slice (some ⟨g, 0, none⟩) kk cc = .slice aa kk' cc' ∧ Hid (A = (acc : Int) ∧ kk' ≤ acc + 1) ∧ Hid (acc ≤ 9223372036854775807 ∧ SizI B w.heap.size acc kk' (.slice aa kk' cc') xs w2 ∧ (acc + ksum xs = TOT ∨ 1048576 ≤ acc ∧ acc ≤ TOT)) ∧ Below w.heap.size w w2) ∧ C - S.toNat < C - A.toNat) := ⟨⟨S, acc + xm, kk, _, _, qs.map Prod.fst, rfl, rfl, ⟨hSA, by omega⟩, ⟨by omega, ⟨hrows, by rw [List.length_map, HQL.out], hposn⟩, .inl hTn⟩, hb3⟩, hme⟩
            have hva : (va = none ∧ vc = 0) ∨ ∃ q, va = some ⟨q, 0, none⟩ := by
              rcases hown3.2 with ⟨h, h0⟩ | ⟨q, cap, cur, hv, _, _⟩
              · injection h with h1 _ h3
                exact .inl ⟨h1, h3⟩
              · injection hv with h1 _ _
                exact .inr ⟨q, h1⟩
            clear hps2 hRp2 hown3 hpl2 hkl z1 z2 z3 z4 z5 z6 z7 z8 z9 t1 t2 t3 t4 t5 t6 t7 t8 t9 hM hbB hcF hown4 hb3 hTn hposn hme hSA hrows hk0' hb2
            rcases hva with ⟨rfl, rfl⟩ | ⟨q, rfl⟩
            · go_wp2
              exact HFIN.out
            · go_wp2
              exact HFIN.out
          · obtain ⟨q, hva, hq2⟩ : ∃ q, va = some ⟨q, 0, none⟩ ∧ True := by
              rcases hown3.2 with ⟨h, h0⟩ | ⟨q, cap, cur, hv, _, _⟩
              · exact absurd h0 hM0
              · injection hv with h1 _ _
                exact ⟨q, h1, trivial⟩
            subst hva
            obtain ⟨_, _, hql, hcells2⟩ := own_cells hown3
            have hfl2 : (ps2.flatMap Prod.snd).length = M := by have := hown3.1; omega
            have hone : ∀ u ∈ ps2.flatMap Prod.snd, u.oneCell' = true := by
              intro u hu
              obtain ⟨p, hp, hpu⟩ := List.mem_flatMap.1 hu
              obtain ⟨⟨a, m, c, n, h1, _⟩, _⟩ := hRp2 p hp
              rw [h1] at hpu
              rw [List.mem_singleton.1 hpu]
              rfl
            have hadd : ∀ j u, (ps2.flatMap Prod.snd)[j]? = some u → w2.cell? ((⟨q, 0, none⟩ : Addr).add j) = some u := by
              intro j u hu
              have e : (⟨q, 0, none⟩ : Addr).add j = ⟨q, j, none⟩ := by unfold Addr.add; split <;> simp_all
              rw [e]
              exact hcells2 j u hu
            obtain ⟨i0, hi0, hz0, hz1, hz2⟩ := info_parts infoS
            have hMp : 0 < M := by omega
            have hml : kk + M ≤ maxLen := by unfold maxLen; omega
            have hmb : (kk + M) * 24 ≤ 140737488355328 := by omega
            have hms : w.heap.size ≤ w2.heap.size := Nat.le_trans z1 hb2.size
            have hlm : (ps2.flatMap Prod.snd).length = M * 1 := by omega
            have hrowne : ∀ j, (Value.slice (some ⟨g, 0, none⟩) kk cc).ownBlock = some j → w.heap.size ≤ j := fun j hj => (own_block hown4 hj).1
            have HFIN : Hid (∀ (gn capn : Nat) (w9 : World), w9.ownsRow w.heap.size 31 1 (.slice (some ⟨gn, 0, none⟩) (kk + M) capn) (kk + M) (qs.flatMap Prod.snd ++ ps2.flatMap Prod.snd) → w2.grownBy w9 (Value.slice (some ⟨g, 0, none⟩) kk cc).ownBlock → ((∃ (A : Int) (acc kk' : Nat) (aa : Option Addr) (cc' : Nat) (xs : List (List Pl.GV)), Value.int .i64 S = .int .i64 A ∧ Value.slice (some ⟨gn, 0, none⟩) (kk + M) capn = .slice aa kk' cc' ∧ Hid (A = (acc : Int) ∧ kk' ≤ acc + 1) ∧ Hid (acc ≤ 9223372036854775807 ∧ SizI B w.heap.size acc kk' (.slice aa kk' cc') xs w9 ∧ (acc + ksum xs = TOT ∨ 1048576 ≤ acc ∧ acc ≤ TOT)) ∧ Below w.heap.size w w9) ∧ C - S.toNat < C - A.toNat)) := by
              intro gn capn w9 ho9 hg9
              have hb9 : Below w.heap.size w w9 := hb3.grown hg9 hms hrowne
              have hb29 : Below w.heap.size w2 w9 := (Below.refl _ w2).grown hg9 hms hrowne
              have hrows : Rows 31 1 (KR B) w.heap.size w9 (.slice (some ⟨gn, 0, none⟩) (kk + M) capn) (qs.map Prod.fst ++ kids x) := by
                refine ⟨qs ++ ps2, by rw [List.map_append, hps2], fun p hp => ?_, ?_⟩
                · rcases List.mem_append.1 hp with h | h
                  · exact ⟨KR.bel (hb29.mono hB) _ _ (KR.bel hbB _ _ (HPQ.out p h).1), (HPQ.out p h).2⟩
                  · exact ⟨KR.bel (hb29.mono hB) _ _ (hRp2 p h).1, (hRp2 p h).2⟩
                · rw [List.length_append, HQL.out, hpl2, List.flatMap_append]
                  exact ho9
              exact ⟨⟨S, acc + xm, kk + M, _, _, qs.map Prod.fst ++ kids x, rfl, rfl, ⟨hSA, by omega⟩, ⟨by omega, ⟨hrows, by rw [List.length_append, List.length_map, HQL.out, ← hM], hposn⟩, .inl hTn⟩, hb9⟩, hme⟩
            have HO4 := hid hown4
            have HAD := hid hadd
            have HON := hid hone
            clear hps2 hRp2 hown3 hpl2 hkl z1 z2 z3 z4 z5 z6 z7 z8 z9 t1 t2 t3 t4 t5 t6 t7 t8 t9 hM hbB hcF hb3 hTn hposn hme hSA hb2 hql hcells2 hfl2 hrowne hown4 hadd hone hM0
            go_wp2_with (at_builtin; refine wpList_append_lies _ rfl (.tmp 32) (.tmp 34) 73 rfl w.heap.size 31 i0 _ 1 24 Tryz.underlying73 hi0 hz0 hz1 hz2 rfl (by decide) (.slice (some ⟨g, 0, none⟩) kk cc) kk (qs.flatMap Prod.snd) rfl HO4.out ⟨q, 0, none⟩ M vc (ps2.flatMap Prod.snd) rfl hlm HAD.out HON.out hMp hml hmb hms _ rfl ?_; intro gn capn w9 hown9 hgr9 hat9 hlt9)
            exact HFIN.out gn capn w9 hown9 hgr9
        · have hSn : ¬ S < 1048576 := by omega
          have HNN := hid hn
          clear hn hS hA
          have hwK := HwK.out
          have hwA := HwA.out
          go_wp2_with fail
          clear hwK hwA
          rw [HwA.out]
          obtain ⟨z1, z2, z3, z4, z5, z6, z7, z8, z9⟩ := HZ.out
          have t1 := HSS.out
          have t2 := HAA2.out
          have t3 := HAA.out
          have t4 := HNN.out
          have t5 := HKK.out
          have t6 := HTT.out
          have t7 := HGK.out
          have t8 := HXM.out
          have t9 := HC.out
          have hrows : Rows 31 1 (KR B) w.heap.size wr (.slice (some ⟨g, 0, none⟩) kk cc) (qs.map Prod.fst) := ⟨qs, rfl, HPQ.out, by rw [HQL.out]; exact HOWN2.out⟩
          refine ⟨⟨S, acc + xm, kk, _, _, qs.map Prod.fst, rfl, rfl, ⟨by omega, by omega⟩, ⟨by omega, ⟨hrows, by rw [List.length_map, HQL.out], HPOS.out⟩, .inr ⟨by omega, by omega⟩⟩, HBW.out⟩, ?_⟩
          simp only [intOf]
          omega
      · have haI : ¬ A < 1048576 := by omega
        have hKI : (0 : Int) < (kk : Int) := by omega
        have hR1 : RES = 1048576 := by
          rw [HRES.out]
          rcases HI.out.2.2 with h | h
          · have : min TOT 1048576 = 1048576 := by omega
            rw [this]
            rfl
          · have : min TOT 1048576 = 1048576 := by omega
            rw [this]
            rfl
        subst hR1
        have hmin : min A 1048576 = 1048576 := by omega
        have HBW := hid hbw
        clear hbw HI ha hacc hkk hA HAK HRES
        go_wp2_with fail
        go_ret
        exact ⟨rfl, HBW.out⟩
    · obtain rfl : kk = 0 := by omega
      have hx0 : xs = [] := List.eq_nil_of_length_eq_zero HI.out.2.1.len.symm
      have hAT : A = (TOT : Int) ∨ 1048576 ≤ A ∧ A ≤ TOT := by
        rcases HI.out.2.2 with h | h
        · rw [hx0] at h
          simp [ksum] at h
          omega
        · exact .inr (by omega)
      obtain ⟨Z, hZ⟩ : ∃ Z, Z = min A 1048576 := ⟨_, rfl⟩
      have hR1 : RES = Z := by
        rw [HRES.out, hZ]
        have e : ((min TOT 1048576 : Nat) : Int) = min (TOT : Int) 1048576 := by omega
        rw [e]
        omega
      subst hR1
      have HBW := hid hbw
      have HZ := hid hZ
      by_cases ha : A < 1048576
      · have hmin : min A 1048576 = A := by omega
        obtain rfl : RES = A := by rw [hZ, hmin]
        clear hbw HI hacc hkk hA HAK HRES hZ hAT hx0
        go_wp2_with fail
        go_ret
        exact ⟨rfl, HBW.out⟩
      · have hmin : min A 1048576 = 1048576 := by omega
        obtain rfl : RES = 1048576 := by rw [hZ, hmin]
        clear hbw HI hacc hkk hA HAK HRES hZ hAT hx0 HZ
        go_wp2_with fail
        go_ret
        exact ⟨rfl, HBW.out⟩
end Go.Proofs.YtmiohekmpjiloaaGreatDoor

namespace Go.Proofs.YtmiohekmpjiloaaGreatDoor
open Go.RowKit
set_option maxRecDepth 20000

theorem CkE.det {E : Int} {D : Option Sc} {gt : Pl.GT} {g : Pl.GV} {R R' : Int} (h : CkE E D gt g R) (h' : CkE E D gt g R') : R = R' := by
  rcases h with ⟨h1, h2⟩ | ⟨h1, h2, h3⟩ | ⟨h1, st, en, sv, t, h3, h4, h5, h6, h7⟩ <;> rcases h' with ⟨k1, k2⟩ | ⟨k1, k2, k3⟩ | ⟨k1, st', en', sv', t', k3, k4, k5, k6, k7⟩
  · omega
  · omega
  · omega
  · omega
  · omega
  · exact absurd (by rw [k4]; exact Pl.shape_emb t' k5 k6) h2
  · omega
  · exact absurd (by rw [h4]; exact Pl.shape_emb t h5 h6) k2
  · rw [h3] at k3
    injection k3 with k3
    injection k3 with q1 k3
    injection k3 with q2 q3
    subst q1 q2 q3
    rw [h4] at k4
    have := emb_one _ _ h5 k5 k4
    subst this
    rw [h7, k7]
theorem ck_ex {w : World} {s1 s2 s3 : Value} {E : Int} {D : Option Sc} (hS : ScOk w s1 s2 s3 E D) (gt : Pl.GT) (g : Pl.GV) : ∃ R, CkE E D gt g R := by
  by_cases hE : E = 0
  · by_cases hsh : Pl.shapeP gt = 0
    · obtain ⟨t, rfl, ho, hd⟩ := Pl.shape_of gt hsh
      match D, hS with
      | none, hS => obtain ⟨_, _, _, er, _, _, _, hne, he⟩ := hS; exact absurd (he.symm.trans hE) (by omega)
      | some (st, en, sv), hS => exact ⟨_, .inr (.inr ⟨hE, st, en, sv, t, rfl, rfl, ho, hd, rfl⟩)⟩
    · exact ⟨_, .inr (.inl ⟨hE, hsh, rfl⟩)⟩
  · exact ⟨_, .inl ⟨hE, rfl⟩⟩
theorem Check_is {E : Int} {D : Option Sc} {gt : Pl.GT} {g : Pl.GV} {R : Int} (hR : CkE E D gt g R) (B : Nat) (s1 s2 s3 : Value) (k : Int) (s : ByteArray) (ao : Option Addr) (mo co : Nat) (a1 : Option Addr) (m1 c1 : Nat) (w : World) (hS : ScOk w s1 s2 s3 E D) (ht : Tab w.heap.size w) (hL : Ly w.heap.size 99 gt w (.int .i64 k) (.string s) (.slice ao mo co)) (hV : VyS B 65552 g.l w (.slice a1 m1 c1)) (hB : B ≤ w.heap.size) :
    Calls Tryz.prog 20 #[.agg #[s1, s2, s3], .agg #[.int .i64 k, .string s, .slice ao mo co], .agg #[.int .i64 g.i, .int .u64 g.u, .string g.t, .slice a1 m1 c1]] w fun e w' => e = .returned (.int .i64 R) ∧ Below w.heap.size w w' := by
  refine (Check_value E D gt B g s1 s2 s3 k s ao mo co a1 m1 c1 w hS ht hL hV hB).mono ?_
  rintro e w' ⟨R', h1, h2, h3⟩
  rw [hR.det h1]
  exact ⟨h2, h3⟩
theorem four_new (w : World) (A B C D : List Value) (T : TypeId) : Below w.heap.size w ((((w.alloc (.cells A.toArray T)).alloc (.cells B.toArray T)).alloc (.cells C.toArray T)).alloc (.cells D.toArray T)).drew ∧
    Bx ((((w.alloc (.cells A.toArray T)).alloc (.cells B.toArray T)).alloc (.cells C.toArray T)).alloc (.cells D.toArray T)).drew w.heap.size A T ∧
    Bx ((((w.alloc (.cells A.toArray T)).alloc (.cells B.toArray T)).alloc (.cells C.toArray T)).alloc (.cells D.toArray T)).drew (w.heap.size + 1) B T ∧
    Bx ((((w.alloc (.cells A.toArray T)).alloc (.cells B.toArray T)).alloc (.cells C.toArray T)).alloc (.cells D.toArray T)).drew (w.heap.size + 1 + 1) C T ∧
    Bx ((((w.alloc (.cells A.toArray T)).alloc (.cells B.toArray T)).alloc (.cells C.toArray T)).alloc (.cells D.toArray T)).drew (w.heap.size + 1 + 1 + 1) D T := by
  have hA : Bx (w.alloc (.cells A.toArray T)) w.heap.size A T := Bx.new w _ _
  have hB : Bx ((w.alloc (.cells A.toArray T)).alloc (.cells B.toArray T)) (w.heap.size + 1) B T := Bx.newAt (by simp) _ _
  have hC : Bx (((w.alloc (.cells A.toArray T)).alloc (.cells B.toArray T)).alloc (.cells C.toArray T)) (w.heap.size + 1 + 1) C T := Bx.newAt (by simp) _ _
  have hD : Bx ((((w.alloc (.cells A.toArray T)).alloc (.cells B.toArray T)).alloc (.cells C.toArray T)).alloc (.cells D.toArray T)) (w.heap.size + 1 + 1 + 1) D T := Bx.newAt (by simp) _ _
  have b1 := below_alloc w (.cells A.toArray T)
  have b2 := below_alloc (w.alloc (.cells A.toArray T)) (.cells B.toArray T)
  have b3 := below_alloc ((w.alloc (.cells A.toArray T)).alloc (.cells B.toArray T)) (.cells C.toArray T)
  have b4 := below_alloc (((w.alloc (.cells A.toArray T)).alloc (.cells B.toArray T)).alloc (.cells C.toArray T)) (.cells D.toArray T)
  have b5 := (Below.refl ((((w.alloc (.cells A.toArray T)).alloc (.cells B.toArray T)).alloc (.cells C.toArray T)).alloc (.cells D.toArray T)).heap.size ((((w.alloc (.cells A.toArray T)).alloc (.cells B.toArray T)).alloc (.cells C.toArray T)).alloc (.cells D.toArray T))).drew
  exact ⟨below_next (below_next (below_next (below_next b1 b2) b3) b4) b5, (((hA.below b2).below b3).below b4).below b5, ((hB.below b3).below b4).below b5, (hC.below b4).below b5, hD.below b5⟩
theorem VyS.le {B m n : Nat} (h : m ≤ n) : ∀ (l : List Pl.GV) (w : World) (v : Value), VyS B n l w v → VyS B m l w v := by
  obtain ⟨d, rfl⟩ := Nat.exists_eq_add_of_le h
  clear h
  induction d with
  | zero => intro l w v h; exact h
  | succ d ih => intro l w v h; exact ih l w v (VyS.less _ _ _ _ h)
theorem run_min {P : Program} {o : Oper} {a : Act} {T : TypeId} {c z r : Int} {s : Nat} (hop : o.op = .call { callee := .builtin .min, args := #[.const (.int .i64 c), .tmp s], argTypes := #[T, T] }) (hx : a.eval (.tmp s) = .int .i64 z) (hr : r = if c ≤ z then c else z) (w : World) : (execOp a.eval o).run P w = .ok (.value (.int .i64 r)) w := by
  subst hr
  by_cases hc : c ≤ z
  · simp [execOp, hop, hx, resolve, hc]
    go_simp
    omega
  · simp [execOp, hop, hx, resolve, hc]
    go_simp
    omega
end Go.Proofs.YtmiohekmpjiloaaGreatDoor

namespace Go.Proofs.YtmiohekmpjiloaaGreatDoor
open Go.RowKit
set_option maxRecDepth 20000

set_option maxHeartbeats 16000000 in
theorem wraps_walk (E : Int) (D : Option Sc) (gt : Pl.GT) (B : Nat) (g : Pl.GV) (s1 s2 s3 : Value) (k : Int) (s : ByteArray) (ao : Option Addr) (mo co : Nat) (og : Value) (w : World) (hS : ScOk w s1 s2 s3 E D) (ht : Tab w.heap.size w) (hL : Ly w.heap.size 99 gt w (.int .i64 k) (.string s) (.slice ao mo co)) (hV : VyS B 65552 g.l w og) (hB : B ≤ w.heap.size) :
    Calls Tryz.prog 7 #[.agg #[s1, s2, s3], .agg #[.int .i64 k, .string s, .slice ao mo co], gvA g og] w fun e w' => e = .returned (.bool true) ∧ Below w.heap.size w w' := by
  obtain ⟨a1, m1, c1, rfl⟩ := hV.shape
  obtain ⟨d1, l1, n1, d2, l2, n2, d3, l3, n3, rfl, rfl, rfl⟩ := hS.shape
  unfold gvA
  obtain ⟨R, hR⟩ := ck_ex hS gt g
  obtain ⟨w3, hw3⟩ : ∃ w3, w3 = ((w.alloc (.cells #[.slice d1 l1 n1, .slice d2 l2 n2, .slice d3 l3 n3] 26)).alloc (.cells #[.int .i64 k, .string s, .slice ao mo co] 29)).alloc (.cells #[.int .i64 g.i, .int .u64 g.u, .string g.t, .slice a1 m1 c1] 33) := ⟨_, rfl⟩
  have hb3 : Below w.heap.size w w3 := by rw [hw3]; exact below_next (below_next (below_alloc w _) (below_alloc _ _)) (below_alloc _ _)
  have hBa : Bx w3 w.heap.size [.slice d1 l1 n1, .slice d2 l2 n2, .slice d3 l3 n3] 26 := by rw [hw3]; exact ((Bx.new w _ _).below (below_alloc _ _)).below (below_alloc _ _)
  have hBb : Bx w3 (w.heap.size + 1) [.int .i64 k, .string s, .slice ao mo co] 29 := by rw [hw3]; exact (Bx.newAt (by simp) _ _).below (below_alloc _ _)
  have hBc : Bx w3 (w.heap.size + 1 + 1) [.int .i64 g.i, .int .u64 g.u, .string g.t, .slice a1 m1 c1] 33 := by rw [hw3]; exact Bx.newAt (by simp) _ _
  have hS3 := hS.below hb3
  have ht3 := (ht.below hb3).up2 hb3.size
  have hL3 := (hL.bel hb3).mono hb3.size
  have hV3 := VyS.bel (hb3.mono hB) _ _ _ hV
  have hB3 := Nat.le_trans hB hb3.size
  have HAL := hid (alive7_any w3 ht3)
  have HC := hid (fun W (hW : Below w3.heap.size w3 W) => Check_is hR B _ _ _ k s ao mo co a1 m1 c1 W (hS3.below hW) ((ht3.below hW).up2 hW.size) ((hL3.bel hW).mono hW.size) (VyS.bel (hW.mono hB3) _ _ _ hV3) (Nat.le_trans hB3 hW.size))
  have HW3 := hid hw3
  have HB3 := hid hb3
  have HBA := hid hBa
  have HBB := hid hBb
  have HBC := hid hBc
  have HR := hid hR
  have HS3 := hid hS3
  have HT3 := hid ht3
  have HL3 := hid hL3
  have HV3 := hid hV3
  have HBL := hid hB3
  clear hw3 hb3 hBa hBb hBc hR hS3 ht3 hL3 hV3 hB3 hS ht hL hV hB
  go_enter Tryz.func7, Tryz.ntmps7
  go_wp2_with fail
  rw [← HW3.out]
  refine HAL.out.mono ?_
  rintro e w4 ⟨rfl, hb4⟩
  have HB4 := hid hb4
  have p0 := (HBA.out.below hb4).cell 0 rfl
  have p1 := (HBA.out.below hb4).cell 1 rfl
  have p2 := (HBA.out.below hb4).cell 2 rfl
  have q0 := (HBB.out.below hb4).cell 0 rfl
  have q1 := (HBB.out.below hb4).cell 1 rfl
  have q2 := (HBB.out.below hb4).cell 2 rfl
  have r0 := (HBC.out.below hb4).cell 0 rfl
  have r1 := (HBC.out.below hb4).cell 1 rfl
  have r2 := (HBC.out.below hb4).cell 2 rfl
  have r3 := (HBC.out.below hb4).cell 3 rfl
  clear hb4 HAL
  go_wp2_with fail
  refine (HC.out _ HB4.out).mono ?_
  rintro e w5 ⟨rfl, hb5⟩
  have hb5' := below_next HB4.out hb5
  have HB5 := hid hb5'
  clear p0 p1 p2 q0 q1 q2 r0 r1 r2 r3
  have r0 := (HBC.out.below hb5').cell 0 rfl
  have r1 := (HBC.out.below hb5').cell 1 rfl
  have r2 := (HBC.out.below hb5').cell 2 rfl
  have r3 := (HBC.out.below hb5').cell 3 rfl
  clear hb5 hb5' HB4 HC
  go_wp2_with fail
  obtain ⟨w7, hw7⟩ : ∃ w7, w7 = (w5.alloc (.cells #[.int .i64 g.i, .int .u64 g.u, .string g.t, .slice a1 m1 c1] 33)).alloc (.cells #[.int .i64 0, .int .u64 0, .string ⟨#[]⟩, .slice (some ⟨w5.heap.size, 0, none⟩) 1 1] 33) := ⟨_, rfl⟩
  rw [← hw7]
  have hb7 : Below w5.heap.size w5 w7 := by rw [hw7]; exact below_next (below_alloc _ _) (below_alloc _ _)
  have HBQ : Hid (Bx w7 w5.heap.size [.int .i64 g.i, .int .u64 g.u, .string g.t, .slice a1 m1 c1] 33) := hid (by rw [hw7]; exact (Bx.new w5 _ _).below (below_alloc _ _))
  have HBW : Hid (Bx w7 (w5.heap.size + 1) [.int .i64 0, .int .u64 0, .string ⟨#[]⟩, .slice (some ⟨w5.heap.size, 0, none⟩) 1 1] 33) := hid (by rw [hw7]; exact Bx.newAt (by simp) _ _)
  have hb7' := below_next HB5.out hb7
  have HB7 := hid hb7'
  have q0 := (HBB.out.below hb7').cell 0 rfl
  have q1 := (HBB.out.below hb7').cell 1 rfl
  have q2 := (HBB.out.below hb7').cell 2 rfl
  have hltq := (HBB.out.below hb7').lt
  clear hb7 hb7' hw7 r0 r1 r2 r3
  have HLT := hid HBW.out.lt
  generalize w5.heap.size = n5 at *
  clear HB5
  go_cut [9, 10] (fun p9 p10 wx => ∃ b9 b10 q9 q10, p9 = .pointer (some ⟨b9, 0, none⟩) ∧ p10 = .pointer (some ⟨b10, 0, none⟩) ∧ Below w7.heap.size w7 wx ∧ Bx wx b9 [.int .i64 6, .string ⟨#[]⟩, .slice (some ⟨q9, 0, none⟩) 1 1] 29 ∧ Bx wx b10 [.int .i64 7, .string ⟨#[]⟩, .slice (some ⟨q10, 0, none⟩) 1 1] 29 ∧ Bx wx q9 [.int .i64 k, .string s, .slice ao mo co] 29 ∧ Bx wx q10 [.int .i64 k, .string s, .slice ao mo co] 29)
  case first =>
    clear HW3 HB3 HBA HBB HBC HR HS3 HT3 HL3 HV3 HBL HBQ HBW HB7 HLT
    have h1 : w.heap.size + 1 < w7.heap.size + 1 := by omega
    have h2 : w.heap.size + 1 < w7.heap.size + 1 + 1 := by omega
    have h3 : w.heap.size + 1 < w7.heap.size + 1 + 1 + 1 := by omega
    go_region
    all_goals (
      go_wp2_with fail
      go_meet
      refine ⟨_, _, ?_, ?_, rfl, rfl, (four_new w7 _ _ _ _ _).1, ?_, ?_, ?_, ?_⟩
      rotate_left 2
      iterate 4 (first | exact (four_new w7 _ _ _ _ _).2.1 | exact (four_new w7 _ _ _ _ _).2.2.1 | exact (four_new w7 _ _ _ _ _).2.2.2.1 | exact (four_new w7 _ _ _ _ _).2.2.2.2))
  case rest =>
    obtain ⟨b9, b10, q9, q10, rfl, rfl, hb8, hB9, hB10, hQ9, hQ10⟩ := hcut
    generalize wc = w8 at *
    have h38 := below_next HB7.out hb8
    have hS8 := HS3.out.below h38
    have ht8 := (HT3.out.below h38).up2 h38.size
    have hL8 := (HL3.out.bel h38).mono h38.size
    have hL98 : Ly w8.heap.size 98 gt w8 (.int .i64 k) (.string s) (.slice ao mo co) := ⟨hL8.1, hL8.2.1, LyS.less _ _ _ _ hL8.2.2⟩
    have hB8 := Nat.le_trans HBL.out h38.size
    have hV8 := VyS.mono hB8 _ _ _ _ (VyS.bel (h38.mono HBL.out) _ _ _ HV3.out)
    have hQ8 := HBQ.out.below hb8
    have hW8 := HBW.out.below hb8
    have hL6 : Ly w8.heap.size 99 (.node 6 [] [gt]) w8 (.int .i64 6) (.string ⟨#[]⟩) (.slice (some ⟨q9, 0, none⟩) 1 1) := ⟨rfl, ⟨_, rfl, rfl, by decide⟩, LyS.one hL98 hQ9.lt hQ9⟩
    have hL7 : Ly w8.heap.size 99 (.node 7 [] [gt]) w8 (.int .i64 7) (.string ⟨#[]⟩) (.slice (some ⟨q10, 0, none⟩) 1 1) := ⟨rfl, ⟨_, rfl, rfl, by decide⟩, LyS.one hL98 hQ10.lt hQ10⟩
    have hVw : VyS w8.heap.size 65552 (wrapG g).l w8 (.slice (some ⟨n5, 0, none⟩) 1 1) := VyS.one (VyS.less _ _ _ _ hV8) hQ8.lt hQ8
    obtain ⟨R6, hR6⟩ := ck_ex hS8 (.node 6 [] [gt]) (wrapG g)
    obtain ⟨R7, hR7⟩ := ck_ex hS8 (.node 7 [] [gt]) (wrapG g)
    have HC6 : Hid (∀ W, Below w8.heap.size w8 W → Calls Tryz.prog 20 #[.agg #[.slice d1 l1 n1, .slice d2 l2 n2, .slice d3 l3 n3], .agg #[.int .i64 6, .string ⟨#[]⟩, .slice (some ⟨q9, 0, none⟩) 1 1], .agg #[.int .i64 0, .int .u64 0, .string ⟨#[]⟩, .slice (some ⟨n5, 0, none⟩) 1 1]] W fun e w' => e = .returned (.int .i64 R6) ∧ Below W.heap.size W w') := hid (fun W hW => Check_is hR6 w8.heap.size _ _ _ 6 _ _ _ _ _ _ _ W (hS8.below hW) ((ht8.below hW).up2 hW.size) ((hL6.bel hW).mono hW.size) (VyS.bel hW _ _ _ hVw) hW.size)
    have HC7 : Hid (∀ W, Below w8.heap.size w8 W → Calls Tryz.prog 20 #[.agg #[.slice d1 l1 n1, .slice d2 l2 n2, .slice d3 l3 n3], .agg #[.int .i64 7, .string ⟨#[]⟩, .slice (some ⟨q10, 0, none⟩) 1 1], .agg #[.int .i64 0, .int .u64 0, .string ⟨#[]⟩, .slice (some ⟨n5, 0, none⟩) 1 1]] W fun e w' => e = .returned (.int .i64 R7) ∧ Below W.heap.size W w') := hid (fun W hW => Check_is hR7 w8.heap.size _ _ _ 7 _ _ _ _ _ _ _ W (hS8.below hW) ((ht8.below hW).up2 hW.size) ((hL7.bel hW).mono hW.size) (VyS.bel hW _ _ _ hVw) hW.size)
    have HR6 := hid hR6
    have HR7 := hid hR7
    have HB8 := hid (below_next HB3.out h38)
    have HS8 := hid (HBA.out.below h38)
    have HT9 := hid hB9
    have HT10 := hid hB10
    have HV8 := hid (HBC.out.below h38)
    have HW8 := hid hW8
    have HVV := hid hV8
    have HVW := hid hVw
    have HSC := hid hS8
    have HNM := hid (num7_any R w8)
    clear h38 hb8 hS8 ht8 hL8 hL98 hB8 hV8 hQ8 hW8 hL6 hL7 hVw hR6 hR7 hB9 hB10 hQ9 hQ10 HW3 HB3 HBA HBB HBC HS3 HT3 HL3 HV3 HBL HBQ HBW HLT HB7 hltq q0 q1 q2
    have g0 := HS8.out.cell 0 rfl
    have g1 := HS8.out.cell 1 rfl
    have g2 := HS8.out.cell 2 rfl
    have t0 := HT9.out.cell 0 rfl
    have t1 := HT9.out.cell 1 rfl
    have t2 := HT9.out.cell 2 rfl
    have v0 := HW8.out.cell 0 rfl
    have v1 := HW8.out.cell 1 rfl
    have v2 := HW8.out.cell 2 rfl
    have v3 := HW8.out.cell 3 rfl
    by_cases h0 : R = 0
    · subst h0
      obtain ⟨⟨st, en, sv, t, hD, hE, hgt, ho, hd, hk, hdv, hval⟩, h67⟩ := wrap_good HR.out HR6.out HR7.out
      subst hD hE hgt
      have hC : Closed st en sv := closed_of HSC.out.2.2.2.2.symm HSC.out.2.2.1 HSC.out.2.2.2.1
      have HDL := hid (DL_of hC 16 t g hdv hval)
      have HDV := hid hdv
      clear hval hC hdv ho hd hk HR HR6 HR7
      go_wp2_with fail
      refine HNM.out.mono ?_
      rintro e w9 ⟨rfl, rfl⟩
      clear HNM
      go_wp2_with fail
      obtain ⟨val, hval⟩ : ∃ val : Nat → Value, val = fun jx => match jx with | 0 => .agg #[.slice d1 l1 n1, .slice d2 l2 n2, .slice d3 l3 n3] | 1 => .agg #[.int .i64 6, .string ⟨#[]⟩, .slice (some ⟨q9, 0, none⟩) 1 1] | 2 => .agg #[.int .i64 0, .int .u64 0, .string ⟨#[]⟩, .slice (some ⟨n5, 0, none⟩) 1 1] | 3 => .int .i64 R6 | 4 => .agg #[.slice d1 l1 n1, .slice d2 l2 n2, .slice d3 l3 n3] | 5 => .agg #[.int .i64 7, .string ⟨#[]⟩, .slice (some ⟨q10, 0, none⟩) 1 1] | 6 => .agg #[.int .i64 0, .int .u64 0, .string ⟨#[]⟩, .slice (some ⟨n5, 0, none⟩) 1 1] | 7 => .int .i64 R7 | 8 => .int .i64 R6 | 9 => .int .i64 R7 | _ => undef := ⟨_, rfl⟩
      refine wp_region_fixed (R := fun W => Below w9.heap.size w9 W) val (by kernel_rfl) (by kernel_rfl) (by kernel_rfl) (Below.refl _ _).drew ?step ?done
      case step =>
        subst hval
        intro ix o ho A W hsz hdf hfr hdep hR
        rcases ix with _ | _ | _ | _ | _ | _ | _ | _ | _ | _ | ix
        · injection ho with ho
          subst ho
          have e3 : A.eval (.tmp 3) = .pointer (some ⟨w.heap.size, 0, none⟩) := (hfr 3 (noDst_spec (by kernel_rfl))).trans rfl
          have x0 := (HS8.out.below hR).cell 0 rfl
          have x1 := (HS8.out.below hR).cell 1 rfl
          have x2 := (HS8.out.below hR).cell 2 rfl
          exact gOp_ld (v := .agg #[.slice d1 l1 n1, .slice d2 l2 n2, .slice d3 l3 n3]) rfl (wanted_plain rfl) rfl e3 (by go_simp) ⟨_, rfl, rfl, Below.refl _ _, hR⟩
        · injection ho with ho
          subst ho
          have e9 : A.eval (.tmp 9) = .pointer (some ⟨b9, 0, none⟩) := (hfr 9 (noDst_spec (by kernel_rfl))).trans rfl
          have x0 := (HT9.out.below hR).cell 0 rfl
          have x1 := (HT9.out.below hR).cell 1 rfl
          have x2 := (HT9.out.below hR).cell 2 rfl
          exact gOp_ld (v := .agg #[.int .i64 6, .string ⟨#[]⟩, .slice (some ⟨q9, 0, none⟩) 1 1]) rfl (wanted_plain rfl) rfl e9 (by go_simp) ⟨_, rfl, rfl, Below.refl _ _, hR⟩
        · injection ho with ho
          subst ho
          have e8 : A.eval (.tmp 8) = .pointer (some ⟨n5 + 1, 0, none⟩) := (hfr 8 (noDst_spec (by kernel_rfl))).trans rfl
          have x0 := (HW8.out.below hR).cell 0 rfl
          have x1 := (HW8.out.below hR).cell 1 rfl
          have x2 := (HW8.out.below hR).cell 2 rfl
          have x3 := (HW8.out.below hR).cell 3 rfl
          exact gOp_ld (v := .agg #[.int .i64 0, .int .u64 0, .string ⟨#[]⟩, .slice (some ⟨n5, 0, none⟩) 1 1]) rfl (wanted_plain rfl) rfl e8 (by go_simp) ⟨_, rfl, rfl, Below.refl _ _, hR⟩
        · injection ho with ho
          subst ho
          have e43 : A.eval (.tmp 43) = .agg #[.slice d1 l1 n1, .slice d2 l2 n2, .slice d3 l3 n3] := hdep ⟨0, .data⟩ (by simp) rfl _ _ rfl rfl
          have e44 : A.eval (.tmp 44) = .agg #[.int .i64 6, .string ⟨#[]⟩, .slice (some ⟨q9, 0, none⟩) 1 1] := hdep ⟨1, .data⟩ (by simp) rfl _ _ rfl rfl
          have e45 : A.eval (.tmp 45) = .agg #[.int .i64 0, .int .u64 0, .string ⟨#[]⟩, .slice (some ⟨n5, 0, none⟩) 1 1] := hdep ⟨2, .data⟩ (by simp) rfl _ _ rfl rfl
          refine gOp_enter rfl (wanted_plain rfl) 20 #[.agg #[.slice d1 l1 n1, .slice d2 l2 n2, .slice d3 l3 n3], .agg #[.int .i64 6, .string ⟨#[]⟩, .slice (some ⟨q9, 0, none⟩) 1 1], .agg #[.int .i64 0, .int .u64 0, .string ⟨#[]⟩, .slice (some ⟨n5, 0, none⟩) 1 1]] (run_call _ (fun _ _ => rfl) _ _ rfl _ (by simp [e43, e44, e45])) ?_
          refine (HC6.out W hR).mono ?_
          rintro e w' ⟨rfl, hb'⟩
          exact ⟨_, rfl, _, rfl, rfl, hb', below_next hR hb'⟩
        · injection ho with ho
          subst ho
          have e3 : A.eval (.tmp 3) = .pointer (some ⟨w.heap.size, 0, none⟩) := (hfr 3 (noDst_spec (by kernel_rfl))).trans rfl
          have x0 := (HS8.out.below hR).cell 0 rfl
          have x1 := (HS8.out.below hR).cell 1 rfl
          have x2 := (HS8.out.below hR).cell 2 rfl
          exact gOp_ld (v := .agg #[.slice d1 l1 n1, .slice d2 l2 n2, .slice d3 l3 n3]) rfl (wanted_plain rfl) rfl e3 (by go_simp) ⟨_, rfl, rfl, Below.refl _ _, hR⟩
        · injection ho with ho
          subst ho
          have e10 : A.eval (.tmp 10) = .pointer (some ⟨b10, 0, none⟩) := (hfr 10 (noDst_spec (by kernel_rfl))).trans rfl
          have x0 := (HT10.out.below hR).cell 0 rfl
          have x1 := (HT10.out.below hR).cell 1 rfl
          have x2 := (HT10.out.below hR).cell 2 rfl
          exact gOp_ld (v := .agg #[.int .i64 7, .string ⟨#[]⟩, .slice (some ⟨q10, 0, none⟩) 1 1]) rfl (wanted_plain rfl) rfl e10 (by go_simp) ⟨_, rfl, rfl, Below.refl _ _, hR⟩
        · injection ho with ho
          subst ho
          have e8 : A.eval (.tmp 8) = .pointer (some ⟨n5 + 1, 0, none⟩) := (hfr 8 (noDst_spec (by kernel_rfl))).trans rfl
          have x0 := (HW8.out.below hR).cell 0 rfl
          have x1 := (HW8.out.below hR).cell 1 rfl
          have x2 := (HW8.out.below hR).cell 2 rfl
          have x3 := (HW8.out.below hR).cell 3 rfl
          exact gOp_ld (v := .agg #[.int .i64 0, .int .u64 0, .string ⟨#[]⟩, .slice (some ⟨n5, 0, none⟩) 1 1]) rfl (wanted_plain rfl) rfl e8 (by go_simp) ⟨_, rfl, rfl, Below.refl _ _, hR⟩
        · injection ho with ho
          subst ho
          have e47 : A.eval (.tmp 47) = .agg #[.slice d1 l1 n1, .slice d2 l2 n2, .slice d3 l3 n3] := hdep ⟨4, .data⟩ (by simp) rfl _ _ rfl rfl
          have e48 : A.eval (.tmp 48) = .agg #[.int .i64 7, .string ⟨#[]⟩, .slice (some ⟨q10, 0, none⟩) 1 1] := hdep ⟨5, .data⟩ (by simp) rfl _ _ rfl rfl
          have e49 : A.eval (.tmp 49) = .agg #[.int .i64 0, .int .u64 0, .string ⟨#[]⟩, .slice (some ⟨n5, 0, none⟩) 1 1] := hdep ⟨6, .data⟩ (by simp) rfl _ _ rfl rfl
          refine gOp_enter rfl (wanted_plain rfl) 20 #[.agg #[.slice d1 l1 n1, .slice d2 l2 n2, .slice d3 l3 n3], .agg #[.int .i64 7, .string ⟨#[]⟩, .slice (some ⟨q10, 0, none⟩) 1 1], .agg #[.int .i64 0, .int .u64 0, .string ⟨#[]⟩, .slice (some ⟨n5, 0, none⟩) 1 1]] (run_call _ (fun _ _ => rfl) _ _ rfl _ (by simp [e47, e48, e49])) ?_
          refine (HC7.out W hR).mono ?_
          rintro e w' ⟨rfl, hb'⟩
          exact ⟨_, rfl, _, rfl, rfl, hb', below_next hR hb'⟩
        · injection ho with ho
          subst ho
          have e46 : A.eval (.tmp 46) = .int .i64 R6 := hdep ⟨3, .data⟩ (by simp) rfl _ _ rfl rfl
          exact gOp_mv rfl (wanted_plain rfl) (.inr rfl) e46 ⟨_, rfl, rfl, Below.refl _ _, hR⟩
        · injection ho with ho
          subst ho
          have e50 : A.eval (.tmp 50) = .int .i64 R7 := hdep ⟨7, .data⟩ (by simp) rfl _ _ rfl rfl
          exact gOp_mv rfl (wanted_plain rfl) (.inr rfl) e50 ⟨_, rfl, rfl, Below.refl _ _, hR⟩
        · simp at ho
      case done =>
        intro W hR
        subst hval
        simp only [putL, Act.put, List.setIfInBounds_toArray, List.set_cons_zero, List.set_cons_succ]
        clear g0 g1 g2 t0 t1 t2 v0 v1 v2 v3
        have HRR := hid hR
        have HNM := hid (num7_any R6 W)
        clear hR
        rcases h67 with ⟨rfl, rfl⟩ | ⟨rfl, rfl⟩
        · go_wp2_with fail
          refine HNM.out.mono ?_
          rintro e w10 ⟨rfl, rfl⟩
          have HL := hid (below_next HB8.out HRR.out)
          clear HNM
          go_wp2
          go_ret
          exact ⟨rfl, HL.out⟩
        · go_wp2_with fail
          refine HNM.out.mono ?_
          rintro e w10 ⟨rfl, rfl⟩
          clear HNM
          go_wp2_with fail
          have HDD : Hid (deepV 100 [wrapG g] = deepV 100 [g] + 1) := hid (by rw [deep_wrap 99 g, deep_same 16 99 [g] (by omega) (by intro x hx; rw [List.mem_singleton.1 hx]; exact HDV.out), Nat.add_comm])
          have hDLw : DL 17 (wrapG g) := ⟨show 1 ≤ 1000 by omega, fun x hx => by rw [List.mem_singleton.1 hx]; exact HDL.out⟩
          have h8w := HRR.out
          obtain ⟨DG, hDG⟩ : ∃ d : Int, d = (deepV 100 [g] : Int) := ⟨_, rfl⟩
          obtain ⟨DI, hDI⟩ : ∃ d : Int, d = (deepV 100 [wrapG g] : Int) := ⟨_, rfl⟩
          have hDle := deepV_le 100 [g]
          have hDD : DI = DG + 1 := by rw [hDI, hDG, HDD.out]; omega
          have HZD : Hid (IntKind.i64.wrap (DG + 1) = DI) := hid (by unfold IntKind.wrap; simp [IntKind.bits, IntKind.signed]; omega)
          obtain ⟨Z1, hZ1⟩ : ∃ z : Int, z = ((min (gsum [wrapG g]) 1048576 : Nat) : Int) := ⟨_, rfl⟩
          obtain ⟨Z2, hZ2⟩ : ∃ z : Int, z = ((min (gsum [g]) 1048576 : Nat) : Int) := ⟨_, rfl⟩
          obtain ⟨Z3, hZ3⟩ : ∃ z : Int, z = Z2 + 1 := ⟨_, rfl⟩
          have hgs : gsum [wrapG g] = 1 + gsum [g] := by
            have := gsize_eq (wrapG g)
            simpa [gsum, wrapG, Pl.GV.l] using this
          have HZ3 : Hid (IntKind.i64.wrap (Z2 + 1) = Z3) := hid (by unfold IntKind.wrap; simp [IntKind.bits, IntKind.signed]; omega)
          have hmn : Z1 = if 1048576 ≤ Z3 then 1048576 else Z3 := by
            rw [hZ3, hZ2, hZ1, hgs]
            split <;> omega
          have HD1 : Hid (∀ W, Below w10.heap.size w10 W → Calls Tryz.prog 16 #[.agg #[.int .i64 0, .int .u64 0, .string ⟨#[]⟩, .slice (some ⟨n5, 0, none⟩) 1 1]] W fun e w' => e = .returned (.int .i64 DI) ∧ Below W.heap.size W w') := hid (fun W hW => by
            rw [hDI]
            exact DeepV_any w9.heap.size (wrapG g) _ W (VyS.le (by omega) _ _ _ (VyS.bel (below_next h8w hW) _ _ _ HVW.out)) (below_next h8w hW).size)
          have HD2 : Hid (∀ W, Below w10.heap.size w10 W → Calls Tryz.prog 16 #[.agg #[.int .i64 g.i, .int .u64 g.u, .string g.t, .slice a1 m1 c1]] W fun e w' => e = .returned (.int .i64 DG) ∧ Below W.heap.size W w') := hid (fun W hW => by
            rw [hDG]
            exact DeepV_any w9.heap.size g _ W (VyS.le (by omega) _ _ _ (VyS.bel (below_next h8w hW) _ _ _ HVV.out)) (below_next h8w hW).size)
          have HZ1 : Hid (∀ W, Below w10.heap.size w10 W → ∀ q, Bx W q [.int .i64 0, .int .u64 0, .string ⟨#[]⟩, .slice (some ⟨n5, 0, none⟩) 1 1] 33 → Calls Tryz.prog 18 #[.slice (some ⟨q, 0, none⟩) 1 1] W fun e w' => e = .returned (.int .i64 Z1) ∧ Below W.heap.size W w') := hid (fun W hW q hq => by
            rw [hZ1]
            exact Size_any W.heap.size [wrapG g] q 1 1 17 W ⟨show 0 < 1 by omega, show 1 ≤ 1000 by omega⟩ (by intro y hy; rw [List.mem_singleton.1 hy]; exact hDLw) (VyS.one (g := wrapG g) (VyS.mono (below_next h8w hW).size _ _ _ _ (VyS.le (by omega) _ _ _ (VyS.bel (below_next h8w hW) _ _ _ HVW.out))) hq.lt hq) (Nat.le_refl _))
          have HZ2 : Hid (∀ W, Below w10.heap.size w10 W → ∀ q, Bx W q [.int .i64 g.i, .int .u64 g.u, .string g.t, .slice a1 m1 c1] 33 → Calls Tryz.prog 18 #[.slice (some ⟨q, 0, none⟩) 1 1] W fun e w' => e = .returned (.int .i64 Z2) ∧ Below W.heap.size W w') := hid (fun W hW q hq => by
            rw [hZ2]
            exact Size_any W.heap.size [g] q 1 1 16 W ⟨show 0 < 1 by omega, show 1 ≤ 1000 by omega⟩ (by intro y hy; rw [List.mem_singleton.1 hy]; exact HDL.out) (VyS.one (VyS.mono (below_next h8w hW).size _ _ _ _ (VyS.le (by omega) _ _ _ (VyS.bel (below_next h8w hW) _ _ _ HVV.out))) hq.lt hq) (Nat.le_refl _))
          have HMIN := hid (fun (A : Act) (W : World) (o : Oper) (ho : o.op = .call { callee := .builtin .min, args := #[.const (.int .i64 1048576), .tmp 78], argTypes := #[3, 3] }) (e78 : A.eval (.tmp 78) = .int .i64 Z3) => run_min (P := Tryz.prog) ho e78 hmn W)
          have hbs : ∀ (a b c d : Value) (w : World), (Instr.buildSlice 31 1 #[(0, .agg #[a, b, c, d])]).run Tryz.prog w = .ok (.slice (some ⟨w.heap.size, 0, none⟩) 1 1) (w.alloc (.cells #[a, b, c, d] 33)) := fun a b c d w => by kernel_rfl
          clear hmn hgs hZ3 hZ2 hZ1 hDD hDle hDI hDG h8w hDLw HDD HDV HDL HVV HVW HSC HC6 HC7
          refine wp_region_drawn (pred := fun jx v W => match jx with | 0 => v = .int .i64 0 | 1 => v = .int .i64 0 | 2 => v = .int .i64 0 | 3 => v = .int .i64 0 | 4 => v = .int .i64 0 | 5 => v = .bool true | 6 => v = .bool true | 7 => v = .agg #[.int .i64 0, .int .u64 0, .string ⟨#[]⟩, .slice (some ⟨n5, 0, none⟩) 1 1] | 8 => v = .int .i64 DI | 9 => v = .agg #[.int .i64 g.i, .int .u64 g.u, .string g.t, .slice a1 m1 c1] | 10 => v = .int .i64 DG | 11 => v = .int .i64 DI | 12 => v = .bool true | 13 => v = .bool true | 14 => v = .bool true | 15 => v = .agg #[.int .i64 0, .int .u64 0, .string ⟨#[]⟩, .slice (some ⟨n5, 0, none⟩) 1 1] | 16 => ∃ q, v = .slice (some ⟨q, 0, none⟩) 1 1 ∧ Bx W q [.int .i64 0, .int .u64 0, .string ⟨#[]⟩, .slice (some ⟨n5, 0, none⟩) 1 1] 33 | 17 => v = .int .i64 Z1 | 18 => v = .agg #[.int .i64 g.i, .int .u64 g.u, .string g.t, .slice a1 m1 c1] | 19 => ∃ q, v = .slice (some ⟨q, 0, none⟩) 1 1 ∧ Bx W q [.int .i64 g.i, .int .u64 g.u, .string g.t, .slice a1 m1 c1] 33 | 20 => v = .int .i64 Z2 | 21 => v = .int .i64 Z3 | 22 => v = .int .i64 Z1 | 23 => v = .bool true | 24 => v = .bool true | 25 => v = .bool true | _ => True) (R := fun W => Below w10.heap.size w10 W) (by kernel_rfl) (by kernel_rfl) (by kernel_rfl) (fun i v w w' h hb => ?mono) (Below.refl _ _).drew ?step ?done
          case mono =>
            rcases i with _ | _ | _ | _ | _ | _ | _ | _ | _ | _ | _ | _ | _ | _ | _ | _ | _ | _ | _ | _ | _ | _ | _ | _ | _ | _ | i
            · exact h
            · exact h
            · exact h
            · exact h
            · exact h
            · exact h
            · exact h
            · exact h
            · exact h
            · exact h
            · exact h
            · exact h
            · exact h
            · exact h
            · exact h
            · exact h
            · obtain ⟨q, h1, h2⟩ := h
              exact ⟨q, h1, h2.below hb⟩
            · exact h
            · exact h
            · obtain ⟨q, h1, h2⟩ := h
              exact ⟨q, h1, h2.below hb⟩
            · exact h
            · exact h
            · exact h
            · exact h
            · exact h
            · exact h
            · exact trivial
          case step =>
            intro ix o ho A W hsz hdf hfr hdep hR
            rcases ix with _ | _ | _ | _ | _ | _ | _ | _ | _ | _ | _ | _ | _ | _ | _ | _ | _ | _ | _ | _ | _ | _ | _ | _ | _ | _ | ix
            · injection ho with ho
              subst ho
              have e11 : A.eval (.tmp 11) = .int .i64 0 := (hfr 11 (noDst_spec (by kernel_rfl))).trans rfl
              exact gOp_mv rfl (wanted_plain rfl) (.inl rfl) e11 ⟨_, rfl, rfl, Below.refl _ _, hR⟩
            · injection ho with ho
              subst ho
              have e57 : A.eval (.tmp 57) = .int .i64 0 := hdep ⟨0, .data⟩ (by simp) rfl _ _ rfl rfl
              refine gOp_enter rfl (wanted_plain rfl) 14 #[.int .i64 0] (run_call _ (fun _ _ => rfl) _ _ rfl _ (by simp [e57])) ?_
              refine (num7_any 0 W).mono ?_
              rintro e w' ⟨rfl, rfl⟩
              exact ⟨_, rfl, _, rfl, rfl, Below.refl _ _, hR⟩
            · injection ho with ho
              subst ho
              have e12 : A.eval (.tmp 12) = .int .i64 0 := (hfr 12 (noDst_spec (by kernel_rfl))).trans rfl
              exact gOp_mv rfl (wanted_plain rfl) (.inl rfl) e12 ⟨_, rfl, rfl, Below.refl _ _, hR⟩
            · injection ho with ho
              subst ho
              have e59 : A.eval (.tmp 59) = .int .i64 0 := hdep ⟨2, .data⟩ (by simp) rfl _ _ rfl rfl
              refine gOp_enter rfl (wanted_plain rfl) 14 #[.int .i64 0] (run_call _ (fun _ _ => rfl) _ _ rfl _ (by simp [e59])) ?_
              refine (num7_any 0 W).mono ?_
              rintro e w' ⟨rfl, rfl⟩
              exact ⟨_, rfl, _, rfl, rfl, Below.refl _ _, hR⟩
            · injection ho with ho
              subst ho
              have e58 : A.eval (.tmp 58) = .int .i64 0 := hdep ⟨1, .data⟩ (by simp) rfl _ _ rfl rfl
              have e60 : A.eval (.tmp 60) = .int .i64 0 := hdep ⟨3, .data⟩ (by simp) rfl _ _ rfl rfl
              exact gOp_ok (v := .int .i64 0) rfl (wanted_plain rfl) (run_bin rfl e58 e60 (by go_simp) (by go_simp; first | rfl | decide)) ⟨_, rfl, rfl, Below.refl _ _, hR⟩
            · injection ho with ho
              subst ho
              have e61 : A.eval (.tmp 61) = .int .i64 0 := hdep ⟨4, .data⟩ (by simp) rfl _ _ rfl rfl
              exact gOp_ok (v := .bool true) rfl (wanted_plain rfl) (run_bin rfl e61 rfl (by go_simp) (by go_simp)) ⟨_, rfl, rfl, Below.refl _ _, hR⟩
            · injection ho with ho
              subst ho
              have e62 : A.eval (.tmp 62) = .bool true := hdep ⟨5, .data⟩ (by simp) rfl _ _ rfl rfl
              exact gOp_mv rfl (wanted_plain rfl) (.inl rfl) e62 ⟨_, rfl, rfl, Below.refl _ _, hR⟩
            · injection ho with ho
              subst ho
              have e8 : A.eval (.tmp 8) = .pointer (some ⟨n5 + 1, 0, none⟩) := (hfr 8 (noDst_spec (by kernel_rfl))).trans rfl
              have x0 := (HW8.out.below (below_next HRR.out hR)).cell 0 rfl
              have x1 := (HW8.out.below (below_next HRR.out hR)).cell 1 rfl
              have x2 := (HW8.out.below (below_next HRR.out hR)).cell 2 rfl
              have x3 := (HW8.out.below (below_next HRR.out hR)).cell 3 rfl
              exact gOp_ld (v := .agg #[.int .i64 0, .int .u64 0, .string ⟨#[]⟩, .slice (some ⟨n5, 0, none⟩) 1 1]) rfl (wanted_on true 6 63 _ rfl rfl rfl (hdep ⟨6, .guard⟩ (by simp) rfl _ _ rfl rfl)) rfl e8 (by go_simp) ⟨_, rfl, rfl, Below.refl _ _, hR⟩
            · injection ho with ho
              subst ho
              have e64 : A.eval (.tmp 64) = .agg #[.int .i64 0, .int .u64 0, .string ⟨#[]⟩, .slice (some ⟨n5, 0, none⟩) 1 1] := hdep ⟨7, .data⟩ (by simp) rfl _ _ rfl rfl
              refine gOp_enter rfl (wanted_on true 6 63 _ rfl rfl rfl (hdep ⟨6, .guard⟩ (by simp) rfl _ _ rfl rfl)) 16 #[.agg #[.int .i64 0, .int .u64 0, .string ⟨#[]⟩, .slice (some ⟨n5, 0, none⟩) 1 1]] (run_call _ (fun _ _ => rfl) _ _ rfl _ (by simp [e64])) ?_
              refine (HD1.out W hR).mono ?_
              rintro e w' ⟨rfl, hb'⟩
              exact ⟨_, rfl, _, rfl, rfl, hb', below_next hR hb'⟩
            · injection ho with ho
              subst ho
              have e5 : A.eval (.tmp 5) = .pointer (some ⟨w.heap.size + 1 + 1, 0, none⟩) := (hfr 5 (noDst_spec (by kernel_rfl))).trans rfl
              have x0 := (HV8.out.below (below_next HRR.out hR)).cell 0 rfl
              have x1 := (HV8.out.below (below_next HRR.out hR)).cell 1 rfl
              have x2 := (HV8.out.below (below_next HRR.out hR)).cell 2 rfl
              have x3 := (HV8.out.below (below_next HRR.out hR)).cell 3 rfl
              exact gOp_ld (v := .agg #[.int .i64 g.i, .int .u64 g.u, .string g.t, .slice a1 m1 c1]) rfl (wanted_on true 6 63 _ rfl rfl rfl (hdep ⟨6, .guard⟩ (by simp) rfl _ _ rfl rfl)) rfl e5 (by go_simp) ⟨_, rfl, rfl, Below.refl _ _, hR⟩
            · injection ho with ho
              subst ho
              have e66 : A.eval (.tmp 66) = .agg #[.int .i64 g.i, .int .u64 g.u, .string g.t, .slice a1 m1 c1] := hdep ⟨9, .data⟩ (by simp) rfl _ _ rfl rfl
              refine gOp_enter rfl (wanted_on true 6 63 _ rfl rfl rfl (hdep ⟨6, .guard⟩ (by simp) rfl _ _ rfl rfl)) 16 #[.agg #[.int .i64 g.i, .int .u64 g.u, .string g.t, .slice a1 m1 c1]] (run_call _ (fun _ _ => rfl) _ _ rfl _ (by simp [e66])) ?_
              refine (HD2.out W hR).mono ?_
              rintro e w' ⟨rfl, hb'⟩
              exact ⟨_, rfl, _, rfl, rfl, hb', below_next hR hb'⟩
            · injection ho with ho
              subst ho
              have e67 : A.eval (.tmp 67) = .int .i64 DG := hdep ⟨10, .data⟩ (by simp) rfl _ _ rfl rfl
              have hz := HZD.out
              exact gOp_ok (v := .int .i64 DI) rfl (wanted_on true 6 63 _ rfl rfl rfl (hdep ⟨6, .guard⟩ (by simp) rfl _ _ rfl rfl)) (run_bin rfl e67 rfl (by go_simp) (by go_simp; try exact hz)) ⟨_, rfl, rfl, Below.refl _ _, hR⟩
            · injection ho with ho
              subst ho
              have e65 : A.eval (.tmp 65) = .int .i64 DI := hdep ⟨8, .data⟩ (by simp) rfl _ _ rfl rfl
              have e68 : A.eval (.tmp 68) = .int .i64 DI := hdep ⟨11, .data⟩ (by simp) rfl _ _ rfl rfl
              exact gOp_ok (v := .bool true) rfl (wanted_on true 6 63 _ rfl rfl rfl (hdep ⟨6, .guard⟩ (by simp) rfl _ _ rfl rfl)) (run_bin rfl e65 e68 (by go_simp) (by go_simp)) ⟨_, rfl, rfl, Below.refl _ _, hR⟩
            · injection ho with ho
              subst ho
              have e63 : A.eval (.tmp 63) = .bool true := hdep ⟨6, .data⟩ (by simp) rfl _ _ rfl rfl
              have e69 : A.eval (.tmp 69) = .bool true := hdep ⟨12, .data⟩ (by simp) rfl _ _ rfl rfl
              exact gOp_pk (v := .bool true) rfl (wanted_plain rfl) rfl e63 (by first | exact e69 | rfl) ⟨_, rfl, rfl, Below.refl _ _, hR⟩
            · injection ho with ho
              subst ho
              have e70 : A.eval (.tmp 70) = .bool true := hdep ⟨13, .data⟩ (by simp) rfl _ _ rfl rfl
              exact gOp_mv rfl (wanted_plain rfl) (.inl rfl) e70 ⟨_, rfl, rfl, Below.refl _ _, hR⟩
            · injection ho with ho
              subst ho
              have e8 : A.eval (.tmp 8) = .pointer (some ⟨n5 + 1, 0, none⟩) := (hfr 8 (noDst_spec (by kernel_rfl))).trans rfl
              have x0 := (HW8.out.below (below_next HRR.out hR)).cell 0 rfl
              have x1 := (HW8.out.below (below_next HRR.out hR)).cell 1 rfl
              have x2 := (HW8.out.below (below_next HRR.out hR)).cell 2 rfl
              have x3 := (HW8.out.below (below_next HRR.out hR)).cell 3 rfl
              exact gOp_ld (v := .agg #[.int .i64 0, .int .u64 0, .string ⟨#[]⟩, .slice (some ⟨n5, 0, none⟩) 1 1]) rfl (wanted_on true 14 71 _ rfl rfl rfl (hdep ⟨14, .guard⟩ (by simp) rfl _ _ rfl rfl)) rfl e8 (by go_simp) ⟨_, rfl, rfl, Below.refl _ _, hR⟩
            · injection ho with ho
              subst ho
              have e72 : A.eval (.tmp 72) = .agg #[.int .i64 0, .int .u64 0, .string ⟨#[]⟩, .slice (some ⟨n5, 0, none⟩) 1 1] := hdep ⟨15, .data⟩ (by simp) rfl _ _ rfl rfl
              refine gOp_ok (v := .slice (some ⟨W.heap.size, 0, none⟩) 1 1) rfl (wanted_on true 14 71 _ rfl rfl rfl (hdep ⟨14, .guard⟩ (by simp) rfl _ _ rfl rfl)) (run_bslice rfl (by simp only [List.map_toArray, List.map_cons, List.map_nil, e72]; exact hbs _ _ _ _ W)) ?_
              exact ⟨_, rfl, ⟨_, rfl, Bx.new W _ _⟩, below_alloc W _, below_next hR (below_alloc W _)⟩
            · injection ho with ho
              subst ho
              obtain ⟨q, e73, hx73⟩ : ∃ q, A.eval (.tmp 73) = .slice (some ⟨q, 0, none⟩) 1 1 ∧ Bx W q [.int .i64 0, .int .u64 0, .string ⟨#[]⟩, .slice (some ⟨n5, 0, none⟩) 1 1] 33 := hdep ⟨16, .data⟩ (by simp) rfl _ _ rfl rfl
              refine gOp_enter rfl (wanted_on true 14 71 _ rfl rfl rfl (hdep ⟨14, .guard⟩ (by simp) rfl _ _ rfl rfl)) 18 #[.slice (some ⟨q, 0, none⟩) 1 1] (run_call _ (fun _ _ => rfl) _ _ rfl _ (by simp [e73])) ?_
              refine (HZ1.out W hR q hx73).mono ?_
              rintro e w' ⟨rfl, hb'⟩
              exact ⟨_, rfl, _, rfl, rfl, hb', below_next hR hb'⟩
            · injection ho with ho
              subst ho
              have e5 : A.eval (.tmp 5) = .pointer (some ⟨w.heap.size + 1 + 1, 0, none⟩) := (hfr 5 (noDst_spec (by kernel_rfl))).trans rfl
              have x0 := (HV8.out.below (below_next HRR.out hR)).cell 0 rfl
              have x1 := (HV8.out.below (below_next HRR.out hR)).cell 1 rfl
              have x2 := (HV8.out.below (below_next HRR.out hR)).cell 2 rfl
              have x3 := (HV8.out.below (below_next HRR.out hR)).cell 3 rfl
              exact gOp_ld (v := .agg #[.int .i64 g.i, .int .u64 g.u, .string g.t, .slice a1 m1 c1]) rfl (wanted_on true 14 71 _ rfl rfl rfl (hdep ⟨14, .guard⟩ (by simp) rfl _ _ rfl rfl)) rfl e5 (by go_simp) ⟨_, rfl, rfl, Below.refl _ _, hR⟩
            · injection ho with ho
              subst ho
              have e75 : A.eval (.tmp 75) = .agg #[.int .i64 g.i, .int .u64 g.u, .string g.t, .slice a1 m1 c1] := hdep ⟨18, .data⟩ (by simp) rfl _ _ rfl rfl
              refine gOp_ok (v := .slice (some ⟨W.heap.size, 0, none⟩) 1 1) rfl (wanted_on true 14 71 _ rfl rfl rfl (hdep ⟨14, .guard⟩ (by simp) rfl _ _ rfl rfl)) (run_bslice rfl (by simp only [List.map_toArray, List.map_cons, List.map_nil, e75]; exact hbs _ _ _ _ W)) ?_
              exact ⟨_, rfl, ⟨_, rfl, Bx.new W _ _⟩, below_alloc W _, below_next hR (below_alloc W _)⟩
            · injection ho with ho
              subst ho
              obtain ⟨q, e76, hx76⟩ : ∃ q, A.eval (.tmp 76) = .slice (some ⟨q, 0, none⟩) 1 1 ∧ Bx W q [.int .i64 g.i, .int .u64 g.u, .string g.t, .slice a1 m1 c1] 33 := hdep ⟨19, .data⟩ (by simp) rfl _ _ rfl rfl
              refine gOp_enter rfl (wanted_on true 14 71 _ rfl rfl rfl (hdep ⟨14, .guard⟩ (by simp) rfl _ _ rfl rfl)) 18 #[.slice (some ⟨q, 0, none⟩) 1 1] (run_call _ (fun _ _ => rfl) _ _ rfl _ (by simp [e76])) ?_
              refine (HZ2.out W hR q hx76).mono ?_
              rintro e w' ⟨rfl, hb'⟩
              exact ⟨_, rfl, _, rfl, rfl, hb', below_next hR hb'⟩
            · injection ho with ho
              subst ho
              have e77 : A.eval (.tmp 77) = .int .i64 Z2 := hdep ⟨20, .data⟩ (by simp) rfl _ _ rfl rfl
              have hz := HZ3.out
              exact gOp_ok (v := .int .i64 Z3) rfl (wanted_on true 14 71 _ rfl rfl rfl (hdep ⟨14, .guard⟩ (by simp) rfl _ _ rfl rfl)) (run_bin rfl e77 rfl (by go_simp) (by go_simp; try exact hz)) ⟨_, rfl, rfl, Below.refl _ _, hR⟩
            · injection ho with ho
              subst ho
              have e78 : A.eval (.tmp 78) = .int .i64 Z3 := hdep ⟨21, .data⟩ (by simp) rfl _ _ rfl rfl
              exact gOp_ok (v := .int .i64 Z1) rfl (wanted_on true 14 71 _ rfl rfl rfl (hdep ⟨14, .guard⟩ (by simp) rfl _ _ rfl rfl)) (HMIN.out A W _ rfl e78) ⟨_, rfl, rfl, Below.refl _ _, hR⟩
            · injection ho with ho
              subst ho
              have e74 : A.eval (.tmp 74) = .int .i64 Z1 := hdep ⟨17, .data⟩ (by simp) rfl _ _ rfl rfl
              have e79 : A.eval (.tmp 79) = .int .i64 Z1 := hdep ⟨22, .data⟩ (by simp) rfl _ _ rfl rfl
              exact gOp_ok (v := .bool true) rfl (wanted_on true 14 71 _ rfl rfl rfl (hdep ⟨14, .guard⟩ (by simp) rfl _ _ rfl rfl)) (run_bin rfl e74 e79 (by go_simp) (by go_simp)) ⟨_, rfl, rfl, Below.refl _ _, hR⟩
            · injection ho with ho
              subst ho
              have e71 : A.eval (.tmp 71) = .bool true := hdep ⟨14, .data⟩ (by simp) rfl _ _ rfl rfl
              have e80 : A.eval (.tmp 80) = .bool true := hdep ⟨23, .data⟩ (by simp) rfl _ _ rfl rfl
              exact gOp_pk (v := .bool true) rfl (wanted_plain rfl) rfl e71 (by first | exact e80 | rfl) ⟨_, rfl, rfl, Below.refl _ _, hR⟩
            · injection ho with ho
              subst ho
              have e81 : A.eval (.tmp 81) = .bool true := hdep ⟨24, .data⟩ (by simp) rfl _ _ rfl rfl
              exact gOp_mv rfl (wanted_plain rfl) (.inr rfl) e81 ⟨_, rfl, rfl, Below.refl _ _, hR⟩
            · simp at ho
          case done =>
            intro A W hsz hdf hfr hpred hR
            have f6 := (show A.tmps.getD 6 undef = .bool true from hpred 25 _ 6 rfl rfl)
            have HL := hid (below_next HB8.out (below_next HRR.out hR))
            have hA : A = ⟨#[A.tmps.getD 0 undef, A.tmps.getD 1 undef, A.tmps.getD 2 undef, A.tmps.getD 3 undef, A.tmps.getD 4 undef, A.tmps.getD 5 undef, A.tmps.getD 6 undef, A.tmps.getD 7 undef, A.tmps.getD 8 undef, A.tmps.getD 9 undef, A.tmps.getD 10 undef, A.tmps.getD 11 undef, A.tmps.getD 12 undef, A.tmps.getD 13 undef, A.tmps.getD 14 undef, A.tmps.getD 15 undef, A.tmps.getD 16 undef, A.tmps.getD 17 undef, A.tmps.getD 18 undef, A.tmps.getD 19 undef, A.tmps.getD 20 undef, A.tmps.getD 21 undef, A.tmps.getD 22 undef, A.tmps.getD 23 undef, A.tmps.getD 24 undef, A.tmps.getD 25 undef, A.tmps.getD 26 undef, A.tmps.getD 27 undef, A.tmps.getD 28 undef, A.tmps.getD 29 undef, A.tmps.getD 30 undef, A.tmps.getD 31 undef, A.tmps.getD 32 undef, A.tmps.getD 33 undef, A.tmps.getD 34 undef, A.tmps.getD 35 undef, A.tmps.getD 36 undef, A.tmps.getD 37 undef, A.tmps.getD 38 undef, A.tmps.getD 39 undef, A.tmps.getD 40 undef, A.tmps.getD 41 undef, A.tmps.getD 42 undef, A.tmps.getD 43 undef, A.tmps.getD 44 undef, A.tmps.getD 45 undef, A.tmps.getD 46 undef, A.tmps.getD 47 undef, A.tmps.getD 48 undef, A.tmps.getD 49 undef, A.tmps.getD 50 undef, A.tmps.getD 51 undef, A.tmps.getD 52 undef, A.tmps.getD 53 undef, A.tmps.getD 54 undef, A.tmps.getD 55 undef, A.tmps.getD 56 undef, A.tmps.getD 57 undef, A.tmps.getD 58 undef, A.tmps.getD 59 undef, A.tmps.getD 60 undef, A.tmps.getD 61 undef, A.tmps.getD 62 undef, A.tmps.getD 63 undef, A.tmps.getD 64 undef, A.tmps.getD 65 undef, A.tmps.getD 66 undef, A.tmps.getD 67 undef, A.tmps.getD 68 undef, A.tmps.getD 69 undef, A.tmps.getD 70 undef, A.tmps.getD 71 undef, A.tmps.getD 72 undef, A.tmps.getD 73 undef, A.tmps.getD 74 undef, A.tmps.getD 75 undef, A.tmps.getD 76 undef, A.tmps.getD 77 undef, A.tmps.getD 78 undef, A.tmps.getD 79 undef, A.tmps.getD 80 undef, A.tmps.getD 81 undef], A.defers⟩ := by
              have h1 := act_lit A.tmps 82 hsz
              obtain ⟨t, d⟩ := A
              exact congrArg (fun x => (⟨x, d⟩ : Act)) h1
            rw [hA, f6, hdf]
            clear hA hfr hpred f6 hR
            dsimp only
            go_wp2
            go_ret
            exact ⟨rfl, HL.out⟩
    · have hR6n := wrap_bad (.inl rfl) HR.out h0 HR6.out
      have hR7n := wrap_bad (.inr rfl) HR.out h0 HR7.out
      have e0 : (R == 0) = false := by simp [h0]
      have e6 : (R6 == 0) = false := by simp [hR6n]
      have e7 : (R7 == 0) = false := by simp [hR7n]
      clear HR HR6 HR7
      go_wp2_with fail
      refine HNM.out.mono ?_
      rintro e w9 ⟨rfl, rfl⟩
      clear HNM
      go_wp2_with fail
      refine (HC6.out _ (Below.refl _ _)).mono ?_
      rintro e w10 ⟨rfl, hb10⟩
      have HB10 := hid hb10
      clear g0 g1 g2 t0 t1 t2 v0 v1 v2 v3
      have g0 := (HS8.out.below hb10).cell 0 rfl
      have g1 := (HS8.out.below hb10).cell 1 rfl
      have g2 := (HS8.out.below hb10).cell 2 rfl
      have t0 := (HT10.out.below hb10).cell 0 rfl
      have t1 := (HT10.out.below hb10).cell 1 rfl
      have t2 := (HT10.out.below hb10).cell 2 rfl
      have v0 := (HW8.out.below hb10).cell 0 rfl
      have v1 := (HW8.out.below hb10).cell 1 rfl
      have v2 := (HW8.out.below hb10).cell 2 rfl
      have v3 := (HW8.out.below hb10).cell 3 rfl
      clear hb10 HC6
      go_wp2_with fail
      refine (HC7.out _ HB10.out).mono ?_
      rintro e w11 ⟨rfl, hb11⟩
      have HL := hid (below_next HB8.out (below_next HB10.out hb11))
      clear hb11 HC7 g0 g1 g2 t0 t1 t2 v0 v1 v2 v3
      go_wp2
      go_ret
      exact ⟨show Ending.returned (.bool (R6 != 0 && R7 != 0)) = _ by simp [hR6n, hR7n], HL.out⟩
end Go.Proofs.YtmiohekmpjiloaaGreatDoor

