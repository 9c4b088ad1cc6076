/- Contracts of num, SameBytes and alive. -/
import Derived.Test.YthakifpjdpknhaaCallsC
namespace Go.Proofs.Ythakifpjdpknhaa
open Go.RowKit

def strOf (l : List Int) : ByteArray := l.foldl (fun r n => r.push (UInt8.ofNat n.toNat)) ByteArray.empty

theorem seg_string {w : World} {v : Value} {l : List Int} (h : Seg .u8 w v l) : (convert 22 9 v).run Try.prog w = .ok (.string (strOf l)) w := by
  obtain ⟨a, cap, rfl, h1, h2, h3, h4⟩ := h
  rw [run_convert_bytes_string w 22 9 5 a l.length cap Try.underlying22 Try.underlying5 Try.underlying9]
  rcases a with _ | x
  · obtain ⟨rfl, rfl⟩ := h3 rfl
    simp [Conv.bytesToString, strOf]
  · refine run_bytesToString w x l.length cap l ?_
    have := run_loadCells_list (P := Try.prog) w x (l.map (Value.int .u8)) (map_cells fun i hi => h4 x rfl i hi)
    rw [List.length_map] at this
    exact this

theorem strOf_fold (l : List Int) (s : ByteArray) : (l.foldl (fun r n => r.push (UInt8.ofNat n.toNat)) s).data.toList = s.data.toList ++ l.map (fun n => UInt8.ofNat n.toNat) := by
  induction l generalizing s with
  | nil => simp
  | cons n r ih => rw [List.foldl_cons, ih]; simp [ByteArray.push]

theorem strOf_list (l : List Int) : (strOf l).toList = l.map (fun n => UInt8.ofNat n.toNat) := by
  rw [ByteArray.toList_eq]
  unfold strOf
  rw [strOf_fold]
  simp

theorem oct_inj : ∀ (l m : List Int), (∀ z ∈ l, 0 ≤ z ∧ z ≤ 255) → (∀ z ∈ m, 0 ≤ z ∧ z ≤ 255) → l.map (fun n => UInt8.ofNat n.toNat) = m.map (fun n => UInt8.ofNat n.toNat) → l = m := by
  intro l
  induction l with
  | nil => intro m _ _ h; cases m <;> simp_all
  | cons a l ih =>
    intro m hl hm h
    cases m with
    | nil => simp at h
    | cons b m =>
      simp only [List.map_cons, List.cons.injEq] at h
      have h1 := ih m (fun z hz => hl z (List.mem_cons_of_mem _ hz)) (fun z hz => hm z (List.mem_cons_of_mem _ hz)) h.2
      have ha := hl a List.mem_cons_self
      have hb := hm b List.mem_cons_self
      have h2 := congrArg UInt8.toNat h.1
      simp only [UInt8.toNat_ofNat'] at h2
      have : a = b := by omega
      rw [this, h1]

theorem strOf_beq (l m : List Int) (hl : ∀ z ∈ l, 0 ≤ z ∧ z ≤ 255) (hm : ∀ z ∈ m, 0 ≤ z ∧ z ≤ 255) : ((strOf l).toList == (strOf m).toList) = (l == m) := by
  rw [strOf_list, strOf_list, Bool.eq_iff_iff]
  simp only [beq_iff_eq]
  exact ⟨oct_inj l m hl hm, fun h => by rw [h]⟩

set_option maxHeartbeats 400000 in
theorem sameBytes_any (v u : Value) (l m : List Int) (w : World) (hv : Seg .u8 w v l) (hu : Seg .u8 w u m) (hl : ∀ z ∈ l, 0 ≤ z ∧ z ≤ 255) (hm : ∀ z ∈ m, 0 ≤ z ∧ z ≤ 255) :
    Calls Try.prog 22 #[v, u] w fun e w' => e = .returned (.bool (l == m)) ∧ w = w' := by
  have h1 := seg_string hv
  have h2 := seg_string hu
  go_enter Try.func22, Try.ntmps22
  go_wp2
  go_ret
  exact ⟨ret_bool (strOf_beq l m hl hm), rfl⟩

theorem num_any (n : Int) (w : World) : Calls Try.prog 14 #[.int .i64 n] w fun e w' => e = .returned (.int .i64 n) ∧ w = w' := by
  go_enter Try.func14, Try.ntmps14
  go_wp2
  go_ret
  exact ⟨rfl, rfl⟩

theorem seg_one (w : World) (n : Int) : Seg .u64 (w.alloc (.cells #[.int .u64 n] 23)) (.slice (some ⟨w.heap.size, 0, none⟩) 1 1) [n] := by
  refine ⟨some ⟨w.heap.size, 0, none⟩, 1, rfl, Nat.le_refl _, by unfold maxLen; omega, fun h => (by cases h), fun x hx i hi => ?_⟩
  cases hx
  have := cell_one_new w (.int .u64 n) 23 i (.int .u64 n)
  simp at hi
  subst hi
  simpa using this

theorem put300 (w : World) : Calls Try.prog 23 #[.slice none 0 0, .slice (some ⟨w.heap.size, 0, none⟩) 1 1] (w.alloc (.cells #[.int .u64 300] 23)) fun e w' =>
    ∃ v', e = .returned v' ∧ w'.ownsRow (w.heap.size + 1) 5 1 v' 2 (u8s [172, 2]) ∧ Below (w.heap.size + 1) (w.alloc (.cells #[.int .u64 300] 23)) w' := by
  refine (put_any (.slice none 0 0) _ [] [300] _ (Seg.nil _ _) (seg_one w 300) ?_ (by simp)).mono ?_
  · intro n hn; simp at hn; omega
  · rintro e w' ⟨v', rfl, hown, hbel⟩
    have he : ([] : List Int) ++ encs [300] = [172, 2] := by decide
    rw [he] at hown
    refine ⟨v', rfl, ?_, ?_⟩
    · simpa using hown
    · simpa using hbel

theorem get300 (v : Value) (B : Nat) (w : World) (h : w.ownsRow B 5 1 v 2 (u8s [172, 2])) : Calls Try.prog 10 #[v, .int .i64 0] w fun e w' => e = .returned (.tuple #[.int .u64 300, .int .i64 2, .int .i64 0]) ∧ w = w' := by
  refine (get_any v [172, 2] 0 w (Seg.own h) ?_ (by omega) (by omega)).mono ?_
  · intro z hz; simp at hz; omega
  · rintro e w' ⟨rfl, rfl⟩
    have : Pl.getI [172, 2] 0 = (300, 2, 0) := by decide +kernel
    exact ⟨by rw [this]; rfl, rfl⟩

set_option maxHeartbeats 400000 in
theorem alive_any (w : World) : Calls Try.prog 25 #[] w fun e w' => e = .returned (.bool true) ∧ Below w.heap.size w w' := by
  go_enter Try.func25, Try.ntmps25
  go_wp2_with fail
  refine (put300 w).mono ?_
  rintro e w1 ⟨v1, rfl, hown1, hbel1⟩
  have hz1 := hbel1.size
  go_wp2_with fail
  refine (get300 v1 _ w1 hown1).mono ?_
  rintro e w2 ⟨rfl, rfl⟩
  go_wp2_with fail
  refine (put300 w1).mono ?_
  rintro e w3 ⟨v3, rfl, hown3, hbel3⟩
  have hst := seg_string (Seg.own (k := .u8) (l := [172, 2]) hown3)
  have hb : Below w.heap.size w w3 := ((((Below.refl _ _).alloc (Nat.le_refl _) _).trans (hbel1.mono (by simp))).alloc (by simp at hz1; omega) _).trans (hbel3.mono (by simp at hz1 ⊢; omega))
  have hse : ((strOf [172, 2]).toList == [172, 2]) = true := by rw [strOf_list]; decide
  clear hown1 hown3 hbel1 hbel3
  go_wp2
  go_ret
  exact ⟨rfl, hb⟩
end Go.Proofs.Ythakifpjdpknhaa
