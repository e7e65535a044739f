/-
  Walks over package disk: names, List. Conditions: those in the theorems.
-/
import Derived.Test.YtoecbkndbcblpaaGreatDoorDiskWalkK
import Derived.OwnWalk
namespace Go.Proofs.YtoecbkndbcblpaaGreatDoor
open Go.RowKit Go.Maps Go.Sort Go.Shelf

theorem before_lt {a b : List UInt8} (h : bytesBefore a b = true) : a < b := by
  induction a generalizing b with
  | nil =>
    cases b with
    | nil => simp [bytesBefore] at h
    | cons y r => exact List.nil_lt_cons _ _
  | cons x l ih =>
    cases b with
    | nil => simp [bytesBefore] at h
    | cons y r =>
      simp only [bytesBefore, Bool.or_eq_true, Bool.and_eq_true, decide_eq_true_eq, beq_iff_eq] at h
      rw [List.cons_lt_cons_iff]
      rcases h with h | ⟨h1, h2⟩
      · exact .inl h
      · exact .inr ⟨h1, ih h2⟩
theorem strKeys_dat (T : List (List UInt8 × Ent)) : strKeys (datOf T) = Dm.keys T := by
  unfold datOf Dm.keys
  show List.map _ (List.map _ T) = _
  rw [List.map_map]; rfl
theorem sort_keys {T : List (List UInt8 × Ent)} (h : Dm.Sorted T) {ss : List (List UInt8)} (hp : ss.Perm (strKeys (datOf T))) : ss.mergeSort (fun x y => decide (x ≤ y)) = Dm.keys T := by
  rw [strKeys_dat] at hp
  have h1 : ss.mergeSort (fun x y => decide (x ≤ y)) = (Dm.keys T).mergeSort (fun x y => decide (x ≤ y)) := mergeSort_of_perm hp
  rw [h1]
  refine List.mergeSort_of_pairwise ?_
  rw [Dm.sorted_keys] at h
  exact h.imp fun h => decide_eq_true (List.le_of_lt (before_lt h))
theorem keys_files {w : World} {a m : Nat} {D : Dm.Disk} {T : List (List UInt8 × Ent)} (h : Rep w a m D T) : Dm.keys T = Dm.keys D.files := by
  rw [h.files]; unfold filesOf; rw [Dm.keys_map]

set_option maxRecDepth 100000 in
set_option maxHeartbeats 1000000 in
theorem names_rep {w : World} {a m : Nat} {D : Dm.Disk} {T : List (List UInt8 × Ent)} (h : Rep w a m D T) :
    Calls Tryz.prog 38 #[.pointer (some ⟨a, 0, none⟩)] w fun e w' => ∃ v, e = .returned v ∧ w'.ownsRow w.heap.size 9 1 v (Dm.keys D.files).length ((Dm.keys D.files).map encStr) ∧ (v = .slice none 0 0 ↔ Dm.keys D.files = []) ∧ Below w.heap.size w w' := by
  obtain ⟨-, -, -, -, c4, -⟩ := cells5 h.cell
  have hown := h.map
  have hsrt := h.sorted
  have hfew := h.right.few
  have hsz := size_dat T
  have hl : T.length ≤ 256 := by rw [size_files h]; exact hfew
  rw [← keys_files h]
  have HK : ∀ ss : List (List UInt8), ss.Perm (strKeys (datOf T)) → ss.mergeSort (fun x y => decide (x ≤ y)) = Dm.keys T ∧ ss.length = (Dm.keys T).length ∧ (ss = [] ↔ Dm.keys T = []) := fun ss hp => by
    have h1 := sort_keys hsrt hp
    have h2 := (List.mergeSort_perm ss (fun x y => decide (x ≤ y))).length_eq
    rw [h1] at h2
    refine ⟨h1, h2.symm, ?_⟩
    rw [← List.length_eq_zero_iff, ← List.length_eq_zero_iff, h2]
  have HH := Lib.hid HK
  have hsk := fun (w : World) (hown : w.ownsMap Tryz.prog 9 ptrR m T.length (datOf T)) => sortedKeys_in m T.length (datOf T) ptrR w hown (by rw [hsz]; unfold maxLen; omega) (by rw [hsz]; omega)
  have hq := hsk w hown
  clear h hsrt hfew hl HK hsk hown
  refine (callsIn_wide (n := 6)).1 ?_
  have hfK : Fence.wide.fn 73 := trivial
  have hfS : Fence.wide.fn 72 := trivial
  refine callsIn_of_wp Tryz.func38 rfl trivial ?_ rfl
  simp only [Tryz.ntmps38, List.size_toArray, List.length_cons, List.length_nil, Nat.reduceAdd, Nat.reduceSub, Array.replicate_succ, Array.replicate_zero, List.push_toArray, List.append_toArray, List.nil_append, List.cons_append]
  gi_wp2_with (first
    | (gi_at_call 73; refine (mapsKeys_in _ _).mono ?_; rintro e w' ⟨rfl, rfl⟩)
    | (gi_at_call 72; refine hq.mono ?_; rintro e w' ⟨v, ss, rfl, hS, hrow, hnil, hb⟩))
  go_ret
  obtain ⟨k1, k2, k3⟩ := HH.out ss hS
  rw [k1, k2] at hrow
  exact ⟨v, rfl, ownsRow_base_a hrow (by simp), hnil.trans k3, ((Below.refl _ w).alloc (Nat.le_refl _) _).trans (hb.mono (by simp))⟩
end Go.Proofs.YtoecbkndbcblpaaGreatDoor
