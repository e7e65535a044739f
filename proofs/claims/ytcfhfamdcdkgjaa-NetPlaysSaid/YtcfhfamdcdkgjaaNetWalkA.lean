/-
  Walks over package net: Waiting, full, place, between, own. Conditions: those in the theorems.
-/
import Derived.Test.YtcfhfamdcdkgjaaNetRep
import Derived.Test.YtcfhfamdcdkgjaaSumShelf
import Derived.WalkLawsBesides
namespace Go.Proofs.Ytcfhfamdcdkgjaa
open Go.RowKit Go.Maps

/-- A row's slice, opened. -/
theorem row_shape {w : World} {v : Value} {n : Nat} {xs : List Value} (h : w.ownsRow 0 23 3 v n xs) : ∃ p cap, v = .slice p n cap ∧ n ≤ cap ∧ cap ≤ maxLen := by
  rcases h.2 with ⟨rfl, rfl⟩ | ⟨g, cap, cur, rfl, h2, h3, h4, h5, -⟩
  · exact ⟨none, 0, rfl, Nat.le_refl _, Nat.zero_le _⟩
  · exact ⟨_, _, rfl, h4, h5⟩

theorem two_new (w : World) (o1 o2 : Obj) : ((w.alloc o1).alloc o2).heap[w.heap.size]? = some o1 ∧ ((w.alloc o1).alloc o2).heap[w.heap.size + 1]? = some o2 :=
  ⟨(Below.heap_alloc _ _ _ (by simp)).trans (heap_alloc_new w o1), by have := heap_alloc_new (w.alloc o1) o2; rw [World.size_alloc] at this; exact this⟩
set_option maxHeartbeats 400000 in
theorem waiting_none (w : World) : Calls Try.prog 14 #[.pointer none] w fun e w' => e = .returned (.int .i64 0) ∧ w = w' := by
  go_enter Try.func14, Try.ntmps14
  go_wp2_with fail
  go_ret
  exact ⟨rfl, rfl⟩
set_option maxHeartbeats 400000 in
theorem waiting_rep {w : World} {a : Nat} {N : Nm.Net} {rv mv : Value} (h : Rep w a N rv mv) :
    Calls Try.prog 14 #[.pointer (some ⟨a, 0, none⟩)] w fun e w' => e = .returned (.int .i64 (N.row.length : Nat)) ∧ w = w' := by
  obtain ⟨c0, -, -⟩ := cells2 h.cell
  obtain ⟨p, cap, rfl, -, -⟩ := row_shape h.row
  clear h
  generalize N.row.length = n at *
  go_enter Try.func14, Try.ntmps14
  go_wp2_with fail
  go_ret
  exact ⟨rfl, rfl⟩
set_option maxHeartbeats 400000 in
theorem full_rep {w : World} {a : Nat} {N : Nm.Net} {rv mv : Value} (h : Rep w a N rv mv) :
    Calls Try.prog 24 #[.pointer (some ⟨a, 0, none⟩)] w fun e w' => e = .returned (.bool (decide (1024 ≤ N.row.length))) ∧ w = w' := by
  have hw := waiting_rep h
  clear h
  generalize N.row.length = n at *
  by_cases hn : 1024 ≤ n
  · have h1 : decide ((1024 : Int) ≤ (n : Int)) = true := decide_eq_true (by omega)
    rw [decide_eq_true hn]
    clear hn
    go_enter Try.func24, Try.ntmps24
    go_wp2_with fail
    refine hw.mono ?_
    rintro e w' ⟨rfl, rfl⟩
    go_wp2_with fail
    go_ret
    exact ⟨rfl, rfl⟩
  · have h1 : decide ((1024 : Int) ≤ (n : Int)) = false := decide_eq_false (by omega)
    rw [decide_eq_false hn]
    clear hn
    go_enter Try.func24, Try.ntmps24
    go_wp2_with fail
    refine hw.mono ?_
    rintro e w' ⟨rfl, rfl⟩
    go_wp2_with fail
    go_ret
    exact ⟨rfl, rfl⟩
set_option maxHeartbeats 400000 in
theorem place_none (i : Int) (w : World) : Calls Try.prog 28 #[.pointer none, .int .i64 i] w fun e w' => e = .returned (.tuple #[.int .i64 0, .bool false]) ∧ w = w' := by
  go_enter Try.func28, Try.ntmps28
  go_wp2_with fail
  refine (waiting_none _).mono ?_
  rintro e w' ⟨rfl, rfl⟩
  go_wp2_with fail
  go_ret2
  exact ⟨rfl, rfl⟩
theorem place_neg {i : Int} {n : Nat} (h : 0 < n) (hi : i.tmod (n : Int) < 0) : i.tmod (n : Int) + (n : Int) = (Nm.place i n : Nat) := by
  unfold Nm.place
  have h1 := Int.emod_nonneg i (show (n : Int) ≠ 0 by omega)
  have h2 := Int.emod_eq_tmod (a := i) (b := (n : Int))
  have hneg : i < 0 := by
    apply Decidable.byContradiction; intro hc
    have := Int.tmod_nonneg (n : Int) (show 0 ≤ i by omega); omega
  rw [if_neg (by
    rintro (h3 | h3)
    · omega
    · have := Int.tmod_eq_zero_of_dvd h3; omega)] at h2
  omega
theorem place_pos {i : Int} {n : Nat} (h : 0 < n) (hi : ¬ i.tmod (n : Int) < 0) : i.tmod (n : Int) = (Nm.place i n : Nat) := by
  unfold Nm.place
  have h1 := Int.emod_nonneg i (show (n : Int) ≠ 0 by omega)
  have h2 := Int.emod_eq_tmod (a := i) (b := (n : Int))
  by_cases h3 : 0 ≤ i ∨ (n : Int) ∣ i
  · rw [if_pos h3] at h2; omega
  · rw [if_neg h3] at h2
    exfalso
    apply h3
    have hneg : i < 0 := by omega
    have h4 : i.tmod (n : Int) = -((-i).tmod (n : Int)) := by rw [Int.neg_tmod, Int.neg_neg]
    have h5 := Int.tmod_nonneg (n : Int) (show 0 ≤ -i by omega)
    have h6 : i.tmod (n : Int) = 0 := by omega
    exact .inr (Int.dvd_of_tmod_eq_zero h6)
theorem tmod_bounds (i : Int) {n : Nat} (h : 0 < n) : -(n : Int) < i.tmod (n : Int) ∧ i.tmod (n : Int) < (n : Int) := by
  have h1 := Int.tmod_lt_of_pos i (show (0 : Int) < (n : Int) by omega)
  have h2 := Int.tmod_lt_of_pos (-i) (show (0 : Int) < (n : Int) by omega)
  rw [Int.neg_tmod] at h2
  omega
set_option maxHeartbeats 1000000 in
theorem place_rep {w : World} {a : Nat} {N : Nm.Net} {rv mv : Value} (h : Rep w a N rv mv) (i : Int) (hi : Nm.Wf i) :
    Calls Try.prog 28 #[.pointer (some ⟨a, 0, none⟩), .int .i64 i] w fun e w' => e = .returned (if N.row.length = 0 then .tuple #[.int .i64 0, .bool false] else .tuple #[.int .i64 (Nm.place i N.row.length : Nat), .bool true]) ∧ w = w' := by
  have hw := waiting_rep h
  have hf := h.right.few
  clear h
  generalize N.row.length = n at *
  by_cases hn : n = 0
  · rw [if_pos hn]
    subst hn
    go_enter Try.func28, Try.ntmps28
    go_wp2_with fail
    refine hw.mono ?_
    rintro e w' ⟨rfl, rfl⟩
    go_wp2_with fail
    go_ret2
    exact ⟨rfl, rfl⟩
  · rw [if_neg hn]
    have h0 : 0 < n := by omega
    have hb := tmod_bounds i h0
    have hnz : ((n : Int) == 0) = false := by rw [beq_eq_false_iff_ne]; omega
    have h1 : (0 : Int) < (n : Int) := by omega
    have h1024 : (n : Int) ≤ 1024 := by omega
    unfold Nm.Wf at hi
    by_cases ht : i.tmod (n : Int) < 0
    · have HP := Lib.hid (place_neg h0 ht)
      clear hf hn
      go_enter Try.func28, Try.ntmps28
      go_wp2_with fail
      refine hw.mono ?_
      rintro e w' ⟨rfl, rfl⟩
      go_wp2_with fail
      go_ret2
      exact ⟨congrArg (fun z => Ending.returned (.tuple #[.int .i64 z, .bool true])) HP.out, rfl⟩
    · have HP := Lib.hid (place_pos h0 ht)
      clear hf hn
      go_enter Try.func28, Try.ntmps28
      go_wp2_with fail
      refine hw.mono ?_
      rintro e w' ⟨rfl, rfl⟩
      go_wp2_with fail
      go_ret2
      exact ⟨congrArg (fun z => Ending.returned (.tuple #[.int .i64 z, .bool true])) HP.out, rfl⟩
set_option maxHeartbeats 1000000 in
theorem between_any (x y : Int) (w : World) : Calls Try.prog 29 #[.int .i64 x, .int .i64 y] w fun e w' => e = .returned (wayV (min x y) (max x y)) ∧ Below w.heap.size w w' := by
  unfold wayV
  go_enter Try.func29, Try.ntmps29
  go_wp2_with fail
  refine bodyPost_ret (v := .agg #[.int .i64 (min x y), .int .i64 (max x y)]) (by simp [results, Try.results29, go_sem]) rfl ⟨rfl, ?_⟩
  exact ((Below.refl _ _).alloc (Nat.le_refl _) _)
set_option maxHeartbeats 1000000 in
theorem own_any (p : Nm.Pk) (w : World) (hp : p.d.size ≤ 281474976710656) : Calls Try.prog 26 #[pkV p] w fun e w' => e = .returned (pkV p) ∧ Below w.heap.size w w' := by
  obtain ⟨f, t, d⟩ := p
  obtain ⟨r1, r2⟩ := two_new w (.cells #[.int .i64 f, .int .i64 t, .string d] 23) (.cells #[.int .i64 0, .int .i64 0, .string ⟨#[]⟩] 23)
  have hz : ((w.alloc (.cells #[.int .i64 f, .int .i64 t, .string d] 23)).alloc (.cells #[.int .i64 0, .int .i64 0, .string ⟨#[]⟩] 23)).heap.size = w.heap.size + 2 := by simp
  have hA : Below w.heap.size w ((w.alloc (.cells #[.int .i64 f, .int .i64 t, .string d] 23)).alloc (.cells #[.int .i64 0, .int .i64 0, .string ⟨#[]⟩] 23)) := ((Below.refl _ w).alloc (Nat.le_refl _) _).alloc (by simp) _
  have HR1 := Lib.hid r1
  have HR2 := Lib.hid r2
  have HZ := Lib.hid hz
  have HA := Lib.hid hA
  clear r1 r2 hz hA
  unfold pkV
  go_enter Try.func26, Try.ntmps26
  go_wp2_with fail
  refine (clone_any d _ hp).mono ?_
  rintro e w1 ⟨rfl, hb⟩
  have q1 := (hb.block _ (by rw [HZ.out]; omega)).trans HR1.out
  have q2 := (hb.block _ (by rw [HZ.out]; omega)).trans HR2.out
  have HB := Lib.hid (HA.out.trans (hb.mono (by rw [HZ.out]; omega)))
  clear hb HA HZ HR1 HR2
  obtain ⟨x0, x1, x2, x3⟩ := cells3 q1
  obtain ⟨y0, y1, y2, y3⟩ := cells3 q2
  clear q1 q2
  go_wp2_with fail
  refine bodyPost_ret (v := .agg #[.int .i64 f, .int .i64 t, .string d]) (by simp [results, Try.results26, go_sem, *]) rfl ⟨rfl, ?_⟩
  have hB := HB.out
  exact (((hB.setCell (by simp) _).setCell (by simp) _).setCell (by simp) _).setCell (by simp) _
end Go.Proofs.Ytcfhfamdcdkgjaa
