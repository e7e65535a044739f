/-
  A log's object in a law: its file, its numbers in a row of their own. Walks over package wal: made, empty, First, Last. Conditions: those in the theorems.
-/
import Derived.Test.YtoecbkndbcblpaaGreatDoorWalFile2
import Derived.Test.YtoecbkndbcblpaaGreatDoorWalParse
import Derived.Maps.AppendAt
import Derived.Deep.RegionLaw
namespace Go.Proofs.YtoecbkndbcblpaaGreatDoor
open Go.RowKit Go.Maps Go.Sort Go.Shelf

def natV (n : Nat) : Value := .int .i64 (n : Nat)
/-- The row of numbers of a log: none, or a block that holds them. -/
def RowIs (v : Value) (R : List (Nat × Obj)) (xs : List Nat) : Prop :=
  (v = .slice none 0 0 ∧ xs = [] ∧ R = []) ∨ ∃ g cap cur, v = .slice (some ⟨g, 0, none⟩) xs.length cap ∧ R = [(g, .cells cur 3 (0, 0))] ∧ xs.length ≤ cap ∧ cap ≤ maxLen ∧ cur.size = cap * 1 ∧ cur.toList.take (xs.length * 1) = xs.map natV
def walRest (W : Wm.W) (v : Value) : List Value := [.string W.log, v, natV W.last, .bool W.dead]
/-- A log in a law: its object at b, its disk at a. -/
def WalIn (w0 w : World) (a : Nat) (D : Dm.Disk) (b : Nat) (W : Wm.W) (B : List (Nat × Obj)) : Prop :=
  ∃ v R, Bx w0 w a D ((b, fobj a W.f (walRest W v) 43) :: (R ++ B)) ∧ RowIs v R W.firsts

section
variable {w0 w w' : World} {a b : Nat} {D D' : Dm.Disk} {B : List (Nat × Obj)} {W : Wm.W} {v : Value} {R : List (Nat × Obj)}
theorem RowIs.owns {xs : List Nat} (h : RowIs v R xs) (hb : ∀ p ∈ R, w.heap[p.1]? = some p.2) : w.ownsRow 0 3 1 v xs.length (xs.map natV) := by
  rcases h with ⟨rfl, rfl, -⟩ | ⟨g, cap, cur, rfl, rfl, h1, h2, h3, h4⟩
  · exact World.ownsRow_nil _ _ _ _
  · exact ⟨by simp, .inr ⟨g, cap, cur, rfl, Nat.zero_le _, hb _ List.mem_cons_self, h1, h2, h3, h4⟩⟩
theorem RowIs.shape {xs : List Nat} (h : RowIs v R xs) : ∃ p cap, v = .slice p xs.length cap ∧ xs.length ≤ cap ∧ cap ≤ maxLen := by
  rcases h with ⟨rfl, rfl, -⟩ | ⟨g, cap, cur, rfl, rfl, h1, h2, h3, h4⟩
  · exact ⟨none, 0, rfl, Nat.le_refl _, Nat.zero_le _⟩
  · exact ⟨_, _, rfl, h1, h2⟩
theorem RowIs.at {xs : List Nat} (h : RowIs v R xs) (hb : ∀ p ∈ R, w.heap[p.1]? = some p.2) {i : Nat} (hi : i < xs.length) : ∃ g cap, v = .slice (some ⟨g, 0, none⟩) xs.length cap ∧ xs.length ≤ cap ∧ w.cell? ⟨g, i, none⟩ = some (natV xs[i]) := by
  rcases h with ⟨rfl, rfl, -⟩ | ⟨g, cap, cur, rfl, rfl, h1, h2, h3, h4⟩
  · exact absurd hi (Nat.not_lt_zero _)
  · refine ⟨g, cap, rfl, h1, ?_⟩
    rw [cell_of_row w g i cur _ _ (hb _ List.mem_cons_self)]
    have e : (cur.toList.take (xs.length * 1))[i]? = (xs.map natV)[i]? := by rw [h4]
    rw [List.getElem?_take, if_pos (by omega)] at e
    simpa [hi] using e
theorem wobj_cells {v : Value} {T : TypeId} (h : w.heap[b]? = some (fobj a W.f (walRest W v) T)) :
    w.cell? ⟨b, 5, none⟩ = some (.string W.log) ∧ w.cell? ⟨b, 6, none⟩ = some v ∧ w.cell? ⟨b, 7, none⟩ = some (.int .i64 (W.last : Nat)) ∧ w.cell? ⟨b, 8, none⟩ = some (.bool W.dead) := by
  refine ⟨?_, ?_, ?_, ?_⟩ <;> rw [cell_of_row w b _ _ _ _ h] <;> simp [fcells, walRest, natV]
theorem WalIn.same (h : WalIn w0 w a D b W B) (hb : Below w.heap.size w w') : WalIn w0 w' a D b W B := by
  obtain ⟨v, R, h1, h2⟩ := h; exact ⟨v, R, h1.same hb, h2⟩
theorem WalIn.below (h : WalIn w0 w a D b W B) : Below w0.heap.size w0 w := by obtain ⟨v, R, h1, h2⟩ := h; exact h1.below
theorem WalIn.disk (h : WalIn w0 w a D b W B) : Bx w0 w a D B := by
  obtain ⟨v, R, h1, h2⟩ := h; exact h1.sub ((List.sublist_append_right R B).cons _)

set_option maxHeartbeats 1000000 in
theorem made_w (h : WalIn w0 w a D b W B) : Calls Tryz.prog 28 #[.pointer (some ⟨b, 0, none⟩)] w fun e w' => e = .returned (.bool true) ∧ w = w' := by
  obtain ⟨v, R, h1, h2⟩ := h
  obtain ⟨x0, -⟩ := fobj_cells (h1.box _ List.mem_cons_self)
  clear h1 h2
  go_enter Tryz.func28, Tryz.ntmps28
  go_wp2_with fail
  go_ret
  exact ⟨rfl, rfl⟩
set_option maxHeartbeats 1000000 in
theorem made_none (w : World) : Calls Tryz.prog 28 #[.pointer none] w fun e w' => e = .returned (.bool false) ∧ w = w' := by
  go_enter Tryz.func28, Tryz.ntmps28
  go_wp2_with fail
  go_ret
  exact ⟨rfl, rfl⟩
set_option maxHeartbeats 1000000 in
theorem last_w (h : WalIn w0 w a D b W B) : Calls Tryz.prog 10 #[.pointer (some ⟨b, 0, none⟩)] w fun e w' => e = .returned (.int .i64 (W.last : Nat)) ∧ w = w' := by
  have hm := made_w h
  obtain ⟨v, R, h1, h2⟩ := h
  obtain ⟨-, -, x7, -⟩ := wobj_cells (h1.box _ List.mem_cons_self)
  clear h1 h2
  go_enter Tryz.func10, Tryz.ntmps10
  go_wp2_with fail
  refine hm.mono ?_
  rintro e w2 ⟨rfl, rfl⟩
  go_wp2_with fail
  go_ret
  exact ⟨rfl, rfl⟩
set_option maxHeartbeats 1000000 in
theorem first_w (h : WalIn w0 w a D b W B) {n : Nat} {r : List Nat} (hf : W.firsts = n :: r) (hl : W.firsts.length ≤ 1000) : Calls Tryz.prog 9 #[.pointer (some ⟨b, 0, none⟩)] w fun e w' => e = .returned (.int .i64 (n : Nat)) ∧ w = w' := by
  have hm := made_w h
  obtain ⟨v, R, h1, h2⟩ := h
  obtain ⟨-, x6, -, -⟩ := wobj_cells (h1.box _ List.mem_cons_self)
  obtain ⟨g, cap, rfl, hc, x⟩ := h2.at (w := w) (fun p hp => h1.box p (List.mem_cons_of_mem _ (List.mem_append_left _ hp))) (i := 0) (by rw [hf]; simp)
  have e0 : W.firsts[0]'(by rw [hf]; simp) = n := by simp [hf]
  rw [e0] at x
  unfold natV at x
  have i1 : (0 : Int) < (W.firsts.length : Int) := by rw [hf]; simp
  clear h1 h2 e0 hf
  generalize W.firsts.length = m at *
  go_enter Tryz.func9, Tryz.ntmps9
  go_wp2_with fail
  refine hm.mono ?_
  rintro e w2 ⟨rfl, rfl⟩
  go_wp2_with fail
  go_ret
  exact ⟨rfl, rfl⟩
set_option maxRecDepth 100000 in
set_option maxHeartbeats 1000000 in
theorem empty_w (h : WalIn w0 w a D b W B) {n : Nat} (hf : W.firsts.getLast? = some n) (hl : W.firsts.length ≤ 1000) : Calls Tryz.prog 68 #[.pointer (some ⟨b, 0, none⟩)] w fun e w' => e = .returned (.bool (decide (W.last < n))) ∧ Below w.heap.size w w' := by
  obtain ⟨v, R, h1, h2⟩ := h
  obtain ⟨-, x6, x7, -⟩ := wobj_cells (h1.box _ List.mem_cons_self)
  have hne : W.firsts ≠ [] := fun e => by rw [e] at hf; simp at hf
  have hpos : 0 < W.firsts.length := List.length_pos_iff.2 hne
  obtain ⟨g, cap, rfl, hc, x⟩ := h2.at (w := w) (fun p hp => h1.box p (List.mem_cons_of_mem _ (List.mem_append_left _ hp))) (i := W.firsts.length - 1) (by omega)
  have e0 : W.firsts[W.firsts.length - 1]'(by omega) = n := by
    rw [List.getLast?_eq_getElem?, List.getElem?_eq_getElem (by omega)] at hf
    exact Option.some.inj hf
  rw [e0] at x
  unfold natV at x
  clear h1 h2 e0 hf hne
  obtain ⟨m, hm⟩ : ∃ m, W.firsts.length - 1 = m := ⟨_, rfl⟩
  rw [hm] at x
  have e1 : (W.firsts.length : Int) - 1 = (m : Int) := by omega
  have e2 : IntKind.i64.wrap (m : Int) = (m : Int) := IntWalk.i64_in _ (by omega)
  have i1 : (m : Int) < (W.firsts.length : Int) := by omega
  have i2 : (0 : Int) ≤ (m : Int) := by omega
  clear hm
  generalize W.firsts.length = q at *
  go_enter Tryz.func68, Tryz.ntmps68
  go_wp2_with fail
  go_quiet (fail)
  go_wp2_with fail
  go_ret
  exact ⟨rfl, below_drewN (Below.refl _ _) _⟩
end
end Go.Proofs.YtoecbkndbcblpaaGreatDoor
