/-
  What a table's nodes are in memory: blocks that no call writes once they are made. No walk.
-/
import Derived.Test.YthioogncbhkaoaaProg
import Derived.Test.YthioogncbhkaoaaMemMath
import Derived.WalkKit
import Derived.Lib.Hide
import Derived.BigQuiet
import Derived.Deep.QuietTactic
import Derived.Deep.RegionHeld3
namespace Go.Proofs.Ythioogncbhkaoaa
open Go.RowKit

/-- The types of nodes and items. -/
def nodeT (T : TypeId) : Prop :=
  T = 113 ∨ T = 98 ∨ T = 104 ∨ T = 75 ∨ T = 109 ∨ T = 88
def IsNode (w : World) (k : Nat) : Prop := ∃ cs T, nodeT T ∧ w.heap[k]? = some (.cells cs T (0, 0))
theorem IsNode.lt {w : World} {k : Nat} (h : IsNode w k) : k < w.heap.size := by
  obtain ⟨cs, T, -, h⟩ := h; exact (Array.getElem?_eq_some_iff.1 h).1
/-- A block of another type is no node. -/
theorem not_node {w : World} {k : Nat} {cs : Array Value} {T : TypeId} {f : Nat × Nat} (h : w.heap[k]? = some (.cells cs T f)) (hT : ¬ nodeT T) : ¬ IsNode w k := by
  rintro ⟨cs', T', hT', h'⟩
  rw [h] at h'
  cases h'
  exact hT hT'
/-- All nodes lie as they lay. -/
structure Kept (w w' : World) : Prop where
  size : w.heap.size ≤ w'.heap.size
  node : ∀ k, IsNode w k → w'.heap[k]? = w.heap[k]?
theorem Kept.refl (w : World) : Kept w w := ⟨Nat.le_refl _, fun _ _ => rfl⟩
theorem Kept.isNode {w w' : World} (h : Kept w w') {k : Nat} (hk : IsNode w k) : IsNode w' k := by
  obtain ⟨cs, T, h1, h2⟩ := hk
  exact ⟨cs, T, h1, (h.node k ⟨cs, T, h1, h2⟩).trans h2⟩
theorem Kept.trans {a b c : World} (h : Kept a b) (k : Kept b c) : Kept a c := ⟨Nat.le_trans h.size k.size, fun i hi => (k.node i (h.isNode hi)).trans (h.node i hi)⟩
theorem Kept.of_below {w w' : World} (h : Below w.heap.size w w') : Kept w w' := ⟨h.size, fun k hk => h.block k hk.lt⟩
theorem Kept.setCell {w : World} {p : Addr} {v : Value} (h : ¬ IsNode w p.block) : Kept w (w.setCell p v) :=
  ⟨by simp [World.setCell], fun k hk => Below.heap_setCell _ _ _ _ fun e => h (e ▸ hk)⟩
theorem Kept.alloc (w : World) (o : Obj) : Kept w (w.alloc o) := ⟨by simp, fun k hk => Below.heap_alloc _ _ _ hk.lt⟩

theorem cells1 {w : World} {a : Nat} {v0 : Value} {T : TypeId} (h : w.heap[a]? = some (.cells #[v0] T (0, 0))) :
    w.cell? ⟨a, 0, none⟩ = some v0 ∧ (∀ i, w.frozen? ⟨a, i, none⟩ = false) := by
  refine ⟨?_, fun i => frozen_of_row w a i _ _ h⟩; rw [cell_of_row _ _ _ _ _ _ h]; rfl
theorem cells2 {w : World} {a : Nat} {v0 v1 : Value} {T : TypeId} (h : w.heap[a]? = some (.cells #[v0, v1] T (0, 0))) :
    w.cell? ⟨a, 0, none⟩ = some v0 ∧ w.cell? ⟨a, 1, none⟩ = some v1 ∧ (∀ i, w.frozen? ⟨a, i, none⟩ = false) := by
  refine ⟨?_, ?_, fun i => frozen_of_row w a i _ _ h⟩ <;> rw [cell_of_row _ _ _ _ _ _ h] <;> rfl
theorem cells4 {w : World} {a : Nat} {v0 v1 v2 v3 : Value} {T : TypeId} (h : w.heap[a]? = some (.cells #[v0, v1, v2, v3] T (0, 0))) :
    w.cell? ⟨a, 0, none⟩ = some v0 ∧ w.cell? ⟨a, 1, none⟩ = some v1 ∧ w.cell? ⟨a, 2, none⟩ = some v2 ∧ w.cell? ⟨a, 3, none⟩ = some v3 := by
  refine ⟨?_, ?_, ?_, ?_⟩ <;> rw [cell_of_row _ _ _ _ _ _ h] <;> rfl
theorem new_row (w : World) (o : Obj) : (w.alloc o).heap[w.heap.size]? = some o := heap_alloc_new w o
theorem below_alloc (w : World) (o : Obj) : Below w.heap.size w (w.alloc o) := (Below.refl _ w).alloc (Nat.le_refl _) o
end Go.Proofs.Ythioogncbhkaoaa
