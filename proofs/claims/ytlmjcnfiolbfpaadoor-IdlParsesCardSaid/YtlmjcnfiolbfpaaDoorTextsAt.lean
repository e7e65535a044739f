/-
  Slices of texts, as they are handed in. No condition.
-/
import Derived.Test.YtlmjcnfiolbfpaaDoorProg
import Derived.WalkKit
namespace Go.Proofs.YtlmjcnfiolbfpaaDoor
open Go.RowKit

/-- A slice of texts: cell i holds ss[i]. -/
def TextsAt (W : World) (p : Option Addr) (ss : List ByteArray) : Prop := ∀ i (h : i < ss.length), ∃ a, p = some a ∧ a.block < W.heap.size ∧ W.cell? (a.add i) = some (.string ss[i])
theorem add_block (a : Addr) (i : Nat) : (a.add i).block = a.block := by unfold Addr.add; split <;> rfl
theorem TextsAt.below {W W' : World} {p : Option Addr} {ss : List ByteArray} (h : TextsAt W p ss) (hb : Below W.heap.size W W') : TextsAt W' p ss := fun i hi => by
  obtain ⟨a, h1, h2, h3⟩ := h i hi
  exact ⟨a, h1, Nat.lt_of_lt_of_le h2 hb.size, (hb.cell (by rw [add_block]; exact h2)).trans h3⟩
/-- The lengths together, each at most m. -/
def lensTo (m : Nat) : List ByteArray → Nat
  | [] => 0
  | s :: r => min s.size m + lensTo m r
theorem lensTo_append (m : Nat) (a b : List ByteArray) : lensTo m (a ++ b) = lensTo m a + lensTo m b := by
  induction a with
  | nil => simp [lensTo]
  | cons x r ih => show min x.size m + lensTo m (r ++ b) = _; rw [ih]; show _ = min x.size m + lensTo m r + lensTo m b; omega
theorem lensTo_take (m : Nat) (ss : List ByteArray) (k : Nat) (hk : k < ss.length) : lensTo m (ss.take (k + 1)) = lensTo m (ss.take k) + min ss[k].size m := by
  rw [List.take_succ_eq_append_getElem hk, lensTo_append]; simp [lensTo]
theorem lensTo_le (m : Nat) (ss : List ByteArray) : lensTo m ss ≤ ss.length * m := by
  induction ss with
  | nil => simp [lensTo]
  | cons x r ih =>
    show min x.size m + lensTo m r ≤ (r.length + 1) * m
    rw [Nat.add_mul, Nat.one_mul]; omega
theorem lensTo_each {m n : Nat} (hn : n < m) (ss : List ByteArray) (h : lensTo m ss ≤ n) : ∀ s ∈ ss, s.size ≤ n := by
  induction ss with
  | nil => intro s hs; cases hs
  | cons x r ih =>
    have h' : min x.size m + lensTo m r ≤ n := h
    intro s hs
    rcases List.mem_cons.1 hs with rfl | hs
    · omega
    · exact ih (by omega) s hs
end Go.Proofs.YtlmjcnfiolbfpaaDoor
