/-
  Rows of pairs that lie in memory stay where their blocks do. No condition.
-/
import Derived.Test.YthioogncbhkaoaaMemPairs
import Derived.Test.YthioogncbhkaoaaRangeY
import Derived.Test.YthioogncbhkaoaaMemRep
namespace Go.Proofs.Ythioogncbhkaoaa
open Go.RowKit
/-- What lies in cells of texts stays where its blocks do. -/
theorem pairs_turn {w w' : World} {p : Option Addr} {xs : List Pr} (h : PairsAt w p xs) (hz : w.heap.size ≤ w'.heap.size) (hb : ∀ k, k < w.heap.size → (∃ o j s, w.cell? ⟨k, j, o⟩ = some (.string s)) → w'.heap[k]? = w.heap[k]?) : PairsAt w' p xs := fun i hi => by
  obtain ⟨A, h1, h2, h3, h4⟩ := h i hi
  have h0 := h3 0 (by omega)
  have e : w'.heap[A.block]? = w.heap[A.block]? := by
    refine hb _ h2 ⟨(A.add (i * 2 + 0)).spot, (A.add (i * 2 + 0)).off, xs[i].1, ?_⟩
    have e2 : (⟨A.block, (A.add (i * 2 + 0)).off, (A.add (i * 2 + 0)).spot⟩ : Addr) = A.add (i * 2 + 0) := by rw [← add_block A (i * 2 + 0)]
    rw [e2]; exact h0
  refine ⟨A, h1, Nat.lt_of_lt_of_le h2 hz, fun j hj => ?_, h4⟩
  rw [← h3 j hj]
  exact World.cell?_of_block (by rw [add_block]; exact e)
/-- A block of one cell that is no text. -/
theorem no_text {w : World} {b : Nat} {v : Value} {T : TypeId} {f : Nat × Nat} (h : w.heap[b]? = some (.cells #[v] T f)) (hv : ∀ s, v ≠ .string s) : ¬ ∃ o j s, w.cell? ⟨b, j, o⟩ = some (.string s) := by
  rintro ⟨o, j, s, hc⟩
  unfold World.cell? at hc
  rw [h] at hc
  simp only at hc
  split at hc
  · cases hc
  · rcases j with _ | j
    · simp at hc; exact hv s hc
    · simp at hc
theorem pairs_its {A C : World} {n : Nat} {p : Option Addr} {xs : List Pr} (h : PairsAt A p xs) (st : ItS n A C) : PairsAt C p xs := pairs_turn h st.size fun k hk ⟨o, j, s, hc⟩ => st.block k hk (.inr fun hn => by
  unfold World.cell? at hc
  split at hc
  · rename_i h; exact hn _ _ _ h
  · cases hc)
end Go.Proofs.Ythioogncbhkaoaa
