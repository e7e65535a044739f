/-
  A law's world: since w0 it has turned in new blocks alone; the blocks of B hold what B says. No condition.
-/
import Derived.Test.YtgmaccfhgeocdaaTabRow
namespace Go.Proofs.Ytgmaccfhgeocdaa
open Go.RowKit

theorem new_row (w : World) (o : Obj) : (w.alloc o).heap[w.heap.size]? = some o := heap_alloc_new w o
theorem cells1 {w : World} {a : Nat} {v0 : Value} {T : TypeId} (h : w.heap[a]? = some (.cells #[v0] T (0, 0))) :
    w.cell? ⟨a, 0, none⟩ = some v0 ∧ (∀ i, w.frozen? ⟨a, i, none⟩ = false) := by
  refine ⟨?_, fun i => frozen_of_row w a i _ _ h⟩; rw [cell_of_row _ _ _ _ _ _ h]; rfl
structure Now (w0 w : World) (B : List (Nat × Obj)) : Prop where
  below : Below w0.heap.size w0 w
  box : ∀ q ∈ B, w.heap[q.1]? = some q.2
  new : ∀ q ∈ B, w0.heap.size ≤ q.1
  apart : (B.map Prod.fst).Nodup
section
variable {w0 w w' : World} {B B' : List (Nat × Obj)} {a : Nat} {o o' : Obj}
theorem now_start (w : World) : Now w w [] := ⟨Below.refl _ _, fun _ h => (nomatch h), fun _ h => (nomatch h), List.nodup_nil⟩
theorem Now.lt (h : Now w0 w B) {q : Nat × Obj} (hq : q ∈ B) : q.1 < w.heap.size := (Array.getElem?_eq_some_iff.1 (h.box q hq)).1
theorem Now.same (h : Now w0 w B) (hb : Below w.heap.size w w') : Now w0 w' B :=
  ⟨h.below.trans (hb.mono h.below.size), fun q hq => (hb.block _ (h.lt hq)).trans (h.box q hq), h.new, h.apart⟩
theorem Now.sub (h : Now w0 w B) (hs : B'.Sublist B) : Now w0 w B' := ⟨h.below, fun q hq => h.box q (hs.subset hq), fun q hq => h.new q (hs.subset hq), (hs.map _).nodup h.apart⟩
theorem Now.perm (h : Now w0 w B) (hs : B.Perm B') : Now w0 w B' := ⟨h.below, fun q hq => h.box q (hs.mem_iff.2 hq), fun q hq => h.new q (hs.mem_iff.2 hq), (hs.map _).nodup_iff.1 h.apart⟩
theorem Now.add (h : Now w0 w B) (hr : w.heap[a]? = some o) (hn : w0.heap.size ≤ a) (ha : ∀ q ∈ B, q.1 ≠ a) : Now w0 w ((a, o) :: B) := by
  refine ⟨h.below, fun q hq => ?_, fun q hq => ?_, ?_⟩
  · rcases List.mem_cons.1 hq with rfl | hq
    · exact hr
    · exact h.box q hq
  · rcases List.mem_cons.1 hq with rfl | hq
    · exact hn
    · exact h.new q hq
  · rw [List.map_cons, List.nodup_cons]
    refine ⟨fun hm => ?_, h.apart⟩
    obtain ⟨q, hq, e⟩ := List.mem_map.1 hm
    exact ha q hq e
theorem Now.alloc (h : Now w0 w B) (o : Obj) : Now w0 (w.alloc o) ((w.heap.size, o) :: B) :=
  (h.same (below_alloc w o)).add (new_row w o) h.below.size fun q hq e => by have := h.lt hq; omega
theorem Now.ne (h : Now w0 w ((a, o) :: B)) {q : Nat × Obj} (hq : q ∈ B) : q.1 ≠ a := fun e => by
  have := h.apart
  rw [List.map_cons, List.nodup_cons] at this
  exact this.1 (List.mem_map.2 ⟨q, hq, e⟩)
theorem Now.turn (h : Now w0 w ((a, o) :: B)) (hos : w'.os = w.os) (htp : w'.tape = w.tape) (hou : w'.output = w.output) (hz : w.heap.size ≤ w'.heap.size) (hb : ∀ k, k < w.heap.size → k ≠ a → w'.heap[k]? = w.heap[k]?)
    (hr : w'.heap[a]? = some o') : Now w0 w' ((a, o') :: B) := by
  have ha : w0.heap.size ≤ a := h.new (a, o) List.mem_cons_self
  refine ⟨⟨hos.trans h.below.os, htp.trans h.below.tape, hou.trans h.below.output, Nat.le_trans h.below.size hz, fun k hk => (hb k (Nat.lt_of_lt_of_le hk h.below.size) (by omega)).trans (h.below.block k hk)⟩, fun q hq => ?_, fun q hq => ?_, h.apart⟩
  · rcases List.mem_cons.1 hq with rfl | hq
    · exact hr
    · exact (hb _ (h.lt (List.mem_cons_of_mem _ hq)) (h.ne hq)).trans (h.box q (List.mem_cons_of_mem _ hq))
  · rcases List.mem_cons.1 hq with rfl | hq
    · exact ha
    · exact h.new q (List.mem_cons_of_mem _ hq)
theorem Now.set {x : Value} {T : TypeId} (h : Now w0 w ((a, .cells #[x] T (0, 0)) :: B)) (v : Value) : Now w0 (w.setCell ⟨a, 0, none⟩ v) ((a, .cells #[v] T (0, 0)) :: B) :=
  h.turn rfl rfl rfl (by simp [World.setCell]) (fun k _ hk => Below.heap_setCell _ _ _ _ hk) (heap_setCell_same w a 0 _ _ _ (h.box (a, .cells #[x] T (0, 0)) List.mem_cons_self))
theorem Now.head (h : Now w0 w ((a, o) :: B)) : w.heap[a]? = some o := h.box (a, o) List.mem_cons_self
theorem Now.tail (h : Now w0 w ((a, o) :: B)) : Now w0 w B := h.sub (List.sublist_cons_self _ _)
theorem Now.swap {b : Nat} {o2 : Obj} (h : Now w0 w ((a, o) :: (b, o2) :: B)) : Now w0 w ((b, o2) :: (a, o) :: B) := h.perm (List.Perm.swap _ _ _)
end
end Go.Proofs.Ytgmaccfhgeocdaa
