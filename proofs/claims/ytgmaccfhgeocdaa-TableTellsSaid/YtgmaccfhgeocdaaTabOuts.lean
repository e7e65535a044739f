/-
  What a range's body writes (some boxes), and what stays; the marks that ranges leave. No condition.
-/
import Derived.Test.YtgmaccfhgeocdaaTabNow
import Derived.Test.YtgmaccfhgeocdaaRangeZ
namespace Go.Proofs.Ytgmaccfhgeocdaa
open Go.RowKit

/-- Of what lay in w, the blocks of G alone may have turned. -/
structure Outs (G : List Nat) (w w' : World) : Prop where
  os : w'.os = w.os
  tape : w'.tape = w.tape
  output : w'.output = w.output
  size : w.heap.size ≤ w'.heap.size
  block : ∀ k, k < w.heap.size → k ∉ G → w'.heap[k]? = w.heap[k]?
theorem Outs.refl (G : List Nat) (w : World) : Outs G w w := ⟨rfl, rfl, rfl, Nat.le_refl _, fun _ _ _ => rfl⟩
theorem Outs.steps {G : List Nat} {w A C : World} {S S' : Nat → Prop} (h : Outs G w A) (st : StepsZ S S' A C) (hS : ∀ k, S k → w.heap.size ≤ k) : Outs G w C :=
  ⟨st.os.trans h.os, st.tape.trans h.tape, st.output.trans h.output, Nat.le_trans h.size st.size, fun k hk hn => (st.block k (Nat.lt_of_lt_of_le hk h.size) fun e => by have := hS k e; omega).trans (h.block k hk hn)⟩
theorem Outs.below {G : List Nat} {w A C : World} (h : Outs G w A) (hb : Below A.heap.size A C) : Outs G w C :=
  ⟨hb.os.trans h.os, hb.tape.trans h.tape, hb.output.trans h.output, Nat.le_trans h.size hb.size, fun k hk hn => (hb.block k (Nat.lt_of_lt_of_le hk h.size)).trans (h.block k hk hn)⟩
theorem Outs.set {G : List Nat} {w A : World} {b : Nat} (h : Outs G w A) (hb : b ∈ G) (i : Nat) (v : Value) : Outs G w (A.setCell ⟨b, i, none⟩ v) :=
  ⟨h.os, h.tape, h.output, by simpa [World.setCell] using h.size, fun k hk hn => (Below.heap_setCell _ _ _ _ (fun (e : k = b) => hn (by rw [e]; exact hb))).trans (h.block k hk hn)⟩
/-- A box of one cell, as a law's variable that a range's body writes. -/
def Bx (T : TypeId) (b : Nat) (v : Value) : Nat × Obj := (b, .cells #[v] T (0, 0))
theorem Now.outs {w0 w A : World} {G G' B : List (Nat × Obj)} (h : Now w0 w (G ++ B)) (ho : Outs (G.map Prod.fst) w A) (e : G'.map Prod.fst = G.map Prod.fst) (hG : ∀ q ∈ G', A.heap[q.1]? = some q.2) : Now w0 A (G' ++ B) := by
  have hn : ∀ q ∈ G', w0.heap.size ≤ q.1 := fun q hq => by
    have : q.1 ∈ G.map Prod.fst := e ▸ List.mem_map.2 ⟨q, hq, rfl⟩
    obtain ⟨r, hr, e'⟩ := List.mem_map.1 this
    rw [← e']; exact h.new r (List.mem_append_left _ hr)
  refine ⟨⟨ho.os.trans h.below.os, ho.tape.trans h.below.tape, ho.output.trans h.below.output, Nat.le_trans h.below.size ho.size, fun k hk => ?_⟩, fun q hq => ?_, fun q hq => ?_, ?_⟩
  · refine (ho.block k (Nat.lt_of_lt_of_le hk h.below.size) fun hm => ?_).trans (h.below.block k hk)
    obtain ⟨r, hr, e'⟩ := List.mem_map.1 hm
    have := h.new r (List.mem_append_left _ hr)
    omega
  · rcases List.mem_append.1 hq with hq | hq
    · exact hG q hq
    · refine (ho.block q.1 (h.lt (List.mem_append_right _ hq)) fun hm => ?_).trans (h.box q (List.mem_append_right _ hq))
      have := h.apart
      rw [List.map_append, List.nodup_append] at this
      exact this.2.2 _ hm _ (List.mem_map.2 ⟨q, hq, rfl⟩) rfl
  · rcases List.mem_append.1 hq with hq | hq
    · exact hn q hq
    · exact h.new q (List.mem_append_right _ hq)
  · have := h.apart
    rw [List.map_append, ← e, ← List.map_append] at this
    exact this
/-- The mark of a range: a block that is nobody's. -/
def MarkO : Obj := .deferred (some [])
def marks (Ds : List Nat) : List Deferred := Ds.map fun D => { target := .collected D, args := #[] }
theorem leaves_now {F : Fence} {n : Nat} {P : Program} {fn : Func} {tmps : Array Value} {R : Ending → World → Prop} {v : Value} (w0 : World) (hres : ∀ W, (results fn tmps).run P W = .ok v W) :
    ∀ (Ds : List Nat) (W : World), Now w0 W (Ds.map fun D => (D, MarkO)) → (∀ W', Below w0.heap.size w0 W' → R (.returned v) W') → LeavesInM F n P fn tmps R (marks Ds) .returning W
  | [], W, h, hR => ⟨v, hres W, hR W h.below⟩
  | D :: Ds, W, h, hR => by
    have hK : W.heap[D]? = some (.deferred (some [])) := h.head
    refine ⟨by simp, .inl ⟨_, _, rfl, run_takeDeferred hK, ?_⟩⟩
    refine leaves_now w0 hres Ds _ ?_ hR
    have h2 : Now w0 (W.putObj D (.deferred none)) ((D, .deferred none) :: (Ds.map fun D => (D, MarkO))) :=
      h.turn rfl rfl rfl (by simp) (fun k _ hk => World.putObj_heap_other hk) (World.putObj_heap_same (Array.getElem?_eq_some_iff.1 hK).1)
    exact h2.tail
end Go.Proofs.Ytgmaccfhgeocdaa
namespace Go.Proofs.Ytgmaccfhgeocdaa
open Go.RowKit
/-- As leaves_now, where the result is read out of a box. -/
theorem leaves_box {F : Fence} {n : Nat} {P : Program} {fn : Func} {tmps : Array Value} {R : Ending → World → Prop} {v : Value} (w0 : World) (b : Nat) (T : TypeId) (hres : ∀ W, W.cell? ⟨b, 0, none⟩ = some v → (results fn tmps).run P W = .ok v W) :
    ∀ (Ds : List Nat) (W : World), Now w0 W ((Ds.map fun D => (D, MarkO)) ++ [(b, .cells #[v] T (0, 0))]) → (∀ W', Below w0.heap.size w0 W' → R (.returned v) W') → LeavesInM F n P fn tmps R (marks Ds) .returning W
  | [], W, h, hR => ⟨v, hres W (cells1 h.head).1, hR W h.below⟩
  | D :: Ds, W, h, hR => by
    have hK : W.heap[D]? = some (.deferred (some [])) := h.head
    refine ⟨by simp, .inl ⟨_, _, rfl, run_takeDeferred hK, ?_⟩⟩
    refine leaves_box w0 b T hres Ds _ ?_ hR
    have h2 : Now w0 (W.putObj D (.deferred none)) ((D, .deferred none) :: ((Ds.map fun D => (D, MarkO)) ++ [(b, .cells #[v] T (0, 0))])) :=
      h.turn rfl rfl rfl (by simp) (fun k _ hk => World.putObj_heap_other hk) (World.putObj_heap_same (Array.getElem?_eq_some_iff.1 hK).1)
    exact h2.tail
end Go.Proofs.Ytgmaccfhgeocdaa
