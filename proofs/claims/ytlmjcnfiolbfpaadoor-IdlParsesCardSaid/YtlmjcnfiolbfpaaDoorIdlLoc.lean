/-
  Where a reader that fills a struct has come to: its blocks, and what the reader has left. Conditions: those in the theorems.
-/
import Derived.Test.YtlmjcnfiolbfpaaDoorIdlSorts
set_option linter.unusedSimpArgs false
set_option linter.unusedVariables false
namespace Go.Proofs.YtlmjcnfiolbfpaaDoor
open Go.RowKit

theorem row_set {α : Type} {K : RowKind α} (ok : K.Ok) {base x : Nat} {W V : World} {v : Value} {l : List α} {cs : Array Value} {T : TypeId} (h : RowIs K W base v l) (hx : W.heap[x]? = some (.cells cs T (0, 0))) (hT : ¬ (T = K.ty ∨ K.tys T)) (ht : Tn x W V) : RowIs K V base v l :=
  h.keep ok (Nat.le_refl _) fun j cs' ty hj hc hty => ht.block j (Array.getElem?_eq_some_iff.1 hc).1 fun e => by
    subst e; rw [hx] at hc; cases hc; exact hT hty
/-- A call that fills the struct in block y, and has its result in block x. -/
structure Loc (b q : Nat) (w : World) (x y : Nat) (T : TypeId) (zs : Array Value) (r : Ip.R) (W : World) (cs : Array Value) : Prop where
  gone : Gone b q w r W
  res : W.heap[x]? = some (.cells zs T (0, 0))
  loc : W.heap[y]? = some (.cells cs T (0, 0))
  hx : w.heap.size ≤ x
  hy : w.heap.size ≤ y
  hxy : x ≠ y
section
variable {b q : Nat} {w : World} {x y : Nat} {T : TypeId} {zs cs : Array Value} {r r' r0 : Ip.R} {W V : World}
theorem Loc.call (L : Loc b q w x y T zs r W cs) (h0 : Rd w b q r0) (k : Gone b q W r' V) : Loc b q w x y T zs r' V cs :=
  ⟨L.gone.trans k, (k.2.block x (Array.getElem?_eq_some_iff.1 L.res).1 (by have := h0.lt; have := L.hx; omega)).trans L.res, (k.2.block y (Array.getElem?_eq_some_iff.1 L.loc).1 (by have := h0.lt; have := L.hy; omega)).trans L.loc, L.hx, L.hy, L.hxy⟩
theorem Loc.set (L : Loc b q w x y T zs r W cs) (h0 : Rd w b q r0) (i : Nat) (v : Value) : Loc b q w x y T zs r (W.setCell ⟨y, i, none⟩ v) (cs.setIfInBounds i v) :=
  ⟨L.gone.set h0 L.hy i v, (Below.heap_setCell _ _ _ _ L.hxy).trans L.res, tk_set L.loc v, L.hx, L.hy, L.hxy⟩
theorem loc_start {o : Obj} {o2 : Obj} (h0 : Rd w b q r) (ho : o = .cells zs T (0, 0)) (ho2 : o2 = .cells cs T (0, 0)) : Loc b q w w.heap.size (w.heap.size + 1) T zs r ((w.alloc o).alloc o2) cs := by
  subst ho ho2
  refine ⟨((Gone.refl h0).alloc _).alloc _, ?_, ?_, Nat.le_refl _, Nat.le_succ _, by omega⟩
  · exact ((tk_alloc (w.alloc _) _).block _ (by rw [World.size_alloc]; omega)).trans (heap_alloc_new w _)
  · have := heap_alloc_new (w.alloc (.cells zs T (0, 0))) (.cells cs T (0, 0))
    rw [World.size_alloc] at this; exact this
end
theorem cells3 {W : World} {b : Nat} {x0 x1 x2 : Value} {T : TypeId} {fr : Nat × Nat} (h : W.heap[b]? = some (.cells #[x0, x1, x2] T fr)) : W.cell? ⟨b, 0, none⟩ = some x0 ∧ W.cell? ⟨b, 1, none⟩ = some x1 ∧ W.cell? ⟨b, 2, none⟩ = some x2 := by
  refine ⟨?_, ?_, ?_⟩ <;> rw [cell_of_row W b _ _ _ _ h] <;> rfl
theorem cells4 {W : World} {b : Nat} {x0 x1 x2 x3 : Value} {T : TypeId} {fr : Nat × Nat} (h : W.heap[b]? = some (.cells #[x0, x1, x2, x3] T fr)) : W.cell? ⟨b, 0, none⟩ = some x0 ∧ W.cell? ⟨b, 1, none⟩ = some x1 ∧ W.cell? ⟨b, 2, none⟩ = some x2 ∧ W.cell? ⟨b, 3, none⟩ = some x3 := by
  refine ⟨?_, ?_, ?_, ?_⟩ <;> rw [cell_of_row W b _ _ _ _ h] <;> rfl
theorem cells5 {W : World} {b : Nat} {x0 x1 x2 x3 x4 : Value} {T : TypeId} {fr : Nat × Nat} (h : W.heap[b]? = some (.cells #[x0, x1, x2, x3, x4] T fr)) : W.cell? ⟨b, 0, none⟩ = some x0 ∧ W.cell? ⟨b, 1, none⟩ = some x1 ∧ W.cell? ⟨b, 2, none⟩ = some x2 ∧ W.cell? ⟨b, 3, none⟩ = some x3 ∧ W.cell? ⟨b, 4, none⟩ = some x4 := by
  refine ⟨?_, ?_, ?_, ?_, ?_⟩ <;> rw [cell_of_row W b _ _ _ _ h] <;> rfl
theorem set_three {W : World} {a : Nat} {x0 x1 x2 : Value} (y0 y1 y2 : Value) {T : TypeId} (h : W.heap[a]? = some (.cells #[x0, x1, x2] T (0, 0))) : (((W.setCell ⟨a, 0, none⟩ y0).setCell ⟨a, 1, none⟩ y1).setCell ⟨a, 2, none⟩ y2).heap[a]? = some (.cells #[y0, y1, y2] T (0, 0)) := tk_set (tk_set (tk_set h _) _) _
theorem set_five {W : World} {a : Nat} {x0 x1 x2 x3 x4 : Value} (y0 y1 y2 y3 y4 : Value) {T : TypeId} (h : W.heap[a]? = some (.cells #[x0, x1, x2, x3, x4] T (0, 0))) : (((((W.setCell ⟨a, 0, none⟩ y0).setCell ⟨a, 1, none⟩ y1).setCell ⟨a, 2, none⟩ y2).setCell ⟨a, 3, none⟩ y3).setCell ⟨a, 4, none⟩ y4).heap[a]? = some (.cells #[y0, y1, y2, y3, y4] T (0, 0)) := tk_set (tk_set (tk_set (tk_set (tk_set h _) _) _) _) _
theorem tn_three {x : Nat} (w : World) (a b c : Value) : Tn x w (((w.setCell ⟨x, 0, none⟩ a).setCell ⟨x, 1, none⟩ b).setCell ⟨x, 2, none⟩ c) := ((tn_set w a).trans (tn_set _ b)).trans (tn_set _ c)
theorem tn_five {x : Nat} (w : World) (a b c d e : Value) : Tn x w (((((w.setCell ⟨x, 0, none⟩ a).setCell ⟨x, 1, none⟩ b).setCell ⟨x, 2, none⟩ c).setCell ⟨x, 3, none⟩ d).setCell ⟨x, 4, none⟩ e) := ((((tn_set w a).trans (tn_set _ b)).trans (tn_set _ c)).trans (tn_set _ d)).trans (tn_set _ e)
end Go.Proofs.YtlmjcnfiolbfpaaDoor
