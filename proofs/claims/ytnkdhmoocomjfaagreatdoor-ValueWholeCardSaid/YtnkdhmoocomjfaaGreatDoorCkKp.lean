/-
  What lies in memory stays: an old world's blocks in a newer one (Kp), blocks that a call lays one behind the other (allocs); schemas that are read only by them. Conditions: those in the theorems.
-/
import Derived.Test.YtnkdhmoocomjfaaGreatDoorSchWalk
import Derived.Test.YtnkdhmoocomjfaaGreatDoorCkMath
import Derived.Test.YtnkdhmoocomjfaaGreatDoorCkRanges
set_option linter.unusedSimpArgs false
set_option linter.unusedVariables false
namespace Go.Proofs.YtnkdhmoocomjfaaGreatDoor
open Go.RowKit
/-- All blocks of u lie in W as they lay. -/
structure Kp (u W : World) : Prop where
  size : u.heap.size ≤ W.heap.size
  block : ∀ k, k < u.heap.size → W.heap[k]? = u.heap[k]?
theorem Kp.refl (u : World) : Kp u u := ⟨Nat.le_refl _, fun _ _ => rfl⟩
theorem Kp.of_below {u W : World} (h : Below u.heap.size u W) : Kp u W := ⟨h.size, h.block⟩
theorem Kp.trans {u W X : World} (h : Kp u W) (k : Kp W X) : Kp u X := ⟨Nat.le_trans h.size k.size, fun i hi => (k.block i (Nat.lt_of_lt_of_le hi h.size)).trans (h.block i hi)⟩
theorem Kp.go {u W X : World} {n : Nat} (h : Kp u W) (hn : u.heap.size ≤ n) (k : Below n W X) : Kp u X := ⟨Nat.le_trans h.size k.size, fun i hi => (k.block i (Nat.lt_of_lt_of_le hi hn)).trans (h.block i hi)⟩
theorem Kp.below {u W X : World} (h : Kp u W) (k : Below W.heap.size W X) : Kp u X := h.go h.size k
theorem Kp.cell {u W : World} (h : Kp u W) {a : Addr} (ha : a.block < u.heap.size) : W.cell? a = u.cell? a := World.cell?_of_block (w := u) (h.block a.block ha)
theorem Kp.its {u W X : World} {n : Nat} (h : Kp u W) (hn : u.heap.size ≤ n) (k : ItS n W X) : Kp u X := ⟨Nat.le_trans h.size k.size, fun i hi => (k.block i (Nat.lt_of_lt_of_le hi h.size) (.inl (Nat.lt_of_lt_of_le hi hn))).trans (h.block i hi)⟩
theorem Kp.box {u W : World} (h : Kp u W) {b : Nat} {o : Obj} (hb : u.heap[b]? = some o) : W.heap[b]? = some o := (h.block b (Array.getElem?_eq_some_iff.1 hb).1).trans hb
theorem box_keep {W X : World} (k : Below W.heap.size W X) {b : Nat} {o : Obj} (hb : W.heap[b]? = some o) : X.heap[b]? = some o := (k.block b (Array.getElem?_eq_some_iff.1 hb).1).trans hb
section
variable {α : Type} {K : RowKind α} {inn : α → Prop} {sub : World → Value → α → Prop} {W W' : World} {v : Value} {L : List α}
theorem RoIs.kp (hs : ∀ t x, sub W t x → sub W' t x) (h : RoIs K inn sub W v L) (hb : Kp W W') : RoIs K inn sub W' v L := by
  obtain ⟨p, c, h1, h2, h3, h4⟩ := h
  refine ⟨p, c, h1, h2, h3, fun i hi => ?_⟩
  obtain ⟨A, t, a1, a2, a3, a4, a5⟩ := h4 i hi
  exact ⟨A, t, a1, Nat.lt_of_lt_of_le a2 hb.size, hs _ _ a3, a4, fun j hj => (hb.cell (by rw [tadd_block]; exact a2)).trans (a5 j hj)⟩
end
section
variable {W W' : World} {v : Value}
theorem RoSo.kp {L} (h : RoSo W v L) (hb : Kp W W') : RoSo W' v L := RoIs.kp (fun _ _ _ => trivial) h hb
theorem RoMth.kp {L} (h : RoMth W v L) (hb : Kp W W') : RoMth W' v L := RoIs.kp (fun _ _ _ => trivial) h hb
theorem RoStp.kp {L} (h : RoStp W v L) (hb : Kp W W') : RoStp W' v L := RoIs.kp (fun _ _ _ => trivial) h hb
theorem RoFld.kp {L} (h : RoFld W v L) (hb : Kp W W') : RoFld W' v L := RoIs.kp (fun _ _ h => RoSo.kp h hb) h hb
theorem RoRcd.kp {L} (h : RoRcd W v L) (hb : Kp W W') : RoRcd W' v L := RoIs.kp (fun _ _ h => RoFld.kp h hb) h hb
theorem RoSrv.kp {L} (h : RoSrv W v L) (hb : Kp W W') : RoSrv W' v L := RoIs.kp (fun _ _ h => RoMth.kp h hb) h hb
theorem RoSga.kp {L} (h : RoSga W v L) (hb : Kp W W') : RoSga W' v L := RoIs.kp (fun _ _ h => RoStp.kp h hb) h hb
theorem RoSch.kp {s} (h : RoSch W v s) (hb : Kp W W') : RoSch W' v s := by
  obtain ⟨vr, vs, vg, e, h0, h1, h2, h3⟩ := h
  exact ⟨vr, vs, vg, e, h0, h1.kp hb, h2.kp hb, h3.kp hb⟩
end
def SrvV (W : World) (v : Value) (x : Ip.Srv) : Prop := ∃ p c, v = .agg #[.string x.name, .slice p x.methods.length c] ∧ SrvIn x ∧ RoMth W (.slice p x.methods.length c) x.methods
def FldV (W : World) (v : Value) (x : Ip.Fld) : Prop := ∃ p c, v = .agg #[.string x.name, .slice p x.type.length c] ∧ FldIn x ∧ RoSo W (.slice p x.type.length c) x.type
def MthV (_W : World) (v : Value) (x : Ip.Mth) : Prop := v = mthV x ∧ MthIn x
/-- What was looked for, a piece of the world u, and whether it is there. -/
def Fnd {α : Type} (V : World → Value → α → Prop) (z : α) (u : World) (o : Option α) (w : World) (e : Ending) (w' : World) : Prop := ∃ v, e = .returned (.tuple #[v, .bool o.isSome]) ∧ V u v (o.getD z) ∧ Below w.heap.size w w'
def noSrv : Ip.Srv := ⟨⟨#[]⟩, []⟩
def noFld : Ip.Fld := ⟨⟨#[]⟩, []⟩
theorem SrvV.none (W : World) : SrvV W (.agg #[.string ⟨#[]⟩, .slice none 0 0]) noSrv := ⟨_, _, rfl, Nat.zero_le _, RoIs.nil _ (Nat.zero_le _)⟩
theorem FldV.none (W : World) : FldV W (.agg #[.string ⟨#[]⟩, .slice none 0 0]) noFld := ⟨_, _, rfl, Nat.zero_le _, RoIs.nil _ (Nat.zero_le _)⟩
theorem MthV.none (W : World) : MthV W (.agg #[.string ⟨#[]⟩, .string ⟨#[]⟩, .int .u8 0, .string ⟨#[]⟩, .string ⟨#[]⟩]) noMth := ⟨rfl, Nat.zero_le _, Nat.zero_le _, by decide, Nat.zero_le _, Nat.zero_le _⟩
theorem RcdV.kp {u W : World} {v : Value} {x : Ip.Rcd} (h : RcdV u v x) (k : Kp u W) : RcdV W v x := by obtain ⟨p, c, e, h1, h2⟩ := h; exact ⟨p, c, e, h1, h2.kp k⟩
theorem SgaV.kp {u W : World} {v : Value} {x : Ip.Sga} (h : SgaV u v x) (k : Kp u W) : SgaV W v x := by obtain ⟨p, c, e, h1, h2⟩ := h; exact ⟨p, c, e, h1, h2.kp k⟩
theorem SrvV.kp {u W : World} {v : Value} {x : Ip.Srv} (h : SrvV u v x) (k : Kp u W) : SrvV W v x := by obtain ⟨p, c, e, h1, h2⟩ := h; exact ⟨p, c, e, h1, h2.kp k⟩
theorem FldV.kp {u W : World} {v : Value} {x : Ip.Fld} (h : FldV u v x) (k : Kp u W) : FldV W v x := by obtain ⟨p, c, e, h1, h2⟩ := h; exact ⟨p, c, e, h1, h2.kp k⟩
/-! ### blocks laid one behind the other -/
def allocs (w : World) : List Obj → World
  | [] => w
  | o :: os => allocs (w.alloc o) os
theorem allocs_size : ∀ (os : List Obj) (w : World), (allocs w os).heap.size = w.heap.size + os.length
  | [], w => rfl
  | o :: os, w => by
    show (allocs (w.alloc o) os).heap.size = _
    rw [allocs_size os, World.size_alloc, List.length_cons]; omega
theorem allocs_below : ∀ (os : List Obj) (w : World), Below w.heap.size w (allocs w os)
  | [], w => Below.refl _ _
  | o :: os, w => (tk_alloc w o).trans ((allocs_below os (w.alloc o)).mono (by rw [World.size_alloc]; omega))
theorem allocs_at : ∀ (os : List Obj) (w : World) (i : Nat) (o : Obj), os[i]? = some o → (allocs w os).heap[w.heap.size + i]? = some o
  | [], w, i, o, h => by cases h
  | x :: os, w, 0, o, h => by
    simp only [List.getElem?_cons_zero, Option.some.injEq] at h
    subst h
    exact ((allocs_below os (w.alloc x)).block _ (by rw [World.size_alloc]; omega)).trans (heap_alloc_new w x)
  | x :: os, w, i + 1, o, h => by
    have := allocs_at os (w.alloc x) i o (by simpa using h)
    rw [World.size_alloc] at this
    rw [show w.heap.size + (i + 1) = w.heap.size + 1 + i by omega]
    exact this
/-- A known box, wherever the walk has come to. -/
theorem allocs_box {w X : World} {os : List Obj} {i : Nat} {o : Obj} (hi : os[i]? = some o) (hX : Below (allocs w os).heap.size (allocs w os) X) : X.heap[w.heap.size + i]? = some o := box_keep hX (allocs_at os w i o hi)
theorem allocs_on {w X : World} {os : List Obj} (hX : Below (allocs w os).heap.size (allocs w os) X) : Below w.heap.size w X := (allocs_below os w).trans (hX.mono (by rw [allocs_size]; omega))
theorem cells4' {W : World} {b : Nat} {x0 x1 x2 x3 : Value} {T : TypeId} (h : W.heap[b]? = some (.cells #[x0, x1, x2, x3] T (0, 0))) : W.cell? ⟨b, 0, none⟩ = some x0 ∧ W.cell? ⟨b, 1, none⟩ = some x1 ∧ W.cell? ⟨b, 2, none⟩ = some x2 ∧ W.cell? ⟨b, 3, none⟩ = some x3 := by
  refine ⟨?_, ?_, ?_, ?_⟩ <;> rw [cell_of_row _ b _ _ _ _ h] <;> rfl
theorem cells1' {W : World} {b : Nat} {x0 : Value} {T : TypeId} (h : W.heap[b]? = some (.cells #[x0] T (0, 0))) : W.cell? ⟨b, 0, none⟩ = some x0 := by
  rw [cell_of_row _ b _ _ _ _ h]; rfl
end Go.Proofs.YtnkdhmoocomjfaaGreatDoor
