/-
  What a net of the program is in memory: its block, the row of its packets, the map of its ways, all apart. No walk.
-/
import Derived.Test.YtcfhfamdcdkgjaaProg
import Derived.Test.YtcfhfamdcdkgjaaNetMath
import Derived.WalkKit
import Derived.OwnWalk
import Derived.Maps.OwnSet
import Derived.Maps.Ext
import Derived.Lib.Hide
import Derived.DeepKeys4
import Derived.BigQuiet
import Derived.Deep.QuietTactic
namespace Go.Proofs.Ytcfhfamdcdkgjaa
open Go.RowKit Go.Maps

/-- Nothing has turned but blocks of S, and new ones. -/
structure Turned (S : Nat → Prop) (w w' : World) : Prop where
  os : w'.os = w.os
  tape : w'.tape = w.tape
  output : w'.output = w.output
  size : w.heap.size ≤ w'.heap.size
  block : ∀ k, k < w.heap.size → ¬ S k → w'.heap[k]? = w.heap[k]?

theorem Turned.refl (S : Nat → Prop) (w : World) : Turned S w w := ⟨rfl, rfl, rfl, Nat.le_refl _, fun _ _ _ => rfl⟩
theorem Turned.trans {S S' : Nat → Prop} {a b c : World} (h : Turned S a b) (k : Turned S' b c) (hs : ∀ i, S' i → S i ∨ a.heap.size ≤ i) : Turned S a c :=
  ⟨k.os.trans h.os, k.tape.trans h.tape, k.output.trans h.output, Nat.le_trans h.size k.size, fun i hi hn => (k.block i (Nat.lt_of_lt_of_le hi h.size) (fun e => (hs i e).elim hn (by omega))).trans (h.block i hi hn)⟩
theorem Turned.mono {S S' : Nat → Prop} {w w' : World} (h : Turned S w w') (hs : ∀ k, S k → S' k) : Turned S' w w' := ⟨h.os, h.tape, h.output, h.size, fun k hk hn => h.block k hk fun e => hn (hs k e)⟩
theorem Turned.below {S : Nat → Prop} {w w' : World} (h : Turned S w w') {B : Nat} (hB : B ≤ w.heap.size) (hs : ∀ k, S k → B ≤ k) : Below B w w' := ⟨h.os, h.tape, h.output, h.size, fun k hk => h.block k (by omega) fun e => by have := hs k e; omega⟩
theorem turned_of_below {S : Nat → Prop} {w w' : World} (h : Below w.heap.size w w') : Turned S w w' := ⟨h.os, h.tape, h.output, h.size, fun k hk _ => h.block k hk⟩
theorem turned_grown {S : Nat → Prop} {w w' : World} {row : Option Nat} (h : w.grownBy w' row) (hs : ∀ k, row = some k → S k) : Turned S w w' := ⟨h.os, h.tape, h.output, h.size, fun k hk hn => h.block k hk fun e => hn (hs k e.symm)⟩
theorem turned_setCell {S : Nat → Prop} (w : World) (p : Addr) (v : Value) (hs : S p.block) : Turned S w (w.setCell p v) :=
  ⟨rfl, rfl, rfl, by simp [World.setCell], fun k _ hn => Below.heap_setCell _ _ _ _ (fun e => hn (e ▸ hs))⟩
theorem turned_alloc {S : Nat → Prop} (w : World) (o : Obj) : Turned S w (w.alloc o) := ⟨rfl, rfl, rfl, by simp, fun k hk _ => Below.heap_alloc _ _ _ hk⟩
theorem turned_drew {S : Nat → Prop} (w : World) : Turned S w w.drew := ⟨rfl, rfl, rfl, Nat.le_refl _, fun _ _ _ => rfl⟩
theorem Turned.drewN {S : Nat → Prop} {w w' : World} (h : Turned S w w') (q : Nat) : Turned S w (w'.drewN q) := ⟨h.os, h.tape, h.output, h.size, h.block⟩
theorem below_drewN {B : Nat} {w w' : World} (h : Below B w w') (q : Nat) : Below B w (w'.drewN q) := ⟨h.os, h.tape, h.output, h.size, h.block⟩

/-- S, and all blocks that are new since w. -/
def Grow (S : Nat → Prop) (w : World) (k : Nat) : Prop := S k ∨ w.heap.size ≤ k
theorem grow_old {S : Nat → Prop} {w : World} (k : Nat) (h : S k) : Grow S w k := .inl h
theorem grow_new {S : Nat → Prop} {w : World} (k : Nat) (h : w.heap.size ≤ k) : Grow S w k := .inr h

theorem cells2 {w : World} {a : Nat} {v0 v1 : Value} {T : TypeId} (h : w.heap[a]? = some (.cells #[v0, v1] T (0, 0))) :
    w.cell? ⟨a, 0, none⟩ = some v0 ∧ w.cell? ⟨a, 1, none⟩ = some v1 ∧ (∀ i, w.frozen? ⟨a, i, none⟩ = false) := by
  refine ⟨?_, ?_, fun i => frozen_of_row w a i _ _ h⟩ <;> rw [cell_of_row _ _ _ _ _ _ h] <;> rfl
theorem cells3 {w : World} {a : Nat} {v0 v1 v2 : Value} {T : TypeId} (h : w.heap[a]? = some (.cells #[v0, v1, v2] T (0, 0))) :
    w.cell? ⟨a, 0, none⟩ = some v0 ∧ w.cell? ⟨a, 1, none⟩ = some v1 ∧ w.cell? ⟨a, 2, none⟩ = some v2 ∧ (∀ i, w.frozen? ⟨a, i, none⟩ = false) := by
  refine ⟨?_, ?_, ?_, fun i => frozen_of_row w a i _ _ h⟩ <;> rw [cell_of_row _ _ _ _ _ _ h] <;> rfl

theorem set1 {w : World} {a i : Nat} {cs : Array Value} {T : TypeId} (h : w.heap[a]? = some (.cells cs T (0, 0))) (v : Value) : (w.setCell ⟨a, i, none⟩ v).heap[a]? = some (.cells (cs.setIfInBounds i v) T (0, 0)) := heap_setCell_same w a i cs T v h
theorem set_other (w : World) (a i k : Nat) (v : Value) (h : k ≠ a) : (w.setCell ⟨a, i, none⟩ v).heap[k]? = w.heap[k]? := Below.heap_setCell _ _ _ _ h

/-! ### packets -/
def pkCells (p : Nm.Pk) : List Value := [.int .i64 p.f, .int .i64 p.t, .string p.d]
def pkV (p : Nm.Pk) : Value := .agg #[.int .i64 p.f, .int .i64 p.t, .string p.d]
def rowCells (l : List Nm.Pk) : List Value := l.flatMap pkCells
theorem rowCells_length (l : List Nm.Pk) : (rowCells l).length = l.length * 3 := by
  unfold rowCells
  induction l with
  | nil => rfl
  | cons p r ih => rw [List.flatMap_cons, List.length_append, ih]; simp [pkCells]; omega
theorem rowCells_append (l m : List Nm.Pk) : rowCells (l ++ m) = rowCells l ++ rowCells m := by unfold rowCells; rw [List.flatMap_append]
theorem rowCells_one (l : List Nm.Pk) : ∀ u ∈ rowCells l, u.oneCell' = true := by
  intro u hu
  unfold rowCells at hu
  obtain ⟨p, -, hp⟩ := List.mem_flatMap.1 hu
  simp only [pkCells, List.mem_cons, List.not_mem_nil, or_false] at hp
  rcases hp with rfl | rfl | rfl <;> rfl
theorem rowCells_get {l : List Nm.Pk} {k : Nat} (hk : k < l.length) {j : Nat} (hj : j < 3) : (rowCells l)[k * 3 + j]? = (pkCells l[k])[j]? := by
  have h : rowCells l = rowCells (l.take k) ++ (pkCells l[k] ++ rowCells (l.drop (k + 1))) := by
    have h1 : pkCells l[k] ++ rowCells (l.drop (k + 1)) = rowCells (l[k] :: l.drop (k + 1)) := by unfold rowCells; rw [List.flatMap_cons]
    rw [h1, ← rowCells_append, ← List.drop_eq_getElem_cons hk, List.take_append_drop]
  rw [h, List.getElem?_append_right (by rw [rowCells_length, List.length_take]; omega), rowCells_length, List.length_take]
  have e : k * 3 + j - min k l.length * 3 = j := by omega
  rw [e, List.getElem?_append_left (by simpa [pkCells] using hj)]
theorem rowCells_take (l : List Nm.Pk) (k : Nat) : (rowCells l).take (k * 3) = rowCells (l.take k) := by
  by_cases hk : k ≤ l.length
  · have h := rowCells_append (l.take k) (l.drop k)
    rw [List.take_append_drop] at h
    rw [h, List.take_left' (by rw [rowCells_length, List.length_take]; omega)]
  · rw [List.take_of_length_le (by rw [rowCells_length]; omega), List.take_of_length_le (by omega)]
theorem rowCells_drop (l : List Nm.Pk) (k : Nat) : (rowCells l).drop (k * 3) = rowCells (l.drop k) := by
  by_cases hk : k ≤ l.length
  · have h := rowCells_append (l.take k) (l.drop k)
    rw [List.take_append_drop] at h
    rw [h, List.drop_left' (by rw [rowCells_length, List.length_take]; omega)]
  · rw [List.drop_of_length_le (by rw [rowCells_length]; omega), List.drop_of_length_le (by omega)]; rfl
theorem rowCells_erase (l : List Nm.Pk) (k : Nat) : rowCells (l.eraseIdx k) = (rowCells l).take (k * 3) ++ (rowCells l).drop ((k + 1) * 3) := by
  rw [rowCells_take, rowCells_drop, ← rowCells_append, List.eraseIdx_eq_take_drop_succ]

/-! ### ways -/
theorem laidOutN : laidOutB Try.prog = true := by kernel_rfl
def wayV (x y : Int) : Value := .agg #[.int .i64 x, .int .i64 y]
theorem lawWay : Keyed Try.prog 55 := Keyed.of_law (deep_law_laid laidOutN (m := 2) (by omega) (of_decide_eq_true (by kernel_rfl)) (by kernel_rfl) (by rw [Try.underlying55]))
theorem zeroUnit (w : World) : (zeroValue 57).run Try.prog w = .ok (.agg #[]) w := by kernel_rfl
def keyL (x y : Int) : Lit := .string (keyBytes [.int .i64 x, .int .i64 y])
theorem wfI {x : Int} (h : Nm.Wf x) : (Lit.int .i64 x).wf = true := by
  unfold Nm.Wf at h
  simp [Lit.wf, IntKind.min, IntKind.max, IntKind.signed, IntKind.bits]; omega
theorem cellsWay : Try.prog.cellsOf 55 = 2 ∧ Try.prog.cellsOf 3 = 1 := ⟨by kernel_rfl, by kernel_rfl⟩
theorem keyOfW {x y : Int} (hx : Nm.Wf x) (hy : Nm.Wf y) : keyOf Try.prog 55 (wayV x y) = some (keyL x y) := by
  obtain ⟨z1, z2⟩ := cellsWay
  have h1 : Try.prog.keyType 55 = true := by kernel_rfl
  obtain ⟨m, hm⟩ : ∃ m, Try.prog.types.size = m + 1 := ⟨_, (Nat.succ_pred_eq_of_pos (of_decide_eq_true (by kernel_rfl))).symm⟩
  have h2 : (wayV x y).formed Try.prog 55 = true := by simp [wayV, Value.formed, Try.underlying55, z1]
  unfold keyOf
  rw [Try.underlying55]
  simp only [h1, h2, Bool.and_self, if_true, hm]
  simp [Program.keyLits, Try.underlying55, Try.underlying3, z1, z2, wayV, Value.cells, wfI hx, wfI hy, keyL]
theorem keyL_ne {x y x' y' : Int} (hx : Nm.Wf x) (hy : Nm.Wf y) (hx' : Nm.Wf x') (hy' : Nm.Wf y') (h : ¬ (x' = x ∧ y' = y)) : keyL x' y' ≠ keyL x y := fun e => h (by
  have h1 := keyOfW hx hy
  have h2 := keyOfW hx' hy'
  rw [e] at h2
  have h3 := lawWay.inj h1 h2
  unfold wayV at h3
  simp at h3
  exact ⟨h3.1.symm, h3.2.symm⟩)
theorem keyL_key {x y : Int} : WideAt.IsKeyLit (keyL x y) := trivial

/-- What the map of a net's ways is in memory. -/
def CutAt (w : World) (v : Value) (cut : Int → Int → Bool) (n : Nat) : Prop :=
  (v = .map none ∧ ∀ x y, Nm.Wf x → Nm.Wf y → cut x y = false) ∨
  ∃ m D, v = .map (some m) ∧ w.ownsMap Try.prog 55 (unitElem (H := Unit)) m n D ∧ ∀ x y, Nm.Wf x → Nm.Wf y → Maps.has D (keyL x y) = cut x y
def mapBlk : Value → List Nat
  | .map (some m) => [m]
  | _ => []
def rowBlk : Value → List Nat
  | .slice (some a) _ _ => [a.block]
  | _ => []

structure Rep (w : World) (a : Nat) (N : Nm.Net) (rv mv : Value) : Prop where
  right : Nm.Right N
  cell : w.heap[a]? = some (.cells #[rv, mv] 50 (0, 0))
  row : w.ownsRow 0 23 3 rv N.row.length (rowCells N.row)
  map : CutAt w mv N.cut N.cuts
  ar : a ∉ rowBlk rv
  am : a ∉ mapBlk mv
  rm : ∀ k ∈ rowBlk rv, k ∉ mapBlk mv
def Within (S : Nat → Prop) (a : Nat) (rv mv : Value) : Prop := S a ∧ (∀ k ∈ rowBlk rv, S k) ∧ ∀ k ∈ mapBlk mv, S k

/-- Block a of w is a net that has N, within the blocks of S. -/
def Net (w : World) (a : Nat) (N : Nm.Net) (S : Nat → Prop) : Prop := ∃ rv mv, Rep w a N rv mv ∧ Within S a rv mv

theorem ownsMap_of {w W : World} {b n : Nat} {d : DataW Unit} (h : w.ownsMap Try.prog 55 unitElem b n d) (hb : W.heap[b]? = w.heap[b]?) : W.ownsMap Try.prog 55 unitElem b n d := by
  obtain ⟨es, clock, h1, h2⟩ := h
  exact ⟨es, clock, hb.trans h1, h2⟩
theorem CutAt.of {w W : World} {v : Value} {cut : Int → Int → Bool} {n : Nat} (h : CutAt w v cut n) (hk : ∀ k ∈ mapBlk v, W.heap[k]? = w.heap[k]?) : CutAt W v cut n := by
  rcases h with h | ⟨m, D, rfl, h1, h2⟩
  · exact .inl h
  · exact .inr ⟨m, D, rfl, ownsMap_of h1 (hk m (by simp [mapBlk])), h2⟩
theorem CutAt.lt {w : World} {v : Value} {cut : Int → Int → Bool} {n : Nat} (h : CutAt w v cut n) : ∀ k ∈ mapBlk v, k < w.heap.size := by
  rcases h with ⟨rfl, -⟩ | ⟨m, D, rfl, h1, -⟩
  · exact fun k hk => nomatch hk
  · intro k hk; simp [mapBlk] at hk; rw [hk]; exact h1.lt
theorem CutAt.mono {w : World} {v : Value} {cut : Int → Int → Bool} {n n' : Nat} (h : CutAt w v cut n) (hn : n ≤ n') : CutAt w v cut n' := by
  rcases h with h | ⟨m, D, rfl, h1, h2⟩
  · exact .inl h
  · exact .inr ⟨m, D, rfl, h1.mono hn, h2⟩
theorem row_of {w W : World} {v : Value} {n : Nat} {xs : List Value} (h : w.ownsRow 0 23 3 v n xs) (hk : ∀ k ∈ rowBlk v, W.heap[k]? = w.heap[k]?) : W.ownsRow 0 23 3 v n xs := by
  refine ⟨h.1, ?_⟩
  rcases h.2 with h1 | ⟨g, cap, cur, rfl, h2, h3, h4⟩
  · exact .inl h1
  · exact .inr ⟨g, cap, cur, rfl, h2, (hk g (by simp [rowBlk])).trans h3, h4⟩
theorem row_lt {w : World} {v : Value} {n : Nat} {xs : List Value} (h : w.ownsRow 0 23 3 v n xs) : ∀ k ∈ rowBlk v, k < w.heap.size := by
  rcases h.2 with ⟨rfl, -⟩ | ⟨g, cap, cur, rfl, h2, h3, h4⟩
  · exact fun k hk => nomatch hk
  · intro k hk; simp [rowBlk] at hk; rw [hk]; exact (Array.getElem?_eq_some_iff.1 h3).1
theorem ownBlock_row {v : Value} {k : Nat} : v.ownBlock = some k ↔ k ∈ rowBlk v := by
  unfold Value.ownBlock rowBlk
  split <;> simp_all [eq_comm]
theorem Rep.lt {w : World} {a : Nat} {N : Nm.Net} {rv mv : Value} (h : Rep w a N rv mv) : a < w.heap.size ∧ (∀ k ∈ rowBlk rv, k < w.heap.size) ∧ ∀ k ∈ mapBlk mv, k < w.heap.size :=
  ⟨(Array.getElem?_eq_some_iff.1 h.cell).1, row_lt h.row, h.map.lt⟩
/-- A net stays where its blocks do. -/
theorem Rep.same {w W : World} {a : Nat} {N : Nm.Net} {rv mv : Value} {S : Nat → Prop} (h : Rep w a N rv mv) (hw : Within S a rv mv) (hk : ∀ k, S k → k < w.heap.size → W.heap[k]? = w.heap[k]?) : Rep W a N rv mv :=
  ⟨h.right, (hk _ hw.1 h.lt.1).trans h.cell, row_of h.row fun k hk' => hk k (hw.2.1 k hk') (h.lt.2.1 k hk'), h.map.of fun k hk' => hk k (hw.2.2 k hk') (h.lt.2.2 k hk'), h.ar, h.am, h.rm⟩
theorem Rep.heap {w W : World} {a : Nat} {N : Nm.Net} {rv mv : Value} (h : Rep w a N rv mv) (hk : ∀ k, k < w.heap.size → W.heap[k]? = w.heap[k]?) : Rep W a N rv mv :=
  h.same (S := fun _ => True) ⟨trivial, fun _ _ => trivial, fun _ _ => trivial⟩ fun _ _ hl => hk _ hl
theorem Rep.alloc {w : World} {a : Nat} {N : Nm.Net} {rv mv : Value} (h : Rep w a N rv mv) (o : Obj) : Rep (w.alloc o) a N rv mv := h.heap fun _ hk => Below.heap_alloc _ _ _ hk
theorem Rep.below {w W : World} {a : Nat} {N : Nm.Net} {rv mv : Value} (h : Rep w a N rv mv) (hb : Below w.heap.size w W) : Rep W a N rv mv := h.heap fun k hk => hb.block k hk
theorem Within.mono {S S' : Nat → Prop} {a : Nat} {rv mv : Value} (h : Within S a rv mv) (hs : ∀ k, S k → S' k) : Within S' a rv mv := ⟨hs _ h.1, fun k hk => hs _ (h.2.1 k hk), fun k hk => hs _ (h.2.2 k hk)⟩
theorem Net.mono {S S' : Nat → Prop} {w : World} {a : Nat} {N : Nm.Net} (h : Net w a N S) (hs : ∀ k, S k → S' k) : Net w a N S' := by
  obtain ⟨rv, mv, h1, h2⟩ := h; exact ⟨rv, mv, h1, h2.mono hs⟩
theorem Net.stay {S S' : Nat → Prop} {w W : World} {a : Nat} {N : Nm.Net} (h : Net w a N S) (ht : Turned S' w W) (hs : ∀ k, S k → ¬ S' k) : Net W a N S := by
  obtain ⟨rv, mv, h1, h2⟩ := h; exact ⟨rv, mv, h1.same h2 fun k hk hl => ht.block k hl (hs k hk), h2⟩
theorem Net.below {S : Nat → Prop} {w W : World} {a : Nat} {N : Nm.Net} (h : Net w a N S) (hb : Below w.heap.size w W) : Net W a N S := by
  obtain ⟨rv, mv, h1, h2⟩ := h; exact ⟨rv, mv, h1.below hb, h2⟩
theorem Net.tight {S : Nat → Prop} {w : World} {a : Nat} {N : Nm.Net} (h : Net w a N S) : Net w a N fun k => S k ∧ k < w.heap.size := by
  obtain ⟨rv, mv, h1, h2⟩ := h
  exact ⟨rv, mv, h1, ⟨h2.1, h1.lt.1⟩, fun k hk => ⟨h2.2.1 k hk, h1.lt.2.1 k hk⟩, fun k hk => ⟨h2.2.2 k hk, h1.lt.2.2 k hk⟩⟩
theorem Net.right {S : Nat → Prop} {w : World} {a : Nat} {N : Nm.Net} (h : Net w a N S) : Nm.Right N := by
  obtain ⟨rv, mv, h1, h2⟩ := h; exact h1.right
end Go.Proofs.Ytcfhfamdcdkgjaa
