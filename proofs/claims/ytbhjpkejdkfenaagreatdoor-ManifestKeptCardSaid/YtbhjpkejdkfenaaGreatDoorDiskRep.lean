/-
  What a disk of the program is in memory: its block, the map's block, the files' blocks, the rows of their bytes, all apart. No walk.
-/
import Derived.Test.YtbhjpkejdkfenaaGreatDoorProg
import Derived.Test.YtbhjpkejdkfenaaGreatDoorDiskMath
import Derived.WalkKit
import Derived.Maps.OwnSet
import Derived.Maps.Ext
import Derived.Lib.Hide
import Derived.Laws.BytesArg
import Derived.Lib.ConvBytes
import Derived.Lib.SlBytesRow
namespace Go.Proofs.YtbhjpkejdkfenaaGreatDoor
open Go.RowKit Go.Maps

/-- How a pointer to a file reads, as an element of the map: the number of its block. -/
def ptrR (v : Value) : Option (DataW Unit × List MemPlace) := match v with
  | .pointer none => some (.lit (.int .i64 (-1)), [])
  | .pointer (some ⟨b, 0, none⟩) => some (.lit (.int .i64 (b : Nat)), [])
  | _ => none
theorem ptrR_inv {v : Value} {b : Nat} {ps : List MemPlace} (h : ptrR v = some (.lit (.int .i64 (b : Nat)), ps)) : v = .pointer (some ⟨b, 0, none⟩) := by
  unfold ptrR at h
  split at h
  · simp at h
  · simp at h; obtain rfl := Int.ofNat_inj.1 h.1; rfl
  · cases h
theorem ptrR_none {v : Value} {ps : List MemPlace} (h : ptrR v = some (.lit (.int .i64 (-1)), ps)) : v = .pointer none := by
  unfold ptrR at h
  split at h
  · rfl
  · simp at h
  · cases h

/-- A file in memory: its block, the slice in its first cell, what it is. -/
structure Ent where
  blk : Nat
  row : Value
  file : Dm.File
def byteV (c : UInt8) : Value := .int .u8 (c.toNat : Int)
def rowBlk : Value → List Nat
  | .slice (some a) _ _ => [a.block]
  | _ => []
def entBlks (e : Ent) : List Nat := e.blk :: rowBlk e.row
def datOf (T : List (List UInt8 × Ent)) : DataW Unit := .map (T.map fun p => (.string p.1, .lit (.int .i64 (p.2.blk : Nat))))
def filesOf (T : List (List UInt8 × Ent)) : List (List UInt8 × Dm.File) := T.map fun p => (p.1, p.2.file)

def EntAt (w : World) (e : Ent) : Prop :=
  w.heap[e.blk]? = some (.cells #[e.row, .int .i64 (e.file.synced : Nat)] 106 (0, 0)) ∧ w.ownsRow 0 5 1 e.row e.file.data.length (e.file.data.map byteV)
/-- All blocks of a disk are apart. -/
structure Apart (a m : Nat) (T : List (List UInt8 × Ent)) : Prop where
  am : a ≠ m
  out : ∀ p ∈ T, ∀ k ∈ entBlks p.2, k ≠ a ∧ k ≠ m
  self : ∀ p ∈ T, p.2.blk ∉ rowBlk p.2.row
  each : ∀ p ∈ T, ∀ q ∈ T, p.1 ≠ q.1 → ∀ k ∈ entBlks p.2, k ∉ entBlks q.2
/-- .. and lie in S. -/
def Within (S : Nat → Prop) (a m : Nat) (T : List (List UInt8 × Ent)) : Prop := S a ∧ S m ∧ ∀ p ∈ T, ∀ k ∈ entBlks p.2, S k

structure Rep (w : World) (a m : Nat) (D : Dm.Disk) (T : List (List UInt8 × Ent)) : Prop where
  right : Dm.Right D
  files : D.files = filesOf T
  cell : w.heap[a]? = some (.cells #[.bool D.down, .int .i64 (D.fuse : Nat), .bool D.bounded, .int .i64 (D.room : Nat), .map (some m)] 95 (0, 0))
  map : w.ownsMap Tryz.prog 9 ptrR m T.length (datOf T)
  ents : ∀ p ∈ T, EntAt w p.2
  apart : Apart a m T

/-- Block a of w is a disk that has D, within the blocks of S. -/
def Disk (w : World) (a : Nat) (D : Dm.Disk) (S : Nat → Prop) : Prop := ∃ m T, Rep w a m D T ∧ Within S a m T

/-- Nothing has turned but blocks of S, and new ones. -/
structure Turned (S : Nat → Prop) (w w' : World) : Prop where
  os : w'.os = w.os
  tape : w'.tape = w.tape
  output : w'.output = w.output
  size : w.heap.size ≤ w'.heap.size
  block : ∀ k, k < w.heap.size → ¬ S k → w'.heap[k]? = w.heap[k]?

theorem Turned.refl (S : Nat → Prop) (w : World) : Turned S w w := ⟨rfl, rfl, rfl, Nat.le_refl _, fun _ _ _ => rfl⟩
theorem Turned.trans {S S' : Nat → Prop} {a b c : World} (h : Turned S a b) (k : Turned S' b c) (hs : ∀ i, S' i → S i ∨ a.heap.size ≤ i) : Turned S a c :=
  ⟨k.os.trans h.os, k.tape.trans h.tape, k.output.trans h.output, Nat.le_trans h.size k.size, fun i hi hn => (k.block i (Nat.lt_of_lt_of_le hi h.size) (fun e => (hs i e).elim hn (by omega))).trans (h.block i hi hn)⟩
theorem Turned.mono {S S' : Nat → Prop} {w w' : World} (h : Turned S w w') (hs : ∀ k, S k → S' k) : Turned S' w w' := ⟨h.os, h.tape, h.output, h.size, fun k hk hn => h.block k hk fun e => hn (hs k e)⟩
theorem Turned.below {S : Nat → Prop} {w w' : World} (h : Turned S w w') {B : Nat} (hB : B ≤ w.heap.size) (hs : ∀ k, S k → B ≤ k) : Below B w w' := ⟨h.os, h.tape, h.output, h.size, fun k hk => h.block k (by omega) fun e => by have := hs k e; omega⟩
theorem turned_of_below {S : Nat → Prop} {w w' : World} (h : Below w.heap.size w w') : Turned S w w' := ⟨h.os, h.tape, h.output, h.size, fun k hk _ => h.block k hk⟩
theorem turned_grown {S : Nat → Prop} {w w' : World} {row : Option Nat} (h : w.grownBy w' row) (hs : ∀ k, row = some k → S k) : Turned S w w' := ⟨h.os, h.tape, h.output, h.size, fun k hk hn => h.block k hk fun e => hn (hs k e.symm)⟩
theorem turned_setCell {S : Nat → Prop} (w : World) (p : Addr) (v : Value) (hs : S p.block) : Turned S w (w.setCell p v) :=
  ⟨rfl, rfl, rfl, by simp [World.setCell], fun k _ hn => Below.heap_setCell _ _ _ _ (fun e => hn (e ▸ hs))⟩
theorem turned_alloc {S : Nat → Prop} (w : World) (o : Obj) : Turned S w (w.alloc o) := ⟨rfl, rfl, rfl, by simp, fun k hk _ => Below.heap_alloc _ _ _ hk⟩
theorem turned_drew {S : Nat → Prop} (w : World) : Turned S w w.drew := ⟨rfl, rfl, rfl, Nat.le_refl _, fun _ _ _ => rfl⟩

/-- The five cells of a disk's block. -/
theorem cells5 {w : World} {a : Nat} {v0 v1 v2 v3 v4 : Value} {T : TypeId} (h : w.heap[a]? = some (.cells #[v0, v1, v2, v3, v4] T (0, 0))) :
    w.cell? ⟨a, 0, none⟩ = some v0 ∧ w.cell? ⟨a, 1, none⟩ = some v1 ∧ w.cell? ⟨a, 2, none⟩ = some v2 ∧ w.cell? ⟨a, 3, none⟩ = some v3 ∧ w.cell? ⟨a, 4, none⟩ = some v4 ∧
      (∀ i, w.frozen? ⟨a, i, none⟩ = false) := by
  refine ⟨?_, ?_, ?_, ?_, ?_, fun i => frozen_of_row w a i _ _ h⟩ <;> rw [cell_of_row _ _ _ _ _ _ h] <;> rfl
/-- The two cells of a file's block. -/
theorem cells2 {w : World} {a : Nat} {v0 v1 : Value} {T : TypeId} (h : w.heap[a]? = some (.cells #[v0, v1] T (0, 0))) :
    w.cell? ⟨a, 0, none⟩ = some v0 ∧ w.cell? ⟨a, 1, none⟩ = some v1 ∧ (∀ i, w.frozen? ⟨a, i, none⟩ = false) := by
  refine ⟨?_, ?_, fun i => frozen_of_row w a i _ _ h⟩ <;> rw [cell_of_row _ _ _ _ _ _ h] <;> rfl

theorem keyS : Keyed Tryz.prog 9 := string_keyed Tryz.underlying9
theorem keyOfS (s : ByteArray) (h : s.size ≤ maxLen) : keyOf Tryz.prog 9 (.string s) = some (.string s.data.toList) := Go.WideMaps.keyOf_string_mk Tryz.underlying9 h
theorem zeroFile (w : World) : (zeroValue 100).run Tryz.prog w = .ok (.pointer none) w := by kernel_rfl

theorem sameS (a b : List UInt8) : (Lit.string a).sameKey (.string b) = (a == b) := rfl
theorem has_dat (T : List (List UInt8 × Ent)) (n : List UInt8) : Maps.has (datOf T) (.string n) = (Dm.get T n).isSome := by
  unfold datOf
  rw [Maps.has_eq]
  induction T with
  | nil => rfl
  | cons p r ih =>
    simp only [List.map_cons, List.any_cons, Dm.get, sameS]
    by_cases e : p.1 = n
    · simp [e]
    · rw [if_neg e, ih, beq_eq_false_iff_ne.2 e, Bool.false_or]
theorem at_dat {T : List (List UInt8 × Ent)} {n : List UInt8} {e : Ent} (h : Dm.get T n = some e) (z : DataW Unit) : (datOf T).atKey (.string n) z = .lit (.int .i64 (e.blk : Nat)) := by
  unfold datOf
  induction T with
  | nil => cases h
  | cons p r ih =>
    unfold Dm.get at h
    by_cases e1 : p.1 = n
    · rw [if_pos e1] at h; cases h
      simp [DataW.atKey, sameS, e1]
    · rw [if_neg e1] at h
      have := ih h
      simp only [DataW.atKey, List.map_cons, List.find?_cons, sameS, beq_eq_false_iff_ne.2 e1] at this ⊢
      exact this
theorem size_dat (T : List (List UInt8 × Ent)) : Maps.size (datOf T) = T.length := by unfold datOf; rw [Maps.size_eq]; simp
theorem get_files (T : List (List UInt8 × Ent)) (n : List UInt8) : Dm.get (filesOf T) n = (Dm.get T n).map Ent.file := Dm.get_map n Ent.file
theorem Rep.get {w : World} {a m : Nat} {D : Dm.Disk} {T : List (List UInt8 × Ent)} (h : Rep w a m D T) (n : List UInt8) : Dm.get D.files n = (Dm.get T n).map Ent.file := by rw [h.files, get_files]
theorem owns_tight {w : World} {b n : Nat} {d : DataW Unit} (h : w.ownsMap Tryz.prog 9 ptrR b n d) : w.ownsMap Tryz.prog 9 ptrR b (Maps.size d) d := by
  obtain ⟨es, clock, h1, h2, h3, h4⟩ := h
  refine ⟨es, clock, h1, h2, ?_, h4⟩
  rw [h4, Maps.size_eq, length_read]; exact Nat.le_refl _
theorem ownsMap_of {w W : World} {b n : Nat} {d : DataW Unit} (h : w.ownsMap Tryz.prog 9 ptrR b n d) (hb : W.heap[b]? = w.heap[b]?) : W.ownsMap Tryz.prog 9 ptrR b n d := by
  obtain ⟨es, clock, h1, h2⟩ := h
  exact ⟨es, clock, hb.trans h1, h2⟩
theorem entAt_of {w W : World} {e : Ent} (h : EntAt w e) (hk : ∀ k ∈ entBlks e, W.heap[k]? = w.heap[k]?) : EntAt W e := by
  refine ⟨(hk _ (by simp [entBlks])).trans h.1, h.2.1, ?_⟩
  rcases h.2.2 with h1 | ⟨g, cap, cur, h1, h2, h3, h4⟩
  · exact .inl h1
  · exact .inr ⟨g, cap, cur, h1, h2, (hk g (by rw [entBlks, h1]; simp [rowBlk])).trans h3, h4⟩
theorem EntAt.shape {w : World} {e : Ent} (h : EntAt w e) : ∃ p cap, e.row = .slice p e.file.data.length cap ∧ e.file.data.length ≤ cap := by
  rcases h.2.2 with ⟨h1, h2⟩ | ⟨g, cap, cur, h1, -, -, h2, -⟩
  · exact ⟨none, 0, by rw [h1, h2], by omega⟩
  · exact ⟨_, _, h1, h2⟩
theorem EntAt.lt {w : World} {e : Ent} (h : EntAt w e) : ∀ k ∈ entBlks e, k < w.heap.size := by
  intro k hk
  rcases List.mem_cons.1 hk with rfl | hk
  · exact (Array.getElem?_eq_some_iff.1 h.1).1
  · rcases h.2.2 with ⟨h1, h2⟩ | ⟨g, cap, cur, h1, -, h3, -⟩
    · rw [h1] at hk; cases hk
    · rw [h1] at hk; simp [rowBlk] at hk; subst hk
      exact (Array.getElem?_eq_some_iff.1 h3).1
theorem Rep.lt {w : World} {a m : Nat} {D : Dm.Disk} {T : List (List UInt8 × Ent)} (h : Rep w a m D T) : a < w.heap.size ∧ m < w.heap.size ∧ ∀ p ∈ T, ∀ k ∈ entBlks p.2, k < w.heap.size :=
  ⟨(Array.getElem?_eq_some_iff.1 h.cell).1, h.map.lt, fun p hp => (h.ents p hp).lt⟩
/-- A disk stays where its blocks do; its own block may tell another state. -/
theorem Rep.keep {w W : World} {a m : Nat} {D D' : Dm.Disk} {T : List (List UInt8 × Ent)} (h : Rep w a m D T) (hk : ∀ k, k < w.heap.size → k ≠ a → W.heap[k]? = w.heap[k]?)
    (hc : W.heap[a]? = some (.cells #[.bool D'.down, .int .i64 (D'.fuse : Nat), .bool D'.bounded, .int .i64 (D'.room : Nat), .map (some m)] 95 (0, 0))) (hf : D'.files = D.files) (hr : Dm.Right D') : Rep W a m D' T :=
  ⟨hr, hf.trans h.files, hc, ownsMap_of h.map (hk _ h.lt.2.1 (Ne.symm h.apart.am)), fun p hp => entAt_of (h.ents p hp) fun k hk' => hk k (h.lt.2.2 p hp k hk') (h.apart.out p hp k hk').1, h.apart⟩
theorem Rep.stay {w W : World} {a m : Nat} {D : Dm.Disk} {T : List (List UInt8 × Ent)} {S S' : Nat → Prop} (h : Rep w a m D T) (hw : Within S a m T) (ht : Turned S' w W) (hs : ∀ k, S k → ¬ S' k) : Rep W a m D T :=
  ⟨h.right, h.files, (ht.block _ h.lt.1 (hs _ hw.1)).trans h.cell, ownsMap_of h.map (ht.block _ h.lt.2.1 (hs _ hw.2.1)), fun p hp => entAt_of (h.ents p hp) fun k hk => ht.block k (h.lt.2.2 p hp k hk) (hs _ (hw.2.2 p hp k hk)), h.apart⟩
theorem Within.mono {S S' : Nat → Prop} {a m : Nat} {T : List (List UInt8 × Ent)} (h : Within S a m T) (hs : ∀ k, S k → S' k) : Within S' a m T := ⟨hs _ h.1, hs _ h.2.1, fun p hp k hk => hs _ (h.2.2 p hp k hk)⟩
theorem Disk.mono {S S' : Nat → Prop} {w : World} {a : Nat} {D : Dm.Disk} (h : Disk w a D S) (hs : ∀ k, S k → S' k) : Disk w a D S' := by
  obtain ⟨m, T, h1, h2⟩ := h; exact ⟨m, T, h1, h2.mono hs⟩
theorem Disk.stay {S S' : Nat → Prop} {w W : World} {a : Nat} {D : Dm.Disk} (h : Disk w a D S) (ht : Turned S' w W) (hs : ∀ k, S k → ¬ S' k) : Disk W a D S := by
  obtain ⟨m, T, h1, h2⟩ := h; exact ⟨m, T, h1.stay h2 ht hs, h2⟩
theorem Disk.right {S : Nat → Prop} {w : World} {a : Nat} {D : Dm.Disk} (h : Disk w a D S) : Dm.Right D := by
  obtain ⟨m, T, h1, h2⟩ := h; exact h1.right
theorem Rep.sorted {w : World} {a m : Nat} {D : Dm.Disk} {T : List (List UInt8 × Ent)} (h : Rep w a m D T) : Dm.Sorted T := by
  have := h.right.sorted
  rw [h.files, Dm.sorted_keys] at this
  rw [Dm.sorted_keys]
  unfold filesOf at this
  rwa [Dm.keys_map] at this

/-- A file's bytes as a text. -/
theorem text_of_row {w : World} {p : Option Addr} {n cap : Nat} {l : List UInt8} (h : w.ownsRow 0 5 1 (.slice p n cap) l.length (l.map byteV)) :
    (convert 104 9 (.slice p n cap)).run Tryz.prog w = .ok (.string ⟨l.toArray⟩) w := by
  rcases h.2 with ⟨h1, h2⟩ | ⟨g, cap', cur, h1, -, h3, -⟩
  · cases h1
    have := List.eq_nil_of_length_eq_zero h2
    subst this
    exact run_convert_bytes_nil w 104 5 Tryz.underlying104 Tryz.underlying5 0 0 9 Tryz.underlying9
  · cases h1
    exact run_convert_bytes_back (P := Tryz.prog) w 104 9 5 ⟨g, 0, none⟩ cap l Tryz.underlying104 Tryz.underlying5 Tryz.underlying9 (fun j hj => World.ownsRow.cells (g := g) h rfl j _ (by rw [List.getElem?_map, List.getElem?_eq_getElem hj]; rfl))
end Go.Proofs.YtbhjpkejdkfenaaGreatDoor
