/-
  Rows of tables (manifest.File): that lie in memory, as a law's arguments, and that a call builds by append. Conditions: those in the theorems.
-/
import Derived.Test.YtbhjpkejdkfenaaGreatDoorManMath
import Derived.Test.YtbhjpkejdkfenaaGreatDoorSumWalkA
import Derived.OwnWalk
import Derived.Lib.AppendZeros
import Derived.Lib.AppendStr
import Derived.Maps.AppendAt
import Derived.WalkKit
import Derived.WalkSpells
import Derived.WalkLawsBesides
import Derived.Handy
import Derived.Lib.Hide
import Derived.ChangeSlices
import Derived.Test.YtbhjpkejdkfenaaGreatDoorRows
set_option linter.unusedSimpArgs false
set_option linter.unusedVariables false
namespace Go.Proofs.YtbhjpkejdkfenaaGreatDoor
open Go.ChangeShapes Go.WideShapes Go.ChangeAt Go.RowKit
open Mf (File)

theorem mcell_block {W : World} {a : Addr} {v : Value} (h : W.cell? a = some v) : a.block < W.heap.size := by
  unfold World.cell? at h
  cases hq : W.heap[a.block]? with
  | none => rw [hq] at h; cases h
  | some o => exact (Array.getElem?_eq_some_iff.1 hq).1
theorem madd (A : Addr) (i j : Nat) : (A.add i).add j = A.add (i + j) := by
  unfold Addr.add
  by_cases hi : i = 0 <;> by_cases hj : j = 0 <;> simp [hi, hj, Nat.add_assoc]
theorem madd_block (a : Addr) (i : Nat) : (a.add i).block = a.block := by unfold Addr.add; split <;> rfl
def fiCells (f : File) : List Value := [.int .i64 f.n, .int .i64 f.level, .int .i64 f.count, .string f.first, .string f.last]
def I64 (n : Int) : Prop := -9223372036854775808 ≤ n ∧ n ≤ 9223372036854775807
def FiIn (f : File) : Prop := I64 f.n ∧ I64 f.level ∧ I64 f.count ∧ f.first.size ≤ maxLen ∧ f.last.size ≤ maxLen
def fiV (f : File) : Value := .agg #[.int .i64 f.n, .int .i64 f.level, .int .i64 f.count, .string f.first, .string f.last]
/-- Tables that lie in memory. -/
def FilesAt (W : World) (p : Option Addr) (xs : List File) : Prop := ∀ i (h : i < xs.length), ∃ A, p = some A ∧ A.block < W.heap.size ∧ (∀ j, j < 5 → W.cell? (A.add (i * 5 + j)) = (fiCells xs[i])[j]?) ∧ FiIn xs[i]
theorem FilesAt.below {W W' : World} {p : Option Addr} {xs : List File} (h : FilesAt W p xs) (hb : Below W.heap.size W W') : FilesAt W' p xs := fun i hi => by
  obtain ⟨A, h1, h2, h3, h4⟩ := h i hi
  exact ⟨A, h1, Nat.lt_of_lt_of_le h2 hb.size, fun j hj => (hb.cell (by rw [madd_block]; exact h2)).trans (h3 j hj), h4⟩
theorem FilesAt.at {w W : World} {p : Option Addr} {xs : List File} (h : FilesAt w p xs) (hb : Below w.heap.size w W) {i : Nat} (hi : i < xs.length) :
    ∃ A, p = some A ∧ W.cell? (A.add (i * 5)) = some (.int .i64 xs[i].n) ∧ W.cell? ⟨(A.add (i * 5)).block, (A.add (i * 5)).off + 1, none⟩ = some (.int .i64 xs[i].level) ∧ W.cell? ⟨(A.add (i * 5)).block, (A.add (i * 5)).off + 2, none⟩ = some (.int .i64 xs[i].count) ∧
      W.cell? ⟨(A.add (i * 5)).block, (A.add (i * 5)).off + 3, none⟩ = some (.string xs[i].first) ∧ W.cell? ⟨(A.add (i * 5)).block, (A.add (i * 5)).off + 4, none⟩ = some (.string xs[i].last) ∧ FiIn xs[i] := by
  obtain ⟨A, rfl, h2, h3, h4⟩ := h i hi
  have cell : ∀ j, j < 5 → W.cell? ((A.add (i * 5)).add j) = (fiCells xs[i])[j]? := fun j hj => by
    rw [madd]; exact (hb.cell (by rw [madd_block]; exact h2)).trans (h3 j hj)
  exact ⟨A, rfl, cell 0 (by omega), cell 1 (by omega), cell 2 (by omega), cell 3 (by omega), cell 4 (by omega), h4⟩
theorem FilesAt.some {w : World} {p : Option Addr} {xs : List File} (h : FilesAt w p xs) {i : Nat} (hi : i < xs.length) : ∃ A, p = some A := by
  obtain ⟨A, e, -⟩ := h i hi; exact ⟨A, e⟩
theorem FilesAt.nil (W : World) (p : Option Addr) : FilesAt W p [] := fun i hi => nomatch hi
theorem FilesAt.ok {w : World} {p : Option Addr} {xs : List File} (h : FilesAt w p xs) : ∀ f ∈ xs, FiIn f := fun f hf => by
  obtain ⟨i, hi, rfl⟩ := List.getElem_of_mem hf
  obtain ⟨A, -, -, -, h4⟩ := h i hi; exact h4

theorem one_fi : Tryz.prog.cellsOf 29 = 5 ∧ Tryz.prog.cellsOf 9 = 1 ∧ Tryz.prog.cellsOf 3 = 1 := ⟨by kernel_rfl, by kernel_rfl, by kernel_rfl⟩

/-! ### rows that a call builds -/
def fisCells (l : List File) : List Value := l.flatMap fiCells
theorem fisCells_length (l : List File) : (fisCells l).length = l.length * 5 := by
  induction l with
  | nil => rfl
  | cons p r ih => simp only [fisCells, List.flatMap_cons, List.length_append, List.length_cons] at *; rw [ih]; simp [fiCells]; omega
theorem fisCells_append (l m : List File) : fisCells (l ++ m) = fisCells l ++ fisCells m := by unfold fisCells; rw [List.flatMap_append]
theorem fisCells_one (l : List File) : ∀ u ∈ fisCells l, u.oneCell' = true := by
  intro u hu
  unfold fisCells at hu
  rw [List.mem_flatMap] at hu
  obtain ⟨p, -, hu⟩ := hu
  simp [fiCells] at hu
  rcases hu with rfl | rfl | rfl | rfl | rfl <;> rfl
theorem fisCells_get {l : List File} {k : Nat} (hk : k < l.length) {j : Nat} (hj : j < 5) : (fisCells l)[k * 5 + j]? = (fiCells l[k])[j]? := by
  induction l generalizing k with
  | nil => exact absurd hk (Nat.not_lt_zero _)
  | cons p r ih =>
    unfold fisCells
    rw [List.flatMap_cons]
    cases k with
    | zero => rw [List.getElem?_append_left (by simp [fiCells]; omega)]; simp
    | succ k =>
      rw [List.getElem?_append_right (by simp [fiCells]; omega)]
      have := ih (k := k) (by simpa using hk)
      rw [show (k + 1) * 5 + j - (fiCells p).length = k * 5 + j by simp [fiCells]; omega]
      exact this
theorem infoFi : (Tryz.prog.info? 29).map (fun i => (i.zero, i.size, i.bytes)) = some (some (.agg #[.int .i64 0, .int .i64 0, .int .i64 0, .string ⟨#[]⟩, .string ⟨#[]⟩]), 5, 56) := by kernel_rfl
/-- v is a row of the tables xs, in a block of its own, not below base. -/
def OwnFis (W : World) (base : Nat) (v : Value) (xs : List File) : Prop := W.ownsRow base 29 5 v xs.length (fisCells xs)
section
variable {W C : World} {base : Nat} {v : Value} {xs : List File}
theorem OwnFis.nil (W : World) (base : Nat) : OwnFis W base (.slice none 0 0) [] := World.ownsRow_nil _ _ _ _
theorem OwnFis.lt (h : OwnFis W base v xs) : ∀ k, v.ownBlock = some k → base ≤ k ∧ k < W.heap.size := World.ownsRow.lt h
theorem OwnFis.shape (h : OwnFis W base v xs) : ∃ p cap, v = .slice p xs.length cap ∧ xs.length ≤ cap ∧ cap ≤ maxLen := by
  rcases h.2 with ⟨rfl, e⟩ | ⟨g, cap, cur, rfl, h2, h3, h4, h5, -⟩
  · rw [e]; exact ⟨none, 0, rfl, Nat.le_refl _, Nat.zero_le _⟩
  · exact ⟨_, _, rfl, h4, h5⟩
theorem OwnFis.stays (h : OwnFis W base v xs) (hb : ∀ k, k < W.heap.size → v.ownBlock = some k → C.heap[k]? = W.heap[k]?) : OwnFis C base v xs := by
  refine ⟨h.1, ?_⟩
  rcases h.2 with hn | ⟨g, cap, cur, rfl, h1, h2, h3⟩
  · exact .inl hn
  · exact .inr ⟨g, cap, cur, rfl, h1, (hb g (Array.getElem?_eq_some_iff.1 h2).1 rfl).trans h2, h3⟩
theorem OwnFis.below (h : OwnFis W base v xs) (hb : Below W.heap.size W C) : OwnFis C base v xs := h.stays fun k hk _ => hb.block k hk
theorem OwnFis.mono {b' : Nat} (h : OwnFis W base v xs) (hb : b' ≤ base) : OwnFis W b' v xs := by
  refine ⟨h.1, ?_⟩
  rcases h.2 with hn | ⟨g, cap, cur, rfl, h1, h2⟩
  · exact .inl hn
  · exact .inr ⟨g, cap, cur, rfl, Nat.le_trans hb h1, h2⟩
theorem OwnFis.files (h : OwnFis W base v xs) (hp : ∀ x ∈ xs, FiIn x) : ∃ p cap, v = .slice p xs.length cap ∧ xs.length ≤ cap ∧ cap ≤ maxLen ∧ FilesAt W p xs := by
  rcases h.2 with ⟨rfl, hn⟩ | ⟨g, cap, cur, rfl, h1, h2, h3, h4, h5, h6⟩
  · rw [hn]; exact ⟨none, 0, rfl, Nat.le_refl _, Nat.zero_le _, fun i hi => by omega⟩
  · refine ⟨Option.some ⟨g, 0, none⟩, cap, rfl, h3, h4, fun i hi => ⟨_, rfl, (Array.getElem?_eq_some_iff.1 h2).1, fun j hj => ?_, hp _ (List.getElem_mem hi)⟩⟩
    have hadd : (⟨g, 0, none⟩ : Addr).add (i * 5 + j) = ⟨g, i * 5 + j, none⟩ := by unfold Addr.add; split <;> simp_all
    rw [hadd, cell_of_row W g _ cur _ _ h2, ← fisCells_get hi hj, ← h6, List.getElem?_take, if_pos (by omega)]; simp
end
theorem news_five (w : World) (x0 x1 x2 x3 x4 : Value) (t : TypeId) : ∀ j u, [x0, x1, x2, x3, x4][j]? = some u → (w.alloc (.cells #[x0, x1, x2, x3, x4] t)).cell? ((⟨w.heap.size, 0, none⟩ : Addr).add j) = some u := by
  intro j u hj
  match j, hj with
  | 0, hj => simp at hj; subst hj; simp [Addr.add]
  | 1, hj => simp at hj; subst hj; simp [Addr.add]
  | 2, hj => simp at hj; subst hj; simp [Addr.add]
  | 3, hj => simp at hj; subst hj; simp [Addr.add]
  | 4, hj => simp at hj; subst hj; simp [Addr.add]
/-- Of what a row of its own was made of, only its own old block may have turned. -/
structure GrewF (v v' : Value) (W W' : World) : Prop where
  os : W'.os = W.os
  tape : W'.tape = W.tape
  output : W'.output = W.output
  size : W.heap.size ≤ W'.heap.size
  block : ∀ k, k < W.heap.size → v.ownBlock ≠ some k → W'.heap[k]? = W.heap[k]?
  own : ∀ k, v'.ownBlock = some k → v.ownBlock = some k ∨ W.heap.size ≤ k
theorem GrewF.below {base : Nat} {w W W' : World} {v v' : Value} (g : GrewF v v' W W') (hb : Below base w W) (hz : base ≤ W.heap.size) (ho : ∀ k, v.ownBlock = some k → base ≤ k) : Below base w W' :=
  ⟨g.os.trans hb.os, g.tape.trans hb.tape, g.output.trans hb.output, Nat.le_trans hb.size g.size, fun k hk => (g.block k (by omega) fun e => by have := ho k e; omega).trans (hb.block k hk)⟩
/-- Tables that lie at A are appended; the world may have new blocks since the row was looked at. -/
theorem f_append {W0 W : World} {base : Nat} {v : Value} {l : List File} (h : OwnFis W0 base v l) (hb0 : Below W0.heap.size W0 W) (A : Addr) (r : List File) (m c : Nat) (hm : r.length = m) (hnews : ∀ q u, (fisCells r)[q]? = some u → W.cell? (A.add q) = some u) (hs : l.length + m ≤ 1000000) (hb : base ≤ W0.heap.size) (ty : TypeId) :
    ∃ (pv : Option Addr) (cv : Nat) (W' : World), (Builtin.append_ #[22, 22] ty #[v, .slice (some A) m c]).run Tryz.prog W = .ok (.slice pv (l.length + m) cv) W' ∧
      OwnFis W' base (.slice pv (l.length + m) cv) (l ++ r) ∧ GrewF v (.slice pv (l.length + m) cv) W0 W' := by
  subst hm
  have h0 := h.below hb0
  have hz := hb0.size
  obtain ⟨i0, hi0, hz0, hz1, hz2⟩ := info_parts infoFi
  obtain ⟨v', W', hrun, ho, hg, -, hown⟩ := run_append_own_at (P := Tryz.prog) W base 22 ty 29 i0 _ 5 56 Tryz.underlying22 hi0 hz0 hz1 hz2 rfl (by decide) v _ _ h0
    A r.length c (fisCells r) (fisCells_length r) hnews (fisCells_one r) (by unfold maxLen; omega) (by omega) (by omega)
  have ho2 : OwnFis W' base v' (l ++ r) := by unfold OwnFis; rw [fisCells_append, List.length_append]; exact ho
  obtain ⟨pv, cv, rfl, -, -⟩ := ho2.shape
  rw [List.length_append] at hrun ho2 hown
  refine ⟨pv, cv, W', hrun, ho2, hg.os.trans hb0.os, hg.tape.trans hb0.tape, hg.output.trans hb0.output, Nat.le_trans hz hg.size, fun k hk hn => ?_, fun k hk => ?_⟩
  · exact (hg.block k (by omega) fun e => hn e.symm).trans (hb0.block k hk)
  · rcases hown with e | e
    · exact .inl (e ▸ hk)
    · rw [e] at hk
      simp only [Option.some.injEq] at hk
      exact .inr (by omega)
end Go.Proofs.YtbhjpkejdkfenaaGreatDoor
