/-
  Walks over package table: read. Condition: a text of at most 2^47 bytes.
-/
import Derived.Test.YtgmaccfhgeocdaaTabNum
import Derived.Test.YtgmaccfhgeocdaaTabNow
import Derived.Test.YtgmaccfhgeocdaaTabPlaces
import Derived.Deep.RegionHeld3
import Derived.Deep.RegionLaw
namespace Go.Proofs.Ytgmaccfhgeocdaa
open Go.RowKit Tb

/-! ### rows of blocks -/
abbrev Blk := ByteArray × Nat
def blkCells (e : Blk) : List Value := [.string e.1, .int .i64 (e.2 : Nat)]
def blksCells (l : List Blk) : List Value := l.flatMap blkCells
theorem blksCells_length (l : List Blk) : (blksCells l).length = l.length * 2 := by
  induction l with
  | nil => rfl
  | cons p r ih => simp only [blksCells, List.flatMap_cons, List.length_append, List.length_cons] at *; rw [ih]; simp [blkCells]; omega
theorem blksCells_append (l m : List Blk) : blksCells (l ++ m) = blksCells l ++ blksCells m := by unfold blksCells; rw [List.flatMap_append]
theorem blksCells_one (l : List Blk) : ∀ u ∈ blksCells l, u.oneCell' = true := by
  intro u hu
  unfold blksCells at hu
  rw [List.mem_flatMap] at hu
  obtain ⟨p, -, hu⟩ := hu
  simp [blkCells] at hu
  rcases hu with rfl | rfl <;> rfl
theorem blksCells_get {l : List Blk} {k : Nat} (hk : k < l.length) {j : Nat} (hj : j < 2) : (blksCells l)[k * 2 + j]? = (blkCells l[k])[j]? := by
  induction l generalizing k with
  | nil => exact absurd hk (Nat.not_lt_zero _)
  | cons p r ih =>
    unfold blksCells
    rw [List.flatMap_cons]
    cases k with
    | zero => rw [List.getElem?_append_left (by simp [blkCells]; omega)]; simp
    | succ k =>
      rw [List.getElem?_append_right (by simp [blkCells]; omega)]
      have := ih (k := k) (by simpa using hk)
      rw [show (k + 1) * 2 + j - (blkCells p).length = k * 2 + j by simp [blkCells]; omega]
      exact this
theorem infoBlk : (Try.prog.info? 63).map (fun i => (i.zero, i.size, i.bytes)) = some (some (.agg #[.string ⟨#[]⟩, .int .i64 0]), 2, 24) := by kernel_rfl
/-- v is a row of blocks, in a block of its own, not below base. -/
def OwnK (W : World) (base : Nat) (v : Value) (xs : List Blk) : Prop := W.ownsRow base 63 2 v xs.length (blksCells xs)
section
variable {W C : World} {base : Nat} {v : Value} {xs : List Blk}
theorem OwnK.nil (W : World) (base : Nat) : OwnK W base (.slice none 0 0) [] := World.ownsRow_nil _ _ _ _
theorem OwnK.lt (h : OwnK W base v xs) : ∀ k, v.ownBlock = some k → base ≤ k ∧ k < W.heap.size := World.ownsRow.lt h
theorem OwnK.shape (h : OwnK W base v xs) : ∃ p cap, v = .slice p xs.length cap ∧ xs.length ≤ cap ∧ cap ≤ maxLen := by
  rcases h.2 with ⟨rfl, e⟩ | ⟨g, cap, cur, rfl, h2, h3, h4, h5, -⟩
  · rw [e]; exact ⟨none, 0, rfl, Nat.le_refl _, Nat.zero_le _⟩
  · exact ⟨_, _, rfl, h4, h5⟩
theorem OwnK.stays (h : OwnK W base v xs) (hb : ∀ k, k < W.heap.size → v.ownBlock = some k → C.heap[k]? = W.heap[k]?) : OwnK C base v xs := by
  refine ⟨h.1, ?_⟩
  rcases h.2 with hn | ⟨g, cap, cur, rfl, h1, h2, h3⟩
  · exact .inl hn
  · exact .inr ⟨g, cap, cur, rfl, h1, (hb g (Array.getElem?_eq_some_iff.1 h2).1 rfl).trans h2, h3⟩
theorem OwnK.below (h : OwnK W base v xs) (hb : Below W.heap.size W C) : OwnK C base v xs := h.stays fun k hk _ => hb.block k hk
end
/-- A block of the index that lies at A is appended. -/
theorem k_append {W0 W : World} {base : Nat} {v : Value} {l : List Blk} (h : OwnK W0 base v l) (hb0 : Below W0.heap.size W0 W) (A : Addr) (e : Blk) (c : Nat) (hnews : ∀ q u, (blkCells e)[q]? = some u → W.cell? (A.add q) = some u) (hs : l.length + 1 ≤ 1000000) (hb : base ≤ W0.heap.size) (ty : TypeId) :
    ∃ (pv : Option Addr) (cv : Nat) (W' : World), (Builtin.append_ #[64, 64] ty #[v, .slice (some A) 1 c]).run Try.prog W = .ok (.slice pv (l.length + 1) cv) W' ∧
      OwnK W' base (.slice pv (l.length + 1) cv) (l ++ [e]) ∧ Grew v (.slice pv (l.length + 1) cv) W0 W' := by
  have h0 := h.below hb0
  have hz := hb0.size
  obtain ⟨i0, hi0, hz0, hz1, hz2⟩ := info_parts infoBlk
  obtain ⟨v', W', hrun, ho, hg, -, hown⟩ := run_append_own_at (P := Try.prog) W base 64 ty 63 i0 _ 2 24 Try.underlying64 hi0 hz0 hz1 hz2 rfl (by decide) v _ _ h0
    A 1 c (blksCells [e]) (blksCells_length [e]) (by simpa [blksCells] using hnews) (blksCells_one [e]) (by unfold maxLen; omega) (by omega) (by omega)
  have ho2 : OwnK W' base v' (l ++ [e]) := by unfold OwnK; rw [blksCells_append, List.length_append]; exact ho
  obtain ⟨pv, cv, rfl, -, -⟩ := ho2.shape
  rw [List.length_append, List.length_singleton] at hrun ho2 hown
  refine ⟨pv, cv, W', hrun, ho2, hg.os.trans hb0.os, hg.tape.trans hb0.tape, hg.output.trans hb0.output, Nat.le_trans hz hg.size, fun k hk hn => ?_, fun k hk => ?_⟩
  · exact (hg.block k (by omega) fun e => hn e.symm).trans (hb0.block k hk)
  · rcases hown with e | e
    · exact .inl (e ▸ hk)
    · rw [e] at hk
      simp only [Option.some.injEq] at hk
      exact .inr (by omega)
theorem news_two (w : World) (x y : Value) (t : TypeId) : ∀ j u, [x, y][j]? = some u → (w.alloc (.cells #[x, y] t)).cell? ((⟨w.heap.size, 0, none⟩ : Addr).add j) = some u := by
  intro j u hj
  match j, hj with
  | 0, hj => simp at hj; subst hj; simp [Addr.add]
  | 1, hj => simp at hj; subst hj; simp [Addr.add]

/-! ### a table in memory -/
def tabO (c : Nat) (v : Value) (R : ByteArray) : Obj := .cells #[.int .i64 (c : Nat), v, .string R] 66 (0, 0)
/-- What is read of more blocks, one by one. -/
theorem readIdx_succ (n : Nat) (b : List UInt8) : readIdx (n + 1) b =
    ((readIdx n b).1 ++ [((⟨((((readIdx n b).2.drop 4).drop 1).take (val (((readIdx n b).2.drop 4).take 1))).toArray⟩ : ByteArray), val ((readIdx n b).2.take 4))],
      (((readIdx n b).2.drop 4).drop 1).drop (val (((readIdx n b).2.drop 4).take 1))) := by
  induction n generalizing b with
  | zero => simp [readIdx]
  | succ n ih =>
    conv => lhs; rw [readIdx]
    rw [ih]
    conv => rhs; rw [readIdx]
    simp
theorem readIdx_len (n : Nat) (b : List UInt8) : (readIdx n b).1.length = n := by
  induction n generalizing b with
  | zero => rfl
  | succ n ih => rw [readIdx]; simp only [List.length_cons, ih]
theorem bl_drop (R : ByteArray) (n : Nat) : bl (R.extract (min n R.size) R.size) = (bl R).drop n := by
  rw [bl_extract, List.take_of_length_le (by rw [List.length_drop, bl_len]; omega)]
  rcases Nat.le_total n R.size with h | h
  · rw [Nat.min_eq_left h]
  · rw [Nat.min_eq_right h, List.drop_eq_nil_of_le (by rw [bl_len]; omega), List.drop_eq_nil_of_le (by rw [bl_len]; exact h)]
theorem bl_take (R : ByteArray) (n : Nat) : bl (R.extract 0 (min n R.size)) = (bl R).take n := by
  rw [bl_extract, List.drop_zero, Nat.sub_zero]
  rcases Nat.le_total n R.size with h | h
  · rw [Nat.min_eq_left h]
  · rw [Nat.min_eq_right h, List.take_of_length_le (by rw [bl_len]; omega), List.take_of_length_le (by rw [bl_len]; exact h)]
theorem take_mk (R : ByteArray) (n : Nat) : R.extract 0 (min n R.size) = ⟨((bl R).take n).toArray⟩ := bl_inj (by rw [bl_take]; rfl)
theorem drop_mk (R : ByteArray) (n : Nat) : R.extract (min n R.size) R.size = ⟨((bl R).drop n).toArray⟩ := bl_inj (by rw [bl_drop]; rfl)
theorem bl_of (l : List UInt8) : bl ⟨l.toArray⟩ = l := by simp [bl]
def ba (l : List UInt8) : ByteArray := ⟨l.toArray⟩
theorem bl_ba (l : List UInt8) : bl (ba l) = l := bl_of l
theorem ba_size (l : List UInt8) : (ba l).size = l.length := by simp [ba, ByteArray.size]
theorem ba_bl (s : ByteArray) : ba (bl s) = s := bl_mk s
/-- The cursor's block turned, and nothing else that lay. -/
theorem cur_take {w : World} {b : Nat} {L : List UInt8} (h : w.heap[b]? = some (curO (ba L))) {ni : Int} (n : Nat) (en : ni = (n : Nat)) (hn : n ≤ 4611686018427387904) (hR : L.length ≤ 140737488355328) :
    Calls Try.prog 39 #[.pointer (some ⟨b, 0, none⟩), .int .i64 ni] w fun e w' => e = .returned (.string (ba (L.take n))) ∧ ∃ q, w' = (w.drewN q).setCell ⟨b, 0, none⟩ (.string (ba (L.drop n))) := by
  subst en
  refine (take_any h n hn (by rw [ba_size]; exact hR)).mono ?_
  rintro e w' ⟨rfl, q, rfl⟩
  rw [take_mk, drop_mk, bl_ba]
  exact ⟨rfl, q, rfl⟩
theorem cur_number {w : World} {b : Nat} {L : List UInt8} (h : w.heap[b]? = some (curO (ba L))) {wi : Int} (wd : Nat) (ew : wi = (wd : Nat)) (hw : wd ≤ 4) (hR : L.length ≤ 140737488355328) :
    Calls Try.prog 38 #[.pointer (some ⟨b, 0, none⟩), .int .i64 wi] w fun e w' => e = .returned (.int .i64 (val (L.take wd) : Nat)) ∧ ∃ q, w' = (w.drewN q).setCell ⟨b, 0, none⟩ (.string (ba (L.drop wd))) := by
  subst ew
  refine (cnumber_any h wd hw (by rw [ba_size]; exact hR)).mono ?_
  rintro e w' ⟨rfl, q, rfl⟩
  rw [drop_mk, bl_ba]
  exact ⟨rfl, q, rfl⟩
end Go.Proofs.Ytgmaccfhgeocdaa
