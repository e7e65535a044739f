/-
  Rows of tokens (api.Token): that lie in memory, as a law's arguments, and that a call builds by append. Conditions: those in the theorems.
-/
import Derived.Test.YtlmjcnfiolbfpaaDoorTokFirst
import Derived.OwnWalk
import Derived.Lib.AppendZeros
import Derived.Lib.AppendStr
import Derived.Maps.AppendAt
import Derived.WalkKit
import Derived.WalkLawsBesides
import Derived.ChangeSlices
import Derived.Test.YtlmjcnfiolbfpaaDoorRows
set_option linter.unusedSimpArgs false
set_option linter.unusedVariables false
namespace Go.Proofs.YtlmjcnfiolbfpaaDoor
open Go.ChangeShapes Go.WideShapes Go.ChangeAt Go.RowKit

theorem tcell_block {W : World} {a : Addr} {v : Value} (h : W.cell? a = some v) : a.block < W.heap.size := by
  unfold World.cell? at h
  cases hq : W.heap[a.block]? with
  | none => rw [hq] at h; cases h
  | some o => exact (Array.getElem?_eq_some_iff.1 hq).1
theorem tadd (A : Addr) (i j : Nat) : (A.add i).add j = A.add (i + j) := by
  unfold Addr.add
  by_cases hi : i = 0 <;> by_cases hj : j = 0 <;> simp [hi, hj, Nat.add_assoc]
theorem tadd_block (a : Addr) (i : Nat) : (a.add i).block = a.block := by unfold Addr.add; split <;> rfl
def I64 (n : Int) : Prop := -9223372036854775808 ≤ n ∧ n ≤ 9223372036854775807
def TokIn (t : Tk.Token) : Prop := t.kind < 256 ∧ t.text.size ≤ maxLen ∧ I64 t.num ∧ I64 t.pos
/-- Tokens that lie in memory. -/
def ToksAt (W : World) (p : Option Addr) (xs : List Tk.Token) : Prop := ∀ i (h : i < xs.length), ∃ A, p = some A ∧ A.block < W.heap.size ∧ (∀ j, j < 4 → W.cell? (A.add (i * 4 + j)) = (tokCells xs[i])[j]?) ∧ TokIn xs[i]
theorem ToksAt.below {W W' : World} {p : Option Addr} {xs : List Tk.Token} (h : ToksAt W p xs) (hb : Below W.heap.size W W') : ToksAt W' p xs := fun i hi => by
  obtain ⟨A, h1, h2, h3, h4⟩ := h i hi
  exact ⟨A, h1, Nat.lt_of_lt_of_le h2 hb.size, fun j hj => (hb.cell (by rw [tadd_block]; exact h2)).trans (h3 j hj), h4⟩
theorem ToksAt.at {w W : World} {p : Option Addr} {xs : List Tk.Token} (h : ToksAt w p xs) (hb : Below w.heap.size w W) {i : Nat} (hi : i < xs.length) :
    ∃ A, p = some A ∧ W.cell? (A.add (i * 4)) = some (.int .u8 (xs[i].kind : Nat)) ∧ W.cell? ⟨(A.add (i * 4)).block, (A.add (i * 4)).off + 1, none⟩ = some (.string xs[i].text) ∧ W.cell? ⟨(A.add (i * 4)).block, (A.add (i * 4)).off + 2, none⟩ = some (.int .i64 xs[i].num) ∧
      W.cell? ⟨(A.add (i * 4)).block, (A.add (i * 4)).off + 3, none⟩ = some (.int .i64 xs[i].pos) ∧ TokIn xs[i] := by
  obtain ⟨A, rfl, h2, h3, h4⟩ := h i hi
  have cell : ∀ j, j < 4 → W.cell? ((A.add (i * 4)).add j) = (tokCells xs[i])[j]? := fun j hj => by
    rw [tadd]; exact (hb.cell (by rw [tadd_block]; exact h2)).trans (h3 j hj)
  exact ⟨A, rfl, cell 0 (by omega), cell 1 (by omega), cell 2 (by omega), cell 3 (by omega), h4⟩
theorem ToksAt.some {w : World} {p : Option Addr} {xs : List Tk.Token} (h : ToksAt w p xs) {i : Nat} (hi : i < xs.length) : ∃ A, p = some A := by
  obtain ⟨A, e, -⟩ := h i hi; exact ⟨A, e⟩
theorem ToksAt.nil (W : World) (p : Option Addr) : ToksAt W p [] := fun i hi => nomatch hi
theorem ToksAt.ok {w : World} {p : Option Addr} {xs : List Tk.Token} (h : ToksAt w p xs) : ∀ f ∈ xs, TokIn f := fun f hf => by
  obtain ⟨i, hi, rfl⟩ := List.getElem_of_mem hf
  obtain ⟨A, -, -, -, h4⟩ := h i hi; exact h4

theorem one_tok : Tryd.prog.cellsOf 41 = 4 ∧ Tryd.prog.cellsOf 9 = 1 ∧ Tryd.prog.cellsOf 3 = 1 := ⟨by kernel_rfl, by kernel_rfl, by kernel_rfl⟩

/-! ### rows that a call builds -/
def toksCells (l : List Tk.Token) : List Value := l.flatMap tokCells
theorem toksCells_length (l : List Tk.Token) : (toksCells l).length = l.length * 4 := by
  induction l with
  | nil => rfl
  | cons p r ih => simp only [toksCells, List.flatMap_cons, List.length_append, List.length_cons] at *; rw [ih]; simp [tokCells]; omega
theorem toksCells_append (l m : List Tk.Token) : toksCells (l ++ m) = toksCells l ++ toksCells m := by unfold toksCells; rw [List.flatMap_append]
theorem toksCells_one (l : List Tk.Token) : ∀ u ∈ toksCells l, u.oneCell' = true := by
  intro u hu
  unfold toksCells at hu
  rw [List.mem_flatMap] at hu
  obtain ⟨p, -, hu⟩ := hu
  simp [tokCells] at hu
  rcases hu with rfl | rfl | rfl | rfl <;> rfl
theorem toksCells_get {l : List Tk.Token} {k : Nat} (hk : k < l.length) {j : Nat} (hj : j < 4) : (toksCells l)[k * 4 + j]? = (tokCells l[k])[j]? := by
  induction l generalizing k with
  | nil => exact absurd hk (Nat.not_lt_zero _)
  | cons p r ih =>
    unfold toksCells
    rw [List.flatMap_cons]
    cases k with
    | zero => rw [List.getElem?_append_left (by simp [tokCells]; omega)]; simp
    | succ k =>
      rw [List.getElem?_append_right (by simp [tokCells]; omega)]
      have := ih (k := k) (by simpa using hk)
      rw [show (k + 1) * 4 + j - (tokCells p).length = k * 4 + j by simp [tokCells]; omega]
      exact this
theorem infoTok : (Tryd.prog.info? 41).map (fun i => (i.zero, i.size, i.bytes)) = some (some (.agg #[.int .u8 0, .string ⟨#[]⟩, .int .i64 0, .int .i64 0]), 4, 40) := by kernel_rfl
/-- v is a row of the tokens xs, in a block of its own, not below base. -/
def OwnTok (W : World) (base : Nat) (v : Value) (xs : List Tk.Token) : Prop := W.ownsRow base 41 4 v xs.length (toksCells xs)
section
variable {W C : World} {base : Nat} {v : Value} {xs : List Tk.Token}
theorem OwnTok.nil (W : World) (base : Nat) : OwnTok W base (.slice none 0 0) [] := World.ownsRow_nil _ _ _ _
theorem OwnTok.lt (h : OwnTok W base v xs) : ∀ k, v.ownBlock = some k → base ≤ k ∧ k < W.heap.size := World.ownsRow.lt h
theorem OwnTok.shape (h : OwnTok W base v xs) : ∃ p cap, v = .slice p xs.length cap ∧ xs.length ≤ cap ∧ cap ≤ maxLen := by
  rcases h.2 with ⟨rfl, e⟩ | ⟨g, cap, cur, rfl, h2, h3, h4, h5, -⟩
  · rw [e]; exact ⟨none, 0, rfl, Nat.le_refl _, Nat.zero_le _⟩
  · exact ⟨_, _, rfl, h4, h5⟩
theorem OwnTok.stays (h : OwnTok W base v xs) (hb : ∀ k, k < W.heap.size → v.ownBlock = some k → C.heap[k]? = W.heap[k]?) : OwnTok C base v xs := by
  refine ⟨h.1, ?_⟩
  rcases h.2 with hn | ⟨g, cap, cur, rfl, h1, h2, h3⟩
  · exact .inl hn
  · exact .inr ⟨g, cap, cur, rfl, h1, (hb g (Array.getElem?_eq_some_iff.1 h2).1 rfl).trans h2, h3⟩
theorem OwnTok.below (h : OwnTok W base v xs) (hb : Below W.heap.size W C) : OwnTok C base v xs := h.stays fun k hk _ => hb.block k hk
theorem OwnTok.mono {b' : Nat} (h : OwnTok W base v xs) (hb : b' ≤ base) : OwnTok W b' v xs := by
  refine ⟨h.1, ?_⟩
  rcases h.2 with hn | ⟨g, cap, cur, rfl, h1, h2⟩
  · exact .inl hn
  · exact .inr ⟨g, cap, cur, rfl, Nat.le_trans hb h1, h2⟩
theorem OwnTok.toks (h : OwnTok W base v xs) (hp : ∀ x ∈ xs, TokIn x) : ∃ p cap, v = .slice p xs.length cap ∧ xs.length ≤ cap ∧ cap ≤ maxLen ∧ ToksAt W p xs := by
  rcases h.2 with ⟨rfl, hn⟩ | ⟨g, cap, cur, rfl, h1, h2, h3, h4, h5, h6⟩
  · rw [hn]; exact ⟨none, 0, rfl, Nat.le_refl _, Nat.zero_le _, fun i hi => by omega⟩
  · refine ⟨Option.some ⟨g, 0, none⟩, cap, rfl, h3, h4, fun i hi => ⟨_, rfl, (Array.getElem?_eq_some_iff.1 h2).1, fun j hj => ?_, hp _ (List.getElem_mem hi)⟩⟩
    have hadd : (⟨g, 0, none⟩ : Addr).add (i * 4 + j) = ⟨g, i * 4 + j, none⟩ := by unfold Addr.add; split <;> simp_all
    rw [hadd, cell_of_row W g _ cur _ _ h2, ← toksCells_get hi hj, ← h6, List.getElem?_take, if_pos (by omega)]; simp
end
theorem news_four (w : World) (x0 x1 x2 x3 : Value) (t : TypeId) : ∀ j u, [x0, x1, x2, x3][j]? = some u → (w.alloc (.cells #[x0, x1, x2, x3] t)).cell? ((⟨w.heap.size, 0, none⟩ : Addr).add j) = some u := by
  intro j u hj
  match j, hj with
  | 0, hj => simp at hj; subst hj; simp [Addr.add]
  | 1, hj => simp at hj; subst hj; simp [Addr.add]
  | 2, hj => simp at hj; subst hj; simp [Addr.add]
  | 3, hj => simp at hj; subst hj; simp [Addr.add]
/-- Of what a row of its own was made of, only its own old block may have turned. -/
structure GrewT (v v' : Value) (W W' : World) : Prop where
  os : W'.os = W.os
  tape : W'.tape = W.tape
  output : W'.output = W.output
  size : W.heap.size ≤ W'.heap.size
  block : ∀ k, k < W.heap.size → v.ownBlock ≠ some k → W'.heap[k]? = W.heap[k]?
  own : ∀ k, v'.ownBlock = some k → v.ownBlock = some k ∨ W.heap.size ≤ k
theorem GrewT.below {base : Nat} {w W W' : World} {v v' : Value} (g : GrewT v v' W W') (hb : Below base w W) (hz : base ≤ W.heap.size) (ho : ∀ k, v.ownBlock = some k → base ≤ k) : Below base w W' :=
  ⟨g.os.trans hb.os, g.tape.trans hb.tape, g.output.trans hb.output, Nat.le_trans hb.size g.size, fun k hk => (g.block k (by omega) fun e => by have := ho k e; omega).trans (hb.block k hk)⟩
/-- Tokens that lie at A are appended; the world may have new blocks since the row was looked at. -/
theorem t_append {W0 W : World} {base : Nat} {v : Value} {l : List Tk.Token} (h : OwnTok W0 base v l) (hb0 : Below W0.heap.size W0 W) (A : Addr) (r : List Tk.Token) (m c : Nat) (hm : r.length = m) (hnews : ∀ q u, (toksCells r)[q]? = some u → W.cell? (A.add q) = some u) (hs : l.length + m ≤ 1000000) (hb : base ≤ W0.heap.size) (ty : TypeId) :
    ∃ (pv : Option Addr) (cv : Nat) (W' : World), (Builtin.append_ #[37, 37] ty #[v, .slice (some A) m c]).run Tryd.prog W = .ok (.slice pv (l.length + m) cv) W' ∧
      OwnTok W' base (.slice pv (l.length + m) cv) (l ++ r) ∧ GrewT v (.slice pv (l.length + m) cv) W0 W' := by
  subst hm
  have h0 := h.below hb0
  have hz := hb0.size
  obtain ⟨i0, hi0, hz0, hz1, hz2⟩ := info_parts infoTok
  obtain ⟨v', W', hrun, ho, hg, -, hown⟩ := run_append_own_at (P := Tryd.prog) W base 37 ty 41 i0 _ 4 40 Tryd.underlying37 hi0 hz0 hz1 hz2 rfl (by decide) v _ _ h0
    A r.length c (toksCells r) (toksCells_length r) hnews (toksCells_one r) (by unfold maxLen; omega) (by omega) (by omega)
  have ho2 : OwnTok W' base v' (l ++ r) := by unfold OwnTok; rw [toksCells_append, List.length_append]; exact ho
  obtain ⟨pv, cv, rfl, -, -⟩ := ho2.shape
  rw [List.length_append] at hrun ho2 hown
  refine ⟨pv, cv, W', hrun, ho2, hg.os.trans hb0.os, hg.tape.trans hb0.tape, hg.output.trans hb0.output, Nat.le_trans hz hg.size, fun k hk hn => ?_, fun k hk => ?_⟩
  · exact (hg.block k (by omega) fun e => hn e.symm).trans (hb0.block k hk)
  · rcases hown with e | e
    · exact .inl (e ▸ hk)
    · rw [e] at hk
      simp only [Option.some.injEq] at hk
      exact .inr (by omega)
end Go.Proofs.YtlmjcnfiolbfpaaDoor
