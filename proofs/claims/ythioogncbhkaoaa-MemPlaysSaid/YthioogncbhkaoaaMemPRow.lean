/-
  Rows of pairs of texts that a function builds, by append. Condition: few pairs.
-/
import Derived.Test.YthioogncbhkaoaaMemPairs
import Derived.Test.YthioogncbhkaoaaMemOwn
import Derived.Maps.AppendAt
namespace Go.Proofs.Ythioogncbhkaoaa
open Go.RowKit

def prsCells (l : List Pr) : List Value := l.flatMap prCells
theorem prsCells_length (l : List Pr) : (prsCells l).length = l.length * 2 := by
  induction l with
  | nil => rfl
  | cons p r ih => simp only [prsCells, List.flatMap_cons, List.length_append, List.length_cons] at *; rw [ih]; simp [prCells]; omega
theorem prsCells_append (l m : List Pr) : prsCells (l ++ m) = prsCells l ++ prsCells m := by unfold prsCells; rw [List.flatMap_append]
theorem prsCells_one (l : List Pr) : ∀ u ∈ prsCells l, u.oneCell' = true := by
  intro u hu
  unfold prsCells at hu
  rw [List.mem_flatMap] at hu
  obtain ⟨p, -, hu⟩ := hu
  simp [prCells] at hu
  rcases hu with rfl | rfl <;> rfl
theorem prsCells_get {l : List Pr} {k : Nat} (hk : k < l.length) {j : Nat} (hj : j < 2) : (prsCells l)[k * 2 + j]? = (prCells l[k])[j]? := by
  induction l generalizing k with
  | nil => exact absurd hk (Nat.not_lt_zero _)
  | cons p r ih =>
    unfold prsCells
    rw [List.flatMap_cons]
    cases k with
    | zero => rw [List.getElem?_append_left (by simp [prCells]; omega)]; simp
    | succ k =>
      rw [List.getElem?_append_right (by simp [prCells]; omega)]
      have := ih (k := k) (by simpa using hk)
      rw [show (k + 1) * 2 + j - (prCells p).length = k * 2 + j by simp [prCells]; omega]
      exact this
theorem infoP : (Try.prog.info? 44).map (fun i => (i.zero, i.size, i.bytes)) = some (some (.agg #[.string ⟨#[]⟩, .string ⟨#[]⟩]), 2, 32) := by kernel_rfl
/-- v is a row of the pairs xs, in a block of its own, not below base. -/
def OwnPairs (W : World) (base : Nat) (v : Value) (xs : List Pr) : Prop := W.ownsRow base 44 2 v xs.length (prsCells xs)
section
variable {W C : World} {base : Nat} {v : Value} {xs : List Pr}
theorem OwnPairs.nil (W : World) (base : Nat) : OwnPairs W base (.slice none 0 0) [] := World.ownsRow_nil _ _ _ _
theorem OwnPairs.lt (h : OwnPairs W base v xs) : ∀ k, v.ownBlock = some k → base ≤ k ∧ k < W.heap.size := World.ownsRow.lt h
theorem OwnPairs.shape (h : OwnPairs W base v xs) : ∃ p cap, v = .slice p xs.length cap ∧ xs.length ≤ cap ∧ cap ≤ maxLen := by
  rcases h.2 with ⟨rfl, e⟩ | ⟨g, cap, cur, rfl, h2, h3, h4, h5, -⟩
  · rw [e]; exact ⟨none, 0, rfl, Nat.le_refl _, Nat.zero_le _⟩
  · exact ⟨_, _, rfl, h4, h5⟩
theorem OwnPairs.stays (h : OwnPairs W base v xs) (hb : ∀ k, k < W.heap.size → base ≤ k → C.heap[k]? = W.heap[k]?) : OwnPairs C base v xs := by
  refine ⟨h.1, ?_⟩
  rcases h.2 with hn | ⟨g, cap, cur, rfl, h1, h2, h3⟩
  · exact .inl hn
  · exact .inr ⟨g, cap, cur, rfl, h1, (hb g (Array.getElem?_eq_some_iff.1 h2).1 h1).trans h2, h3⟩
theorem OwnPairs.below (h : OwnPairs W base v xs) (hb : Below W.heap.size W C) : OwnPairs C base v xs := h.stays fun k hk _ => hb.block k hk
theorem OwnPairs.pairs (h : OwnPairs W base v xs) (hp : ∀ x ∈ xs, PrIn x) : ∃ p cap, v = .slice p xs.length cap ∧ xs.length ≤ cap ∧ cap ≤ maxLen ∧ PairsAt W p xs := by
  rcases h.2 with ⟨rfl, hn⟩ | ⟨g, cap, cur, rfl, h1, h2, h3, h4, h5, h6⟩
  · rw [hn]; exact ⟨none, 0, rfl, Nat.le_refl _, Nat.zero_le _, fun i hi => by omega⟩
  · refine ⟨some ⟨g, 0, none⟩, cap, rfl, h3, h4, fun i hi => ⟨_, rfl, (Array.getElem?_eq_some_iff.1 h2).1, fun j hj => ?_, hp _ (List.getElem_mem hi)⟩⟩
    have hadd : (⟨g, 0, none⟩ : Addr).add (i * 2 + j) = ⟨g, i * 2 + j, none⟩ := by unfold Addr.add; split <;> simp_all
    rw [hadd, cell_of_row W g _ cur _ _ h2, ← prsCells_get hi hj, ← h6, List.getElem?_take, if_pos (by omega)]; simp
end
/-- The cells of a part of a list that lies in memory. -/
theorem news_part {W : World} {A : Addr} {l : List Pr} (h : PairsAt W (some A) l) (j m : Nat) (hjm : j + m ≤ l.length) : ∀ q u, (prsCells ((l.drop j).take m))[q]? = some u → W.cell? ((A.add (j * 2)).add q) = some u := by
  intro q u hu
  have hlen : ((l.drop j).take m).length = m := by rw [List.length_take, List.length_drop]; omega
  have hq : q < m * 2 := by
    have := (List.getElem?_eq_some_iff.1 hu).1
    rw [prsCells_length, hlen] at this; exact this
  have hk : q / 2 < ((l.drop j).take m).length := by omega
  have hr : q % 2 < 2 := Nat.mod_lt _ (by omega)
  have e : q = q / 2 * 2 + q % 2 := by omega
  rw [e, prsCells_get hk hr] at hu
  rw [List.getElem_take, List.getElem_drop] at hu
  obtain ⟨A', e', -, h3, -⟩ := h (j + q / 2) (by omega)
  cases e'
  rw [addr_add, show j * 2 + q = (j + q / 2) * 2 + q % 2 by omega, h3 _ hr]
  exact hu
theorem news_two (w : World) (x y : Value) (t : TypeId) : ∀ j u, [x, y][j]? = some u → (w.alloc (.cells #[x, y] t)).cell? ((⟨w.heap.size, 0, none⟩ : Addr).add j) = some u := by
  intro j u hj
  match j, hj with
  | 0, hj =>
    simp at hj
    subst hj
    simp [Addr.add]
  | 1, hj =>
    simp at hj
    subst hj
    simp [Addr.add]
/-- Pairs that lie at A are appended. -/
theorem pr_append {W : World} {base : Nat} {v : Value} {xs : List Pr} (h : OwnPairs W base v xs) (A : Addr) (ys : List Pr) (m c : Nat) (hm : ys.length = m) (hnews : ∀ q u, (prsCells ys)[q]? = some u → W.cell? (A.add q) = some u) (hs : xs.length + m ≤ 100000) (hb : base ≤ W.heap.size) (n : Nat) (hn : n = xs.length + m) (ty : TypeId) :
    ∃ (pv : Option Addr) (cv : Nat) (W' : World), (Builtin.append_ #[30, 30] ty #[v, .slice (some A) m c]).run Try.prog W = .ok (.slice pv n cv) W' ∧
      OwnPairs W' base (.slice pv n cv) (xs ++ ys) ∧ W.grownBy W' v.ownBlock := by
  subst hm
  obtain ⟨i0, hi0, hz0, hz1, hz2⟩ := info_parts infoP
  obtain ⟨v', W', hrun, ho, hg, -, -⟩ := run_append_own_at (P := Try.prog) W base 30 ty 44 i0 _ 2 32 Try.underlying30 hi0 hz0 hz1 hz2 rfl (by decide) v _ _ h
    A ys.length c (prsCells ys) (prsCells_length ys) hnews (prsCells_one _) (by unfold maxLen; omega) (by omega) hb
  have ho2 : OwnPairs W' base v' (xs ++ ys) := by unfold OwnPairs; rw [prsCells_append, List.length_append]; exact ho
  obtain ⟨pv, cv, rfl, -, -⟩ := ho2.shape
  subst hn
  rw [List.length_append] at hrun ho2
  exact ⟨pv, cv, W', hrun, ho2, hg⟩
/-- What lay below stays under an append. -/
theorem below_append {w0 W W' : World} {base : Nat} {v : Value} {xs : List Pr} (hb : Below base w0 W) (h : OwnPairs W base v xs) (hz : base ≤ W.heap.size) (hg : W.grownBy W' v.ownBlock) : Below base w0 W' :=
  hb.grown hg hz (fun k hk => (h.lt k hk).1)
end Go.Proofs.Ythioogncbhkaoaa
