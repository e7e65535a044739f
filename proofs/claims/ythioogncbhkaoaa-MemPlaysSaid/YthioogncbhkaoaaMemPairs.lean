/-
  Slices of pairs of texts as a law's arguments. No condition.
-/
import Derived.Test.YthioogncbhkaoaaMemOpen
import Derived.ChangeSlices
namespace Go.Proofs.Ythioogncbhkaoaa
open Go.ChangeShapes Go.WideShapes Go.ChangeAt Go.RowKit

abbrev Pr := ByteArray × ByteArray
theorem addr_add (A : Addr) (i j : Nat) : (A.add i).add j = A.add (i + j) := by
  unfold Addr.add
  by_cases hi : i = 0 <;> by_cases hj : j = 0 <;> simp [hi, hj, Nat.add_assoc]
def prCells (v : Pr) : List Value := [.string v.1, .string v.2]
def PrIn (v : Pr) : Prop := v.1.size ≤ maxLen ∧ v.2.size ≤ maxLen
def PairsAt (W : World) (p : Option Addr) (xs : List Pr) : Prop := ∀ i (h : i < xs.length), ∃ A, p = some A ∧ A.block < W.heap.size ∧ (∀ j, j < 2 → W.cell? (A.add (i * 2 + j)) = (prCells xs[i])[j]?) ∧ PrIn xs[i]
theorem PairsAt.below {W W' : World} {p : Option Addr} {xs : List Pr} (h : PairsAt W p xs) (hb : Below W.heap.size W W') : PairsAt W' p xs := fun i hi => by
  obtain ⟨A, h1, h2, h3, h4⟩ := h i hi
  exact ⟨A, h1, Nat.lt_of_lt_of_le h2 hb.size, fun j hj => (hb.cell (by rw [add_block]; exact h2)).trans (h3 j hj), h4⟩
theorem PairsAt.at {w W : World} {p : Option Addr} {xs : List Pr} (h : PairsAt w p xs) (hb : Below w.heap.size w W) {i : Nat} (hi : i < xs.length) :
    ∃ A, p = some A ∧ W.cell? (A.add (i * 2)) = some (.string xs[i].1) ∧ W.cell? ⟨(A.add (i * 2)).block, (A.add (i * 2)).off + 1, none⟩ = some (.string xs[i].2) ∧ PrIn xs[i] := by
  obtain ⟨A, rfl, h2, h3, h4⟩ := h i hi
  have cell : ∀ j, j < 2 → W.cell? ((A.add (i * 2)).add j) = (prCells xs[i])[j]? := fun j hj => by
    rw [addr_add]; exact (hb.cell (by rw [add_block]; exact h2)).trans (h3 j hj)
  exact ⟨A, rfl, cell 0 (by omega), cell 1 (by omega), h4⟩
theorem PairsAt.cells {w W : World} {A : Addr} {xs : List Pr} (h : PairsAt w (some A) xs) (hb : Below w.heap.size w W) {i : Nat} (hi : i < xs.length) :
    W.cell? (A.add (i * 2)) = some (.string xs[i].1) ∧ W.cell? ⟨(A.add (i * 2)).block, (A.add (i * 2)).off + 1, none⟩ = some (.string xs[i].2) := by
  obtain ⟨A', e, h0, h1, -⟩ := h.at hb hi
  cases e
  exact ⟨h0, h1⟩
theorem PairsAt.some {w : World} {p : Option Addr} {xs : List Pr} (h : PairsAt w p xs) {i : Nat} (hi : i < xs.length) : ∃ A, p = some A := by
  obtain ⟨A, e, -⟩ := h i hi; exact ⟨A, e⟩

theorem one_pr : Try.prog.cellsOf 44 = 2 ∧ Try.prog.cellsOf 9 = 1 := ⟨by kernel_rfl, by kernel_rfl⟩
set_option maxRecDepth 100000 in
theorem open_pr {H : Type} {enc : TypeId × Value → H} {W : World} {fuel : Nat} {cs : List Value} {x : DataW H × List MemPlace} (h : DataW.trod enc Try.prog W 0 (fun _ => true) true fuel 44 cs = some x) :
    ∃ v : Pr, cs = prCells v ∧ PrIn v := by
  obtain ⟨z2, z1⟩ := one_pr
  obtain ⟨xs, m, -, -, hl, hlen, hf⟩ := DataW.trod_struct Try.underlying44 h
  rw [z2] at hl
  obtain ⟨c0, c1, rfl⟩ : ∃ c0 c1, cs = [c0, c1] := by
    match cs, hl with
    | [c0, c1], _ => exact ⟨_, _, rfl⟩
  obtain ⟨y0, y1, rfl⟩ : ∃ c0 c1, xs = [c0, c1] := by
    match xs, hlen with
    | [c0, c1], _ => exact ⟨_, _, rfl⟩
  have f0 := hf 0 _ rfl
  have f1 := hf 1 _ rfl
  simp only [List.getElem?_cons_zero, List.getElem?_cons_succ] at f0 f1
  obtain ⟨s0, e0, -, w0⟩ := DataW.trod_string Try.underlying9 f0
  obtain ⟨s1, e1, -, w1⟩ := DataW.trod_string Try.underlying9 f1
  obtain rfl := List.head_eq_of_cons_eq e0
  obtain rfl := List.head_eq_of_cons_eq e1
  exact ⟨⟨s0, s1⟩, rfl, ⟨w0, w1⟩⟩

set_option maxRecDepth 100000 in
theorem open_pairs {H : Type} {enc : TypeId × Value → H} {W : World} {base : Nat} {v : Value} {d : DataW H} {ps : List MemPlace} (hval : Value.okWide Try.prog W .any base 30 v) (h : DataW.Trod enc Try.prog W 0 (fun _ => true) true 30 v d ps) :
    ∃ (p : Option Addr) (cap : Nat) (xs : List Pr), v = .slice p xs.length cap ∧ PairsAt W p xs := by
  obtain ⟨a0, len, cap, rfl⟩ := okWide_slice Try.underlying30 hval
  obtain ⟨fuel, hf⟩ := h
  obtain ⟨z2, -⟩ := one_pr
  rcases DataW.trod_slice Try.underlying30 hf with ⟨e, -⟩ | ⟨a, len', cap', elems, rest, m, -, e, -, -, -, -, hlen, hel, -, -⟩
  · obtain h0 := List.head_eq_of_cons_eq e
    obtain ⟨rfl, rfl, rfl⟩ := Value.slice.inj h0
    exact ⟨none, 0, [], rfl, fun i hi => nomatch hi⟩
  · obtain h0 := List.head_eq_of_cons_eq e
    obtain ⟨rfl, rfl, rfl⟩ := Value.slice.inj h0
    have key : ∀ i, i < len → ∃ x : Pr, a.block < W.heap.size ∧ (∀ j, j < 2 → W.cell? (a.add (i * 2 + j)) = (prCells x)[j]?) ∧ PrIn x := by
      intro i hi
      have h1 := hel i hi
      rw [List.getElem?_eq_getElem (by omega), z2] at h1
      obtain ⟨cs, h2, h3⟩ := Option.bind_eq_some_iff.1 h1
      obtain ⟨x, rfl, hx⟩ := open_pr h3
      unfold World.cells? at h2
      rw [if_pos (Nat.zero_le _)] at h2
      have h4 : ∀ j, j < 2 → W.cell? (a.add (i * 2 + j)) = (prCells x)[j]? := fun j hj => by
        have := mapM_some_get h2 j j (by simp [hj])
        rwa [addr_add] at this
      refine ⟨x, ?_, h4, hx⟩
      have h5 : W.cell? (a.add (i * 2 + 0)) = Option.some (.string x.1) := h4 0 (by omega)
      have h6 := cell_block h5
      rwa [add_block] at h6
    refine ⟨Option.some a, cap, (List.range len).attach.map fun i => (key i.1 (List.mem_range.1 i.2)).choose, by simp, fun i hi => ?_⟩
    have hi' : i < len := by simpa using hi
    have hs := (key i hi').choose_spec
    refine ⟨a, rfl, hs.1, ?_⟩
    simp only [List.getElem_map, List.getElem_attach, List.getElem_range]
    exact hs.2
end Go.Proofs.Ythioogncbhkaoaa
