/-
  Rows of edits as they are handed in: what lies there, opened. Conditions: those in the theorems.
-/
import Derived.Test.YtbhjpkejdkfenaaGreatDoorManArgs
import Derived.Test.YtbhjpkejdkfenaaGreatDoorManTurned
set_option linter.unusedSimpArgs false
set_option linter.unusedVariables false
namespace Go.Proofs.YtbhjpkejdkfenaaGreatDoor
open Go.ChangeShapes Go.WideShapes Go.ChangeAt Go.RowKit
open Mf (File State Edit)
/-- An edit as it lies in memory: its rows' places. -/
structure EdT where
  q : Option Addr
  cd : Nat
  ds : List Int
  r : Option Addr
  ca : Nat
  add : List File
  nx : Int
  lg : Int
def edCells (e : EdT) : List Value := [.slice e.q e.ds.length e.cd, .slice e.r e.add.length e.ca, .int .i64 e.nx, .int .i64 e.lg]
def EdIn (W : World) (e : EdT) : Prop := EdArg W (edV e.q e.ds.length e.cd e.r e.add.length e.ca e.nx e.lg) e.q e.cd e.ds e.r e.ca e.add e.nx e.lg
def EdsAt (W : World) (p : Option Addr) (xs : List EdT) : Prop := ∀ i (h : i < xs.length), ∃ A, p = some A ∧ A.block < W.heap.size ∧ (∀ j, j < 4 → W.cell? (A.add (i * 4 + j)) = (edCells xs[i])[j]?) ∧ EdIn W xs[i]
theorem EdArg.below {W W' : World} {v : Value} {q r : Option Addr} {cd ca : Nat} {ds : List Int} {add : List File} {nx lg : Int} (h : EdArg W v q cd ds r ca add nx lg) (hb : Below W.heap.size W W') : EdArg W' v q cd ds r ca add nx lg :=
  ⟨h.is, h.ints.below hb, h.files.below hb, h.capd, h.capa, h.nx, h.lg⟩
theorem EdsAt.at {w W : World} {p : Option Addr} {xs : List EdT} (h : EdsAt w p xs) (hb : Below w.heap.size w W) {i : Nat} (hi : i < xs.length) :
    ∃ A, p = some A ∧ W.cell? (A.add (i * 4)) = some (.slice xs[i].q xs[i].ds.length xs[i].cd) ∧ W.cell? ⟨(A.add (i * 4)).block, (A.add (i * 4)).off + 1, none⟩ = some (.slice xs[i].r xs[i].add.length xs[i].ca) ∧ W.cell? ⟨(A.add (i * 4)).block, (A.add (i * 4)).off + 2, none⟩ = some (.int .i64 xs[i].nx) ∧
      W.cell? ⟨(A.add (i * 4)).block, (A.add (i * 4)).off + 3, none⟩ = some (.int .i64 xs[i].lg) ∧ EdIn W xs[i] := by
  obtain ⟨A, rfl, h2, h3, h4⟩ := h i hi
  have cell : ∀ j, j < 4 → W.cell? ((A.add (i * 4)).add j) = (edCells xs[i])[j]? := fun j hj => by
    rw [madd]; exact (hb.cell (by rw [madd_block]; exact h2)).trans (h3 j hj)
  exact ⟨A, rfl, cell 0 (by omega), cell 1 (by omega), cell 2 (by omega), cell 3 (by omega), EdArg.below h4 hb⟩
theorem cells_rows : Tryz.prog.cellsOf 31 = 1 ∧ Tryz.prog.cellsOf 22 = 1 := ⟨by kernel_rfl, by kernel_rfl⟩
set_option maxRecDepth 100000 in
theorem open_ed {H : Type} {enc : TypeId × Value → H} {W : World} {fuel : Nat} {cs : List Value} {x : DataW H × List MemPlace} (h : DataW.trod enc Tryz.prog W 0 (fun _ => true) true fuel 33 cs = some x) :
    ∃ e : EdT, cs = edCells e ∧ EdIn W e := by
  obtain ⟨-, -, z0⟩ := one_fi
  obtain ⟨z1, z2⟩ := cells_rows
  obtain ⟨xs, m, -, -, hl, hlen, hf⟩ := DataW.trod_struct Tryz.underlying33 h
  rw [cells_ed] at hl
  obtain ⟨c0, c1, c2, c3, rfl⟩ : ∃ c0 c1 c2 c3, cs = [c0, c1, c2, c3] := by
    match cs, hl with
    | [c0, c1, c2, c3], _ => exact ⟨_, _, _, _, rfl⟩
  obtain ⟨y0, y1, y2, y3, rfl⟩ : ∃ c0 c1 c2 c3, xs = [c0, c1, c2, c3] := by
    match xs, hlen with
    | [c0, c1, c2, c3], _ => exact ⟨_, _, _, _, rfl⟩
  have f0 := hf 0 _ rfl
  have f1 := hf 1 _ rfl
  have f2 := hf 2 _ rfl
  have f3 := hf 3 _ rfl
  simp only [z0, z1, z2, List.drop, List.take, List.getElem?_cons_zero, List.getElem?_cons_succ] at f0 f1 f2 f3
  obtain ⟨n2, e2, -, w2⟩ := DataW.trod_int Tryz.underlying3 f2
  obtain ⟨n3, e3, -, w3⟩ := DataW.trod_int Tryz.underlying3 f3
  obtain rfl := List.head_eq_of_cons_eq e2
  obtain rfl := List.head_eq_of_cons_eq e3
  obtain ⟨q, cd, ds, rfl, hd, hcd⟩ := open_nums f0
  obtain ⟨r, ca, add, rfl, ha, hca⟩ := open_fis f1
  exact ⟨⟨q, cd, ds, r, ca, add, n2, n3⟩, rfl, rfl, hd, ha, hcd, hca, i64_of w2, i64_of w3⟩
set_option maxRecDepth 100000 in
theorem open_eds {H : Type} {enc : TypeId × Value → H} {W : World} {base : Nat} {v : Value} {d : DataW H} {ps : List MemPlace} (hval : Value.okWide Tryz.prog W .any base 72 v) (h : DataW.Trod enc Tryz.prog W 0 (fun _ => true) true 72 v d ps) :
    ∃ (p : Option Addr) (cap : Nat) (xs : List EdT), v = .slice p xs.length cap ∧ EdsAt W p xs := by
  obtain ⟨a0, len, cap, rfl⟩ := okWide_slice Tryz.underlying72 hval
  obtain ⟨fuel, hf⟩ := h
  rcases DataW.trod_slice Tryz.underlying72 hf with ⟨e, -⟩ | ⟨a, len', cap', elems, rest, m, -, e, -, -, -, -, hlen, hel, -, -⟩
  · obtain h0 := List.head_eq_of_cons_eq e
    obtain ⟨rfl, rfl, rfl⟩ := Value.slice.inj h0
    exact ⟨none, 0, [], rfl, fun i hi => nomatch hi⟩
  · obtain h0 := List.head_eq_of_cons_eq e
    obtain ⟨rfl, rfl, rfl⟩ := Value.slice.inj h0
    have key : ∀ i, i < len → ∃ x : EdT, a.block < W.heap.size ∧ (∀ j, j < 4 → W.cell? (a.add (i * 4 + j)) = (edCells x)[j]?) ∧ EdIn W x := by
      intro i hi
      have h1 := hel i hi
      rw [List.getElem?_eq_getElem (by omega), cells_ed] at h1
      obtain ⟨cs, h2, h3⟩ := Option.bind_eq_some_iff.1 h1
      obtain ⟨x, rfl, hx⟩ := open_ed h3
      unfold World.cells? at h2
      rw [if_pos (Nat.zero_le _)] at h2
      have h4 : ∀ j, j < 4 → W.cell? (a.add (i * 4 + j)) = (edCells x)[j]? := fun j hj => by
        have := mapM_get h2 j j (by simp [hj])
        rwa [madd] at this
      refine ⟨x, ?_, h4, hx⟩
      have h5 : W.cell? (a.add (i * 4 + 2)) = Option.some (.int .i64 x.nx) := h4 2 (by omega)
      have h6 := mcell_block h5
      rwa [madd_block] at h6
    refine ⟨some a, cap, (List.range len).attach.map fun i => (key i.1 (List.mem_range.1 i.2)).choose, by simp, fun i hi => ?_⟩
    have hi' : i < len := by simpa using hi
    have hs := (key i hi').choose_spec
    refine ⟨a, rfl, hs.1, ?_⟩
    simp only [List.getElem_map, List.getElem_attach, List.getElem_range]
    exact hs.2
end Go.Proofs.YtbhjpkejdkfenaaGreatDoor
