/-
  Lists of packets, of acts and of numbers as they are handed in, opened. Conditions: those in the theorems.
-/
import Derived.Test.YtcfhfamdcdkgjaaNetLaw
import Derived.ChangeSlices
namespace Go.Proofs.Ytcfhfamdcdkgjaa
open Go.ChangeShapes Go.WideShapes Go.ChangeAt Go.RowKit

theorem add_add (A : Addr) (i j : Nat) : (A.add i).add j = A.add (i + j) := by
  unfold Addr.add
  by_cases hi : i = 0 <;> by_cases hj : j = 0 <;> simp [hi, hj, Nat.add_assoc]
theorem add_blk (A : Addr) (i : Nat) : (A.add i).block = A.block := by unfold Addr.add; split <;> rfl
/-- What is so of each packet that is handed in. -/
structure PkIn (p : Nm.Pk) : Prop where
  f : Nm.Wf p.f
  t : Nm.Wf p.t
  d : p.d.size ≤ maxLen
def Pks (W : World) (p : Option Addr) (xs : List Nm.Pk) : Prop := ∀ i (h : i < xs.length), ∃ A, p = some A ∧ A.block < W.heap.size ∧ (∀ j, j < 3 → W.cell? (A.add (i * 3 + j)) = (pkCells xs[i])[j]?) ∧ PkIn xs[i]
theorem Pks.below {W W' : World} {p : Option Addr} {xs : List Nm.Pk} (h : Pks W p xs) (hb : Below W.heap.size W W') : Pks W' p xs := fun i hi => by
  obtain ⟨A, h1, h2, h3, h4⟩ := h i hi
  exact ⟨A, h1, Nat.lt_of_lt_of_le h2 hb.size, fun j hj => (hb.cell (by rw [add_blk]; exact h2)).trans (h3 j hj), h4⟩
/-- The cells of the packet number i. -/
theorem Pks.at {w W : World} {p : Option Addr} {xs : List Nm.Pk} (h : Pks w p xs) (hb : Below w.heap.size w W) {i : Nat} (hi : i < xs.length) :
    ∃ A, p = some A ∧ W.cell? (A.add (i * 3)) = some (.int .i64 xs[i].f) ∧ W.cell? ⟨(A.add (i * 3)).block, (A.add (i * 3)).off + 1, none⟩ = some (.int .i64 xs[i].t) ∧ W.cell? ⟨(A.add (i * 3)).block, (A.add (i * 3)).off + 2, none⟩ = some (.string xs[i].d) ∧ PkIn xs[i] := by
  obtain ⟨A, rfl, h2, h3, h4⟩ := h i hi
  have cell : ∀ j, j < 3 → W.cell? ((A.add (i * 3)).add j) = (pkCells xs[i])[j]? := fun j hj => by
    rw [add_add]; exact (hb.cell (by rw [add_blk]; exact h2)).trans (h3 j hj)
  exact ⟨A, rfl, cell 0 (by omega), cell 1 (by omega), cell 2 (by omega), h4⟩

theorem Pks.cells {w W : World} {A : Addr} {xs : List Nm.Pk} (h : Pks w (some A) xs) (hb : Below w.heap.size w W) {i : Nat} (hi : i < xs.length) :
    W.cell? (A.add (i * 3)) = some (.int .i64 xs[i].f) ∧ W.cell? ⟨(A.add (i * 3)).block, (A.add (i * 3)).off + 1, none⟩ = some (.int .i64 xs[i].t) ∧ W.cell? ⟨(A.add (i * 3)).block, (A.add (i * 3)).off + 2, none⟩ = some (.string xs[i].d) := by
  obtain ⟨A', e, h0, h1, h2, -⟩ := h.at hb hi
  cases e
  exact ⟨h0, h1, h2⟩

theorem one_pk : Try.prog.cellsOf 23 = 3 ∧ Try.prog.cellsOf 3 = 1 ∧ Try.prog.cellsOf 9 = 1 := ⟨by kernel_rfl, by kernel_rfl, by kernel_rfl⟩

set_option maxRecDepth 100000 in
theorem open_pk {H : Type} {enc : TypeId × Value → H} {W : World} {fuel : Nat} {cs : List Value} {x : DataW H × List MemPlace} (h : DataW.trod enc Try.prog W 0 (fun _ => true) true fuel 23 cs = some x) :
    ∃ v : Nm.Pk, cs = pkCells v ∧ PkIn v := by
  obtain ⟨z3, z0, z1⟩ := one_pk
  obtain ⟨xs, m, -, -, hl, hlen, hf⟩ := DataW.trod_struct Try.underlying23 h
  rw [z3] at hl
  obtain ⟨c0, c1, c2, rfl⟩ : ∃ c0 c1 c2, cs = [c0, c1, c2] := by
    match cs, hl with
    | [c0, c1, c2], _ => exact ⟨_, _, _, rfl⟩
  obtain ⟨y0, y1, y2, rfl⟩ : ∃ c0 c1 c2, xs = [c0, c1, c2] := by
    match xs, hlen with
    | [c0, c1, c2], _ => exact ⟨_, _, _, rfl⟩
  have f0 := hf 0 _ rfl
  have f1 := hf 1 _ rfl
  have f2 := hf 2 _ rfl
  simp only [z0, z1, List.drop, List.take, List.getElem?_cons_zero, List.getElem?_cons_succ] at f0 f1 f2
  obtain ⟨n0, e0, -, w0⟩ := DataW.trod_int Try.underlying3 f0
  obtain ⟨n1, e1, -, w1⟩ := DataW.trod_int Try.underlying3 f1
  obtain ⟨s2, e2, -, w2⟩ := DataW.trod_string Try.underlying9 f2
  obtain rfl := List.head_eq_of_cons_eq e0
  obtain rfl := List.head_eq_of_cons_eq e1
  obtain rfl := List.head_eq_of_cons_eq e2
  exact ⟨⟨n0, n1, s2⟩, rfl, ⟨wf_of w0, wf_of w1, w2⟩⟩

set_option maxRecDepth 100000 in
theorem open_pks {H : Type} {enc : TypeId × Value → H} {W : World} {base : Nat} {v : Value} {d : DataW H} {ps : List MemPlace} (hval : Value.okWide Try.prog W .any base 43 v) (h : DataW.Trod enc Try.prog W 0 (fun _ => true) true 43 v d ps) :
    ∃ (p : Option Addr) (cap : Nat) (xs : List Nm.Pk), v = .slice p xs.length cap ∧ Pks W p xs := by
  obtain ⟨a0, len, cap, rfl⟩ := okWide_slice Try.underlying43 hval
  obtain ⟨fuel, hf⟩ := h
  obtain ⟨z3, -⟩ := one_pk
  rcases DataW.trod_slice Try.underlying43 hf with ⟨e, -⟩ | ⟨a, len', cap', elems, rest, m, -, e, -, -, -, -, hlen, hel, -, -⟩
  · obtain h0 := List.head_eq_of_cons_eq e
    obtain ⟨rfl, rfl, rfl⟩ := Value.slice.inj h0
    exact ⟨none, 0, [], rfl, fun i hi => nomatch hi⟩
  · obtain h0 := List.head_eq_of_cons_eq e
    obtain ⟨rfl, rfl, rfl⟩ := Value.slice.inj h0
    have key : ∀ i, i < len → ∃ x : Nm.Pk, a.block < W.heap.size ∧ (∀ j, j < 3 → W.cell? (a.add (i * 3 + j)) = (pkCells x)[j]?) ∧ PkIn x := by
      intro i hi
      have h1 := hel i hi
      rw [List.getElem?_eq_getElem (by omega), z3] at h1
      obtain ⟨cs, h2, h3⟩ := Option.bind_eq_some_iff.1 h1
      obtain ⟨x, rfl, hx⟩ := open_pk h3
      unfold World.cells? at h2
      rw [if_pos (Nat.zero_le _)] at h2
      have h4 : ∀ j, j < 3 → W.cell? (a.add (i * 3 + j)) = (pkCells x)[j]? := fun j hj => by
        have := mapM_some_get h2 j j (by simp [hj])
        rwa [add_add] at this
      refine ⟨x, ?_, h4, hx⟩
      have h5 : W.cell? (a.add (i * 3 + 0)) = some (.int .i64 x.f) := h4 0 (by omega)
      have h6 := World.block_lt_of_cell? W _ h5
      rwa [add_blk] at h6
    refine ⟨some a, cap, (List.range len).attach.map fun i => (key i.1 (List.mem_range.1 i.2)).choose, by simp, fun i hi => ?_⟩
    have hi' : i < len := by simpa using hi
    have hs := (key i hi').choose_spec
    refine ⟨a, rfl, hs.1, ?_⟩
    simp only [List.getElem_map, List.getElem_attach, List.getElem_range]
    exact hs.2

/-! ### acts -/
structure NAct where
  act : Int
  p : Nm.Pk
  i : Int
  on : Bool
def NAct.cells (v : NAct) : List Value := [.int .i64 v.act, .int .i64 v.p.f, .int .i64 v.p.t, .string v.p.d, .int .i64 v.i, .bool v.on]
structure NAct.Ok (v : NAct) : Prop where
  act : Nm.Wf v.act
  p : PkIn v.p
  i : Nm.Wf v.i
def NActs (W : World) (p : Option Addr) (xs : List NAct) : Prop := ∀ i (h : i < xs.length), ∃ A, p = some A ∧ A.block < W.heap.size ∧ (∀ j, j < 6 → W.cell? (A.add (i * 6 + j)) = xs[i].cells[j]?) ∧ xs[i].Ok
theorem NActs.below {W W' : World} {p : Option Addr} {xs : List NAct} (h : NActs W p xs) (hb : Below W.heap.size W W') : NActs W' p xs := fun i hi => by
  obtain ⟨A, h1, h2, h3, h4⟩ := h i hi
  exact ⟨A, h1, Nat.lt_of_lt_of_le h2 hb.size, fun j hj => (hb.cell (by rw [add_blk]; exact h2)).trans (h3 j hj), h4⟩
/-- The cells of the act number i. -/
theorem NActs.at {w W : World} {p : Option Addr} {xs : List NAct} (h : NActs w p xs) (hb : Below w.heap.size w W) {i : Nat} (hi : i < xs.length) :
    ∃ A, p = some A ∧ W.cell? (A.add (i * 6)) = some (.int .i64 xs[i].act) ∧ W.cell? ⟨(A.add (i * 6)).block, (A.add (i * 6)).off + 1, none⟩ = some (.int .i64 xs[i].p.f) ∧ W.cell? ⟨(A.add (i * 6)).block, (A.add (i * 6)).off + 2, none⟩ = some (.int .i64 xs[i].p.t) ∧
      W.cell? ⟨(A.add (i * 6)).block, (A.add (i * 6)).off + 3, none⟩ = some (.string xs[i].p.d) ∧ W.cell? ⟨(A.add (i * 6)).block, (A.add (i * 6)).off + 4, none⟩ = some (.int .i64 xs[i].i) ∧ W.cell? ⟨(A.add (i * 6)).block, (A.add (i * 6)).off + 5, none⟩ = some (.bool xs[i].on) ∧ xs[i].Ok := by
  obtain ⟨A, rfl, h2, h3, h4⟩ := h i hi
  have cell : ∀ j, j < 6 → W.cell? ((A.add (i * 6)).add j) = xs[i].cells[j]? := fun j hj => by
    rw [add_add]; exact (hb.cell (by rw [add_blk]; exact h2)).trans (h3 j hj)
  exact ⟨A, rfl, cell 0 (by omega), cell 1 (by omega), cell 2 (by omega), cell 3 (by omega), cell 4 (by omega), cell 5 (by omega), h4⟩

set_option maxRecDepth 100000 in
theorem open_nact {H : Type} {enc : TypeId × Value → H} {W : World} {fuel : Nat} {cs : List Value} {x : DataW H × List MemPlace} (h : DataW.trod enc Try.prog W 0 (fun _ => true) true fuel 38 cs = some x) :
    ∃ v : NAct, cs = v.cells ∧ v.Ok := by
  obtain ⟨z3, z0, z1⟩ := one_pk
  have z6 : Try.prog.cellsOf 38 = 6 := by kernel_rfl
  have zb : Try.prog.cellsOf 4 = 1 := by kernel_rfl
  obtain ⟨xs, m, -, -, hl, hlen, hf⟩ := DataW.trod_struct Try.underlying38 h
  rw [z6] at hl
  obtain ⟨c0, c1, c2, c3, c4, c5, rfl⟩ : ∃ c0 c1 c2 c3 c4 c5, cs = [c0, c1, c2, c3, c4, c5] := by
    match cs, hl with
    | [c0, c1, c2, c3, c4, c5], _ => exact ⟨_, _, _, _, _, _, rfl⟩
  obtain ⟨y0, y1, y2, y3, rfl⟩ : ∃ c0 c1 c2 c3, xs = [c0, c1, c2, c3] := by
    match xs, hlen with
    | [c0, c1, c2, c3], _ => exact ⟨_, _, _, _, rfl⟩
  have f0 := hf 0 _ rfl
  have f1 := hf 1 _ rfl
  have f2 := hf 2 _ rfl
  have f3 := hf 3 _ rfl
  simp only [z0, z3, zb, List.drop, List.take, List.getElem?_cons_zero, List.getElem?_cons_succ] at f0 f1 f2 f3
  obtain ⟨n0, e0, -, w0⟩ := DataW.trod_int Try.underlying3 f0
  obtain ⟨p, e1, w1⟩ := open_pk f1
  obtain ⟨n2, e2, -, w2⟩ := DataW.trod_int Try.underlying3 f2
  obtain ⟨b, e3, -⟩ := DataW.trod_bool Try.underlying4 f3
  obtain rfl := List.head_eq_of_cons_eq e0
  obtain rfl := List.head_eq_of_cons_eq e2
  obtain rfl := List.head_eq_of_cons_eq e3
  obtain ⟨rfl, e4⟩ := List.cons.inj (show [c1, c2, c3] = [.int .i64 p.f, .int .i64 p.t, .string p.d] from e1)
  obtain ⟨rfl, e5⟩ := List.cons.inj e4
  obtain ⟨rfl, -⟩ := List.cons.inj e5
  exact ⟨⟨n0, p, n2, b⟩, rfl, ⟨wf_of w0, w1, wf_of w2⟩⟩
set_option maxRecDepth 100000 in
theorem open_nacts {H : Type} {enc : TypeId × Value → H} {W : World} {base : Nat} {v : Value} {d : DataW H} {ps : List MemPlace} (hval : Value.okWide Try.prog W .any base 33 v) (h : DataW.Trod enc Try.prog W 0 (fun _ => true) true 33 v d ps) :
    ∃ (p : Option Addr) (cap : Nat) (xs : List NAct), v = .slice p xs.length cap ∧ NActs W p xs := by
  obtain ⟨a0, len, cap, rfl⟩ := okWide_slice Try.underlying33 hval
  obtain ⟨fuel, hf⟩ := h
  have z6 : Try.prog.cellsOf 38 = 6 := by kernel_rfl
  rcases DataW.trod_slice Try.underlying33 hf with ⟨e, -⟩ | ⟨a, len', cap', elems, rest, m, -, e, -, -, -, -, hlen, hel, -, -⟩
  · obtain h0 := List.head_eq_of_cons_eq e
    obtain ⟨rfl, rfl, rfl⟩ := Value.slice.inj h0
    exact ⟨none, 0, [], rfl, fun i hi => nomatch hi⟩
  · obtain h0 := List.head_eq_of_cons_eq e
    obtain ⟨rfl, rfl, rfl⟩ := Value.slice.inj h0
    have key : ∀ i, i < len → ∃ x : NAct, a.block < W.heap.size ∧ (∀ j, j < 6 → W.cell? (a.add (i * 6 + j)) = x.cells[j]?) ∧ x.Ok := by
      intro i hi
      have h1 := hel i hi
      rw [List.getElem?_eq_getElem (by omega), z6] at h1
      obtain ⟨cs, h2, h3⟩ := Option.bind_eq_some_iff.1 h1
      obtain ⟨x, rfl, hx⟩ := open_nact h3
      unfold World.cells? at h2
      rw [if_pos (Nat.zero_le _)] at h2
      have h4 : ∀ j, j < 6 → W.cell? (a.add (i * 6 + j)) = x.cells[j]? := fun j hj => by
        have := mapM_some_get h2 j j (by simp [hj])
        rwa [add_add] at this
      refine ⟨x, ?_, h4, hx⟩
      have h5 : W.cell? (a.add (i * 6 + 0)) = some (.int .i64 x.act) := h4 0 (by omega)
      have h6 := World.block_lt_of_cell? W _ h5
      rwa [add_blk] at h6
    refine ⟨some a, cap, (List.range len).attach.map fun i => (key i.1 (List.mem_range.1 i.2)).choose, by simp, fun i hi => ?_⟩
    have hi' : i < len := by simpa using hi
    have hs := (key i hi').choose_spec
    refine ⟨a, rfl, hs.1, ?_⟩
    simp only [List.getElem_map, List.getElem_attach, List.getElem_range]
    exact hs.2

/-! ### numbers -/
def Numbers (W : World) (p : Option Addr) (ks : List Int) : Prop := ∀ i (h : i < ks.length), ∃ A, p = some A ∧ A.block < W.heap.size ∧ W.cell? (A.add i) = some (.int .i64 ks[i]) ∧ Nm.Wf ks[i]
theorem open_numbers {H : Type} {enc : TypeId × Value → H} {W : World} {base : Nat} {v : Value} {d : DataW H} {ps : List MemPlace} (hval : Value.okWide Try.prog W .any base 44 v) (h : DataW.Trod enc Try.prog W 0 (fun _ => true) true 44 v d ps) :
    ∃ (p : Option Addr) (cap : Nat) (ks : List Int), v = .slice p ks.length cap ∧ Numbers W p ks := by
  obtain ⟨a0, len, cap, rfl⟩ := okWide_slice Try.underlying44 hval
  obtain ⟨fuel, hf⟩ := h
  rcases open_ints Try.underlying44 Try.underlying3 (by kernel_rfl) hf with ⟨e, -⟩ | ⟨a, len', cap', zs, e, -, hlc, hc, hz, -, hcell, hw⟩
  · obtain h0 := List.head_eq_of_cons_eq e
    obtain ⟨rfl, rfl, rfl⟩ := Value.slice.inj h0
    exact ⟨none, 0, [], rfl, fun i hi => nomatch hi⟩
  · obtain h0 := List.head_eq_of_cons_eq e
    obtain ⟨rfl, rfl, rfl⟩ := Value.slice.inj h0
    rw [if_pos rfl] at hz
    have e : (zs.take len).length = len := by rw [List.length_take]; omega
    refine ⟨some a, cap, zs.take len, by rw [e], fun i hi => ?_⟩
    rw [e] at hi
    have hiz : i < zs.length := by omega
    have h1 := hcell i hiz
    have h2 : (a.add i).block < W.heap.size := World.block_lt_of_cell? W _ h1
    rw [add_blk] at h2
    have hg : zs.getD i 0 = zs[i] := by rw [List.getD_eq_getElem?_getD, List.getElem?_eq_getElem hiz]; rfl
    refine ⟨a, rfl, h2, ?_, ?_⟩
    · rw [h1, hg]; simp
    · rw [List.getElem_take]; exact wf_of (hw _ (List.getElem_mem _))
end Go.Proofs.Ytcfhfamdcdkgjaa
