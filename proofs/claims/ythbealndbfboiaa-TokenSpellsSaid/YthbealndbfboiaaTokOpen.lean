/-
  Rows of tokens as they are handed in, opened. Conditions: those in the theorems.
-/
import Derived.Test.YthbealndbfboiaaTokRow
import Derived.ChangeSlices
import Derived.Lib.SmallJoins
set_option linter.unusedSimpArgs false
set_option linter.unusedVariables false
namespace Go.Proofs.Ythbealndbfboiaa
open Go.ChangeShapes Go.WideShapes Go.ChangeAt Go.RowKit
theorem i64_of {n : Int} (w : (Lit.int .i64 n).wf = true) : I64 n := by
  unfold I64
  simpa [Lit.wf, IntKind.min, IntKind.max, IntKind.signed, IntKind.bits] using w
theorem u8_of {n : Int} (w : (Lit.int .u8 n).wf = true) : 0 ≤ n ∧ n ≤ 255 := by
  simpa [Lit.wf, IntKind.min, IntKind.max, IntKind.signed, IntKind.bits] using w
set_option maxRecDepth 100000 in
theorem open_tok {H : Type} {enc : TypeId × Value → H} {W : World} {fuel : Nat} {cs : List Value} {x : DataW H × List MemPlace} (h : DataW.trod enc Try.prog W 0 (fun _ => true) true fuel 30 cs = some x) :
    ∃ v : Tk.Token, cs = tokCells v ∧ TokIn v := by
  obtain ⟨z5, z1, z0⟩ := one_tok
  have z8 : Try.prog.cellsOf 5 = 1 := by kernel_rfl
  obtain ⟨xs, m, -, -, hl, hlen, hf⟩ := DataW.trod_struct Try.underlying30 h
  rw [z5] at hl
  obtain ⟨c0, c1, c2, c3, rfl⟩ : ∃ c0 c1 c2 c3, cs = [c0, c1, c2, c3] := by
    match cs, hl with
    | [c0, c1, c2, c3], _ => exact ⟨_, _, _, _, rfl⟩
  obtain ⟨y0, y1, y2, y3, rfl⟩ : ∃ c0 c1 c2 c3, xs = [c0, c1, c2, c3] := by
    match xs, hlen with
    | [c0, c1, c2, c3], _ => exact ⟨_, _, _, _, rfl⟩
  have f0 := hf 0 _ rfl
  have f1 := hf 1 _ rfl
  have f2 := hf 2 _ rfl
  have f3 := hf 3 _ rfl
  simp only [z0, z1, z8, List.drop, List.take, List.getElem?_cons_zero, List.getElem?_cons_succ] at f0 f1 f2 f3
  obtain ⟨n0, e0, -, w0⟩ := DataW.trod_int Try.underlying5 f0
  obtain ⟨s1, e1, -, w1⟩ := DataW.trod_string Try.underlying9 f1
  obtain ⟨n2, e2, -, w2⟩ := DataW.trod_int Try.underlying3 f2
  obtain ⟨n3, e3, -, w3⟩ := DataW.trod_int Try.underlying3 f3
  obtain rfl := List.head_eq_of_cons_eq e0
  obtain rfl := List.head_eq_of_cons_eq e1
  obtain rfl := List.head_eq_of_cons_eq e2
  obtain rfl := List.head_eq_of_cons_eq e3
  obtain ⟨h1, h2⟩ := u8_of w0
  obtain ⟨k, rfl⟩ : ∃ k : Nat, n0 = k := ⟨n0.toNat, by omega⟩
  exact ⟨⟨k, s1, n2, n3⟩, rfl, ⟨by show k < 256; omega, w1, i64_of w2, i64_of w3⟩⟩
theorem mapM_get {α β : Type} {f : α → Option β} {l : List α} {r : List β} (h : l.mapM f = some r) (j : Nat) (x : α) (hj : l[j]? = some x) : f x = r[j]? := by
  induction l generalizing r j with
  | nil => cases hj
  | cons a l ih =>
    rw [List.mapM_cons] at h
    simp only [bind, Option.bind_eq_some_iff] at h
    obtain ⟨b, hb, rs, hrs, e⟩ := h
    simp only [pure, Option.some.injEq] at e
    subst e
    cases j with
    | zero => simp at hj; subst hj; simpa using hb
    | succ j => simpa using ih hrs j (by simpa using hj)
set_option maxRecDepth 100000 in
theorem open_toks {H : Type} {enc : TypeId × Value → H} {W : World} {base : Nat} {v : Value} {d : DataW H} {ps : List MemPlace} (hval : Value.okWide Try.prog W .any base 22 v) (h : DataW.Trod enc Try.prog W 0 (fun _ => true) true 22 v d ps) :
    ∃ (p : Option Addr) (cap : Nat) (xs : List Tk.Token), v = .slice p xs.length cap ∧ ToksAt W p xs := by
  obtain ⟨a0, len, cap, rfl⟩ := okWide_slice Try.underlying22 hval
  obtain ⟨fuel, hf⟩ := h
  obtain ⟨z5, -⟩ := one_tok
  rcases DataW.trod_slice Try.underlying22 hf with ⟨e, -⟩ | ⟨a, len', cap', elems, rest, m, -, e, -, -, -, -, hlen, hel, -, -⟩
  · obtain h0 := List.head_eq_of_cons_eq e
    obtain ⟨rfl, rfl, rfl⟩ := Value.slice.inj h0
    exact ⟨none, 0, [], rfl, fun i hi => nomatch hi⟩
  · obtain h0 := List.head_eq_of_cons_eq e
    obtain ⟨rfl, rfl, rfl⟩ := Value.slice.inj h0
    have key : ∀ i, i < len → ∃ x : Tk.Token, a.block < W.heap.size ∧ (∀ j, j < 4 → W.cell? (a.add (i * 4 + j)) = (tokCells x)[j]?) ∧ TokIn x := by
      intro i hi
      have h1 := hel i hi
      rw [List.getElem?_eq_getElem (by omega), z5] at h1
      obtain ⟨cs, h2, h3⟩ := Option.bind_eq_some_iff.1 h1
      obtain ⟨x, rfl, hx⟩ := open_tok h3
      unfold World.cells? at h2
      rw [if_pos (Nat.zero_le _)] at h2
      have h4 : ∀ j, j < 4 → W.cell? (a.add (i * 4 + j)) = (tokCells x)[j]? := fun j hj => by
        have := mapM_get h2 j j (by simp [hj])
        rwa [tadd] at this
      refine ⟨x, ?_, h4, hx⟩
      have h5 : W.cell? (a.add (i * 4 + 0)) = Option.some (.int .u8 (x.kind : Nat)) := h4 0 (by omega)
      have h6 := tcell_block h5
      rwa [tadd_block] at h6
    refine ⟨some a, cap, (List.range len).attach.map fun i => (key i.1 (List.mem_range.1 i.2)).choose, by simp, fun i hi => ?_⟩
    have hi' : i < len := by simpa using hi
    have hs := (key i hi').choose_spec
    refine ⟨a, rfl, hs.1, ?_⟩
    simp only [List.getElem_map, List.getElem_attach, List.getElem_range]
    exact hs.2
end Go.Proofs.Ythbealndbfboiaa
