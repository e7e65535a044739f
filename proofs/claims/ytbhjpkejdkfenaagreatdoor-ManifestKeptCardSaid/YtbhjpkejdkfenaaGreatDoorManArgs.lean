/-
  States and edits as they are handed in, opened: structs with rows in their cells. Conditions: those in the theorems.
-/
import Derived.Test.YtbhjpkejdkfenaaGreatDoorManTouch8
import Derived.ChangeSlices
import Derived.Lib.SmallJoins
set_option linter.unusedSimpArgs false
set_option linter.unusedVariables false
namespace Go.Proofs.YtbhjpkejdkfenaaGreatDoor
open Go.ChangeShapes Go.WideShapes Go.ChangeAt Go.RowKit
open Mf (File State Edit)
theorem i64_of {n : Int} (w : (Lit.int .i64 n).wf = true) : I64 n := by
  unfold I64
  simpa [Lit.wf, IntKind.min, IntKind.max, IntKind.signed, IntKind.bits] using w
set_option maxRecDepth 100000 in
theorem open_fi {H : Type} {enc : TypeId × Value → H} {W : World} {fuel : Nat} {cs : List Value} {x : DataW H × List MemPlace} (h : DataW.trod enc Tryz.prog W 0 (fun _ => true) true fuel 29 cs = some x) :
    ∃ v : File, cs = fiCells v ∧ FiIn v := by
  obtain ⟨z5, z1, z0⟩ := one_fi
  obtain ⟨xs, m, -, -, hl, hlen, hf⟩ := DataW.trod_struct Tryz.underlying29 h
  rw [z5] at hl
  obtain ⟨c0, c1, c2, c3, c4, rfl⟩ : ∃ c0 c1 c2 c3 c4, cs = [c0, c1, c2, c3, c4] := by
    match cs, hl with
    | [c0, c1, c2, c3, c4], _ => exact ⟨_, _, _, _, _, rfl⟩
  obtain ⟨y0, y1, y2, y3, y4, rfl⟩ : ∃ c0 c1 c2 c3 c4, xs = [c0, c1, c2, c3, c4] := by
    match xs, hlen with
    | [c0, c1, c2, c3, c4], _ => exact ⟨_, _, _, _, _, rfl⟩
  have f0 := hf 0 _ rfl
  have f1 := hf 1 _ rfl
  have f2 := hf 2 _ rfl
  have f3 := hf 3 _ rfl
  have f4 := hf 4 _ rfl
  simp only [z0, z1, List.drop, List.take, List.getElem?_cons_zero, List.getElem?_cons_succ] at f0 f1 f2 f3 f4
  obtain ⟨n0, e0, -, w0⟩ := DataW.trod_int Tryz.underlying3 f0
  obtain ⟨n1, e1, -, w1⟩ := DataW.trod_int Tryz.underlying3 f1
  obtain ⟨n2, e2, -, w2⟩ := DataW.trod_int Tryz.underlying3 f2
  obtain ⟨s3, e3, -, w3⟩ := DataW.trod_string Tryz.underlying9 f3
  obtain ⟨s4, e4, -, w4⟩ := DataW.trod_string Tryz.underlying9 f4
  obtain rfl := List.head_eq_of_cons_eq e0
  obtain rfl := List.head_eq_of_cons_eq e1
  obtain rfl := List.head_eq_of_cons_eq e2
  obtain rfl := List.head_eq_of_cons_eq e3
  obtain rfl := List.head_eq_of_cons_eq e4
  exact ⟨⟨n0, n1, n2, s3, s4⟩, rfl, ⟨i64_of w0, i64_of w1, i64_of w2, w3, w4⟩⟩
theorem mapM_get {α β : Type} {f : α → Option β} {l : List α} {r : List β} (h : l.mapM f = some r) (j : Nat) (x : α) (hj : l[j]? = some x) : f x = r[j]? := by
  induction l generalizing r j with
  | nil => cases hj
  | cons a l ih =>
    rw [List.mapM_cons] at h
    simp only [bind, Option.bind_eq_some_iff] at h
    obtain ⟨b, hb, rs, hrs, e⟩ := h
    simp only [pure, Option.some.injEq] at e
    subst e
    cases j with
    | zero => simp at hj; subst hj; simpa using hb
    | succ j => simpa using ih hrs j (by simpa using hj)
set_option maxRecDepth 100000 in
/-- A row of tables as a struct's cell has it. -/
theorem open_fis {H : Type} {enc : TypeId × Value → H} {W : World} {fuel : Nat} {v : Value} {y : DataW H × List MemPlace} (hf : DataW.trod enc Tryz.prog W 0 (fun _ => true) true fuel 22 [v] = some y) :
    ∃ (p : Option Addr) (cap : Nat) (xs : List File), v = .slice p xs.length cap ∧ FilesAt W p xs ∧ xs.length ≤ cap ∧ cap ≤ maxLen := by
  obtain ⟨z5, -⟩ := one_fi
  rcases DataW.trod_slice Tryz.underlying22 hf with ⟨e, -⟩ | ⟨a, len, cap, elems, rest, m, -, e, -, -, hlc, hcm, hlen, hel, -, -⟩
  · obtain h0 := List.head_eq_of_cons_eq e
    exact ⟨none, 0, [], h0, (fun i hi => nomatch hi), Nat.zero_le _, Nat.zero_le _⟩
  · obtain h0 := List.head_eq_of_cons_eq e
    have key : ∀ i, i < len → ∃ x : File, a.block < W.heap.size ∧ (∀ j, j < 5 → W.cell? (a.add (i * 5 + j)) = (fiCells x)[j]?) ∧ FiIn x := by
      intro i hi
      have h1 := hel i hi
      rw [List.getElem?_eq_getElem (by omega), z5] at h1
      obtain ⟨cs, h2, h3⟩ := Option.bind_eq_some_iff.1 h1
      obtain ⟨x, rfl, hx⟩ := open_fi h3
      unfold World.cells? at h2
      rw [if_pos (Nat.zero_le _)] at h2
      have h4 : ∀ j, j < 5 → W.cell? (a.add (i * 5 + j)) = (fiCells x)[j]? := fun j hj => by
        have := mapM_get h2 j j (by simp [hj])
        rwa [madd] at this
      refine ⟨x, ?_, h4, hx⟩
      have h5 : W.cell? (a.add (i * 5 + 0)) = Option.some (.int .i64 x.n) := h4 0 (by omega)
      have h6 := mcell_block h5
      rwa [madd_block] at h6
    have hn : ∀ n, n ≤ len → ∃ xs : List File, xs.length = n ∧ ∀ i (h : i < xs.length), a.block < W.heap.size ∧ (∀ j, j < 5 → W.cell? (a.add (i * 5 + j)) = (fiCells xs[i])[j]?) ∧ FiIn xs[i] := by
      intro n
      induction n with
      | zero => exact fun _ => ⟨[], rfl, fun i hi => nomatch hi⟩
      | succ n ih =>
        intro hle
        obtain ⟨xs, hl, hx⟩ := ih (by omega)
        obtain ⟨x, h1⟩ := key n (by omega)
        refine ⟨xs ++ [x], by simp [hl], fun i hi => ?_⟩
        by_cases c : i < xs.length
        · rw [List.getElem_append_left c]; exact hx i c
        · have e : i = n := by simp at hi; omega
          subst e
          rw [List.getElem_append_right (by omega)]
          simpa [hl] using h1
    obtain ⟨xs, hl, hx⟩ := hn len (Nat.le_refl _)
    subst hl
    exact ⟨some a, cap, xs, h0, fun i hi => by obtain ⟨a1, a2, a3⟩ := hx i hi; exact ⟨a, rfl, a1, a2, a3⟩, hlc, hcm⟩
set_option maxRecDepth 100000 in
/-- A row of numbers as a struct's cell has it. -/
theorem open_nums {H : Type} {enc : TypeId × Value → H} {W : World} {fuel : Nat} {v : Value} {y : DataW H × List MemPlace} (hf : DataW.trod enc Tryz.prog W 0 (fun _ => true) true fuel 31 [v] = some y) :
    ∃ (p : Option Addr) (cap : Nat) (xs : List Int), v = .slice p xs.length cap ∧ IntsM W p xs ∧ xs.length ≤ cap ∧ cap ≤ maxLen := by
  obtain ⟨-, -, z0⟩ := one_fi
  rcases open_ints Tryz.underlying31 Tryz.underlying3 z0 hf with ⟨e, -⟩ | ⟨a, len, cap, zs, e, -, hlc, hcm, hz, -, hcell, hwf⟩
  · obtain h0 := List.head_eq_of_cons_eq e
    exact ⟨none, 0, [], h0, (fun i hi => nomatch hi), Nat.zero_le _, Nat.zero_le _⟩
  · obtain h0 := List.head_eq_of_cons_eq e
    rw [if_pos rfl] at hz
    have el : (zs.take len).length = len := by rw [List.length_take]; omega
    refine ⟨some a, cap, zs.take len, by rw [el]; exact h0, fun i hi => ?_, by rw [el]; exact hlc, hcm⟩
    rw [el] at hi
    have hiz : i < zs.length := by omega
    have h1 := hcell i hiz
    have h2 : (a.add i).block < W.heap.size := mcell_block h1
    rw [madd_block] at h2
    have hg : zs.getD i 0 = zs[i] := by rw [List.getD_eq_getElem?_getD, List.getElem?_eq_getElem hiz]; rfl
    refine ⟨a, rfl, h2, by rw [h1, hg]; simp, ?_⟩
    rw [List.getElem_take]
    exact i64_of (hwf _ (List.getElem_mem hiz))
/-- A state that is handed in. -/
structure StArg (W : World) (v : Value) (nx lg : Int) (p : Option Addr) (cap : Nat) (l : List File) : Prop where
  is : v = stV nx lg p l.length cap
  files : FilesAt W p l
  cap : l.length ≤ cap ∧ cap ≤ maxLen
  nx : I64 nx
  lg : I64 lg
structure EdArg (W : World) (v : Value) (q : Option Addr) (cd : Nat) (ds : List Int) (r : Option Addr) (ca : Nat) (add : List File) (nx lg : Int) : Prop where
  is : v = edV q ds.length cd r add.length ca nx lg
  ints : IntsM W q ds
  files : FilesAt W r add
  capd : ds.length ≤ cd ∧ cd ≤ maxLen
  capa : add.length ≤ ca ∧ ca ≤ maxLen
  nx : I64 nx
  lg : I64 lg
theorem cells_st : Tryz.prog.cellsOf 24 = 3 := by kernel_rfl
theorem cells_ed : Tryz.prog.cellsOf 33 = 4 := by kernel_rfl
set_option maxRecDepth 100000 in
theorem open_state {H : Type} {enc : TypeId × Value → H} {W : World} {base : Nat} {v : Value} {d : DataW H} {ps : List MemPlace} (hval : Value.okWide Tryz.prog W .any base 24 v) (h : DataW.Trod enc Tryz.prog W 0 (fun _ => true) true 24 v d ps) :
    ∃ nx lg p cap l, StArg W v nx lg p cap l := by
  obtain ⟨v0, v1, v2, y0, y1, y2, n, rfl, -, -, h0, h1, h2⟩ := Go.Joins.open_agg3 Tryz.underlying24 (by kernel_rfl) cells_st hval h
  obtain ⟨n0, e0, -, w0⟩ := DataW.trod_int Tryz.underlying3 h0
  obtain ⟨n1, e1, -, w1⟩ := DataW.trod_int Tryz.underlying3 h1
  obtain rfl := List.head_eq_of_cons_eq e0
  obtain rfl := List.head_eq_of_cons_eq e1
  obtain ⟨p, cap, xs, rfl, hx, hc⟩ := open_fis h2
  exact ⟨n0, n1, p, cap, xs, rfl, hx, hc, i64_of w0, i64_of w1⟩
set_option maxRecDepth 100000 in
theorem open_edit {H : Type} {enc : TypeId × Value → H} {W : World} {base : Nat} {v : Value} {d : DataW H} {ps : List MemPlace} (hval : Value.okWide Tryz.prog W .any base 33 v) (h : DataW.Trod enc Tryz.prog W 0 (fun _ => true) true 33 v d ps) :
    ∃ q cd ds r ca add nx lg, EdArg W v q cd ds r ca add nx lg := by
  obtain ⟨v0, v1, v2, v3, y0, y1, y2, y3, n, rfl, -, -, h0, h1, h2, h3⟩ := Go.Joins.open_agg4 Tryz.underlying33 (by kernel_rfl) cells_ed hval h
  obtain ⟨n2, e2, -, w2⟩ := DataW.trod_int Tryz.underlying3 h2
  obtain ⟨n3, e3, -, w3⟩ := DataW.trod_int Tryz.underlying3 h3
  obtain rfl := List.head_eq_of_cons_eq e2
  obtain rfl := List.head_eq_of_cons_eq e3
  obtain ⟨q, cd, ds, rfl, hd, hcd⟩ := open_nums h0
  obtain ⟨r, ca, add, rfl, ha, hca⟩ := open_fis h1
  exact ⟨q, cd, ds, r, ca, add, n2, n3, rfl, hd, ha, hcd, hca, i64_of w2, i64_of w3⟩
end Go.Proofs.YtbhjpkejdkfenaaGreatDoor
