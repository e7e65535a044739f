/-
  Rows of entries: that lie in memory, as a law's arguments, and that a call builds by append. Conditions: those in the theorems.
-/
import Derived.Test.YtgmaccfhgeocdaaTabRow
import Derived.ChangeSlices
import Derived.Test.YtgmaccfhgeocdaaRows
namespace Go.Proofs.Ytgmaccfhgeocdaa
open Go.ChangeShapes Go.WideShapes Go.ChangeAt Go.RowKit Tb

theorem cell_block {W : World} {a : Addr} {v : Value} (h : W.cell? a = some v) : a.block < W.heap.size := by
  unfold World.cell? at h
  cases hq : W.heap[a.block]? with
  | none => rw [hq] at h; cases h
  | some o => exact (Array.getElem?_eq_some_iff.1 hq).1
theorem tadd (A : Addr) (i j : Nat) : (A.add i).add j = A.add (i + j) := by
  unfold Addr.add
  by_cases hi : i = 0 <;> by_cases hj : j = 0 <;> simp [hi, hj, Nat.add_assoc]
theorem tadd_block (a : Addr) (i : Nat) : (a.add i).block = a.block := by unfold Addr.add; split <;> rfl
def enCells (e : En) : List Value := [.string e.key, .string e.value, .bool e.gone]
def EnIn (e : En) : Prop := e.key.size ≤ maxLen ∧ e.value.size ≤ maxLen
/-- Entries that lie in memory. -/
def EntsAt (W : World) (p : Option Addr) (xs : List En) : Prop := ∀ i (h : i < xs.length), ∃ A, p = some A ∧ A.block < W.heap.size ∧ (∀ j, j < 3 → W.cell? (A.add (i * 3 + j)) = (enCells xs[i])[j]?) ∧ EnIn xs[i]
theorem EntsAt.below {W W' : World} {p : Option Addr} {xs : List En} (h : EntsAt W p xs) (hb : Below W.heap.size W W') : EntsAt W' p xs := fun i hi => by
  obtain ⟨A, h1, h2, h3, h4⟩ := h i hi
  exact ⟨A, h1, Nat.lt_of_lt_of_le h2 hb.size, fun j hj => (hb.cell (by rw [tadd_block]; exact h2)).trans (h3 j hj), h4⟩
theorem EntsAt.at {w W : World} {p : Option Addr} {xs : List En} (h : EntsAt w p xs) (hb : Below w.heap.size w W) {i : Nat} (hi : i < xs.length) :
    ∃ A, p = some A ∧ W.cell? (A.add (i * 3)) = some (.string xs[i].key) ∧ W.cell? ⟨(A.add (i * 3)).block, (A.add (i * 3)).off + 1, none⟩ = some (.string xs[i].value) ∧ W.cell? ⟨(A.add (i * 3)).block, (A.add (i * 3)).off + 2, none⟩ = some (.bool xs[i].gone) ∧ EnIn xs[i] := by
  obtain ⟨A, rfl, h2, h3, h4⟩ := h i hi
  have cell : ∀ j, j < 3 → W.cell? ((A.add (i * 3)).add j) = (enCells xs[i])[j]? := fun j hj => by
    rw [tadd]; exact (hb.cell (by rw [tadd_block]; exact h2)).trans (h3 j hj)
  exact ⟨A, rfl, cell 0 (by omega), cell 1 (by omega), cell 2 (by omega), h4⟩
theorem EntsAt.cells {w W : World} {A : Addr} {xs : List En} (h : EntsAt w (some A) xs) (hb : Below w.heap.size w W) {i : Nat} (hi : i < xs.length) :
    W.cell? (A.add (i * 3)) = some (.string xs[i].key) ∧ W.cell? ⟨(A.add (i * 3)).block, (A.add (i * 3)).off + 1, none⟩ = some (.string xs[i].value) ∧ W.cell? ⟨(A.add (i * 3)).block, (A.add (i * 3)).off + 2, none⟩ = some (.bool xs[i].gone) := by
  obtain ⟨A', e, h0, h1, h2, -⟩ := h.at hb hi
  cases e
  exact ⟨h0, h1, h2⟩
theorem EntsAt.some {w : World} {p : Option Addr} {xs : List En} (h : EntsAt w p xs) {i : Nat} (hi : i < xs.length) : ∃ A, p = some A := by
  obtain ⟨A, e, -⟩ := h i hi; exact ⟨A, e⟩
theorem EntsAt.nil (W : World) (p : Option Addr) : EntsAt W p [] := fun i hi => nomatch hi

theorem one_en : Try.prog.cellsOf 31 = 3 ∧ Try.prog.cellsOf 9 = 1 ∧ Try.prog.cellsOf 4 = 1 := ⟨by kernel_rfl, by kernel_rfl, by kernel_rfl⟩
set_option maxRecDepth 100000 in
theorem open_en {H : Type} {enc : TypeId × Value → H} {W : World} {fuel : Nat} {cs : List Value} {x : DataW H × List MemPlace} (h : DataW.trod enc Try.prog W 0 (fun _ => true) true fuel 31 cs = some x) :
    ∃ v : En, cs = enCells v ∧ EnIn v := by
  obtain ⟨z2, z1, z0⟩ := one_en
  obtain ⟨xs, m, -, -, hl, hlen, hf⟩ := DataW.trod_struct Try.underlying31 h
  rw [z2] at hl
  obtain ⟨c0, c1, c2, rfl⟩ : ∃ c0 c1 c2, cs = [c0, c1, c2] := by
    match cs, hl with
    | [c0, c1, c2], _ => exact ⟨_, _, _, rfl⟩
  obtain ⟨y0, y1, y2, rfl⟩ : ∃ c0 c1 c2, xs = [c0, c1, c2] := by
    match xs, hlen with
    | [c0, c1, c2], _ => exact ⟨_, _, _, rfl⟩
  have f0 := hf 0 _ rfl
  have f1 := hf 1 _ rfl
  have f2 := hf 2 _ rfl
  simp only [List.getElem?_cons_zero, List.getElem?_cons_succ] at f0 f1 f2
  obtain ⟨s0, e0, -, w0⟩ := DataW.trod_string Try.underlying9 f0
  obtain ⟨s1, e1, -, w1⟩ := DataW.trod_string Try.underlying9 f1
  obtain ⟨s2, e2, -⟩ := DataW.trod_bool Try.underlying4 f2
  obtain rfl := List.head_eq_of_cons_eq e0
  obtain rfl := List.head_eq_of_cons_eq e1
  obtain rfl := List.head_eq_of_cons_eq e2
  exact ⟨⟨s0, s1, s2⟩, rfl, ⟨w0, w1⟩⟩

set_option maxRecDepth 100000 in
theorem open_ents {H : Type} {enc : TypeId × Value → H} {W : World} {base : Nat} {v : Value} {d : DataW H} {ps : List MemPlace} (hval : Value.okWide Try.prog W .any base 25 v) (h : DataW.Trod enc Try.prog W 0 (fun _ => true) true 25 v d ps) :
    ∃ (p : Option Addr) (cap : Nat) (xs : List En), v = .slice p xs.length cap ∧ EntsAt W p xs := by
  obtain ⟨a0, len, cap, rfl⟩ := okWide_slice Try.underlying25 hval
  obtain ⟨fuel, hf⟩ := h
  obtain ⟨z2, -⟩ := one_en
  rcases DataW.trod_slice Try.underlying25 hf with ⟨e, -⟩ | ⟨a, len', cap', elems, rest, m, -, e, -, -, -, -, hlen, hel, -, -⟩
  · obtain h0 := List.head_eq_of_cons_eq e
    obtain ⟨rfl, rfl, rfl⟩ := Value.slice.inj h0
    exact ⟨none, 0, [], rfl, fun i hi => nomatch hi⟩
  · obtain h0 := List.head_eq_of_cons_eq e
    obtain ⟨rfl, rfl, rfl⟩ := Value.slice.inj h0
    have key : ∀ i, i < len → ∃ x : En, a.block < W.heap.size ∧ (∀ j, j < 3 → W.cell? (a.add (i * 3 + j)) = (enCells x)[j]?) ∧ EnIn x := by
      intro i hi
      have h1 := hel i hi
      rw [List.getElem?_eq_getElem (by omega), z2] at h1
      obtain ⟨cs, h2, h3⟩ := Option.bind_eq_some_iff.1 h1
      obtain ⟨x, rfl, hx⟩ := open_en h3
      unfold World.cells? at h2
      rw [if_pos (Nat.zero_le _)] at h2
      have h4 : ∀ j, j < 3 → W.cell? (a.add (i * 3 + j)) = (enCells x)[j]? := fun j hj => by
        have := mapM_some_get h2 j j (by simp [hj])
        rwa [tadd] at this
      refine ⟨x, ?_, h4, hx⟩
      have h5 : W.cell? (a.add (i * 3 + 0)) = Option.some (.string x.key) := h4 0 (by omega)
      have h6 := cell_block h5
      rwa [tadd_block] at h6
    refine ⟨Option.some a, cap, (List.range len).attach.map fun i => (key i.1 (List.mem_range.1 i.2)).choose, by simp, fun i hi => ?_⟩
    have hi' : i < len := by simpa using hi
    have hs := (key i hi').choose_spec
    refine ⟨a, rfl, hs.1, ?_⟩
    simp only [List.getElem_map, List.getElem_attach, List.getElem_range]
    exact hs.2

/-! ### rows that a call builds -/
def ensCells (l : List En) : List Value := l.flatMap enCells
theorem ensCells_length (l : List En) : (ensCells l).length = l.length * 3 := by
  induction l with
  | nil => rfl
  | cons p r ih => simp only [ensCells, List.flatMap_cons, List.length_append, List.length_cons] at *; rw [ih]; simp [enCells]; omega
theorem ensCells_append (l m : List En) : ensCells (l ++ m) = ensCells l ++ ensCells m := by unfold ensCells; rw [List.flatMap_append]
theorem ensCells_one (l : List En) : ∀ u ∈ ensCells l, u.oneCell' = true := by
  intro u hu
  unfold ensCells at hu
  rw [List.mem_flatMap] at hu
  obtain ⟨p, -, hu⟩ := hu
  simp [enCells] at hu
  rcases hu with rfl | rfl | rfl <;> rfl
theorem ensCells_get {l : List En} {k : Nat} (hk : k < l.length) {j : Nat} (hj : j < 3) : (ensCells l)[k * 3 + j]? = (enCells l[k])[j]? := by
  induction l generalizing k with
  | nil => exact absurd hk (Nat.not_lt_zero _)
  | cons p r ih =>
    unfold ensCells
    rw [List.flatMap_cons]
    cases k with
    | zero => rw [List.getElem?_append_left (by simp [enCells]; omega)]; simp
    | succ k =>
      rw [List.getElem?_append_right (by simp [enCells]; omega)]
      have := ih (k := k) (by simpa using hk)
      rw [show (k + 1) * 3 + j - (enCells p).length = k * 3 + j by simp [enCells]; omega]
      exact this
theorem infoEn : (Try.prog.info? 31).map (fun i => (i.zero, i.size, i.bytes)) = some (some (.agg #[.string ⟨#[]⟩, .string ⟨#[]⟩, .bool false]), 3, 40) := by kernel_rfl
/-- v is a row of the entries xs, in a block of its own, not below base. -/
def OwnEnts (W : World) (base : Nat) (v : Value) (xs : List En) : Prop := W.ownsRow base 31 3 v xs.length (ensCells xs)
section
variable {W C : World} {base : Nat} {v : Value} {xs : List En}
theorem OwnEnts.nil (W : World) (base : Nat) : OwnEnts W base (.slice none 0 0) [] := World.ownsRow_nil _ _ _ _
theorem OwnEnts.lt (h : OwnEnts W base v xs) : ∀ k, v.ownBlock = some k → base ≤ k ∧ k < W.heap.size := World.ownsRow.lt h
theorem OwnEnts.shape (h : OwnEnts W base v xs) : ∃ p cap, v = .slice p xs.length cap ∧ xs.length ≤ cap ∧ cap ≤ maxLen := by
  rcases h.2 with ⟨rfl, e⟩ | ⟨g, cap, cur, rfl, h2, h3, h4, h5, -⟩
  · rw [e]; exact ⟨none, 0, rfl, Nat.le_refl _, Nat.zero_le _⟩
  · exact ⟨_, _, rfl, h4, h5⟩
theorem OwnEnts.stays (h : OwnEnts W base v xs) (hb : ∀ k, k < W.heap.size → v.ownBlock = some k → C.heap[k]? = W.heap[k]?) : OwnEnts C base v xs := by
  refine ⟨h.1, ?_⟩
  rcases h.2 with hn | ⟨g, cap, cur, rfl, h1, h2, h3⟩
  · exact .inl hn
  · exact .inr ⟨g, cap, cur, rfl, h1, (hb g (Array.getElem?_eq_some_iff.1 h2).1 rfl).trans h2, h3⟩
theorem OwnEnts.below (h : OwnEnts W base v xs) (hb : Below W.heap.size W C) : OwnEnts C base v xs := h.stays fun k hk _ => hb.block k hk
theorem OwnEnts.ents (h : OwnEnts W base v xs) (hp : ∀ x ∈ xs, EnIn x) : ∃ p cap, v = .slice p xs.length cap ∧ xs.length ≤ cap ∧ cap ≤ maxLen ∧ EntsAt W p xs := by
  rcases h.2 with ⟨rfl, hn⟩ | ⟨g, cap, cur, rfl, h1, h2, h3, h4, h5, h6⟩
  · rw [hn]; exact ⟨none, 0, rfl, Nat.le_refl _, Nat.zero_le _, fun i hi => by omega⟩
  · refine ⟨some ⟨g, 0, none⟩, cap, rfl, h3, h4, fun i hi => ⟨_, rfl, (Array.getElem?_eq_some_iff.1 h2).1, fun j hj => ?_, hp _ (List.getElem_mem hi)⟩⟩
    have hadd : (⟨g, 0, none⟩ : Addr).add (i * 3 + j) = ⟨g, i * 3 + j, none⟩ := by unfold Addr.add; split <;> simp_all
    rw [hadd, cell_of_row W g _ cur _ _ h2, ← ensCells_get hi hj, ← h6, List.getElem?_take, if_pos (by omega)]; simp
end
theorem news_three (w : World) (x y z : Value) (t : TypeId) : ∀ j u, [x, y, z][j]? = some u → (w.alloc (.cells #[x, y, z] t)).cell? ((⟨w.heap.size, 0, none⟩ : Addr).add j) = some u := by
  intro j u hj
  match j, hj with
  | 0, hj => simp at hj; subst hj; simp [Addr.add]
  | 1, hj => simp at hj; subst hj; simp [Addr.add]
  | 2, hj => simp at hj; subst hj; simp [Addr.add]
/-- Entries that lie at A are appended; the world may have new blocks since the row was looked at. -/
theorem e_append {W0 W : World} {base : Nat} {v : Value} {l : List En} (h : OwnEnts W0 base v l) (hb0 : Below W0.heap.size W0 W) (A : Addr) (r : List En) (m c : Nat) (hm : r.length = m) (hnews : ∀ q u, (ensCells r)[q]? = some u → W.cell? (A.add q) = some u) (hs : l.length + m ≤ 1000000) (hb : base ≤ W0.heap.size) (ty : TypeId) :
    ∃ (pv : Option Addr) (cv : Nat) (W' : World), (Builtin.append_ #[25, 25] ty #[v, .slice (some A) m c]).run Try.prog W = .ok (.slice pv (l.length + m) cv) W' ∧
      OwnEnts W' base (.slice pv (l.length + m) cv) (l ++ r) ∧ Grew v (.slice pv (l.length + m) cv) W0 W' := by
  subst hm
  have h0 := h.below hb0
  have hz := hb0.size
  obtain ⟨i0, hi0, hz0, hz1, hz2⟩ := info_parts infoEn
  obtain ⟨v', W', hrun, ho, hg, -, hown⟩ := run_append_own_at (P := Try.prog) W base 25 ty 31 i0 _ 3 40 Try.underlying25 hi0 hz0 hz1 hz2 rfl (by decide) v _ _ h0
    A r.length c (ensCells r) (ensCells_length r) hnews (ensCells_one r) (by unfold maxLen; omega) (by omega) (by omega)
  have ho2 : OwnEnts W' base v' (l ++ r) := by unfold OwnEnts; rw [ensCells_append, List.length_append]; exact ho
  obtain ⟨pv, cv, rfl, -, -⟩ := ho2.shape
  rw [List.length_append] at hrun ho2 hown
  refine ⟨pv, cv, W', hrun, ho2, hg.os.trans hb0.os, hg.tape.trans hb0.tape, hg.output.trans hb0.output, Nat.le_trans hz hg.size, fun k hk hn => ?_, fun k hk => ?_⟩
  · exact (hg.block k (by omega) fun e => hn e.symm).trans (hb0.block k hk)
  · rcases hown with e | e
    · exact .inl (e ▸ hk)
    · rw [e] at hk
      simp only [Option.some.injEq] at hk
      exact .inr (by omega)
/-- A row of its own that is built above all that lay: what lay is as it was. -/
theorem Grew.below {base : Nat} {w W W' : World} {v v' : Value} (g : Grew v v' W W') (hb : Below base w W) (hz : base ≤ W.heap.size) (ho : ∀ k, v.ownBlock = some k → base ≤ k) : Below base w W' :=
  ⟨g.os.trans hb.os, g.tape.trans hb.tape, g.output.trans hb.output, Nat.le_trans hb.size g.size, fun k hk => (g.block k (by omega) fun e => by have := ho k e; omega).trans (hb.block k hk)⟩
end Go.Proofs.Ytgmaccfhgeocdaa
