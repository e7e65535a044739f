/-
  Walks over the laws of package manifest: copied. Conditions: those in the theorems.
-/
import Derived.Test.YtbhjpkejdkfenaaGreatDoorManArgs
set_option linter.unusedSimpArgs false
set_option linter.unusedVariables false
namespace Go.Proofs.YtbhjpkejdkfenaaGreatDoor
open Go.ChangeShapes Go.WideShapes Go.ChangeAt Go.RowKit Go.Shelf
open Mf (File State Edit)
theorem news_of_files {W : World} {A : Addr} {l : List File} (h : FilesAt W (some A) l) : ∀ q u, (fisCells l)[q]? = some u → W.cell? (A.add q) = some u := by
  intro q u hu
  have hq := (List.getElem?_eq_some_iff.1 hu).1
  rw [fisCells_length] at hq
  have hm : q % 5 < 5 := Nat.mod_lt _ (by omega)
  have hd : q / 5 < l.length := by omega
  obtain ⟨A', e1, -, h3, -⟩ := h (q / 5) hd
  cases e1
  rw [show q = q / 5 * 5 + q % 5 by omega] at hu ⊢
  rw [h3 _ hm, ← fisCells_get hd hm]; exact hu
/-- Tables are copied: appended to an empty row. -/
theorem copy_files {w : World} {p : Option Addr} {cap0 : Nat} {l : List File} (hl : FilesAt w p l) (hn : l.length ≤ 5000) (ty : TypeId) :
    ∃ (pv : Option Addr) (cv : Nat) (W' : World), (Builtin.append_ #[22, 22] ty #[.slice (some ⟨w.heap.size, 0, none⟩) 0 0, .slice p l.length cap0]).run Tryz.prog (w.alloc (.cells #[] 29)) = .ok (.slice pv l.length cv) W' ∧ FilesAt W' pv l ∧ (l.length ≤ cv ∧ cv ≤ maxLen) ∧ (∀ A, pv = some A → w.heap.size ≤ A.block) ∧ Below w.heap.size w W' := by
  by_cases h0 : l = []
  · subst h0
    refine ⟨some ⟨w.heap.size, 0, none⟩, 0, w.alloc (.cells #[] 29), ?_, (fun i hi => nomatch hi), ⟨Nat.le_refl _, Nat.zero_le _⟩, (fun A e => by cases e; exact Nat.le_refl _), mbelow_alloc _ _⟩
    cases p <;> simp [Builtin.append_, run_underlying Tryz.underlying22, loadCellsFrom, storeCells, Builtin.firstCells, Builtin.lenOf, go_sem]
  · have hpos : 0 < l.length := by cases l with
      | nil => exact absurd rfl h0
      | cons _ _ => simp
    obtain ⟨A, rfl⟩ := hl.some hpos
    have hov : OwnFis (w.alloc (.cells #[] 29)) w.heap.size (.slice (some ⟨w.heap.size, 0, none⟩) 0 0) [] :=
      ⟨rfl, .inr ⟨w.heap.size, 0, #[], rfl, Nat.le_refl _, heap_alloc_new w _, Nat.le_refl _, Nat.zero_le _, rfl, rfl⟩⟩
    have hl2 := hl.below (mbelow_alloc w (.cells #[] 29))
    obtain ⟨pv, cv, W', hrun, ho, hg⟩ := f_append hov (Below.refl _ _) A l l.length cap0 rfl (news_of_files hl2) (by simp <;> omega) (by simp) ty
    simp only [List.length_nil, Nat.zero_add, List.nil_append] at hrun ho hg
    obtain ⟨p', c', e, h1, h2, h3⟩ := ho.files hl.ok
    cases e
    exact ⟨pv, cv, W', hrun, h3, ⟨h1, h2⟩, (fun A e => by subst e; exact (ho.lt _ rfl).1 |> fun h => h), hg.below (mbelow_alloc w _) (by simp) fun j hj => (hov.lt j hj).1⟩
theorem files_cell {W : World} {q : Option Addr} {xs : List File} {b i : Nat} {x : Value} (h : FilesAt W q xs) (hb : ∀ A, q = some A → A.block ≠ b) : FilesAt (W.setCell ⟨b, i, none⟩ x) q xs := fun k hk => by
  obtain ⟨A, e, h2, h3, h4⟩ := h k hk
  have hne := hb A e
  refine ⟨A, e, by rw [World.size_setCell]; exact h2, fun j hj => ?_, h4⟩
  have hbk : b ≠ (A.add (k * 5 + j)).block := by rw [madd_block]; exact fun e => hne e.symm
  rw [World.cell?_setCell_far _ _ _ _ hbk]
  exact h3 j hj
theorem ints_cell {W : World} {q : Option Addr} {xs : List Int} {b i : Nat} {x : Value} (h : IntsM W q xs) (hb : ∀ A, q = some A → A.block ≠ b) : IntsM (W.setCell ⟨b, i, none⟩ x) q xs := fun k hk => by
  obtain ⟨A, e, h2, h3, h4⟩ := h k hk
  have hne := hb A e
  refine ⟨A, e, by rw [World.size_setCell]; exact h2, ?_, h4⟩
  have hbk : b ≠ (A.add k).block := by rw [madd_block]; exact fun e => hne e.symm
  rw [World.cell?_setCell_far _ _ _ _ hbk]
  exact h3
theorem infoInt8 : (Tryz.prog.info? 3).map (fun i => (i.zero, i.size, i.bytes)) = some (some (.int .i64 0), 1, 8) := by kernel_rfl
/-- Numbers are copied. -/
theorem copy_nums {w : World} {p : Option Addr} {cap0 : Nat} {l : List Int} (hl : IntsM w p l) (hn : l.length ≤ 5000) (ty : TypeId) :
    ∃ (pv : Option Addr) (cv : Nat) (W' : World), (Builtin.append_ #[31, 31] ty #[.slice (some ⟨w.heap.size, 0, none⟩) 0 0, .slice p l.length cap0]).run Tryz.prog (w.alloc (.cells #[] 3)) = .ok (.slice pv l.length cv) W' ∧ IntsM W' pv l ∧ (l.length ≤ cv ∧ cv ≤ maxLen) ∧ (∀ A, pv = some A → w.heap.size ≤ A.block) ∧ Below w.heap.size w W' := by
  by_cases h0 : l = []
  · subst h0
    refine ⟨some ⟨w.heap.size, 0, none⟩, 0, w.alloc (.cells #[] 3), ?_, (fun i hi => nomatch hi), ⟨Nat.le_refl _, Nat.zero_le _⟩, (fun A e => by cases e; exact Nat.le_refl _), mbelow_alloc _ _⟩
    cases p <;> simp [Builtin.append_, run_underlying Tryz.underlying31, loadCellsFrom, storeCells, Builtin.firstCells, Builtin.lenOf, go_sem]
  · have hpos : 0 < l.length := by cases l with
      | nil => exact absurd rfl h0
      | cons _ _ => simp
    obtain ⟨A, rfl, -⟩ := hl 0 hpos
    have hl2 := hl.below (mbelow_alloc w (.cells #[] 3))
    have hov : (w.alloc (.cells #[] 3)).ownsRow w.heap.size 3 1 (.slice (some ⟨w.heap.size, 0, none⟩) 0 0) 0 [] :=
      ⟨rfl, .inr ⟨w.heap.size, 0, #[], rfl, Nat.le_refl _, heap_alloc_new w _, Nat.le_refl _, Nat.zero_le _, rfl, rfl⟩⟩
    have hcl : (l.map fun n => Value.int .i64 n).length = l.length * 1 := by simp
    obtain ⟨i0, hi0, hz0, hz1, hz2⟩ := info_parts infoInt8
    obtain ⟨v', W', hrun, ho, hg, -, hown⟩ := run_append_own_at (P := Tryz.prog) (w.alloc (.cells #[] 3)) w.heap.size 31 ty 3 i0 _ 1 8 Tryz.underlying31 hi0 hz0 hz1 hz2 rfl (by decide) _ _ _ hov
      A l.length cap0 (l.map fun n => Value.int .i64 n) hcl (fun q u hu => by
        rw [List.getElem?_map] at hu
        obtain ⟨n, hn1, rfl⟩ := Option.map_eq_some_iff.1 hu
        obtain ⟨hq, rfl⟩ := List.getElem?_eq_some_iff.1 hn1
        obtain ⟨A', e, -, h3, -⟩ := hl2 q hq
        cases e
        exact h3) (by intro u hu; obtain ⟨n, -, rfl⟩ := List.mem_map.1 hu; rfl) (by unfold maxLen; omega) (by omega) (by simp)
    rw [Nat.zero_add, List.nil_append] at ho
    have hb : Below w.heap.size w W' := by
      have hz := hg.size
      have hsz : (w.alloc (.cells #[] 3)).heap.size = w.heap.size + 1 := by simp
      rw [hsz] at hz
      refine ⟨hg.os.trans rfl, hg.tape.trans rfl, hg.output.trans rfl, by omega, fun k hk => ?_⟩
      exact (hg.block k (by rw [hsz]; omega) fun e => by have h9 := Option.some.inj e; simp only at h9; omega).trans (Below.heap_alloc w _ k hk)
    rcases ho.2 with ⟨-, e⟩ | ⟨g, cap', cur, rfl, h1, h2, h3, h4, h5, h6⟩
    · exact absurd e (by omega)
    · refine ⟨some ⟨g, 0, none⟩, cap', W', hrun, fun i hi => ⟨_, rfl, (Array.getElem?_eq_some_iff.1 h2).1, ?_, (hl i hi).elim fun _ h => h.2.2.2⟩, ⟨h3, h4⟩, (fun A e => by cases e; exact h1), hb⟩
      have hadd : (⟨g, 0, none⟩ : Addr).add i = ⟨g, i, none⟩ := by unfold Addr.add; split <;> simp_all
      rw [hadd, cell_of_row W' g _ cur _ _ h2]
      have h7 : (cur.toList.take (l.length * 1))[i]? = (l.map fun n => Value.int .i64 n)[i]? := by rw [h6]
      rw [List.getElem?_take, if_pos (by omega), List.getElem?_map, List.getElem?_eq_getElem hi] at h7
      simpa using h7
section
attribute [local go_sem] Oper.semAt_some
theorem copied_res {W : World} {tmps : Array Value} {a b : Nat} {nx lg enx elg : Int} {p q r : Option Addr} {n cap nd cd na ca : Nat} (h4 : tmps[4]? = some (.pointer (some ⟨a, 0, none⟩))) (h5 : tmps[5]? = some (.pointer (some ⟨b, 0, none⟩))) (h : W.heap[a]? = some (stO nx lg p n cap)) (k : W.heap[b]? = some (edO q nd cd r na ca enx elg)) :
    (results Tryz.f20 tmps).run Tryz.prog W = .ok (.tuple #[.agg #[.int .i64 nx, .int .i64 lg, .slice p n cap], .agg #[.slice q nd cd, .slice r na ca, .int .i64 enx, .int .i64 elg]]) W := by
  obtain ⟨c0, c1, c2⟩ := st_cells h
  obtain ⟨d0, d1, d2, d3⟩ := ed_cells k
  simp [results, Tryz.results20, h4, h5, go_sem, c0, c1, c2, d0, d1, d2, d3]
end
theorem files_three {W : World} {q : Option Addr} {xs : List File} {b : Nat} {x y z : Value} (h : FilesAt W q xs) (hb : ∀ A, q = some A → A.block ≠ b) : FilesAt (((W.setCell ⟨b, 0, none⟩ x).setCell ⟨b, 1, none⟩ y).setCell ⟨b, 2, none⟩ z) q xs := files_cell (files_cell (files_cell h hb) hb) hb
theorem ints_three {W : World} {q : Option Addr} {xs : List Int} {b : Nat} {x y z : Value} (h : IntsM W q xs) (hb : ∀ A, q = some A → A.block ≠ b) : IntsM (((W.setCell ⟨b, 0, none⟩ x).setCell ⟨b, 1, none⟩ y).setCell ⟨b, 2, none⟩ z) q xs := ints_cell (ints_cell (ints_cell h hb) hb) hb
theorem ed_sets {W : World} {a : Nat} {q r q' r' : Option Addr} {nd cd na ca nd' cd' na' ca' : Nat} {nx lg nx' lg' : Int} (h : W.heap[a]? = some (edO q nd cd r na ca nx lg)) :
    ((((W.setCell ⟨a, 0, none⟩ (.slice q' nd' cd')).setCell ⟨a, 1, none⟩ (.slice r' na' ca')).setCell ⟨a, 2, none⟩ (.int .i64 nx')).setCell ⟨a, 3, none⟩ (.int .i64 lg')).heap[a]? = some (edO q' nd' cd' r' na' ca' nx' lg') :=
  mset (mset (mset (mset h _) _) _) _
/-- Two results are put into their blocks. -/
theorem both_put0 {w W : World} {u v : Nat} {p q r : Option Addr} {n c nd cd na ca : Nat} {nx lg enx elg : Int} {l add : List File} {ds : List Int} {q0 r0 p0 : Option Addr} {nd0 cd0 na0 ca0 n0 c0 : Nat} {x0 x1 x2 x3 : Int}
    (huv : u ≠ v) (hy : W.heap[u]? = some (stO x0 x1 p0 n0 c0)) (hx : W.heap[v]? = some (edO q0 nd0 cd0 r0 na0 ca0 x2 x3)) (hu : w.heap.size ≤ u) (hv : w.heap.size ≤ v) (hb : Below w.heap.size w W)
    (h1 : FilesAt W p l) (h2 : IntsM W q ds) (h3 : FilesAt W r add) (a1 : ∀ A, p = some A → A.block ≠ u ∧ A.block ≠ v) (a2 : ∀ A, q = some A → A.block ≠ u ∧ A.block ≠ v) (a3 : ∀ A, r = some A → A.block ≠ u ∧ A.block ≠ v) {WF : World}
    (hW : WF = ((((((W.setCell ⟨u, 0, none⟩ (.int .i64 nx)).setCell ⟨u, 1, none⟩ (.int .i64 lg)).setCell ⟨u, 2, none⟩ (.slice p n c)).setCell ⟨v, 0, none⟩ (.slice q nd cd)).setCell ⟨v, 1, none⟩ (.slice r na ca)).setCell ⟨v, 2, none⟩ (.int .i64 enx)).setCell ⟨v, 3, none⟩ (.int .i64 elg)) :
    WF.heap[u]? = some (stO nx lg p n c) ∧ WF.heap[v]? = some (edO q nd cd r na ca enx elg) ∧ FilesAt WF p l ∧ IntsM WF q ds ∧ FilesAt WF r add ∧ Below w.heap.size w WF := by
  subst hW
  have e1 := st_set (nx' := nx) (lg' := lg) (p' := p) (n' := n) (cap' := c) hy
  have e2 : ((((W.setCell ⟨u, 0, none⟩ (.int .i64 nx)).setCell ⟨u, 1, none⟩ (.int .i64 lg)).setCell ⟨u, 2, none⟩ (.slice p n c))).heap[v]? = some (edO q0 nd0 cd0 r0 na0 ca0 x2 x3) :=
    ((Below.heap_setCell _ _ _ _ (show v ≠ u from huv.symm)).trans ((Below.heap_setCell _ _ _ _ (show v ≠ u from huv.symm)).trans (Below.heap_setCell _ _ _ _ (show v ≠ u from huv.symm)))).trans hx
  refine ⟨?_, ed_sets e2, files_cell (files_three (files_three h1 fun A e => (a1 A e).1) fun A e => (a1 A e).2) fun A e => (a1 A e).2, ints_cell (ints_three (ints_three h2 fun A e => (a2 A e).1) fun A e => (a2 A e).2) fun A e => (a2 A e).2, files_cell (files_three (files_three h3 fun A e => (a3 A e).1) fun A e => (a3 A e).2) fun A e => (a3 A e).2, ?_⟩
  · exact ((Below.heap_setCell _ _ _ _ (show u ≠ v from huv)).trans ((Below.heap_setCell _ _ _ _ (show u ≠ v from huv)).trans ((Below.heap_setCell _ _ _ _ (show u ≠ v from huv)).trans (Below.heap_setCell _ _ _ _ (show u ≠ v from huv))))).trans e1
  · exact (st_below (st_below hb hu) hv).setCell hv _
/-- Two results are put into their blocks. -/
theorem both_put {w W : World} {u v : Nat} {p q r : Option Addr} {n c nd cd na ca : Nat} {nx lg enx elg : Int} {l add : List File} {ds : List Int} {q0 r0 p0 : Option Addr} {nd0 cd0 na0 ca0 n0 c0 : Nat} {x0 x1 x2 x3 : Int}
    (huv : u ≠ v) (hy : W.heap[u]? = some (stO x0 x1 p0 n0 c0)) (hx : W.heap[v]? = some (edO q0 nd0 cd0 r0 na0 ca0 x2 x3)) (hu : w.heap.size ≤ u) (hv : w.heap.size ≤ v) (hb : Below w.heap.size w W)
    (h1 : FilesAt W p l) (h2 : IntsM W q ds) (h3 : FilesAt W r add) (a1 : ∀ A, p = some A → A.block ≠ u ∧ A.block ≠ v) (a2 : ∀ A, q = some A → A.block ≠ u ∧ A.block ≠ v) (a3 : ∀ A, r = some A → A.block ≠ u ∧ A.block ≠ v) {WF : World}
    (hW : WF = (((((((W.setCell ⟨u, 0, none⟩ (.int .i64 nx)).setCell ⟨u, 1, none⟩ (.int .i64 lg)).setCell ⟨u, 2, none⟩ (.slice p n c)).setCell ⟨v, 0, none⟩ (.slice q nd cd)).setCell ⟨v, 1, none⟩ (.slice r na ca)).setCell ⟨v, 2, none⟩ (.int .i64 enx)).setCell ⟨v, 3, none⟩ (.int .i64 elg)).drew) :
    WF.heap[u]? = some (stO nx lg p n c) ∧ WF.heap[v]? = some (edO q nd cd r na ca enx elg) ∧ FilesAt WF p l ∧ IntsM WF q ds ∧ FilesAt WF r add ∧ Below w.heap.size w WF := by
  obtain ⟨X, hX⟩ : ∃ X, X = ((((((W.setCell ⟨u, 0, none⟩ (.int .i64 nx)).setCell ⟨u, 1, none⟩ (.int .i64 lg)).setCell ⟨u, 2, none⟩ (.slice p n c)).setCell ⟨v, 0, none⟩ (.slice q nd cd)).setCell ⟨v, 1, none⟩ (.slice r na ca)).setCell ⟨v, 2, none⟩ (.int .i64 enx)).setCell ⟨v, 3, none⟩ (.int .i64 elg) := ⟨_, rfl⟩
  have k := both_put0 huv hy hx hu hv hb h1 h2 h3 a1 a2 a3 hX
  rw [← hX] at hW
  subst hW
  exact ⟨k.1, k.2.1, k.2.2.1.below (Below.refl _ _).drew, k.2.2.2.1.below (Below.refl _ _).drew, k.2.2.2.2.1.below (Below.refl _ _).drew, k.2.2.2.2.2.drew⟩
theorem ed_frozen {W : World} {a : Nat} {q r : Option Addr} {nd cd na ca : Nat} {nx lg : Int} (h : W.heap[a]? = some (edO q nd cd r na ca nx lg)) (i : Nat) : W.frozen? ⟨a, i, none⟩ = false := frozen_of_row W a i _ _ h
set_option maxRecDepth 100000 in
set_option maxHeartbeats 8000000 in
theorem copied_any {w : World} {p q r : Option Addr} {cap cd ca : Nat} {l add : List File} {ds : List Int} {nx lg enx elg : Int} (hl : FilesAt w p l) (hd : IntsM w q ds) (ha : FilesAt w r add) (hn : l.length ≤ 1000) (hdn : ds.length ≤ 1000) (han : add.length ≤ 1000) :
    Calls Tryz.prog 20 #[.agg #[.int .i64 nx, .int .i64 lg, .slice p l.length cap], .agg #[.slice q ds.length cd, .slice r add.length ca, .int .i64 enx, .int .i64 elg]] w fun e w' =>
      ∃ p' c' q' cd' r' ca', e = .returned (.tuple #[.agg #[.int .i64 nx, .int .i64 lg, .slice p' l.length c'], .agg #[.slice q' ds.length cd', .slice r' add.length ca', .int .i64 enx, .int .i64 elg]]) ∧ Hid (FilesAt w' p' l ∧ IntsM w' q' ds ∧ FilesAt w' r' add ∧ (l.length ≤ c' ∧ c' ≤ maxLen) ∧ (ds.length ≤ cd' ∧ cd' ≤ maxLen) ∧ (add.length ≤ ca' ∧ ca' ≤ maxLen) ∧ Below w.heap.size w w') := by
  obtain ⟨b0, hb0⟩ : ∃ b, b = w.heap.size := ⟨_, rfl⟩
  obtain ⟨W1, hW1⟩ : ∃ W1, W1 = (((w.alloc (.cells #[.int .i64 nx, .int .i64 lg, .slice p l.length cap] 24)).alloc (.cells #[.slice q ds.length cd, .slice r add.length ca, .int .i64 enx, .int .i64 elg] 33)).alloc (.cells #[.int .i64 0, .int .i64 0, .slice none 0 0] 24)).alloc (.cells #[.slice none 0 0, .slice none 0 0, .int .i64 0, .int .i64 0] 33) := ⟨_, rfl⟩
  have hb1 : Below w.heap.size w W1 := by rw [hW1]; exact ((((Below.refl _ w).alloc (Nat.le_refl _) _).alloc (by simp) _).alloc (by simp <;> omega) _).alloc (by simp <;> omega) _
  have h1 : W1.heap[b0]? = some (stO nx lg p l.length cap) := by rw [hW1, hb0, Below.heap_alloc _ _ _ (by simp <;> omega), Below.heap_alloc _ _ _ (by simp <;> omega), Below.heap_alloc _ _ _ (by simp)]; exact heap_alloc_new w _
  have h2 : W1.heap[b0 + 1]? = some (edO q ds.length cd r add.length ca enx elg) := by
    rw [hW1, hb0, Below.heap_alloc _ _ _ (by simp <;> omega), Below.heap_alloc _ _ _ (by simp)]
    have := heap_alloc_new (w.alloc (.cells #[.int .i64 nx, .int .i64 lg, .slice p l.length cap] 24)) (.cells #[.slice q ds.length cd, .slice r add.length ca, .int .i64 enx, .int .i64 elg] 33)
    rwa [World.size_alloc] at this
  have h3 : W1.heap[b0 + 1 + 1]? = some (stO 0 0 none 0 0) := by
    rw [hW1, hb0, Below.heap_alloc _ _ _ (by simp)]
    have := heap_alloc_new ((w.alloc (.cells #[.int .i64 nx, .int .i64 lg, .slice p l.length cap] 24)).alloc (.cells #[.slice q ds.length cd, .slice r add.length ca, .int .i64 enx, .int .i64 elg] 33)) (.cells #[.int .i64 0, .int .i64 0, .slice none 0 0] 24)
    rwa [World.size_alloc, World.size_alloc] at this
  have h4 : W1.heap[b0 + 1 + 1 + 1]? = some (edO none 0 0 none 0 0 0 0) := by
    rw [hW1, hb0]
    have := heap_alloc_new (((w.alloc (.cells #[.int .i64 nx, .int .i64 lg, .slice p l.length cap] 24)).alloc (.cells #[.slice q ds.length cd, .slice r add.length ca, .int .i64 enx, .int .i64 elg] 33)).alloc (.cells #[.int .i64 0, .int .i64 0, .slice none 0 0] 24)) (.cells #[.slice none 0 0, .slice none 0 0, .int .i64 0, .int .i64 0] 33)
    rwa [World.size_alloc, World.size_alloc, World.size_alloc] at this
  have hz1 : b0 + 1 + 1 + 1 < W1.heap.size := (Array.getElem?_eq_some_iff.1 h4).1
  have FS := Lib.hid (hl.below hb1)
  have HB1 := Lib.hid hb1
  have hbz : w.heap.size ≤ b0 := by omega
  -- the first copy
  obtain ⟨p2, c2, W2, r2, f2, k2, a2, hb2⟩ := copy_files (cap0 := cap) (hl.below hb1) (by omega) 22
  have z2 := hb2.size
  have s2 : W2.heap[b0]? = some (stO nx lg p l.length cap) := (hb2.block _ (Array.getElem?_eq_some_iff.1 h1).1).trans h1
  have e2 : W2.heap[b0 + 1]? = some (edO q ds.length cd r add.length ca enx elg) := (hb2.block _ (Array.getElem?_eq_some_iff.1 h2).1).trans h2
  have y2 : W2.heap[b0 + 1 + 1]? = some (stO 0 0 none 0 0) := (hb2.block _ (Array.getElem?_eq_some_iff.1 h3).1).trans h3
  have x2 : W2.heap[b0 + 1 + 1 + 1]? = some (edO none 0 0 none 0 0 0 0) := (hb2.block _ (Array.getElem?_eq_some_iff.1 h4).1).trans h4
  have bb2 : Below w.heap.size w W2 := hb1.trans (hb2.mono hb1.size)
  obtain ⟨W3, hW3⟩ : ∃ x, x = W2.setCell ⟨b0, 2, none⟩ (.slice p2 l.length c2) := ⟨_, rfl⟩
  have bb3 : Below w.heap.size w W3 := by rw [hW3]; exact bb2.setCell hbz _
  have z3 : W3.heap.size = W2.heap.size := by rw [hW3, World.size_setCell]
  have s3 : W3.heap[b0]? = some (stO nx lg p2 l.length c2) := by rw [hW3]; exact mset s2 _
  have e3 : W3.heap[b0 + 1]? = some (edO q ds.length cd r add.length ca enx elg) := by rw [hW3]; exact (Below.heap_setCell _ _ _ _ (by show b0 + 1 ≠ b0; omega)).trans e2
  have y3 : W3.heap[b0 + 1 + 1]? = some (stO 0 0 none 0 0) := by rw [hW3]; exact (Below.heap_setCell _ _ _ _ (by show b0 + 1 + 1 ≠ b0; omega)).trans y2
  have x3 : W3.heap[b0 + 1 + 1 + 1]? = some (edO none 0 0 none 0 0 0 0) := by rw [hW3]; exact (Below.heap_setCell _ _ _ _ (by show b0 + 1 + 1 + 1 ≠ b0; omega)).trans x2
  have f3 : FilesAt W3 p2 l := by rw [hW3]; exact files_cell f2 fun A e => by have := a2 A e; omega
  -- the second copy
  obtain ⟨p4, c4, W4, r4, f4, k4, a4, hb4⟩ := copy_files (cap0 := ca) (ha.below bb3) (by omega) 22
  have z4 := hb4.size
  have s4 : W4.heap[b0]? = some (stO nx lg p2 l.length c2) := (hb4.block _ (by omega)).trans s3
  have e4 : W4.heap[b0 + 1]? = some (edO q ds.length cd r add.length ca enx elg) := (hb4.block _ (by omega)).trans e3
  have y4 : W4.heap[b0 + 1 + 1]? = some (stO 0 0 none 0 0) := (hb4.block _ (by omega)).trans y3
  have x4 : W4.heap[b0 + 1 + 1 + 1]? = some (edO none 0 0 none 0 0 0 0) := (hb4.block _ (by omega)).trans x3
  have bb4 : Below w.heap.size w W4 := bb3.trans (hb4.mono bb3.size)
  obtain ⟨W5, hW5⟩ : ∃ x, x = W4.setCell ⟨b0 + 1, 1, none⟩ (.slice p4 add.length c4) := ⟨_, rfl⟩
  have bb5 : Below w.heap.size w W5 := by rw [hW5]; exact bb4.setCell (by show w.heap.size ≤ b0 + 1; omega) _
  have z5 : W5.heap.size = W4.heap.size := by rw [hW5, World.size_setCell]
  have s5 : W5.heap[b0]? = some (stO nx lg p2 l.length c2) := by rw [hW5]; exact (Below.heap_setCell _ _ _ _ (by show b0 ≠ b0 + 1; omega)).trans s4
  have e5 : W5.heap[b0 + 1]? = some (edO q ds.length cd p4 add.length c4 enx elg) := by rw [hW5]; exact mset e4 _
  have y5 : W5.heap[b0 + 1 + 1]? = some (stO 0 0 none 0 0) := by rw [hW5]; exact (Below.heap_setCell _ _ _ _ (by show b0 + 1 + 1 ≠ b0 + 1; omega)).trans y4
  have x5 : W5.heap[b0 + 1 + 1 + 1]? = some (edO none 0 0 none 0 0 0 0) := by rw [hW5]; exact (Below.heap_setCell _ _ _ _ (by show b0 + 1 + 1 + 1 ≠ b0 + 1; omega)).trans x4
  have f5 : FilesAt W5 p2 l := by rw [hW5]; exact files_cell (f3.below hb4) fun A e => by have := a2 A e; omega
  have g5 : FilesAt W5 p4 add := by rw [hW5]; exact files_cell f4 fun A e => by have := a4 A e; omega
  -- the third copy
  obtain ⟨p6, c6, W6, r6, f6, k6, a6, hb6⟩ := copy_nums (cap0 := cd) (hd.below bb5) (by omega) 31
  have z6 := hb6.size
  have s6 : W6.heap[b0]? = some (stO nx lg p2 l.length c2) := (hb6.block _ (by omega)).trans s5
  have e6 : W6.heap[b0 + 1]? = some (edO q ds.length cd p4 add.length c4 enx elg) := (hb6.block _ (by omega)).trans e5
  have y6 : W6.heap[b0 + 1 + 1]? = some (stO 0 0 none 0 0) := (hb6.block _ (by omega)).trans y5
  have x6 : W6.heap[b0 + 1 + 1 + 1]? = some (edO none 0 0 none 0 0 0 0) := (hb6.block _ (by omega)).trans x5
  have bb6 : Below w.heap.size w W6 := bb5.trans (hb6.mono bb5.size)
  obtain ⟨W7, hW7⟩ : ∃ x, x = W6.setCell ⟨b0 + 1, 0, none⟩ (.slice p6 ds.length c6) := ⟨_, rfl⟩
  have bb7 : Below w.heap.size w W7 := by rw [hW7]; exact bb6.setCell (by show w.heap.size ≤ b0 + 1; omega) _
  have s7 : W7.heap[b0]? = some (stO nx lg p2 l.length c2) := by rw [hW7]; exact (Below.heap_setCell _ _ _ _ (by show b0 ≠ b0 + 1; omega)).trans s6
  have e7 : W7.heap[b0 + 1]? = some (edO p6 ds.length c6 p4 add.length c4 enx elg) := by rw [hW7]; exact mset e6 _
  have y7 : W7.heap[b0 + 1 + 1]? = some (stO 0 0 none 0 0) := by rw [hW7]; exact (Below.heap_setCell _ _ _ _ (by show b0 + 1 + 1 ≠ b0 + 1; omega)).trans y6
  have x7 : W7.heap[b0 + 1 + 1 + 1]? = some (edO none 0 0 none 0 0 0 0) := by rw [hW7]; exact (Below.heap_setCell _ _ _ _ (by show b0 + 1 + 1 + 1 ≠ b0 + 1; omega)).trans x6
  have f7 : FilesAt W7 p2 l := by rw [hW7]; exact files_cell (f5.below hb6) fun A e => by have := a2 A e; omega
  have g7 : FilesAt W7 p4 add := by rw [hW7]; exact files_cell (g5.below hb6) fun A e => by have := a4 A e; omega
  have i7 : IntsM W7 p6 ds := by rw [hW7]; exact ints_cell f6 fun A e => by have := a6 A e; omega
  have HF := Lib.hid (And.intro f7 (And.intro i7 (And.intro g7 (And.intro k2 (And.intro k6 (And.intro k4 bb7))))))
  have HA := Lib.hid (And.intro a2 (And.intro a4 (And.intro a6 (And.intro z2 (And.intro z4 (And.intro hz1 (And.intro z3 z5)))))))
  have q1 : ∀ o, (W1.alloc o).cell? ⟨b0, 2, none⟩ = some (.slice p l.length cap) := fun o => ((mbelow_alloc W1 o).cell (show b0 < W1.heap.size by omega)).trans (st_cells h1).2.2
  have q3 : ∀ o, (W3.alloc o).cell? ⟨b0 + 1, 1, none⟩ = some (.slice r add.length ca) := fun o => ((mbelow_alloc W3 o).cell (show b0 + 1 < W3.heap.size by omega)).trans (ed_cells e3).2.1
  have q5 : ∀ o, (W5.alloc o).cell? ⟨b0 + 1, 0, none⟩ = some (.slice q ds.length cd) := fun o => ((mbelow_alloc W5 o).cell (show b0 + 1 < W5.heap.size by omega)).trans (ed_cells e5).1
  obtain ⟨-, -, t2⟩ := st_cells s2
  have v2 := st_frozen s2 2
  obtain ⟨-, t4, -⟩ := ed_cells e4
  have v4 := ed_frozen e4 1
  obtain ⟨t6, -⟩ := ed_cells e6
  have v6 := ed_frozen e6 0
  have HS7 := Lib.hid (And.intro s7 (And.intro e7 (And.intro y7 x7)))
  clear hl hd ha hn hdn han hb1 h1 h2 h3 h4 hz1 FS HB1 hbz f2 k2 a2 hb2 z2 s2 e2 y2 x2 bb2 bb3 z3 s3 e3 y3 x3 f3 f4 k4 a4 hb4 z4 s4 e4 y4 x4 bb4 bb5 z5 s5 e5 y5 x5 f5 g5 f6 k6 a6 hb6 z6 s6 e6 y6 x6 bb6 bb7 s7 e7 y7 x7 f7 g7 i7
  go_enter Tryz.func20, Tryz.ntmps20
  go_upto_region 1 with fail
  rw [← hb0, ← hW1]
  have HB0 := Lib.hid hb0
  clear hW1 hb0
  subst hW3 hW5 hW7
  simp only [World.size_setCell] at r4 r6
  go_wp2_with (at_builtin; first
    | refine Lib.wpList_append_run _ rfl (.tmp 6) (.tmp 8) _ _ rfl _ _ rfl rfl _ _ r2 ?_
    | refine Lib.wpList_append_run _ rfl (.tmp 11) (.tmp 13) _ _ rfl _ _ rfl rfl _ _ r4 ?_
    | refine Lib.wpList_append_run _ rfl (.tmp 16) (.tmp 18) _ _ rfl _ _ rfl rfl _ _ r6 ?_)
  clear r2 r4 r6 q1 q3 q5 t2 v2 t4 v4 t6 v6
  generalize W6.setCell ⟨b0 + 1, 0, none⟩ (.slice p6 ds.length c6) = W7 at *
  obtain ⟨c0, c1, c2'⟩ := st_cells HS7.out.1
  obtain ⟨d0, d1, d2, d3⟩ := ed_cells HS7.out.2.1
  obtain ⟨y0, y1, y2⟩ := st_cells HS7.out.2.2.1
  obtain ⟨x0, x1, x2, x3⟩ := ed_cells HS7.out.2.2.2
  have fy0 := st_frozen HS7.out.2.2.1 0
  have fy1 := st_frozen HS7.out.2.2.1 1
  have fy2 := st_frozen HS7.out.2.2.1 2
  have fx0 := ed_frozen HS7.out.2.2.2 0
  have fx1 := ed_frozen HS7.out.2.2.2 1
  have fx2 := ed_frozen HS7.out.2.2.2 2
  have fx3 := ed_frozen HS7.out.2.2.2 3
  have n1 : ¬ b0 + 1 + 1 = b0 + 1 + 1 + 1 := by omega
  have n2 : ¬ b0 + 1 + 1 + 1 = b0 + 1 + 1 := by omega
  go_region_with (fail)
  all_goals
    have HE := Lib.hid (both_put (nx := nx) (lg := lg) (n := l.length) (c := c2) (nd := ds.length) (cd := c6) (na := add.length) (ca := c4) (enx := enx) (elg := elg) (w := w) (u := b0 + 1 + 1) (v := b0 + 1 + 1 + 1) (by omega) HS7.out.2.2.1 HS7.out.2.2.2 (by have := HB0.out; omega) (by have := HB0.out; omega) HF.out.2.2.2.2.2.2 HF.out.1 HF.out.2.1 HF.out.2.2.1 (fun A e => by have := HA.out.1 A e; have := HA.out.2.2.2.2.2.1; omega) (fun A e => by have := HA.out.2.2.1 A e; have := HA.out.2.2.2.1; have := HA.out.2.2.2.2.1; have := HA.out.2.2.2.2.2.1; have := HA.out.2.2.2.2.2.2.1; have := HA.out.2.2.2.2.2.2.2; omega) (fun A e => by have := HA.out.2.1 A e; have := HA.out.2.2.2.1; have := HA.out.2.2.2.2.2.1; have := HA.out.2.2.2.2.2.2.1; omega) rfl)
    clear c0 c1 c2' d0 d1 d2 d3 y0 y1 y2 x0 x1 x2 x3 fy0 fy1 fy2 fx0 fx1 fx2 fx3 n1 n2
    go_wp2_with fail
    refine bodyPost_ret (copied_res rfl rfl HE.out.1 HE.out.2.1) rfl ?_
    exact ⟨p2, c2, p6, c6, p4, c4, rfl, Lib.hid ⟨HE.out.2.2.1, HE.out.2.2.2.1, HE.out.2.2.2.2.1, HF.out.2.2.2.1, HF.out.2.2.2.2.1, HF.out.2.2.2.2.2.1, HE.out.2.2.2.2.2⟩⟩
end Go.Proofs.YtbhjpkejdkfenaaGreatDoor
