/-
  Walks over package manifest: the library's SortFunc at rows of tables, by their numbers. Conditions: those in the theorems.
-/
import Derived.Test.YtbhjpkejdkfenaaGreatDoorManConcat
import Derived.Test.YtbhjpkejdkfenaaGreatDoorManShelf
import Derived.Shelf.SlSortCmp.NoneTotal
namespace Go.Proofs.YtbhjpkejdkfenaaGreatDoor
open Go.RowKit Go.Shelf Go.Sort Go.Lib
open Mf (File)

def cmpF (x y : File) : Int := Lib.compareInt x.n y.n
theorem ltOf_cmpF (x y : File) : ltOf cmpF x y = decide (x.n < y.n) := by
  unfold ltOf cmpF Lib.compareInt
  by_cases h1 : x.n < y.n
  · simp [h1]
  · by_cases h2 : y.n < x.n <;> simp [h1, h2]
theorem swo_cmpF : SWO (ltOf cmpF) where
  irrefl x := by rw [ltOf_cmpF]; simp
  trans x y z h1 h2 := by rw [ltOf_cmpF] at *; simp at *; omega
  ntrans x y z h1 h2 := by rw [ltOf_cmpF] at *; simp at *; omega
set_option maxHeartbeats 1000000 in
theorem cmpF_any (x y : File) (W : World) : Calls Tryz.prog 73 #[.agg (fiCells x).toArray, .agg (fiCells y).toArray] W fun e w' => e = .returned (.int .i64 (cmpF x y)) ∧ ∃ q os', w' = grow (W.drewN q) os' := by
  have hcon := fun W' => ml_cmp_Compare_int x.n y.n W'
  obtain ⟨n, lv, ct, fi, la⟩ := x
  obtain ⟨n', lv', ct', fi', la'⟩ := y
  unfold cmpF
  simp only at hcon ⊢
  generalize Lib.compareInt n n' = r at hcon ⊢
  unfold fiCells
  go_enter Tryz.func73, Tryz.ntmps73
  go_wp2_with (go_at_call 74; refine (hcon _).mono ?_; rintro e w' ⟨rfl, rfl⟩)
  go_ret
  exact ⟨rfl, 0, _, by rw [alloc_eq_grow, alloc_eq_grow, grow_grow]; rfl⟩
theorem flat_files (d : Array File) : (flatK fiCells 5 d).toList = fisCells d.toList := by
  apply List.ext_getElem?
  intro t
  by_cases h : t < d.size * 5
  · have h2 := get_flatK fiCells 5 d t h
    have hd : t / 5 < d.toList.length := by rw [Array.length_toList]; omega
    have hm : t % 5 < 5 := Nat.mod_lt _ (by omega)
    have e := fisCells_get hd hm
    rw [show t / 5 * 5 + t % 5 = t by omega] at e
    rw [e]
    have hs : t < (flatK fiCells 5 d).size := by simpa using h
    rw [Array.getElem?_toList, Array.getElem?_eq_getElem hs]
    rw [getElem!_pos _ t hs] at h2
    rw [h2, getElem!_pos d _ (by simpa using hd)]
    have h5 : (fiCells d.toList[t / 5]).length = 5 := rfl
    rw [List.getElem?_eq_getElem (by omega), Array.getElem_toList, getElem!_pos _ _ (by show t % 5 < 5; omega)]
    rfl
  · rw [List.getElem?_eq_none (by rw [Array.length_toList, size_flatK]; omega), List.getElem?_eq_none (by rw [fisCells_length, Array.length_toList]; omega)]
theorem sort_world {w : World} {g cap : Nat} {cur : Array Value} {d : Array File} (hg : w.heap[g]? = some (.cells cur 29 (0, 0))) (hs : cur.size = cap * 5) (hd : d.size ≤ cap) (n : Nat) (os : Array Obj) :
    ∃ cur2, (sortWorldK fiCells 5 w g 0 n d os).heap[g]? = some (.cells cur2 29 (0, 0)) ∧ cur2.size = cap * 5 ∧ cur2.toList.take (d.size * 5) = fisCells d.toList ∧
      (sortWorldK fiCells 5 w g 0 n d os).os = w.os ∧ (sortWorldK fiCells 5 w g 0 n d os).tape = w.tape ∧ (sortWorldK fiCells 5 w g 0 n d os).output = w.output ∧ w.heap.size ≤ (sortWorldK fiCells 5 w g 0 n d os).heap.size ∧
      ∀ k, k < w.heap.size → k ≠ g → (sortWorldK fiCells 5 w g 0 n d os).heap[k]? = w.heap[k]? := by
  have hlt := (Array.getElem?_eq_some_iff.1 hg).1
  have hz : (w.heap.modify g (onCells (putCells id 0 (flatK fiCells 5 d)))).size = w.heap.size := by simp
  refine ⟨putCells id 0 (flatK fiCells 5 d) cur, ?_, ?_, ?_, rfl, rfl, rfl, size_sortWorldK_c (enc := fiCells) (k := 5) (w := w) (blk := g) (off := 0) n d os, fun k hk hne => ?_⟩
  · show ((w.heap.modify g (onCells (putCells id 0 (flatK fiCells 5 d)))) ++ os)[g]? = _
    rw [Array.getElem?_append_left (by rw [hz]; exact hlt), Array.getElem?_modify, if_pos rfl, hg]; rfl
  · unfold putCells; rw [Array.size_mapIdx, hs]
  · rw [← flat_files]
    apply List.ext_getElem?
    intro t
    rw [List.getElem?_take]
    by_cases h : t < d.size * 5
    · have hc : t < cur.size := by rw [hs]; omega
      have hf : t < (flatK fiCells 5 d).size := by simpa using h
      rw [if_pos h, Array.getElem?_toList, Array.getElem?_toList]
      unfold putCells
      rw [Array.getElem?_mapIdx, Array.getElem?_eq_getElem hc, Array.getElem?_eq_getElem hf, Option.map_some, if_pos ⟨Nat.zero_le _, by omega⟩, Nat.sub_zero, getElem!_pos _ t hf]; rfl
    · rw [if_neg h, List.getElem?_eq_none (by rw [Array.length_toList, size_flatK]; omega)]
  · show ((w.heap.modify g (onCells (putCells id 0 (flatK fiCells 5 d)))) ++ os)[k]? = _
    rw [Array.getElem?_append_left (by rw [hz]; exact hk), Array.getElem?_modify, if_neg (Ne.symm hne)]
set_option maxHeartbeats 2000000 in
theorem sortF_any {w : World} {base : Nat} {v : Value} {l : List File} (h : OwnFis w base v l) (hn : l.length ≤ 1000000) :
    Calls Tryz.prog 72 #[v, .func (.func 73) #[] #[]] w fun e w' => e = .returned (.tuple #[]) ∧ ∃ m, m.Perm l ∧ Mf.Upward m ∧ OwnFis w' base v m ∧ GrewF v v w w' := by
  have h0 := h
  rcases h.2 with ⟨rfl, hl0⟩ | ⟨g, cap, cur, rfl, h1, h2, h3, h4, h5, h6⟩
  · obtain rfl := List.eq_nil_of_length_eq_zero hl0
    refine (AnyF.slices_SortFunc_none { ml_sortFi with } none 0 _ w).mono ?_
    rintro e w' ⟨rfl, rfl⟩
    exact ⟨rfl, [], List.Perm.refl _, List.Pairwise.nil, h0, rfl, rfl, rfl, Nat.le_refl _, fun _ _ _ => rfl, fun _ hk => .inl hk⟩
  · have eg : ∀ args w, (callFunc 73 args).run Tryz.prog w = .ok (.enter 73 args) w := enters_of Tryz.func73 (by kernel_rfl) rfl
    have hH : HoldsK fiCells 5 w g 0 l.toArray := fun j hj => by
      rw [size_flatK] at hj
      have hj2 : j < l.length * 5 := by simpa using hj
      have hc : j < cur.size := by rw [h5]; omega
      refine ⟨?_, frozen_of_row w g _ _ _ h2⟩
      rw [Nat.zero_add, cell_of_row w g j cur _ _ h2]
      have e := congrArg (·[j]?) h6
      simp only [List.getElem?_take, if_pos hj2, Array.getElem?_toList] at e
      rw [e]
      have hf : j < (flatK fiCells 5 l.toArray).size := by simpa using hj
      have e2 := congrArg (·[j]?) (flat_files l.toArray)
      simp only [Array.getElem?_toList] at e2
      rw [← e2, Array.getElem?_eq_getElem hf, getElem!_pos _ j hf]; rfl
    have hcon := AnyQ.slices_SortFunc ml_sortFi 5 Tryz.isAgg29 Tryz.sizeOf29 fiCells (fun _ => rfl) (fun x v hv => fisCells_one [x] v (by simpa [fisCells] using hv)) cmpF swo_cmpF 73 #[] g 0 cap l.toArray w eg (fun _ _ _ _ x y => cmpF_any x y _) hH (Array.getElem?_eq_some_iff.1 h2).1 (by simp; omega)
    change Calls Tryz.prog 72 _ _ _ at hcon
    have hla : l.toArray.size = l.length := by simp
    rw [hla] at hcon
    refine hcon.mono ?_
    rintro e w' ⟨rfl, d', n, os, hp, hsd, rfl⟩
    obtain ⟨hp1, -, hp2⟩ := hp
    have hds : d'.size = l.length := by simpa using hp1
    obtain ⟨cur2, hg2, hs2, ht2, e1, e2, e3, e4, e5⟩ := sort_world (d := d') h2 h5 (by omega) n os
    have hperm : d'.toList.Perm l := by
      have e1 : d'.extract 0 l.length = d' := by rw [← hds]; exact Array.extract_size
      have e2 : l.toArray.extract 0 l.length = l.toArray := by rw [← hla]; exact Array.extract_size
      rw [e1, e2] at hp2
      exact hp2
    refine ⟨rfl, d'.toList, hperm, ?_, ?_, e1, e2, e3, e4, fun k hk hne => e5 k hk fun e => hne (by rw [e]; rfl), fun k hk => .inl hk⟩
    · unfold Mf.Upward
      rw [List.pairwise_iff_getElem]
      intro i j hi hj hij
      rw [Array.length_toList] at hi hj
      have := hsd i j (Nat.zero_le _) hij (by omega)
      rw [ltOf_cmpF, decide_eq_false_iff_not, getElem!_pos d' j (by omega), getElem!_pos d' i (by omega)] at this
      rw [Array.getElem_toList, Array.getElem_toList]
      omega
    · have := h0.turned (m := d'.toList) hg2 hs2 (by rw [Array.length_toList]; omega) (by rw [Array.length_toList]; exact ht2)
      rwa [Array.length_toList, hds] at this
end Go.Proofs.YtbhjpkejdkfenaaGreatDoor
