/-
  Walks over package manifest: read. Conditions: those in the theorems.
-/
import Derived.Test.YtbhjpkejdkfenaaGreatDoorManRead
import Derived.Test.YtbhjpkejdkfenaaGreatDoorManText
set_option linter.unusedSimpArgs false
set_option linter.unusedVariables false
namespace Go.Proofs.YtbhjpkejdkfenaaGreatDoor
open Go.RowKit Go.Shelf Go.Sort
open Mf (File State)

set_option maxRecDepth 100000 in
theorem read_res {W : World} {tmps : Array Value} {b : Nat} {nx lg : Int} {p : Option Addr} {n cap : Nat} (h2 : tmps[2]? = some (.pointer (some ⟨b, 0, none⟩))) (h : W.heap[b]? = some (stO nx lg p n cap)) :
    (results Tryz.f56 tmps).run Tryz.prog W = .ok (stV nx lg p n cap) W := by
  obtain ⟨c0, c1, c2⟩ := st_cells h
  unfold stV
  simp [results, Tryz.results56, h2, go_sem, c0, c1, c2]
theorem chain_nil : Sm.Chain (⟨#[]⟩ : ByteArray).data.toList 0 [] ∧ Sm.bodiesOf (⟨#[]⟩ : ByteArray).data.toList 0 [] = [] := by
  refine ⟨.stop ?_, rfl⟩
  unfold Sm.behindAt
  rw [if_neg (by simp)]
set_option maxRecDepth 100000 in
set_option maxHeartbeats 4000000 in
theorem read_empty (w : World) : Calls Tryz.prog 56 #[.string ⟨#[]⟩] w fun e w' => e = .returned (stV 1 0 none 0 0) ∧ Below w.heap.size w w' := by
  have hz : (w.alloc (.cells #[.int .i64 0, .int .i64 0, .slice none 0 0] 24)).heap.size = w.heap.size + 1 := by simp
  have h2 : (w.alloc (.cells #[.int .i64 0, .int .i64 0, .slice none 0 0] 24)).heap[w.heap.size]? = some (stO 0 0 none 0 0) := heap_alloc_new _ _
  obtain ⟨W0, hW0⟩ : ∃ W0, W0 = w.alloc (.cells #[.int .i64 0, .int .i64 0, .slice none 0 0] 24) := ⟨_, rfl⟩
  rw [← hW0] at hz h2
  have hb0 : Below w.heap.size w W0 := by rw [hW0]; exact mbelow_alloc _ _
  have HC := Lib.hid (Collect_any ⟨#[]⟩ (by decide) [] chain_nil.1 [] chain_nil.2 (by simp) W0.heap.size (W0.alloc (.cells #[.string ⟨#[]⟩] 9)) (heap_alloc_new _ _))
  have HB := Lib.hid hb0
  have H2 := Lib.hid h2
  have HZ := Lib.hid hz
  clear hb0 h2 hz
  go_enter Tryz.func56, Tryz.ntmps56
  go_wp2_with fail
  rw [← hW0]
  clear hW0
  refine (All_any ⟨#[]⟩ W0).mono ?_
  rintro e w1 ⟨rfl, rfl⟩
  go_wp2_with fail
  refine HC.out.mono ?_
  rintro e w2 ⟨v, rfl, ho, hb2⟩
  obtain ⟨pt, ct, rfl, -, -, -⟩ := ho.texts
  have hb3 : Below W0.heap.size W0 w2 := (mbelow_alloc W0 _).trans (hb2.mono (by simp))
  have h3 : w2.heap[w.heap.size]? = some (stO 0 0 none 0 0) := (hb3.block _ (by have := HZ.out; omega)).trans H2.out
  have HB3 := Lib.hid (HB.out.trans (hb3.mono HB.out.size))
  obtain ⟨c0, c1, c2⟩ := st_cells h3
  have f0 := st_frozen h3 0
  have f1 := st_frozen h3 1
  have f2 := st_frozen h3 2
  have K4 := Lib.hid (st_set (nx' := 1) (lg' := 0) (p' := none) (n' := 0) (cap' := 0) h3)
  clear ho hb2 hb3 h3
  go_wp2_with fail
  refine bodyPost_ret (read_res rfl K4.out) rfl ?_
  exact ⟨rfl, st_below HB3.out (Nat.le_refl _)⟩
/-- The bodies of a state's text lie behind one another; what is cut ahead. -/
theorem TxAt.cut {W : World} {A : Addr} {xs : List ByteArray} (h : TxAt W (some A) xs) (c : Nat) : TxAt W (some (A.add c)) (xs.drop c) := fun i hi => by
  rw [List.length_drop] at hi
  obtain ⟨A', e, h2, h3⟩ := h (c + i) (by omega)
  cases e
  exact ⟨_, rfl, by rw [madd_block]; exact h2, by rw [madd, h3, List.getElem_drop]⟩
/-- A row's own block is no state's. -/
theorem own_ne {W : World} {base b : Nat} {v : Value} {xs : List File} {nx lg : Int} {p : Option Addr} {n cap : Nat} (h : OwnFis W base v xs) (hb : W.heap[b]? = some (stO nx lg p n cap)) : v.ownBlock ≠ some b := by
  intro e
  rcases h.2 with ⟨rfl, -⟩ | ⟨g, cap', cur, rfl, h1, h2, -⟩
  · simp [Value.ownBlock] at e
  · simp only [Value.ownBlock, Option.some.injEq] at e
    subst e
    rw [h2] at hb
    unfold stO at hb
    simp only [Option.some.injEq, Obj.cells.injEq] at hb
    exact absurd hb.2.1 (by decide)
def lenOf : Value → Nat
  | .slice _ n _ => n
  | _ => 0
theorem TxAt.none {W : World} {p : Option Addr} : TxAt W p [] := fun i hi => nomatch hi
set_option maxRecDepth 100000 in
set_option maxHeartbeats 16000000 in
theorem read_any (w : World) {nx lg : Int} {l : List File} (hr : Mf.Right ⟨nx, lg, l⟩) :
    Calls Tryz.prog 56 #[.string (textS ⟨nx, lg, l⟩)] w fun e w' => ∃ v, e = .returned (.agg #[.int .i64 nx, .int .i64 lg, v]) ∧ OwnFis w' w.heap.size v l ∧ Below w.heap.size w w' := by
  have hfew : l.length ≤ 200 := hr.few
  have hz : (w.alloc (.cells #[.int .i64 0, .int .i64 0, .slice none 0 0] 24)).heap.size = w.heap.size + 1 := by simp
  have h2 : (w.alloc (.cells #[.int .i64 0, .int .i64 0, .slice none 0 0] 24)).heap[w.heap.size]? = some (stO 0 0 none 0 0) := heap_alloc_new _ _
  obtain ⟨W0, hW0⟩ : ∃ W0, W0 = w.alloc (.cells #[.int .i64 0, .int .i64 0, .slice none 0 0] 24) := ⟨_, rfl⟩
  rw [← hW0] at hz h2
  have hb0 : Below w.heap.size w W0 := by rw [hW0]; exact mbelow_alloc _ _
  obtain ⟨es, hes, hbo⟩ := chain_text (bodiesS ⟨nx, lg, l⟩) fun b hb => Nat.le_trans (bodies_small hr b hb) (by omega)
  have hbl : (bodiesS ⟨nx, lg, l⟩).length = 3 + l.length * 5 := by unfold bodiesS headBodies; rw [List.length_append, flat_len]; rfl
  have hts := textS_size hr
  have HR := Lib.hid hr
  have HC := Lib.hid (Collect_any (textS ⟨nx, lg, l⟩) (by omega) es (by rw [textS_list]; exact hes) (bodiesS ⟨nx, lg, l⟩) (by rw [textS_list]; exact hbo) (by omega) W0.heap.size (W0.alloc (.cells #[.string (textS ⟨nx, lg, l⟩)] 9)) (heap_alloc_new _ _))
  have HB := Lib.hid hb0
  have H2 := Lib.hid h2
  have HZ := Lib.hid hz
  clear hb0 h2 hz hes hbo hts hr
  generalize textS ⟨nx, lg, l⟩ = tx at *
  go_enter Tryz.func56, Tryz.ntmps56
  go_wp2_with fail
  rw [← hW0]
  clear hW0
  refine (All_any tx W0).mono ?_
  rintro e w1 ⟨rfl, rfl⟩
  go_wp2_with fail
  refine HC.out.mono ?_
  rintro e w2 ⟨v, rfl, ho, hb2⟩
  obtain ⟨pt, ct, e0, hct, hcm, hta⟩ := ho.texts
  rw [hbl] at e0 hct
  subst e0
  obtain ⟨A, hA⟩ : ∃ A, pt = some A := by obtain ⟨A, e, -⟩ := hta 0 (by rw [hbl]; omega); exact ⟨A, e⟩
  subst hA
  have hb3 : Below W0.heap.size W0 w2 := (mbelow_alloc W0 _).trans (hb2.mono (by simp))
  have HB3 := Lib.hid (HB.out.trans (hb3.mono HB.out.size))
  have HRS : Hid (w2.heap[w.heap.size]? = some (stO 0 0 none 0 0)) := Lib.hid ((hb3.block _ (by have := HZ.out; omega)).trans H2.out)
  have HTA := Lib.hid hta
  have k0 : w2.cell? A = some (.string (numB nx)) := by obtain ⟨A', e, -, h⟩ := hta 0 (by rw [hbl]; omega); cases e; exact h
  have k1 : w2.cell? ⟨A.block, A.off + 1, none⟩ = some (.string (numB lg)) := by obtain ⟨A', e, -, h⟩ := hta 1 (by rw [hbl]; omega); cases e; exact h
  have hcm2 : ct ≤ 9223372036854775807 := by unfold maxLen at hcm; omega
  clear ho hb2 hb3 hta hcm
  have j1 : ¬ ((3 + l.length * 5 : Nat) : Int) < 3 := by omega
  have j2 : (1 : Int) < ((3 + l.length * 5 : Nat) : Int) := by omega
  have j3 : (0 : Int) < ((3 + l.length * 5 : Nat) : Int) := by omega
  have j4 : (3 : Int) ≤ ((3 + l.length * 5 : Nat) : Int) := by omega
  have j5 : 0 < 3 + l.length * 5 := by omega
  have j6 : 1 < 3 + l.length * 5 := by omega
  have j7 : 3 ≤ 3 + l.length * 5 := by omega
  obtain ⟨m, hm⟩ : ∃ m, m = 3 + l.length * 5 := ⟨_, rfl⟩
  rw [← hm] at j1 j2 j3 j4 j5 j6 j7 hct ⊢
  have HM := Lib.hid hm
  clear hm
  go_upto_region 4 with fail
  go_cut [4] from 12 to 20 (fun rv wc => ∃ b : Nat, rv = .pointer (some ⟨b, 0, none⟩) ∧ Hid (wc.heap[b]? = some (stO nx lg none 0 0) ∧ w2.heap.size ≤ b ∧ Below w2.heap.size w2 wc))
  case first =>
    have HS0 : Hid (w2.drew.cell? A = some (.string (numB nx)) ∧ w2.drew.cell? ⟨A.block, A.off + 1, none⟩ = some (.string (numB lg)) ∧ Below w2.heap.size w2 w2.drew) := Lib.hid ⟨k0, k1, (Below.refl _ _).drew⟩
    have HK : Hid (∀ W W2 : World, (W.cell? A = some (.string (numB nx)) ∧ W.cell? ⟨A.block, A.off + 1, none⟩ = some (.string (numB lg)) ∧ Below w2.heap.size w2 W) → Below W.heap.size W W2 → (W2.cell? A = some (.string (numB nx)) ∧ W2.cell? ⟨A.block, A.off + 1, none⟩ = some (.string (numB lg)) ∧ Below w2.heap.size w2 W2)) :=
      Lib.hid fun W W2 ⟨q0, q1, q2⟩ hb => ⟨(hb.cell (mcell_block q0)).trans q0, (hb.cell (mcell_block q1)).trans q1, q2.trans (hb.mono q2.size)⟩
    have HT1 : Hid (∀ W : World, Calls Tryz.prog 90 #[.string (numB nx)] W fun e w' => e = .returned (.int .i64 nx) ∧ Below W.heap.size W w') := Lib.hid fun W => manNumber_any (by have h := HR.out.next.1; show 0 ≤ nx; exact Int.le_trans (by decide) h) HR.out.next.2 W
    have HT2 : Hid (∀ W : World, Calls Tryz.prog 90 #[.string (numB lg)] W fun e w' => e = .returned (.int .i64 lg) ∧ Below W.heap.size W w') := Lib.hid fun W => manNumber_any HR.out.log.1 HR.out.log.2 W
    have HBO : Hid (∀ W : World, (W.cell? A = some (.string (numB nx)) ∧ W.cell? ⟨A.block, A.off + 1, none⟩ = some (.string (numB lg)) ∧ Below w2.heap.size w2 W) → Below w2.heap.size w2 W) := Lib.hid fun W h => h.2.2
    have HST : Hid (∀ (W : World) (b i : Nat) (u : Value), w2.heap.size ≤ b → (W.cell? A = some (.string (numB nx)) ∧ W.cell? ⟨A.block, A.off + 1, none⟩ = some (.string (numB lg)) ∧ Below w2.heap.size w2 W) → ((W.setCell ⟨b, i, none⟩ u).cell? A = some (.string (numB nx)) ∧ (W.setCell ⟨b, i, none⟩ u).cell? ⟨A.block, A.off + 1, none⟩ = some (.string (numB lg)) ∧ Below w2.heap.size w2 (W.setCell ⟨b, i, none⟩ u))) := Lib.hid fun W b i u hb ⟨q0, q1, q2⟩ => by
      have hl : A.block < w2.heap.size := mcell_block k0
      have hne0 : A.block ≠ b := by omega
      exact ⟨(World.cell?_setCell_far W _ _ _ (hne0).symm).trans q0, (World.cell?_setCell_far W _ _ _ (hne0).symm).trans q1, q2.setCell (by exact hb) _⟩
    have HAO : Hid (∀ (W : World) (o o' : Obj), w2.heap.size ≤ W.heap.size → ((W.alloc o).cell? A = some (.string (numB nx)) ∧ (W.alloc o).cell? ⟨A.block, A.off + 1, none⟩ = some (.string (numB lg)) ∧ Below w2.heap.size w2 (W.alloc o)) → ((W.alloc o').cell? A = some (.string (numB nx)) ∧ (W.alloc o').cell? ⟨A.block, A.off + 1, none⟩ = some (.string (numB lg)) ∧ Below w2.heap.size w2 (W.alloc o'))) := Lib.hid fun W o o' hz ⟨q0, q1, q2⟩ => by
      have hl : A.block < w2.heap.size := mcell_block k0
      have e : ∀ j, j < w2.heap.size → (W.alloc o').heap[j]? = (W.alloc o).heap[j]? := fun j hj => (Below.heap_alloc W o' j (by omega)).trans (Below.heap_alloc W o j (by omega)).symm
      have hb : Below w2.heap.size w2 (W.alloc o') := ⟨q2.os, q2.tape, q2.output, by have := q2.size; simpa using this, fun j hj => (e j hj).trans (q2.block j hj)⟩
      exact ⟨(hb.cell hl).trans k0, (hb.cell (show (⟨A.block, A.off + 1, none⟩ : Addr).block < w2.heap.size from hl)).trans k1, hb⟩
    have HS1 : Hid ((w2.alloc (.cells #[.int .i64 0, .int .i64 0, .slice none 0 0] 24)).drew.cell? A = some (.string (numB nx)) ∧ (w2.alloc (.cells #[.int .i64 0, .int .i64 0, .slice none 0 0] 24)).drew.cell? ⟨A.block, A.off + 1, none⟩ = some (.string (numB lg)) ∧ Below w2.heap.size w2 (w2.alloc (.cells #[.int .i64 0, .int .i64 0, .slice none 0 0] 24)).drew) := Lib.hid (HK.out w2.drew _ HS0.out (((Below.refl w2.heap.size w2.drew).alloc (Nat.le_refl _) (.cells #[.int .i64 0, .int .i64 0, .slice none 0 0] 24)).trans ⟨rfl, rfl, rfl, Nat.le_refl _, fun _ _ => rfl⟩))
    clear HC HRS HTA HR HB HB3 H2
    refine wp_region_held_drew (S := fun W => W.cell? A = some (.string (numB nx)) ∧ W.cell? ⟨A.block, A.off + 1, none⟩ = some (.string (numB lg)) ∧ Below w2.heap.size w2 W) (by kernel_rfl) HS0.out (fun hHeld => ?_)
    refine wpAnyH_take (i := 0) (oi := _) (v := ?_) rfl (by kernel_rfl) (by kernel_rfl) (by kernel_rfl) (fun _ _ _ h => h) (Or.inl ⟨by rfl, ?_⟩) hHeld ?_
    rotate_left 1
    · (intro w hSw; obtain ⟨g0, g1, -⟩ := hSw; go_simp; (try with_reducible rfl))
    try simp only [Act.put, List.setIfInBounds_toArray, List.set_cons_zero, List.set_cons_succ]
    refine wpAnyH_take (i := 1) (oi := _) (v := ?_) rfl (by kernel_rfl) (by kernel_rfl) (by kernel_rfl) (fun _ _ _ h => h) (Or.inl ⟨by rfl, ?_⟩) hHeld ?_
    rotate_left 1
    · (intro w hSw; obtain ⟨g0, g1, -⟩ := hSw; go_simp; (try with_reducible rfl))
    try simp only [Act.put, List.setIfInBounds_toArray, List.set_cons_zero, List.set_cons_succ]
    refine wpAnyH_take (i := 2) (oi := _) (v := ?_) rfl (by kernel_rfl) (by kernel_rfl) (by kernel_rfl) (fun _ _ _ h => h) (Or.inl ⟨by rfl, ?_⟩) hHeld ?_
    rotate_left 1
    · (intro w hSw; obtain ⟨g0, g1, -⟩ := hSw; go_simp; (try with_reducible rfl))
    try simp only [Act.put, List.setIfInBounds_toArray, List.set_cons_zero, List.set_cons_succ]
    refine wpAnyH_take (i := 4) (oi := _) (v := ?_) rfl (by kernel_rfl) (by kernel_rfl) (by kernel_rfl) (fun _ _ _ h => h) (Or.inl ⟨by rfl, ?_⟩) hHeld ?_
    rotate_left 1
    · (intro w hSw; obtain ⟨g0, g1, -⟩ := hSw; go_simp; (try with_reducible rfl))
    try simp only [Act.put, List.setIfInBounds_toArray, List.set_cons_zero, List.set_cons_succ]
    refine wpAnyH_take (i := 5) (oi := _) (v := ?_) rfl (by kernel_rfl) (by kernel_rfl) (by kernel_rfl) (fun _ _ _ h => h) (Or.inl ⟨by rfl, ?_⟩) hHeld ?_
    rotate_left 1
    · (intro w hSw; obtain ⟨g0, g1, -⟩ := hSw; go_simp; (try with_reducible rfl))
    try simp only [Act.put, List.setIfInBounds_toArray, List.set_cons_zero, List.set_cons_succ]
    refine wpAnyH_take (i := 6) (oi := _) (v := ?_) rfl (by kernel_rfl) (by kernel_rfl) (by kernel_rfl) (fun _ _ _ h => h) (Or.inl ⟨by rfl, ?_⟩) hHeld ?_
    rotate_left 1
    · (intro w hSw; obtain ⟨g0, g1, -⟩ := hSw; go_simp; (try with_reducible rfl))
    try simp only [Act.put, List.setIfInBounds_toArray, List.set_cons_zero, List.set_cons_succ]
    refine wpAnyH_ready (rs := [3, 9]) (by kernel_rfl) (by simp) ?_
    refine AllReadyH.cons (o := _) rfl (fun K hK => ?_) (AllReadyH.cons (o := _) rfl (fun K hK => ?_) AllReadyH.nil)
    · go_simp
      refine (HT1.out _).mono ?_
      rintro e w3 ⟨rfl, hb3⟩
      refine hK.out _ _ (HK.out _ _ hHeld hb3) (fun hH3 => ?_)
      clear hK K
      try simp only [Act.put, List.setIfInBounds_toArray, List.set_cons_zero, List.set_cons_succ]
      refine wpAnyH_ready (rs := [7, 9]) (by kernel_rfl) (by simp) ?_
      refine AllReadyH.cons (o := _) rfl (fun K hK => ?_) (AllReadyH.cons (o := _) rfl (fun K hK => ?_) AllReadyH.nil)
      · go_simp
        refine (HT2.out _).mono ?_
        rintro e w4 ⟨rfl, hb4⟩
        refine hK.out _ _ (HK.out _ _ hH3 hb4) (fun hH4 => ?_)
        clear hK K
        try simp only [Act.put, List.setIfInBounds_toArray, List.set_cons_zero, List.set_cons_succ]
        refine wpAnyH_take (i := 8) (oi := _) (v := ?_) rfl (by kernel_rfl) (by kernel_rfl) (by kernel_rfl) (fun _ _ _ h => h) (Or.inl ⟨by rfl, ?_⟩) hH4 ?_
        rotate_left 1
        · (intro w hSw; obtain ⟨g0, g1, -⟩ := hSw; go_simp; (try with_reducible rfl))
        try simp only [Act.put, List.setIfInBounds_toArray, List.set_cons_zero, List.set_cons_succ]
        refine wpAnyH_ready (rs := [9]) (by kernel_rfl) (by simp) ?_
        refine AllReadyH.cons (o := _) rfl (fun K hK => ?_) AllReadyH.nil
        have hz4 : w2.heap.size ≤ w4.heap.size := (HBO.out _ hH4).size
        go_simp
        refine hK.out _ _ (HK.out _ _ hH4 (mbelow_alloc _ _)) (fun hH5 => ?_)
        clear hK K
        try simp only [Act.put, List.setIfInBounds_toArray, List.set_cons_zero, List.set_cons_succ]
        refine wpAnyH_ready (rs := [10]) (by kernel_rfl) (by simp) ?_
        refine AllReadyH.cons (o := _) rfl (fun K hK => ?_) AllReadyH.nil
        go_simp
        refine hK.out _ _ (HAO.out w4 (.cells #[.int .i64 0, .int .i64 0, .slice none 0 0] 24) _ hz4 hH5) (fun hH6 => ?_)
        clear hK K
        try simp only [Act.put, List.setIfInBounds_toArray, List.set_cons_zero, List.set_cons_succ]
        refine wpAnyH_done (by kernel_rfl) ?_ _
        go_wp2_with fail
        go_meet
        case rel => exact ⟨_, rfl, Lib.hid ⟨heap_alloc_new _ _, hz4, HBO.out _ hH6⟩⟩
      · have hz3 : w2.heap.size ≤ w3.heap.size := (HBO.out _ hH3).size
        go_simp
        refine hK.out _ _ (HK.out _ _ hH3 (mbelow_alloc _ _)) (fun hH4 => ?_)
        clear hK K
        try simp only [Act.put, List.setIfInBounds_toArray, List.set_cons_zero, List.set_cons_succ]
        refine wpAnyH_ready (rs := [7]) (by kernel_rfl) (by simp) ?_
        refine AllReadyH.cons (o := _) rfl (fun K hK => ?_) AllReadyH.nil
        go_simp
        refine (HT2.out _).mono ?_
        rintro e w4 ⟨rfl, hb4⟩
        have kz : w4.heap[w3.heap.size]? = some (stO 0 0 none 0 0) := (hb4.block _ (by simp)).trans (heap_alloc_new w3 _)
        obtain ⟨q0, q1, q2⟩ := st_cells kz
        have r0 := st_frozen kz 0
        have r1 := st_frozen kz 1
        have r2 := st_frozen kz 2
        refine hK.out _ _ (HK.out _ _ hH4 hb4) (fun hH5 => ?_)
        clear hK K
        try simp only [Act.put, List.setIfInBounds_toArray, List.set_cons_zero, List.set_cons_succ]
        refine wpAnyH_take (i := 8) (oi := _) (v := ?_) rfl (by kernel_rfl) (by kernel_rfl) (by kernel_rfl) (fun _ _ _ h => h) (Or.inl ⟨by rfl, ?_⟩) hH5 ?_
        rotate_left 1
        · (intro w hSw; obtain ⟨g0, g1, -⟩ := hSw; go_simp; (try with_reducible rfl))
        try simp only [Act.put, List.setIfInBounds_toArray, List.set_cons_zero, List.set_cons_succ]
        refine wpAnyH_ready (rs := [10]) (by kernel_rfl) (by simp) ?_
        refine AllReadyH.cons (o := _) rfl (fun K hK => ?_) AllReadyH.nil
        go_simp
        refine hK.out _ _ (HST.out _ _ _ _ hz3 (HST.out _ _ _ _ hz3 (HST.out _ _ _ _ hz3 hH5))) (fun hH6 => ?_)
        clear hK K
        try simp only [Act.put, List.setIfInBounds_toArray, List.set_cons_zero, List.set_cons_succ]
        refine wpAnyH_done (by kernel_rfl) ?_ _
        go_wp2_with fail
        go_meet
        case rel => exact ⟨_, rfl, Lib.hid ⟨st_set kz, hz3, HBO.out _ hH6⟩⟩
    · go_simp
      refine hK.out _ _ HS1.out (fun hH3 => ?_)
      clear hK K
      try simp only [Act.put, List.setIfInBounds_toArray, List.set_cons_zero, List.set_cons_succ]
      refine wpAnyH_ready (rs := [3]) (by kernel_rfl) (by simp) ?_
      refine AllReadyH.cons (o := _) rfl (fun K hK => ?_) AllReadyH.nil
      go_simp
      refine (HT1.out _).mono ?_
      rintro e w3 ⟨rfl, hb3⟩
      have kz3 : w3.heap[w2.heap.size]? = some (stO 0 0 none 0 0) := (hb3.block _ (by simp)).trans (heap_alloc_new w2 _)
      refine hK.out _ _ (HK.out _ _ hH3 hb3) (fun hH4 => ?_)
      clear hK K
      try simp only [Act.put, List.setIfInBounds_toArray, List.set_cons_zero, List.set_cons_succ]
      refine wpAnyH_ready (rs := [7]) (by kernel_rfl) (by simp) ?_
      refine AllReadyH.cons (o := _) rfl (fun K hK => ?_) AllReadyH.nil
      go_simp
      refine (HT2.out _).mono ?_
      rintro e w4 ⟨rfl, hb4⟩
      have kz : w4.heap[w2.heap.size]? = some (stO 0 0 none 0 0) := (hb4.block _ (Array.getElem?_eq_some_iff.1 kz3).1).trans kz3
      obtain ⟨q0, q1, q2⟩ := st_cells kz
      have r0 := st_frozen kz 0
      have r1 := st_frozen kz 1
      have r2 := st_frozen kz 2
      refine hK.out _ _ (HK.out _ _ hH4 hb4) (fun hH5 => ?_)
      clear hK K
      try simp only [Act.put, List.setIfInBounds_toArray, List.set_cons_zero, List.set_cons_succ]
      refine wpAnyH_take (i := 8) (oi := _) (v := ?_) rfl (by kernel_rfl) (by kernel_rfl) (by kernel_rfl) (fun _ _ _ h => h) (Or.inl ⟨by rfl, ?_⟩) hH5 ?_
      rotate_left 1
      · (intro w hSw; obtain ⟨g0, g1, -⟩ := hSw; go_simp; (try with_reducible rfl))
      try simp only [Act.put, List.setIfInBounds_toArray, List.set_cons_zero, List.set_cons_succ]
      refine wpAnyH_ready (rs := [10]) (by kernel_rfl) (by simp) ?_
      refine AllReadyH.cons (o := _) rfl (fun K hK => ?_) AllReadyH.nil
      go_simp
      refine hK.out _ _ (HST.out _ _ _ _ (Nat.le_refl _) (HST.out _ _ _ _ (Nat.le_refl _) (HST.out _ _ _ _ (Nat.le_refl _) hH5))) (fun hH6 => ?_)
      clear hK K
      try simp only [Act.put, List.setIfInBounds_toArray, List.set_cons_zero, List.set_cons_succ]
      refine wpAnyH_done (by kernel_rfl) ?_ _
      go_wp2_with fail
      go_meet
      case rel => exact ⟨_, rfl, Lib.hid ⟨st_set kz, (Nat.le_refl _), HBO.out _ hH6⟩⟩
  case rest =>
    obtain ⟨b, rfl, H1⟩ := hcut
    obtain ⟨p3, hp3, ht3⟩ : ∃ p3, (if ct = 3 then some A else some (⟨A.block, A.off + 3, none⟩ : Addr)) = p3 ∧ Hid (TxAt w2 p3 (filesBodies l)) := by
      have hd : (bodiesS ⟨nx, lg, l⟩).drop 3 = filesBodies l := rfl
      by_cases h : ct = 3
      · refine ⟨_, rfl, Lib.hid ?_⟩
        have h0 : l = [] := by
          have := HM.out
          exact List.eq_nil_of_length_eq_zero (by omega)
        subst h0
        exact TxAt.none
      · rw [if_neg h]
        exact ⟨_, rfl, Lib.hid (by rw [← hd]; exact HTA.out.cut 3)⟩
    have HMM := Lib.hid (And.intro HM.out hct)
    have HFI : Hid (∀ f ∈ l, FiIn f ∧ (0 ≤ f.n ∧ f.n ≤ 1099511627776) ∧ (0 ≤ f.level ∧ f.level ≤ 1099511627776) ∧ (0 ≤ f.count ∧ f.count ≤ 1099511627776)) := Lib.hid fun f hf => by
      obtain ⟨a1, a2, a3, a4, a5, a6, a7, a8, -⟩ := HR.out.files f hf
      have a0 := HR.out.numbered.1 f hf
      have a9 := HR.out.next
      simp only at a0 a9
      unfold FiIn I64 maxLen
      exact ⟨⟨by omega, by omega, by omega, by omega, by omega⟩, by omega, by omega, by omega⟩
    have HBZ : Hid (w2.heap.size ≤ b) := Lib.hid H1.out.2.1
    clear k0 k1
    go_wp2_with fail
    go_loopw [3] (fun lv wr => ∃ (k : Nat) (p' : Option Addr) (c' : Nat), k ≤ l.length ∧ lv = .slice p' (5 * (l.length - k)) c' ∧ 5 * (l.length - k) ≤ c' ∧ c' ≤ 9223372036854775807 ∧
      Hid (TxAt w2 p' (filesBodies (l.drop k)) ∧ (∃ (pv : Option Addr) (cv : Nat), wr.heap[b]? = some (stO nx lg pv k cv) ∧ OwnFis wr w2.heap.size (.slice pv k cv) (l.take k)) ∧ Below w2.heap.size w2 wr)) (fun lv _ => lenOf lv)
    case atStart => exact ⟨0, p3, ct - 3, Nat.zero_le _, by (congr 1; have := HMM.out; omega), by (have := HMM.out; omega), by omega, Lib.hid ⟨ht3.out, ⟨none, 0, H1.out.1, OwnFis.nil _ _⟩, H1.out.2.2⟩⟩
    case round =>
      obtain ⟨k, p', c', hk, rfl, hc5, hcm5, H⟩ := hrel
      by_cases hlt : k < l.length
      · have HNN : Hid (5 * (l.length - k) = 5 * (l.length - (k + 1)) + 5) := Lib.hid (by omega)
        have hn5 : 5 ≤ 5 * (l.length - k) := by omega
        obtain ⟨n5, hn⟩ : ∃ n5, n5 = 5 * (l.length - k) := ⟨_, rfl⟩
        have HN5 := Lib.hid hn
        rw [← hn] at hn5 hc5 ⊢
        clear hn
        have i1 : (5 : Int) ≤ (n5 : Int) := by omega
        have i2 : 0 < n5 := by omega
        have i3 : 1 < n5 := by omega
        have i4 : 2 < n5 := by omega
        have i5 : 3 < n5 := by omega
        have i6 : 4 < n5 := by omega
        have j2 : (0 : Int) < (n5 : Int) := by omega
        have j3 : (1 : Int) < (n5 : Int) := by omega
        have j4 : (2 : Int) < (n5 : Int) := by omega
        have j5 : (3 : Int) < (n5 : Int) := by omega
        have j6 : (4 : Int) < (n5 : Int) := by omega
        have hdrop : filesBodies (l.drop k) = fileBodies l[k] ++ filesBodies (l.drop (k + 1)) := by rw [List.drop_eq_getElem_cons hlt]; rfl
        have htk : l.take (k + 1) = l.take k ++ [l[k]] := List.take_succ_eq_append_getElem hlt
        have hfi := HFI.out _ (List.getElem_mem hlt)
        have hLk : (l.take k).length = k := by rw [List.length_take]; omega
        obtain ⟨htx, ⟨pv, cv, hrb, hov⟩, hbw⟩ := H.out
        rw [hdrop] at htx
        generalize l[k] = y at *
        obtain ⟨fn, fl, fc, ff, ft⟩ := y
        have hget : ∀ j (hj : j < 5), ∃ A5, p' = some A5 ∧ w2.cell? (A5.add j) = some (.string ((fileBodies ⟨fn, fl, fc, ff, ft⟩)[j]'(by exact hj))) := fun j hj => by
          obtain ⟨A5, e, -, h⟩ := htx j (by rw [List.length_append]; show j < 5 + _; omega)
          refine ⟨A5, e, ?_⟩
          rw [h, List.getElem_append_left (by exact hj)]
        obtain ⟨A5, rfl, e0⟩ := hget 0 (by omega)
        have e1 : w2.cell? ⟨A5.block, A5.off + 1, none⟩ = some (.string (numB fl)) := by obtain ⟨A', e, h⟩ := hget 1 (by omega); cases e; exact h
        have e2 : w2.cell? ⟨A5.block, A5.off + 2, none⟩ = some (.string (numB fc)) := by obtain ⟨A', e, h⟩ := hget 2 (by omega); cases e; exact h
        have e3 : w2.cell? ⟨A5.block, A5.off + 3, none⟩ = some (.string ff) := by obtain ⟨A', e, h⟩ := hget 3 (by omega); cases e; exact h
        have e4 : w2.cell? ⟨A5.block, A5.off + 4, none⟩ = some (.string ft) := by obtain ⟨A', e, h⟩ := hget 4 (by omega); cases e; exact h
        have e00 : w2.cell? A5 = some (.string (numB fn)) := e0
        have HSB : Hid (∀ W : World, Below w2.heap.size w2 W → (W.cell? A5 = some (.string (numB fn)) ∧ W.cell? ⟨A5.block, A5.off + 1, none⟩ = some (.string (numB fl)) ∧ W.cell? ⟨A5.block, A5.off + 2, none⟩ = some (.string (numB fc)) ∧ W.cell? ⟨A5.block, A5.off + 3, none⟩ = some (.string ff) ∧ W.cell? ⟨A5.block, A5.off + 4, none⟩ = some (.string ft) ∧ Below w2.heap.size w2 W)) := Lib.hid fun W hW =>
          ⟨(hW.cell (mcell_block e00)).trans e00, (hW.cell (mcell_block e1)).trans e1, (hW.cell (mcell_block e2)).trans e2, (hW.cell (mcell_block e3)).trans e3, (hW.cell (mcell_block e4)).trans e4, hW⟩
        obtain ⟨p5, hp5, ht5⟩ : ∃ p5, (if c' = 5 then some A5 else some (⟨A5.block, A5.off + 5, none⟩ : Addr)) = p5 ∧ Hid (TxAt w2 p5 (filesBodies (l.drop (k + 1)))) := by
          by_cases h : c' = 5
          · refine ⟨_, rfl, Lib.hid ?_⟩
            have h0 : l.drop (k + 1) = [] := by
              have := HN5.out
              exact List.drop_eq_nil_of_le (by omega)
            rw [h0]
            exact TxAt.none
          · rw [if_neg h]
            exact ⟨_, rfl, Lib.hid (htx.cut 5)⟩
        have HT1 : Hid (∀ W : World, Calls Tryz.prog 90 #[.string (numB fn)] W fun e w' => e = .returned (.int .i64 fn) ∧ Below W.heap.size W w') := Lib.hid fun W => manNumber_any hfi.2.1.1 hfi.2.1.2 W
        have HT2 : Hid (∀ W : World, Calls Tryz.prog 90 #[.string (numB fl)] W fun e w' => e = .returned (.int .i64 fl) ∧ Below W.heap.size W w') := Lib.hid fun W => manNumber_any hfi.2.2.1.1 hfi.2.2.1.2 W
        have HT3 : Hid (∀ W : World, Calls Tryz.prog 90 #[.string (numB fc)] W fun e w' => e = .returned (.int .i64 fc) ∧ Below W.heap.size W w') := Lib.hid fun W => manNumber_any hfi.2.2.2.1 hfi.2.2.2.2 W
        have HAP : Hid (∀ W : World, W.heap[b]? = some (stO nx lg pv k cv) → OwnFis W w2.heap.size (.slice pv k cv) (l.take k) → Below w2.heap.size w2 W → ∃ (pv2 : Option Addr) (cv2 : Nat) (W' : World),
            (Builtin.append_ #[22, 22] 22 #[.slice pv k cv, .slice (some ⟨W.heap.size, 0, none⟩) 1 1]).run Tryz.prog (W.alloc (.cells #[.int .i64 fn, .int .i64 fl, .int .i64 fc, .string ff, .string ft] 29)) = .ok (.slice pv2 (k + 1) cv2) W' ∧
            Below w2.heap.size w2 W' ∧ W'.cell? ⟨b, 2, none⟩ = some (.slice pv k cv) ∧ W'.frozen? ⟨b, 2, none⟩ = false ∧
            (W'.setCell ⟨b, 2, none⟩ (.slice pv2 (k + 1) cv2)).heap[b]? = some (stO nx lg pv2 (k + 1) cv2) ∧ OwnFis (W'.setCell ⟨b, 2, none⟩ (.slice pv2 (k + 1) cv2)) w2.heap.size (.slice pv2 (k + 1) cv2) (l.take (k + 1)) ∧ Below w2.heap.size w2 (W'.setCell ⟨b, 2, none⟩ (.slice pv2 (k + 1) cv2))) := Lib.hid fun W hr ho hB => by
          obtain ⟨pv2, cv2, W', hrun, ho2, hg⟩ := f_append ho (mbelow_alloc W (.cells #[.int .i64 fn, .int .i64 fl, .int .i64 fc, .string ff, .string ft] 29)) ⟨W.heap.size, 0, none⟩ [⟨fn, fl, fc, ff, ft⟩] 1 1 rfl (by simpa [fisCells, fiCells] using news_five W _ _ _ _ _ _) (by omega) hB.size 22
          rw [hLk] at hrun ho2 hg
          rw [← htk] at ho2
          have hr2 : W'.heap[b]? = some (stO nx lg pv k cv) := (hg.block b (Array.getElem?_eq_some_iff.1 hr).1 (own_ne ho hr)).trans hr
          have hB2 : Below w2.heap.size w2 W' := hg.below hB hB.size fun j hj => (ho.lt j hj).1
          obtain ⟨-, -, c2⟩ := st_cells hr2
          exact ⟨pv2, cv2, W', hrun, hB2, c2, st_frozen hr2 2, mset hr2 _, ho2.stays fun j _ hj => Below.heap_setCell _ _ _ _ (fun e => own_ne ho2 hr2 (by rw [hj, e])), hB2.setCell HBZ.out _⟩
        have hB0 : Below w2.heap.size w2 wr.drew := hbw.drew
        have hr0 : wr.drew.heap[b]? = some (stO nx lg pv k cv) := hrb
        have ho0 : OwnFis wr.drew w2.heap.size (.slice pv k cv) (l.take k) := hov.below (Below.refl _ _).drew
        obtain ⟨-, -, cr0⟩ := st_cells hr0
        clear hdrop htk hfi hLk hget e0 e00 e1 e2 e3 e4 htx hrb hov hbw H HC HRS HTA HB HB3 H2 HM HFI
        go_upto_region 8 with fail
        refine wp_region_held_drew (S := fun W => W.cell? A5 = some (.string (numB fn)) ∧ W.cell? ⟨A5.block, A5.off + 1, none⟩ = some (.string (numB fl)) ∧ W.cell? ⟨A5.block, A5.off + 2, none⟩ = some (.string (numB fc)) ∧ W.cell? ⟨A5.block, A5.off + 3, none⟩ = some (.string ff) ∧ W.cell? ⟨A5.block, A5.off + 4, none⟩ = some (.string ft) ∧ Below w2.heap.size w2 W) (by kernel_rfl) (HSB.out _ hB0) (fun hHeld => ?_)
        refine wpAnyH_take (i := 0) (oi := _) (v := ?_) rfl (by kernel_rfl) (by kernel_rfl) (by kernel_rfl) (fun _ _ _ h => h) (Or.inl ⟨by rfl, ?_⟩) hHeld ?_
        rotate_left 1
        · (intro w hSw; obtain ⟨g0, g1, g2, g3, g4, -⟩ := hSw; go_simp; (try with_reducible rfl))
        try simp only [Act.put, List.setIfInBounds_toArray, List.set_cons_zero, List.set_cons_succ]
        refine wpAnyH_take (i := 2) (oi := _) (v := ?_) rfl (by kernel_rfl) (by kernel_rfl) (by kernel_rfl) (fun _ _ _ h => h) (Or.inl ⟨by rfl, ?_⟩) hHeld ?_
        rotate_left 1
        · (intro w hSw; obtain ⟨g0, g1, g2, g3, g4, -⟩ := hSw; go_simp; (try with_reducible rfl))
        try simp only [Act.put, List.setIfInBounds_toArray, List.set_cons_zero, List.set_cons_succ]
        refine wpAnyH_take (i := 3) (oi := _) (v := ?_) rfl (by kernel_rfl) (by kernel_rfl) (by kernel_rfl) (fun _ _ _ h => h) (Or.inl ⟨by rfl, ?_⟩) hHeld ?_
        rotate_left 1
        · (intro w hSw; obtain ⟨g0, g1, g2, g3, g4, -⟩ := hSw; go_simp; (try with_reducible rfl))
        try simp only [Act.put, List.setIfInBounds_toArray, List.set_cons_zero, List.set_cons_succ]
        refine wpAnyH_take (i := 4) (oi := _) (v := ?_) rfl (by kernel_rfl) (by kernel_rfl) (by kernel_rfl) (fun _ _ _ h => h) (Or.inl ⟨by rfl, ?_⟩) hHeld ?_
        rotate_left 1
        · (intro w hSw; obtain ⟨g0, g1, g2, g3, g4, -⟩ := hSw; go_simp; (try with_reducible rfl))
        try simp only [Act.put, List.setIfInBounds_toArray, List.set_cons_zero, List.set_cons_succ]
        refine wpAnyH_take (i := 6) (oi := _) (v := ?_) rfl (by kernel_rfl) (by kernel_rfl) (by kernel_rfl) (fun _ _ _ h => h) (Or.inl ⟨by rfl, ?_⟩) hHeld ?_
        rotate_left 1
        · (intro w hSw; obtain ⟨g0, g1, g2, g3, g4, -⟩ := hSw; go_simp; (try with_reducible rfl))
        try simp only [Act.put, List.setIfInBounds_toArray, List.set_cons_zero, List.set_cons_succ]
        refine wpAnyH_take (i := 7) (oi := _) (v := ?_) rfl (by kernel_rfl) (by kernel_rfl) (by kernel_rfl) (fun _ _ _ h => h) (Or.inl ⟨by rfl, ?_⟩) hHeld ?_
        rotate_left 1
        · (intro w hSw; obtain ⟨g0, g1, g2, g3, g4, -⟩ := hSw; go_simp; (try with_reducible rfl))
        try simp only [Act.put, List.setIfInBounds_toArray, List.set_cons_zero, List.set_cons_succ]
        refine wpAnyH_take (i := 8) (oi := _) (v := ?_) rfl (by kernel_rfl) (by kernel_rfl) (by kernel_rfl) (fun _ _ _ h => h) (Or.inl ⟨by rfl, ?_⟩) hHeld ?_
        rotate_left 1
        · (intro w hSw; obtain ⟨g0, g1, g2, g3, g4, -⟩ := hSw; go_simp; (try with_reducible rfl))
        try simp only [Act.put, List.setIfInBounds_toArray, List.set_cons_zero, List.set_cons_succ]
        refine wpAnyH_take (i := 10) (oi := _) (v := ?_) rfl (by kernel_rfl) (by kernel_rfl) (by kernel_rfl) (fun _ _ _ h => h) (Or.inl ⟨by rfl, ?_⟩) hHeld ?_
        rotate_left 1
        · (intro w hSw; obtain ⟨g0, g1, g2, g3, g4, -⟩ := hSw; go_simp; (try with_reducible rfl))
        try simp only [Act.put, List.setIfInBounds_toArray, List.set_cons_zero, List.set_cons_succ]
        refine wpAnyH_take (i := 11) (oi := _) (v := ?_) rfl (by kernel_rfl) (by kernel_rfl) (by kernel_rfl) (fun _ _ _ h => h) (Or.inl ⟨by rfl, ?_⟩) hHeld ?_
        rotate_left 1
        · (intro w hSw; obtain ⟨g0, g1, g2, g3, g4, -⟩ := hSw; go_simp; (try with_reducible rfl))
        try simp only [Act.put, List.setIfInBounds_toArray, List.set_cons_zero, List.set_cons_succ]
        refine wpAnyH_take (i := 12) (oi := _) (v := ?_) rfl (by kernel_rfl) (by kernel_rfl) (by kernel_rfl) (fun _ _ _ h => h) (Or.inl ⟨by rfl, ?_⟩) hHeld ?_
        rotate_left 1
        · (intro w hSw; obtain ⟨g0, g1, g2, g3, g4, -⟩ := hSw; go_simp; (try with_reducible rfl))
        try simp only [Act.put, List.setIfInBounds_toArray, List.set_cons_zero, List.set_cons_succ]
        refine wpAnyH_take (i := 14) (oi := _) (v := ?_) rfl (by kernel_rfl) (by kernel_rfl) (by kernel_rfl) (fun _ _ _ h => h) (Or.inl ⟨by rfl, ?_⟩) hHeld ?_
        rotate_left 1
        · (intro w hSw; obtain ⟨g0, g1, g2, g3, g4, -⟩ := hSw; go_simp; (try with_reducible rfl))
        try simp only [Act.put, List.setIfInBounds_toArray, List.set_cons_zero, List.set_cons_succ]
        refine wpAnyH_take (i := 15) (oi := _) (v := ?_) rfl (by kernel_rfl) (by kernel_rfl) (by kernel_rfl) (fun _ _ _ h => h) (Or.inl ⟨by rfl, ?_⟩) hHeld ?_
        rotate_left 1
        · (intro w hSw; obtain ⟨g0, g1, g2, g3, g4, -⟩ := hSw; go_simp; (try with_reducible rfl))
        try simp only [Act.put, List.setIfInBounds_toArray, List.set_cons_zero, List.set_cons_succ]
        refine wpAnyH_take (i := 16) (oi := _) (v := ?_) rfl (by kernel_rfl) (by kernel_rfl) (by kernel_rfl) (fun _ _ _ h => h) (Or.inl ⟨by rfl, ?_⟩) hHeld ?_
        rotate_left 1
        · (intro w hSw; obtain ⟨g0, g1, g2, g3, g4, -⟩ := hSw; go_simp; (try with_reducible rfl))
        try simp only [Act.put, List.setIfInBounds_toArray, List.set_cons_zero, List.set_cons_succ]
        refine wpAnyH_take (i := 17) (oi := _) (v := ?_) rfl (by kernel_rfl) (by kernel_rfl) (by kernel_rfl) (fun _ _ _ h => h) (Or.inl ⟨by rfl, ?_⟩) hHeld ?_
        rotate_left 1
        · (intro w hSw; obtain ⟨g0, g1, g2, g3, g4, -⟩ := hSw; go_simp; (try with_reducible rfl))
        try simp only [Act.put, List.setIfInBounds_toArray, List.set_cons_zero, List.set_cons_succ]
        refine wpAnyH_take (i := 18) (oi := _) (v := ?_) rfl (by kernel_rfl) (by kernel_rfl) (by kernel_rfl) (fun _ _ _ h => h) (Or.inl ⟨by rfl, ?_⟩) hHeld ?_
        rotate_left 1
        · (intro w hSw; obtain ⟨g0, g1, g2, g3, g4, -⟩ := hSw; go_simp; (try with_reducible rfl))
        try simp only [Act.put, List.setIfInBounds_toArray, List.set_cons_zero, List.set_cons_succ]
        refine wpAnyH_take (i := 19) (oi := _) (v := ?_) rfl (by kernel_rfl) (by kernel_rfl) (by kernel_rfl) (fun _ _ _ h => h) (Or.inl ⟨by rfl, ?_⟩) hHeld ?_
        rotate_left 1
        · (intro w hSw; obtain ⟨g0, g1, g2, g3, g4, -⟩ := hSw; go_simp; (try with_reducible rfl))
        try simp only [Act.put, List.setIfInBounds_toArray, List.set_cons_zero, List.set_cons_succ]
        refine wpAnyH_ready (rs := [1, 5]) (by kernel_rfl) (by simp) ?_
        refine AllReadyH.cons (o := _) rfl (fun K hK => ?_) (AllReadyH.cons (o := _) rfl (fun K hK => ?_) AllReadyH.nil)
        · go_simp
          refine hK.out _ _ (HSB.out _ hB0) (fun hL1 => ?_)
          clear hK K
          try simp only [Act.put, List.setIfInBounds_toArray, List.set_cons_zero, List.set_cons_succ]
          refine wpAnyH_ready (rs := [5]) (by kernel_rfl) (by simp) ?_
          refine AllReadyH.cons (o := _) rfl (fun K hK => ?_) AllReadyH.nil
          go_simp
          refine (HT1.out _).mono ?_
          rintro e w1 ⟨rfl, hb1⟩
          have hB1 := hB0.trans (hb1.mono hB0.size)
          have hr1 := (hb1.block _ (Array.getElem?_eq_some_iff.1 hr0).1).trans hr0
          have ho1 := ho0.below hb1
          obtain ⟨-, -, cr1⟩ := st_cells hr1
          refine hK.out _ _ (HSB.out _ hB1) (fun hH1 => ?_)
          clear hK K
          try simp only [Act.put, List.setIfInBounds_toArray, List.set_cons_zero, List.set_cons_succ]
          refine wpAnyH_ready (rs := [9]) (by kernel_rfl) (by simp) ?_
          refine AllReadyH.cons (o := _) rfl (fun K hK => ?_) AllReadyH.nil
          go_simp
          refine (HT2.out _).mono ?_
          rintro e w2 ⟨rfl, hb2⟩
          have hB2 := hB1.trans (hb2.mono hB1.size)
          have hr2 := (hb2.block _ (Array.getElem?_eq_some_iff.1 hr1).1).trans hr1
          have ho2 := ho1.below hb2
          obtain ⟨-, -, cr2⟩ := st_cells hr2
          refine hK.out _ _ (HSB.out _ hB2) (fun hH2 => ?_)
          clear hK K
          try simp only [Act.put, List.setIfInBounds_toArray, List.set_cons_zero, List.set_cons_succ]
          refine wpAnyH_ready (rs := [13]) (by kernel_rfl) (by simp) ?_
          refine AllReadyH.cons (o := _) rfl (fun K hK => ?_) AllReadyH.nil
          go_simp
          refine (HT3.out _).mono ?_
          rintro e w3 ⟨rfl, hb3⟩
          have hB3 := hB2.trans (hb3.mono hB2.size)
          have hr3 := (hb3.block _ (Array.getElem?_eq_some_iff.1 hr2).1).trans hr2
          have ho3 := ho2.below hb3
          obtain ⟨-, -, cr3⟩ := st_cells hr3
          refine hK.out _ _ (HSB.out _ hB3) (fun hH3 => ?_)
          clear hK K
          try simp only [Act.put, List.setIfInBounds_toArray, List.set_cons_zero, List.set_cons_succ]
          refine wpAnyH_take (i := 20) (oi := _) (v := ?_) rfl (by kernel_rfl) (by kernel_rfl) (by kernel_rfl) (fun _ _ _ h => h) (Or.inl ⟨by rfl, ?_⟩) (HSB.out _ hB3) ?_
          rotate_left 1
          · (intro w hSw; obtain ⟨g0, g1, g2, g3, g4, -⟩ := hSw; go_simp; (try with_reducible rfl))
          try simp only [Act.put, List.setIfInBounds_toArray, List.set_cons_zero, List.set_cons_succ]
          refine wpAnyH_ready (rs := [21]) (by kernel_rfl) (by simp) ?_
          refine AllReadyH.cons (o := _) rfl (fun K hK => ?_) AllReadyH.nil
          go_simp
          refine hK.out _ _ (HSB.out _ (hB3.alloc hB3.size _)) (fun hHa => ?_)
          clear hK K
          try simp only [Act.put, List.setIfInBounds_toArray, List.set_cons_zero, List.set_cons_succ]
          refine wpAnyH_ready (rs := [22]) (by kernel_rfl) (by simp) ?_
          refine AllReadyH.cons (o := _) rfl (fun K hK => ?_) AllReadyH.nil
          obtain ⟨pv2, cv2, W', hrun, hB', cr', fr', hr'', ho'', hB''⟩ := HAP.out w3 hr3 ho3 hB3
          refine mtab_append_run rfl (.tmp 29) (.tmp 49) _ _ rfl _ _ rfl rfl _ _ hrun ?_
          refine hK.out _ _ (HSB.out _ hB') (fun hHb => ?_)
          clear hK K
          try simp only [Act.put, List.setIfInBounds_toArray, List.set_cons_zero, List.set_cons_succ]
          refine wpAnyH_take (i := 23) (oi := _) (v := ?_) rfl (by kernel_rfl) (by kernel_rfl) (by kernel_rfl) (fun _ _ _ h => h) (Or.inl ⟨by rfl, ?_⟩) (HSB.out _ hB') ?_
          rotate_left 1
          · (intro w hSw; obtain ⟨g0, g1, g2, g3, g4, -⟩ := hSw; go_simp; (try with_reducible rfl))
          try simp only [Act.put, List.setIfInBounds_toArray, List.set_cons_zero, List.set_cons_succ]
          refine wpAnyH_ready (rs := [24]) (by kernel_rfl) (by simp) ?_
          refine AllReadyH.cons (o := _) rfl (fun K hK => ?_) AllReadyH.nil
          go_simp
          refine hK.out _ _ (HSB.out _ hB'') (fun hHc => ?_)
          clear hK K
          try simp only [Act.put, List.setIfInBounds_toArray, List.set_cons_zero, List.set_cons_succ]
          refine wpAnyH_done (by kernel_rfl) ?_ _
          have HE := Lib.hid (And.intro hr'' (And.intro ho'' hB''))
          go_wp2_with fail
          go_roundw
          case rel => exact ⟨k + 1, p5, c' - 5, by omega, by (congr 1; have h1 := HN5.out; have h2 := HNN.out; omega), by (have h1 := HN5.out; have h2 := HNN.out; omega), by omega, Lib.hid ⟨ht5.out, ⟨pv2, cv2, HE.out.1, HE.out.2.1⟩, HE.out.2.2⟩⟩
          case measure => (show n5 - 5 < n5; omega)
        · go_simp
          refine (HT1.out _).mono ?_
          rintro e w1 ⟨rfl, hb1⟩
          have hB1 := hB0.trans (hb1.mono hB0.size)
          have hr1 := (hb1.block _ (Array.getElem?_eq_some_iff.1 hr0).1).trans hr0
          have ho1 := ho0.below hb1
          obtain ⟨-, -, cr1⟩ := st_cells hr1
          refine hK.out _ _ (HSB.out _ hB1) (fun hH1 => ?_)
          clear hK K
          try simp only [Act.put, List.setIfInBounds_toArray, List.set_cons_zero, List.set_cons_succ]
          refine wpAnyH_ready (rs := [1, 9]) (by kernel_rfl) (by simp) ?_
          refine AllReadyH.cons (o := _) rfl (fun K hK => ?_) (AllReadyH.cons (o := _) rfl (fun K hK => ?_) AllReadyH.nil)
          · go_simp
            refine hK.out _ _ (HSB.out _ hB1) (fun hL2 => ?_)
            clear hK K
            try simp only [Act.put, List.setIfInBounds_toArray, List.set_cons_zero, List.set_cons_succ]
            refine wpAnyH_ready (rs := [9]) (by kernel_rfl) (by simp) ?_
            refine AllReadyH.cons (o := _) rfl (fun K hK => ?_) AllReadyH.nil
            go_simp
            refine (HT2.out _).mono ?_
            rintro e w2 ⟨rfl, hb2⟩
            have hB2 := hB1.trans (hb2.mono hB1.size)
            have hr2 := (hb2.block _ (Array.getElem?_eq_some_iff.1 hr1).1).trans hr1
            have ho2 := ho1.below hb2
            obtain ⟨-, -, cr2⟩ := st_cells hr2
            refine hK.out _ _ (HSB.out _ hB2) (fun hH2 => ?_)
            clear hK K
            try simp only [Act.put, List.setIfInBounds_toArray, List.set_cons_zero, List.set_cons_succ]
            refine wpAnyH_ready (rs := [13]) (by kernel_rfl) (by simp) ?_
            refine AllReadyH.cons (o := _) rfl (fun K hK => ?_) AllReadyH.nil
            go_simp
            refine (HT3.out _).mono ?_
            rintro e w3 ⟨rfl, hb3⟩
            have hB3 := hB2.trans (hb3.mono hB2.size)
            have hr3 := (hb3.block _ (Array.getElem?_eq_some_iff.1 hr2).1).trans hr2
            have ho3 := ho2.below hb3
            obtain ⟨-, -, cr3⟩ := st_cells hr3
            refine hK.out _ _ (HSB.out _ hB3) (fun hH3 => ?_)
            clear hK K
            try simp only [Act.put, List.setIfInBounds_toArray, List.set_cons_zero, List.set_cons_succ]
            refine wpAnyH_take (i := 20) (oi := _) (v := ?_) rfl (by kernel_rfl) (by kernel_rfl) (by kernel_rfl) (fun _ _ _ h => h) (Or.inl ⟨by rfl, ?_⟩) (HSB.out _ hB3) ?_
            rotate_left 1
            · (intro w hSw; obtain ⟨g0, g1, g2, g3, g4, -⟩ := hSw; go_simp; (try with_reducible rfl))
            try simp only [Act.put, List.setIfInBounds_toArray, List.set_cons_zero, List.set_cons_succ]
            refine wpAnyH_ready (rs := [21]) (by kernel_rfl) (by simp) ?_
            refine AllReadyH.cons (o := _) rfl (fun K hK => ?_) AllReadyH.nil
            go_simp
            refine hK.out _ _ (HSB.out _ (hB3.alloc hB3.size _)) (fun hHa => ?_)
            clear hK K
            try simp only [Act.put, List.setIfInBounds_toArray, List.set_cons_zero, List.set_cons_succ]
            refine wpAnyH_ready (rs := [22]) (by kernel_rfl) (by simp) ?_
            refine AllReadyH.cons (o := _) rfl (fun K hK => ?_) AllReadyH.nil
            obtain ⟨pv2, cv2, W', hrun, hB', cr', fr', hr'', ho'', hB''⟩ := HAP.out w3 hr3 ho3 hB3
            refine mtab_append_run rfl (.tmp 29) (.tmp 49) _ _ rfl _ _ rfl rfl _ _ hrun ?_
            refine hK.out _ _ (HSB.out _ hB') (fun hHb => ?_)
            clear hK K
            try simp only [Act.put, List.setIfInBounds_toArray, List.set_cons_zero, List.set_cons_succ]
            refine wpAnyH_take (i := 23) (oi := _) (v := ?_) rfl (by kernel_rfl) (by kernel_rfl) (by kernel_rfl) (fun _ _ _ h => h) (Or.inl ⟨by rfl, ?_⟩) (HSB.out _ hB') ?_
            rotate_left 1
            · (intro w hSw; obtain ⟨g0, g1, g2, g3, g4, -⟩ := hSw; go_simp; (try with_reducible rfl))
            try simp only [Act.put, List.setIfInBounds_toArray, List.set_cons_zero, List.set_cons_succ]
            refine wpAnyH_ready (rs := [24]) (by kernel_rfl) (by simp) ?_
            refine AllReadyH.cons (o := _) rfl (fun K hK => ?_) AllReadyH.nil
            go_simp
            refine hK.out _ _ (HSB.out _ hB'') (fun hHc => ?_)
            clear hK K
            try simp only [Act.put, List.setIfInBounds_toArray, List.set_cons_zero, List.set_cons_succ]
            refine wpAnyH_done (by kernel_rfl) ?_ _
            have HE := Lib.hid (And.intro hr'' (And.intro ho'' hB''))
            go_wp2_with fail
            go_roundw
            case rel => exact ⟨k + 1, p5, c' - 5, by omega, by (congr 1; have h1 := HN5.out; have h2 := HNN.out; omega), by (have h1 := HN5.out; have h2 := HNN.out; omega), by omega, Lib.hid ⟨ht5.out, ⟨pv2, cv2, HE.out.1, HE.out.2.1⟩, HE.out.2.2⟩⟩
            case measure => (show n5 - 5 < n5; omega)
          · go_simp
            refine (HT2.out _).mono ?_
            rintro e w2 ⟨rfl, hb2⟩
            have hB2 := hB1.trans (hb2.mono hB1.size)
            have hr2 := (hb2.block _ (Array.getElem?_eq_some_iff.1 hr1).1).trans hr1
            have ho2 := ho1.below hb2
            obtain ⟨-, -, cr2⟩ := st_cells hr2
            refine hK.out _ _ (HSB.out _ hB2) (fun hH2 => ?_)
            clear hK K
            try simp only [Act.put, List.setIfInBounds_toArray, List.set_cons_zero, List.set_cons_succ]
            refine wpAnyH_ready (rs := [1, 13]) (by kernel_rfl) (by simp) ?_
            refine AllReadyH.cons (o := _) rfl (fun K hK => ?_) (AllReadyH.cons (o := _) rfl (fun K hK => ?_) AllReadyH.nil)
            · go_simp
              refine hK.out _ _ (HSB.out _ hB2) (fun hL3 => ?_)
              clear hK K
              try simp only [Act.put, List.setIfInBounds_toArray, List.set_cons_zero, List.set_cons_succ]
              refine wpAnyH_ready (rs := [13]) (by kernel_rfl) (by simp) ?_
              refine AllReadyH.cons (o := _) rfl (fun K hK => ?_) AllReadyH.nil
              go_simp
              refine (HT3.out _).mono ?_
              rintro e w3 ⟨rfl, hb3⟩
              have hB3 := hB2.trans (hb3.mono hB2.size)
              have hr3 := (hb3.block _ (Array.getElem?_eq_some_iff.1 hr2).1).trans hr2
              have ho3 := ho2.below hb3
              obtain ⟨-, -, cr3⟩ := st_cells hr3
              refine hK.out _ _ (HSB.out _ hB3) (fun hH3 => ?_)
              clear hK K
              try simp only [Act.put, List.setIfInBounds_toArray, List.set_cons_zero, List.set_cons_succ]
              refine wpAnyH_take (i := 20) (oi := _) (v := ?_) rfl (by kernel_rfl) (by kernel_rfl) (by kernel_rfl) (fun _ _ _ h => h) (Or.inl ⟨by rfl, ?_⟩) (HSB.out _ hB3) ?_
              rotate_left 1
              · (intro w hSw; obtain ⟨g0, g1, g2, g3, g4, -⟩ := hSw; go_simp; (try with_reducible rfl))
              try simp only [Act.put, List.setIfInBounds_toArray, List.set_cons_zero, List.set_cons_succ]
              refine wpAnyH_ready (rs := [21]) (by kernel_rfl) (by simp) ?_
              refine AllReadyH.cons (o := _) rfl (fun K hK => ?_) AllReadyH.nil
              go_simp
              refine hK.out _ _ (HSB.out _ (hB3.alloc hB3.size _)) (fun hHa => ?_)
              clear hK K
              try simp only [Act.put, List.setIfInBounds_toArray, List.set_cons_zero, List.set_cons_succ]
              refine wpAnyH_ready (rs := [22]) (by kernel_rfl) (by simp) ?_
              refine AllReadyH.cons (o := _) rfl (fun K hK => ?_) AllReadyH.nil
              obtain ⟨pv2, cv2, W', hrun, hB', cr', fr', hr'', ho'', hB''⟩ := HAP.out w3 hr3 ho3 hB3
              refine mtab_append_run rfl (.tmp 29) (.tmp 49) _ _ rfl _ _ rfl rfl _ _ hrun ?_
              refine hK.out _ _ (HSB.out _ hB') (fun hHb => ?_)
              clear hK K
              try simp only [Act.put, List.setIfInBounds_toArray, List.set_cons_zero, List.set_cons_succ]
              refine wpAnyH_take (i := 23) (oi := _) (v := ?_) rfl (by kernel_rfl) (by kernel_rfl) (by kernel_rfl) (fun _ _ _ h => h) (Or.inl ⟨by rfl, ?_⟩) (HSB.out _ hB') ?_
              rotate_left 1
              · (intro w hSw; obtain ⟨g0, g1, g2, g3, g4, -⟩ := hSw; go_simp; (try with_reducible rfl))
              try simp only [Act.put, List.setIfInBounds_toArray, List.set_cons_zero, List.set_cons_succ]
              refine wpAnyH_ready (rs := [24]) (by kernel_rfl) (by simp) ?_
              refine AllReadyH.cons (o := _) rfl (fun K hK => ?_) AllReadyH.nil
              go_simp
              refine hK.out _ _ (HSB.out _ hB'') (fun hHc => ?_)
              clear hK K
              try simp only [Act.put, List.setIfInBounds_toArray, List.set_cons_zero, List.set_cons_succ]
              refine wpAnyH_done (by kernel_rfl) ?_ _
              have HE := Lib.hid (And.intro hr'' (And.intro ho'' hB''))
              go_wp2_with fail
              go_roundw
              case rel => exact ⟨k + 1, p5, c' - 5, by omega, by (congr 1; have h1 := HN5.out; have h2 := HNN.out; omega), by (have h1 := HN5.out; have h2 := HNN.out; omega), by omega, Lib.hid ⟨ht5.out, ⟨pv2, cv2, HE.out.1, HE.out.2.1⟩, HE.out.2.2⟩⟩
              case measure => (show n5 - 5 < n5; omega)
            · go_simp
              refine (HT3.out _).mono ?_
              rintro e w3 ⟨rfl, hb3⟩
              have hB3 := hB2.trans (hb3.mono hB2.size)
              have hr3 := (hb3.block _ (Array.getElem?_eq_some_iff.1 hr2).1).trans hr2
              have ho3 := ho2.below hb3
              obtain ⟨-, -, cr3⟩ := st_cells hr3
              refine hK.out _ _ (HSB.out _ hB3) (fun hH3 => ?_)
              clear hK K
              try simp only [Act.put, List.setIfInBounds_toArray, List.set_cons_zero, List.set_cons_succ]
              refine wpAnyH_take (i := 20) (oi := _) (v := ?_) rfl (by kernel_rfl) (by kernel_rfl) (by kernel_rfl) (fun _ _ _ h => h) (Or.inl ⟨by rfl, ?_⟩) (HSB.out _ hB3) ?_
              rotate_left 1
              · (intro w hSw; obtain ⟨g0, g1, g2, g3, g4, -⟩ := hSw; go_simp; (try with_reducible rfl))
              try simp only [Act.put, List.setIfInBounds_toArray, List.set_cons_zero, List.set_cons_succ]
              refine wpAnyH_ready (rs := [1, 21]) (by kernel_rfl) (by simp) ?_
              refine AllReadyH.cons (o := _) rfl (fun K hK => ?_) (AllReadyH.cons (o := _) rfl (fun K hK => ?_) AllReadyH.nil)
              · go_simp
                refine hK.out _ _ (HSB.out _ hB3) (fun hL4 => ?_)
                clear hK K
                try simp only [Act.put, List.setIfInBounds_toArray, List.set_cons_zero, List.set_cons_succ]
                refine wpAnyH_ready (rs := [21]) (by kernel_rfl) (by simp) ?_
                refine AllReadyH.cons (o := _) rfl (fun K hK => ?_) AllReadyH.nil
                go_simp
                refine hK.out _ _ (HSB.out _ (hB3.alloc hB3.size _)) (fun hHa => ?_)
                clear hK K
                try simp only [Act.put, List.setIfInBounds_toArray, List.set_cons_zero, List.set_cons_succ]
                refine wpAnyH_ready (rs := [22]) (by kernel_rfl) (by simp) ?_
                refine AllReadyH.cons (o := _) rfl (fun K hK => ?_) AllReadyH.nil
                obtain ⟨pv2, cv2, W', hrun, hB', cr', fr', hr'', ho'', hB''⟩ := HAP.out w3 hr3 ho3 hB3
                refine mtab_append_run rfl (.tmp 29) (.tmp 49) _ _ rfl _ _ rfl rfl _ _ hrun ?_
                refine hK.out _ _ (HSB.out _ hB') (fun hHb => ?_)
                clear hK K
                try simp only [Act.put, List.setIfInBounds_toArray, List.set_cons_zero, List.set_cons_succ]
                refine wpAnyH_take (i := 23) (oi := _) (v := ?_) rfl (by kernel_rfl) (by kernel_rfl) (by kernel_rfl) (fun _ _ _ h => h) (Or.inl ⟨by rfl, ?_⟩) (HSB.out _ hB') ?_
                rotate_left 1
                · (intro w hSw; obtain ⟨g0, g1, g2, g3, g4, -⟩ := hSw; go_simp; (try with_reducible rfl))
                try simp only [Act.put, List.setIfInBounds_toArray, List.set_cons_zero, List.set_cons_succ]
                refine wpAnyH_ready (rs := [24]) (by kernel_rfl) (by simp) ?_
                refine AllReadyH.cons (o := _) rfl (fun K hK => ?_) AllReadyH.nil
                go_simp
                refine hK.out _ _ (HSB.out _ hB'') (fun hHc => ?_)
                clear hK K
                try simp only [Act.put, List.setIfInBounds_toArray, List.set_cons_zero, List.set_cons_succ]
                refine wpAnyH_done (by kernel_rfl) ?_ _
                have HE := Lib.hid (And.intro hr'' (And.intro ho'' hB''))
                go_wp2_with fail
                go_roundw
                case rel => exact ⟨k + 1, p5, c' - 5, by omega, by (congr 1; have h1 := HN5.out; have h2 := HNN.out; omega), by (have h1 := HN5.out; have h2 := HNN.out; omega), by omega, Lib.hid ⟨ht5.out, ⟨pv2, cv2, HE.out.1, HE.out.2.1⟩, HE.out.2.2⟩⟩
                case measure => (show n5 - 5 < n5; omega)
              · go_simp
                refine hK.out _ _ (HSB.out _ (hB3.alloc hB3.size _)) (fun hHa => ?_)
                clear hK K
                try simp only [Act.put, List.setIfInBounds_toArray, List.set_cons_zero, List.set_cons_succ]
                refine wpAnyH_ready (rs := [1]) (by kernel_rfl) (by simp) ?_
                refine AllReadyH.cons (o := _) rfl (fun K hK => ?_) AllReadyH.nil
                have crA : (w3.alloc (.cells #[.int .i64 fn, .int .i64 fl, .int .i64 fc, .string ff, .string ft] 29)).cell? ⟨b, 2, none⟩ = some (.slice pv k cv) := ((mbelow_alloc w3 _).cell (mcell_block cr3)).trans cr3
                go_simp
                refine hK.out _ _ (HSB.out _ (hB3.alloc hB3.size _)) (fun hHz => ?_)
                clear hK K
                try simp only [Act.put, List.setIfInBounds_toArray, List.set_cons_zero, List.set_cons_succ]
                refine wpAnyH_ready (rs := [22]) (by kernel_rfl) (by simp) ?_
                refine AllReadyH.cons (o := _) rfl (fun K hK => ?_) AllReadyH.nil
                obtain ⟨pv2, cv2, W', hrun, hB', cr', fr', hr'', ho'', hB''⟩ := HAP.out w3 hr3 ho3 hB3
                refine mtab_append_run rfl (.tmp 29) (.tmp 49) _ _ rfl _ _ rfl rfl _ _ hrun ?_
                refine hK.out _ _ (HSB.out _ hB') (fun hHb => ?_)
                clear hK K
                try simp only [Act.put, List.setIfInBounds_toArray, List.set_cons_zero, List.set_cons_succ]
                refine wpAnyH_take (i := 23) (oi := _) (v := ?_) rfl (by kernel_rfl) (by kernel_rfl) (by kernel_rfl) (fun _ _ _ h => h) (Or.inl ⟨by rfl, ?_⟩) (HSB.out _ hB') ?_
                rotate_left 1
                · (intro w hSw; obtain ⟨g0, g1, g2, g3, g4, -⟩ := hSw; go_simp; (try with_reducible rfl))
                try simp only [Act.put, List.setIfInBounds_toArray, List.set_cons_zero, List.set_cons_succ]
                refine wpAnyH_ready (rs := [24]) (by kernel_rfl) (by simp) ?_
                refine AllReadyH.cons (o := _) rfl (fun K hK => ?_) AllReadyH.nil
                go_simp
                refine hK.out _ _ (HSB.out _ hB'') (fun hHc => ?_)
                clear hK K
                try simp only [Act.put, List.setIfInBounds_toArray, List.set_cons_zero, List.set_cons_succ]
                refine wpAnyH_done (by kernel_rfl) ?_ _
                have HE := Lib.hid (And.intro hr'' (And.intro ho'' hB''))
                go_wp2_with fail
                go_roundw
                case rel => exact ⟨k + 1, p5, c' - 5, by omega, by (congr 1; have h1 := HN5.out; have h2 := HNN.out; omega), by (have h1 := HN5.out; have h2 := HNN.out; omega), by omega, Lib.hid ⟨ht5.out, ⟨pv2, cv2, HE.out.1, HE.out.2.1⟩, HE.out.2.2⟩⟩
                case measure => (show n5 - 5 < n5; omega)
      · obtain rfl : k = l.length := by omega
        rw [Nat.sub_self] at hc5 ⊢
        obtain ⟨-, ⟨pv, cv, hrb, hov⟩, hbw⟩ := H.out
        rw [List.take_length] at hov
        have hrs : wr.heap[w.heap.size]? = some (stO 0 0 none 0 0) := (hbw.block _ (Array.getElem?_eq_some_iff.1 HRS.out).1).trans HRS.out
        have hlt2 := (Array.getElem?_eq_some_iff.1 HRS.out).1
        obtain ⟨a0, a1, a2⟩ := st_cells hrb
        obtain ⟨c0, c1, c2⟩ := st_cells hrs
        have f0 := st_frozen hrs 0
        have f1 := st_frozen hrs 1
        have f2 := st_frozen hrs 2
        have K4 := Lib.hid (st_set (nx' := nx) (lg' := lg) (p' := pv) (n' := l.length) (cap' := cv) hrs)
        have HE := Lib.hid (And.intro hov hbw)
        clear hrb hov hbw hrs
        go_wp2_with fail
        refine bodyPost_ret (read_res rfl K4.out) rfl ?_
        refine ⟨_, rfl, (HE.out.1.stays fun j _ hj => ?_).mono HB3.out.size, st_below (HB3.out.trans (HE.out.2.mono HB3.out.size)) (Nat.le_refl _)⟩
        have hne : j ≠ w.heap.size := by have := (HE.out.1.lt j hj).1; omega
        exact (Below.heap_setCell _ _ _ _ hne).trans ((Below.heap_setCell _ _ _ _ hne).trans (Below.heap_setCell _ _ _ _ hne))
end Go.Proofs.YtbhjpkejdkfenaaGreatDoor
