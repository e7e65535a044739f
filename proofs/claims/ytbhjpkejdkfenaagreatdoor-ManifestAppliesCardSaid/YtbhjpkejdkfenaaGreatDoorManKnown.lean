/-
  The law ManifestKnown, walked. No condition.
-/
import Derived.Test.YtbhjpkejdkfenaaGreatDoorManTurned
set_option linter.unusedSimpArgs false
set_option linter.unusedVariables false
namespace Go.Proofs.YtbhjpkejdkfenaaGreatDoor
open Go.RowKit Go.Shelf
open Mf (File State Edit)
def thirdF : File := ⟨3, 1, 2, ⟨#[97]⟩, ⟨#[99]⟩⟩
theorem apply_k1 : Mf.apply ⟨1, 0, []⟩ ⟨[], [oneF], 2, 0⟩ = (0, ⟨2, 0, [oneF]⟩) :=
  Mf.apply_of right_new (right_one (by decide) (by decide) (by decide) (by decide)) (l := []) rfl (by decide) (by decide) (List.Perm.refl _)
theorem right_two : Mf.Right ⟨3, 0, [oneF, otherF]⟩ := by
  refine ⟨⟨by decide, by decide⟩, ⟨by decide, by decide⟩, (show 2 ≤ 200 by decide), ⟨fun f hf => ?_, ?_⟩, fun f hf => ?_, ?_⟩
  · rcases List.mem_cons.1 hf with rfl | hf
    · exact ⟨by decide, by decide⟩
    · rw [List.mem_singleton.1 hf]; exact ⟨by decide, by decide⟩
  · exact List.pairwise_cons.2 ⟨fun g hg => by rw [List.mem_singleton.1 hg]; decide, List.pairwise_singleton _ _⟩
  · rcases List.mem_cons.1 hf with rfl | hf
    · exact isFile_one
    · rw [List.mem_singleton.1 hf]; exact isFile_other
  · exact List.pairwise_cons.2 ⟨fun g hg => by rw [List.mem_singleton.1 hg]; exact fun h => absurd h.1 (by decide), List.pairwise_singleton _ _⟩
theorem right_other : Mf.Right ⟨3, 5, [otherF]⟩ := by
  refine ⟨⟨by decide, by decide⟩, ⟨by decide, by decide⟩, (show 1 ≤ 200 by decide), ⟨fun f hf => ?_, List.pairwise_singleton _ _⟩, fun f hf => ?_, List.pairwise_singleton _ _⟩
  · rw [List.mem_singleton.1 hf]; exact ⟨by decide, by decide⟩
  · rw [List.mem_singleton.1 hf]; exact isFile_other
theorem right_k1 : Mf.Right ⟨2, 0, [oneF]⟩ := right_one (by decide) (by decide) (by decide) (by decide)
theorem apply_k2 : Mf.apply ⟨2, 0, [oneF]⟩ ⟨[1], [otherF], 3, 5⟩ = (0, ⟨3, 5, [otherF]⟩) :=
  Mf.apply_of right_k1 right_other (l := []) rfl (by decide) (by decide) (List.Perm.refl _)
theorem apply_k3 : Mf.apply ⟨1, 0, []⟩ ⟨[1], [], 0, 0⟩ = (4, ⟨0, 0, []⟩) := apply_none right_new rfl
theorem apply_k4 : Mf.apply ⟨1, 0, []⟩ ⟨[], [oneF], 0, 0⟩ = (1, ⟨0, 0, []⟩) := by
  unfold Mf.apply
  rw [if_neg (fun k => k right_new)]
  simp only [Mf.dropAll]
  rw [if_neg (by unfold Mf.Twice; simp), if_pos ?_]
  intro h
  have := (h.numbered.1 oneF (by exact List.mem_singleton.2 rfl)).2
  exact absurd this (by decide)
theorem apply_k5 : Mf.apply ⟨2, 0, [oneF]⟩ ⟨[], [oneF], 0, 0⟩ = (5, ⟨0, 0, []⟩) := apply_there right_k1 (l := [oneF]) rfl (by unfold Mf.Twice; decide)
theorem not_right_met : ¬ Mf.Right ⟨4, 0, [otherF, thirdF]⟩ := fun h => by
  have := (List.pairwise_cons.1 h.apart).1 thirdF (List.mem_singleton.2 rfl)
  exact this ⟨by decide, by decide, (lt_bytes [99] [98]).trans (by decide), (lt_bytes [98] [97]).trans (by decide)⟩
theorem not_right_zero : ¬ Mf.Right ⟨0, 0, []⟩ := fun h => absurd h.next.1 (by decide)
theorem ints_new (w : World) (n : Int) (hn : I64 n) (t : TypeId) : IntsM (w.alloc (.cells #[.int .i64 n] t)) (some ⟨w.heap.size, 0, none⟩) [n] := fun i hi => by
  obtain rfl : i = 0 := by simpa using hi
  refine ⟨_, rfl, by simp, ?_, hn⟩
  show (w.alloc _).cell? ⟨w.heap.size, 0, none⟩ = _
  simp
theorem files_two (w : World) (f g : File) (hf : FiIn f) (hg : FiIn g) (t : TypeId) : FilesAt (w.alloc (.cells #[.int .i64 f.n, .int .i64 f.level, .int .i64 f.count, .string f.first, .string f.last, .int .i64 g.n, .int .i64 g.level, .int .i64 g.count, .string g.first, .string g.last] t)) (some ⟨w.heap.size, 0, none⟩) [f, g] := by
  have key : ∀ j, j < 10 → (w.alloc (.cells #[.int .i64 f.n, .int .i64 f.level, .int .i64 f.count, .string f.first, .string f.last, .int .i64 g.n, .int .i64 g.level, .int .i64 g.count, .string g.first, .string g.last] t)).cell? ((⟨w.heap.size, 0, none⟩ : Addr).add j) = (fiCells f ++ fiCells g)[j]? := by
    intro j hj
    have hadd : (⟨w.heap.size, 0, none⟩ : Addr).add j = ⟨w.heap.size, j, none⟩ := by unfold Addr.add; split <;> simp_all
    rw [hadd, cell_of_row _ _ _ _ _ _ (heap_alloc_new w _)]
    match j, hj with
    | 0, _ => rfl
    | 1, _ => rfl
    | 2, _ => rfl
    | 3, _ => rfl
    | 4, _ => rfl
    | 5, _ => rfl
    | 6, _ => rfl
    | 7, _ => rfl
    | 8, _ => rfl
    | 9, _ => rfl
  intro i hi
  match i, hi with
  | 0, _ =>
    refine ⟨_, rfl, by simp, fun j hj => ?_, hf⟩
    rw [Nat.zero_mul, Nat.zero_add, key j (by omega), List.getElem?_append_left (by simp [fiCells]; omega)]
    rfl
  | 1, _ =>
    refine ⟨_, rfl, by simp, fun j hj => ?_, hg⟩
    rw [key (1 * 5 + j) (by omega), List.getElem?_append_right (by simp [fiCells])]
    show (fiCells g)[1 * 5 + j - 5]? = (fiCells g)[j]?
    congr 1
    omega
theorem fiIn_third : FiIn thirdF := ⟨⟨by decide, by decide⟩, ⟨by decide, by decide⟩, ⟨by decide, by decide⟩, by decide, by decide⟩
theorem take_to (d : Option Nat) {P : Program} {md : Region.Mode} {ops : Array Oper} {Q : Exit → Act → World → Prop} {S : World → Prop} {i : Nat} {oi : Oper} {v : Value} {fuel : Nat} {listed : Array Bool} {a : Act} {w : World} (hi : ops[i]? = some oi) (hd : oi.dst = d)
    (hs : Region.noSelect ops = true) (hf : Region.free md ops listed i = true) (hr : (Region.ready md ops listed).contains i = true)
    (hQ : ∀ c a w, Q (.panic c) (a.put oi.dst v) w → Q (.panic c) a w) (hy : YieldsIf P ops S oi v a) (hS : S w)
    (h : wpAnyH P md ops Q S fuel (listed.setIfInBounds i true) (a.put d v) w) : wpAnyH P md ops Q S (fuel + 1) listed a w := by
  subst hd
  exact wpAnyH_take hi hs hf hr hQ hy hS h
/-- A state is put into its own block; the row of its tables lies elsewhere. -/
theorem stored_st {B : Nat} {w W : World} {zb base n cw : Nat} {nx lg : Int} {pw : Option Addr} {xs : List File} (hz : W.heap[zb]? = some (stO 0 0 none 0 0)) (ho : OwnFis W base (.slice pw n cw) xs) (hB : B ≤ zb) (hb : Below B w W) :
    (((W.setCell ⟨zb, 0, none⟩ (.int .i64 nx)).setCell ⟨zb, 1, none⟩ (.int .i64 lg)).setCell ⟨zb, 2, none⟩ (.slice pw n cw)).heap[zb]? = some (stO nx lg pw n cw) ∧
      OwnFis (((W.setCell ⟨zb, 0, none⟩ (.int .i64 nx)).setCell ⟨zb, 1, none⟩ (.int .i64 lg)).setCell ⟨zb, 2, none⟩ (.slice pw n cw)) 0 (.slice pw n cw) xs ∧
      Below B w (((W.setCell ⟨zb, 0, none⟩ (.int .i64 nx)).setCell ⟨zb, 1, none⟩ (.int .i64 lg)).setCell ⟨zb, 2, none⟩ (.slice pw n cw)) := by
  refine ⟨st_set hz, (ho.stays fun j _ hj => ?_).mono (Nat.zero_le _), st_below hb hB⟩
  have hne : j ≠ zb := fun e => own_ne ho hz (by rw [hj, e])
  exact (Below.heap_setCell _ _ _ _ hne).trans ((Below.heap_setCell _ _ _ _ hne).trans (Below.heap_setCell _ _ _ _ hne))
theorem applyO {w : World} {p q r : Option Addr} {cap cd ca : Nat} {l add : List File} {ds : List Int} {nx lg enx elg : Int} (hl : FilesAt w p l) (hc : l.length ≤ cap ∧ cap ≤ maxLen) (hd : IntsM w q ds) (ha : FilesAt w r add)
    (hn : l.length ≤ 1000) (hdn : ds.length ≤ 1000) (han : add.length ≤ 1000) (i1 : I64 nx) (i2 : I64 lg) (i3 : I64 enx) (i4 : I64 elg) {c : Nat} {nx' lg' : Int} {l' : List File} (ho : Mf.apply ⟨nx, lg, l⟩ ⟨ds, add, enx, elg⟩ = (c, ⟨nx', lg', l'⟩)) {n : Nat} (hln : l'.length = n) :
    Calls Tryz.prog 8 #[.agg #[.int .i64 nx, .int .i64 lg, .slice p l.length cap], .agg #[.slice q ds.length cd, .slice r add.length ca, .int .i64 enx, .int .i64 elg]] w fun e w' =>
      ∃ pw cw, e = .returned (.tuple #[.agg #[.int .i64 nx', .int .i64 lg', .slice pw n cw], .int .i64 (c : Nat)]) ∧ Hid (n ≤ cw ∧ cw ≤ maxLen) ∧ OwnFis w' w.heap.size (.slice pw n cw) l' ∧ Below w.heap.size w w' := by
  subst hln
  refine (Apply_any hl hc.1 hc.2 hd ha hn hdn han i1 i2 i3 i4).mono ?_
  rintro e w' ⟨v, rfl, hown, hb⟩
  rw [ho] at hown ⊢
  obtain ⟨pw, cw, rfl, h1, h2⟩ := hown.shape
  exact ⟨pw, cw, rfl, Lib.hid ⟨h1, h2⟩, hown, hb⟩
set_option maxRecDepth 100000 in
set_option maxHeartbeats 16000000 in
theorem manKnown_any (w : World) : Calls Tryz.prog 3 #[] w fun e w' => e = .returned (.bool true) ∧ Below w.heap.size w w' := by
  go_enter Tryz.func3, Tryz.ntmps3
  go_wp2_with fail
  refine (one_any w).mono ?_
  rintro e w1 ⟨rfl, hb1⟩
  obtain ⟨WA, hWA⟩ : ∃ x, x = w1.alloc (.cells #[.int .i64 1, .int .i64 0, .int .i64 2, .string ⟨#[97]⟩, .string ⟨#[99]⟩] 29) := ⟨_, rfl⟩
  have HBA : Hid (Below w.heap.size w WA) := Lib.hid (by rw [hWA]; exact hb1.alloc hb1.size _)
  have HAP := Lib.hid (applyO (l := []) (ds := []) (add := [oneF]) (w := WA) (p := none) (q := none) (r := some ⟨w1.heap.size, 0, none⟩) (cap := 0) (cd := 0) (ca := 1) (FilesAt.nil _ _) ⟨Nat.le_refl _, Nat.zero_le _⟩ (IntsM.nil _ _) (by rw [hWA]; exact files_new w1 oneF fiIn_one _) (by decide) (by decide) (show 1 ≤ 1000 by decide) ⟨by decide, by decide⟩ ⟨by decide, by decide⟩ ⟨by decide, by decide⟩ ⟨by decide, by decide⟩ apply_k1 (n := 1) rfl)
  clear hb1
  go_wp2_with fail
  rw [← hWA]
  clear hWA
  refine HAP.out.mono ?_
  rintro e w2 ⟨p1, c1, rfl, HC1, ho1, hb2⟩
  obtain ⟨W2, hW2⟩ : ∃ x, x = w2.alloc (.cells #[.int .i64 2, .int .i64 0, .slice p1 1 c1] 24) := ⟨_, rfl⟩
  obtain ⟨b1, hb1⟩ : ∃ b, b = w2.heap.size := ⟨_, rfl⟩
  have HB2 : Hid (Below w.heap.size w W2) := Lib.hid (by rw [hW2]; exact (HBA.out.trans (hb2.mono HBA.out.size)).alloc (Nat.le_trans HBA.out.size hb2.size) _)
  have HX1 : Hid (∀ W, Below W2.heap.size W2 W → W.heap[b1]? = some (stO 2 0 p1 1 c1)) := Lib.hid fun W hW => by
    have h : W2.heap[b1]? = some (stO 2 0 p1 1 c1) := by rw [hW2, hb1]; exact heap_alloc_new _ _
    exact (hW.block _ (Array.getElem?_eq_some_iff.1 h).1).trans h
  have F1 : Hid (FilesAt W2 p1 [oneF]) := Lib.hid (by
    obtain ⟨p', c', e, -, -, hf⟩ := ho1.files (fun f hf => by rw [List.mem_singleton.1 hf]; exact fiIn_one)
    cases e
    rw [hW2]
    exact hf.below (mbelow_alloc _ _))
  clear HAP ho1 hb2
  go_upto_region 2 with fail
  rw [← hb1, ← hW2]
  clear hW2 hb1
  go_cut [3, 4] from 26 to 34 (fun sv ev wx => ∃ (b : Nat) (p : Option Addr) (c : Nat), sv = .pointer (some ⟨b, 0, none⟩) ∧ ev = .int .i64 0 ∧ Hid (wx.heap[b]? = some (stO 3 5 p 1 c) ∧ OwnFis wx 0 (.slice p 1 c) [otherF] ∧ (1 ≤ c ∧ c ≤ maxLen) ∧ W2.heap.size ≤ b ∧ Below W2.heap.size W2 wx))
  case first =>
    have HS : Hid (∀ W, Below W2.heap.size W2 W → W.cell? ⟨b1, 0, none⟩ = some (.int .i64 2) ∧ W.cell? ⟨b1, 1, none⟩ = some (.int .i64 0) ∧ W.cell? ⟨b1, 2, none⟩ = some (.slice p1 1 c1)) := Lib.hid fun W hW => st_cells (HX1.out W hW)
    have HAP : Hid (∀ (W : World) (A1 A2 : Addr), IntsM W (some A1) [1] → FilesAt W (some A2) [otherF] → Below W2.heap.size W2 W → Calls Tryz.prog 8 #[.agg #[.int .i64 2, .int .i64 0, .slice p1 1 c1], .agg #[.slice (some A1) 1 1, .slice (some A2) 1 1, .int .i64 3, .int .i64 5]] W fun e w' => ∃ pw cw, e = .returned (.tuple #[.agg #[.int .i64 3, .int .i64 5, .slice pw 1 cw], .int .i64 0]) ∧ Hid (1 ≤ cw ∧ cw ≤ maxLen) ∧ OwnFis w' W.heap.size (.slice pw 1 cw) [otherF] ∧ Below W.heap.size W w') := Lib.hid fun W A1 A2 hi hf hW =>
      applyO (l := [oneF]) (ds := [1]) (add := [otherF]) (F1.out.below hW) HC1.out hi hf (show 1 ≤ 1000 by decide) (show 1 ≤ 1000 by decide) (show 1 ≤ 1000 by decide) ⟨by decide, by decide⟩ ⟨by decide, by decide⟩ ⟨by decide, by decide⟩ ⟨by decide, by decide⟩ apply_k2 (n := 1) rfl
    clear HX1 F1 HC1 HBA HB2



    refine wp_region_held_drew (S := fun W => W.cell? ⟨b1, 0, none⟩ = some (.int .i64 2) ∧ W.cell? ⟨b1, 1, none⟩ = some (.int .i64 0) ∧ W.cell? ⟨b1, 2, none⟩ = some (.slice p1 1 c1)) (by kernel_rfl) (HS.out _ (Below.refl _ _).drew) (fun hHeld => ?_)
    have HB := Lib.hid ((Below.refl W2.heap.size W2).drew)
    generalize W2.drew = w0_ at *
    refine take_to (some 27) (i := 0) (oi := _) (v := ?_) rfl rfl (by kernel_rfl) (by kernel_rfl) (by kernel_rfl) (fun _ _ _ h => h) (Or.inl ⟨by kernel_rfl, ?_⟩) hHeld ?_
    rotate_left 1
    · (intro w hSw; obtain ⟨g0, g1, g2⟩ := hSw; go_simp; (try with_reducible rfl))
    try simp only [Act.put, List.setIfInBounds_toArray, List.set_cons_zero, List.set_cons_succ]
    refine wpAnyH_ready (rs := [1, 2, 9]) (by kernel_rfl) (by simp) ?_
    refine AllReadyH.cons (o := _) rfl (fun K hK => ?_) (AllReadyH.cons (o := _) rfl (fun K hK => ?_) (AllReadyH.cons (o := _) rfl (fun K hK => ?_) AllReadyH.nil))
    · go_simp
      obtain ⟨wa1, ha2⟩ : ∃ x, x = w0_.alloc (.cells #[.int .i64 1] 3) := ⟨_, rfl⟩
      rw [← ha2]
      have hb : Below w0_.heap.size w0_ wa1 := by rw [ha2]; exact mbelow_alloc _ _
      have HIN := (by rw [ha2]; exact ints_new w0_ 1 ⟨by decide, by decide⟩ _ : IntsM wa1 (some ⟨w0_.heap.size, 0, none⟩) [1])
      have HB_ := Lib.hid (HB.out.trans (hb.mono HB.out.size))
      clear HB
      have HB := HB_
      clear HB_ hb ha2
      refine hK.out _ _ (HS.out _ HB.out) (fun qa3 => ?_)
      clear hK K
      try simp only [Act.put, List.setIfInBounds_toArray, List.set_cons_zero, List.set_cons_succ]
      refine wpAnyH_ready (rs := [2, 9]) (by kernel_rfl) (by simp) ?_
      refine AllReadyH.cons (o := _) rfl (fun K hK => ?_) (AllReadyH.cons (o := _) rfl (fun K hK => ?_) AllReadyH.nil)
      · go_simp
        refine (other_any wa1).mono ?_
        rintro e wa4 ⟨rfl, hb⟩
        have HIN_ := HIN.below hb
        clear HIN
        have HIN := HIN_
        clear HIN_
        have HB_ := Lib.hid (HB.out.trans (hb.mono HB.out.size))
        clear HB
        have HB := HB_
        clear HB_ hb
        refine hK.out _ _ (HS.out _ HB.out) (fun qa5 => ?_)
        clear hK K
        try simp only [Act.put, List.setIfInBounds_toArray, List.set_cons_zero, List.set_cons_succ]
        refine wpAnyH_ready (rs := [3, 9]) (by kernel_rfl) (by simp) ?_
        refine AllReadyH.cons (o := _) rfl (fun K hK => ?_) (AllReadyH.cons (o := _) rfl (fun K hK => ?_) AllReadyH.nil)
        · go_simp
          obtain ⟨wa6, ha7⟩ : ∃ x, x = wa4.alloc (.cells #[.int .i64 2, .int .i64 1, .int .i64 1, .string ⟨#[98]⟩, .string ⟨#[98]⟩] 29) := ⟨_, rfl⟩
          rw [← ha7]
          have hb : Below wa4.heap.size wa4 wa6 := by rw [ha7]; exact mbelow_alloc _ _
          have HIN_ := HIN.below hb
          clear HIN
          have HIN := HIN_
          clear HIN_
          have HFI := (by rw [ha7]; exact files_new wa4 otherF fiIn_other _ : FilesAt wa6 (some ⟨wa4.heap.size, 0, none⟩) [otherF])
          have HB_ := Lib.hid (HB.out.trans (hb.mono HB.out.size))
          clear HB
          have HB := HB_
          clear HB_ hb ha7
          refine hK.out _ _ (HS.out _ HB.out) (fun qa8 => ?_)
          clear hK K
          try simp only [Act.put, List.setIfInBounds_toArray, List.set_cons_zero, List.set_cons_succ]
          refine take_to (some 31) (i := 4) (oi := _) (v := ?_) rfl rfl (by kernel_rfl) (by kernel_rfl) (by kernel_rfl) (fun _ _ _ h => h) (Or.inl ⟨by kernel_rfl, ?_⟩) qa8 ?_
          rotate_left 1
          · (intro w hSw; obtain ⟨g0, g1, g2⟩ := hSw; go_simp; (try with_reducible rfl))
          try simp only [Act.put, List.setIfInBounds_toArray, List.set_cons_zero, List.set_cons_succ]
          refine wpAnyH_ready (rs := [5, 9]) (by kernel_rfl) (by simp) ?_
          refine AllReadyH.cons (o := _) rfl (fun K hK => ?_) (AllReadyH.cons (o := _) rfl (fun K hK => ?_) AllReadyH.nil)
          · go_simp
            refine (HAP.out wa6 _ _ HIN HFI HB.out).mono ?_
            rintro e wa9 ⟨pw, cw, rfl, HCW, HOW, hb⟩
            have HIN_ := HIN.below hb
            have HFI_ := HFI.below hb
            clear HIN
            have HIN := HIN_
            clear HIN_
            clear HFI
            have HFI := HFI_
            clear HFI_
            have HB_ := Lib.hid (HB.out.trans (hb.mono HB.out.size))
            clear HB
            have HB := HB_
            clear HB_ hb
            refine hK.out _ _ (HS.out _ HB.out) (fun qa10 => ?_)
            clear hK K
            try simp only [Act.put, List.setIfInBounds_toArray, List.set_cons_zero, List.set_cons_succ]
            refine take_to (some 26) (i := 6) (oi := _) (v := ?_) rfl rfl (by kernel_rfl) (by kernel_rfl) (by kernel_rfl) (fun _ _ _ h => h) (Or.inl ⟨by kernel_rfl, ?_⟩) qa10 ?_
            rotate_left 1
            · (intro w hSw; obtain ⟨g0, g1, g2⟩ := hSw; go_simp; (try with_reducible rfl))
            try simp only [Act.put, List.setIfInBounds_toArray, List.set_cons_zero, List.set_cons_succ]
            refine take_to (some 33) (i := 7) (oi := _) (v := ?_) rfl rfl (by kernel_rfl) (by kernel_rfl) (by kernel_rfl) (fun _ _ _ h => h) (Or.inl ⟨by kernel_rfl, ?_⟩) qa10 ?_
            rotate_left 1
            · (intro w hSw; obtain ⟨g0, g1, g2⟩ := hSw; go_simp; (try with_reducible rfl))
            try simp only [Act.put, List.setIfInBounds_toArray, List.set_cons_zero, List.set_cons_succ]
            refine take_to (some 34) (i := 8) (oi := _) (v := ?_) rfl rfl (by kernel_rfl) (by kernel_rfl) (by kernel_rfl) (fun _ _ _ h => h) (Or.inl ⟨by kernel_rfl, ?_⟩) qa10 ?_
            rotate_left 1
            · (intro w hSw; obtain ⟨g0, g1, g2⟩ := hSw; go_simp; (try with_reducible rfl))
            try simp only [Act.put, List.setIfInBounds_toArray, List.set_cons_zero, List.set_cons_succ]
            refine wpAnyH_ready (rs := [9]) (by kernel_rfl) (by simp) ?_
            refine AllReadyH.cons (o := _) rfl (fun K hK => ?_) AllReadyH.nil
            have HZN := Lib.hid (show W2.heap.size ≤ wa9.heap.size from HB.out.size)
            go_simp
            obtain ⟨wa11, ha12⟩ : ∃ x, x = wa9.alloc (.cells #[.int .i64 0, .int .i64 0, .slice none 0 0] 24) := ⟨_, rfl⟩
            rw [← ha12]
            have hb : Below wa9.heap.size wa9 wa11 := by rw [ha12]; exact mbelow_alloc _ _
            have HIN_ := HIN.below hb
            have HFI_ := HFI.below hb
            have HOW_ := HOW.below hb
            clear HIN
            have HIN := HIN_
            clear HIN_
            clear HFI
            have HFI := HFI_
            clear HFI_
            clear HOW
            have HOW := HOW_
            clear HOW_
            have HZ := (by rw [ha12]; exact heap_alloc_new wa9 _ : wa11.heap[wa9.heap.size]? = some (stO 0 0 none 0 0))
            have HB_ := Lib.hid (HB.out.trans (hb.mono HB.out.size))
            clear HB
            have HB := HB_
            clear HB_ hb ha12
            generalize wa9.heap.size = zb at *
            refine hK.out _ _ (HS.out _ HB.out) (fun qa13 => ?_)
            clear hK K
            try simp only [Act.put, List.setIfInBounds_toArray, List.set_cons_zero, List.set_cons_succ]
            refine wpAnyH_ready (rs := [10]) (by kernel_rfl) (by simp) ?_
            refine AllReadyH.cons (o := _) rfl (fun K hK => ?_) AllReadyH.nil
            obtain ⟨z0, z1, z2⟩ := st_cells HZ
            have zf0 := st_frozen HZ 0
            have zf1 := st_frozen HZ 1
            have zf2 := st_frozen HZ 2
            have HE := Lib.hid (stored_st (nx := 3) (lg := 5) HZ HOW HZN.out HB.out)
            go_simp
            refine hK.out _ _ (HS.out _ HE.out.2.2) (fun qa14 => ?_)
            clear hK K
            try simp only [Act.put, List.setIfInBounds_toArray, List.set_cons_zero, List.set_cons_succ]
            refine take_to (some 4) (i := 11) (oi := _) (v := ?_) rfl rfl (by kernel_rfl) (by kernel_rfl) (by kernel_rfl) (fun _ _ _ h => h) (Or.inl ⟨by kernel_rfl, ?_⟩) qa14 ?_
            rotate_left 1
            · (intro w hSw; obtain ⟨g0, g1, g2⟩ := hSw; go_simp; (try with_reducible rfl))
            try simp only [Act.put, List.setIfInBounds_toArray, List.set_cons_zero, List.set_cons_succ]
            refine wpAnyH_done (by kernel_rfl) ?_ _
            go_wp2_with fail
            go_meet
            exact ⟨zb, pw, cw, rfl, rfl, Lib.hid ⟨HE.out.1, HE.out.2.1, HCW.out, HZN.out, HE.out.2.2⟩⟩
          · have HZN := Lib.hid (show W2.heap.size ≤ wa6.heap.size from HB.out.size)
            go_simp
            obtain ⟨wa15, ha16⟩ : ∃ x, x = wa6.alloc (.cells #[.int .i64 0, .int .i64 0, .slice none 0 0] 24) := ⟨_, rfl⟩
            rw [← ha16]
            have hb : Below wa6.heap.size wa6 wa15 := by rw [ha16]; exact mbelow_alloc _ _
            have HIN_ := HIN.below hb
            have HFI_ := HFI.below hb
            clear HIN
            have HIN := HIN_
            clear HIN_
            clear HFI
            have HFI := HFI_
            clear HFI_
            have HZ := (by rw [ha16]; exact heap_alloc_new wa6 _ : wa15.heap[wa6.heap.size]? = some (stO 0 0 none 0 0))
            have HB_ := Lib.hid (HB.out.trans (hb.mono HB.out.size))
            clear HB
            have HB := HB_
            clear HB_ hb ha16
            generalize wa6.heap.size = zb at *
            refine hK.out _ _ (HS.out _ HB.out) (fun qa17 => ?_)
            clear hK K
            try simp only [Act.put, List.setIfInBounds_toArray, List.set_cons_zero, List.set_cons_succ]
            refine wpAnyH_ready (rs := [5]) (by kernel_rfl) (by simp) ?_
            refine AllReadyH.cons (o := _) rfl (fun K hK => ?_) AllReadyH.nil
            go_simp
            refine (HAP.out wa15 _ _ HIN HFI HB.out).mono ?_
            rintro e wa18 ⟨pw, cw, rfl, HCW, HOW, hb⟩
            have HIN_ := HIN.below hb
            have HFI_ := HFI.below hb
            have HZ_ := (hb.block _ (Array.getElem?_eq_some_iff.1 HZ).1).trans HZ
            clear HIN
            have HIN := HIN_
            clear HIN_
            clear HFI
            have HFI := HFI_
            clear HFI_
            clear HZ
            have HZ := HZ_
            clear HZ_
            have HB_ := Lib.hid (HB.out.trans (hb.mono HB.out.size))
            clear HB
            have HB := HB_
            clear HB_ hb
            refine hK.out _ _ (HS.out _ HB.out) (fun qa19 => ?_)
            clear hK K
            try simp only [Act.put, List.setIfInBounds_toArray, List.set_cons_zero, List.set_cons_succ]
            refine take_to (some 26) (i := 6) (oi := _) (v := ?_) rfl rfl (by kernel_rfl) (by kernel_rfl) (by kernel_rfl) (fun _ _ _ h => h) (Or.inl ⟨by kernel_rfl, ?_⟩) qa19 ?_
            rotate_left 1
            · (intro w hSw; obtain ⟨g0, g1, g2⟩ := hSw; go_simp; (try with_reducible rfl))
            try simp only [Act.put, List.setIfInBounds_toArray, List.set_cons_zero, List.set_cons_succ]
            refine take_to (some 33) (i := 7) (oi := _) (v := ?_) rfl rfl (by kernel_rfl) (by kernel_rfl) (by kernel_rfl) (fun _ _ _ h => h) (Or.inl ⟨by kernel_rfl, ?_⟩) qa19 ?_
            rotate_left 1
            · (intro w hSw; obtain ⟨g0, g1, g2⟩ := hSw; go_simp; (try with_reducible rfl))
            try simp only [Act.put, List.setIfInBounds_toArray, List.set_cons_zero, List.set_cons_succ]
            refine take_to (some 34) (i := 8) (oi := _) (v := ?_) rfl rfl (by kernel_rfl) (by kernel_rfl) (by kernel_rfl) (fun _ _ _ h => h) (Or.inl ⟨by kernel_rfl, ?_⟩) qa19 ?_
            rotate_left 1
            · (intro w hSw; obtain ⟨g0, g1, g2⟩ := hSw; go_simp; (try with_reducible rfl))
            try simp only [Act.put, List.setIfInBounds_toArray, List.set_cons_zero, List.set_cons_succ]
            refine wpAnyH_ready (rs := [10]) (by kernel_rfl) (by simp) ?_
            refine AllReadyH.cons (o := _) rfl (fun K hK => ?_) AllReadyH.nil
            obtain ⟨z0, z1, z2⟩ := st_cells HZ
            have zf0 := st_frozen HZ 0
            have zf1 := st_frozen HZ 1
            have zf2 := st_frozen HZ 2
            have HE := Lib.hid (stored_st (nx := 3) (lg := 5) HZ HOW HZN.out HB.out)
            go_simp
            refine hK.out _ _ (HS.out _ HE.out.2.2) (fun qa20 => ?_)
            clear hK K
            try simp only [Act.put, List.setIfInBounds_toArray, List.set_cons_zero, List.set_cons_succ]
            refine take_to (some 4) (i := 11) (oi := _) (v := ?_) rfl rfl (by kernel_rfl) (by kernel_rfl) (by kernel_rfl) (fun _ _ _ h => h) (Or.inl ⟨by kernel_rfl, ?_⟩) qa20 ?_
            rotate_left 1
            · (intro w hSw; obtain ⟨g0, g1, g2⟩ := hSw; go_simp; (try with_reducible rfl))
            try simp only [Act.put, List.setIfInBounds_toArray, List.set_cons_zero, List.set_cons_succ]
            refine wpAnyH_done (by kernel_rfl) ?_ _
            go_wp2_with fail
            go_meet
            exact ⟨zb, pw, cw, rfl, rfl, Lib.hid ⟨HE.out.1, HE.out.2.1, HCW.out, HZN.out, HE.out.2.2⟩⟩
        · have HZN := Lib.hid (show W2.heap.size ≤ wa4.heap.size from HB.out.size)
          go_simp
          obtain ⟨wa21, ha22⟩ : ∃ x, x = wa4.alloc (.cells #[.int .i64 0, .int .i64 0, .slice none 0 0] 24) := ⟨_, rfl⟩
          rw [← ha22]
          have hb : Below wa4.heap.size wa4 wa21 := by rw [ha22]; exact mbelow_alloc _ _
          have HIN_ := HIN.below hb
          clear HIN
          have HIN := HIN_
          clear HIN_
          have HZ := (by rw [ha22]; exact heap_alloc_new wa4 _ : wa21.heap[wa4.heap.size]? = some (stO 0 0 none 0 0))
          have HB_ := Lib.hid (HB.out.trans (hb.mono HB.out.size))
          clear HB
          have HB := HB_
          clear HB_ hb ha22
          generalize wa4.heap.size = zb at *
          refine hK.out _ _ (HS.out _ HB.out) (fun qa23 => ?_)
          clear hK K
          try simp only [Act.put, List.setIfInBounds_toArray, List.set_cons_zero, List.set_cons_succ]
          refine wpAnyH_ready (rs := [3]) (by kernel_rfl) (by simp) ?_
          refine AllReadyH.cons (o := _) rfl (fun K hK => ?_) AllReadyH.nil
          go_simp
          obtain ⟨wa24, ha25⟩ : ∃ x, x = wa21.alloc (.cells #[.int .i64 2, .int .i64 1, .int .i64 1, .string ⟨#[98]⟩, .string ⟨#[98]⟩] 29) := ⟨_, rfl⟩
          rw [← ha25]
          have hb : Below wa21.heap.size wa21 wa24 := by rw [ha25]; exact mbelow_alloc _ _
          have HIN_ := HIN.below hb
          have HZ_ := (hb.block _ (Array.getElem?_eq_some_iff.1 HZ).1).trans HZ
          clear HIN
          have HIN := HIN_
          clear HIN_
          clear HZ
          have HZ := HZ_
          clear HZ_
          have HFI := (by rw [ha25]; exact files_new wa21 otherF fiIn_other _ : FilesAt wa24 (some ⟨wa21.heap.size, 0, none⟩) [otherF])
          have HB_ := Lib.hid (HB.out.trans (hb.mono HB.out.size))
          clear HB
          have HB := HB_
          clear HB_ hb ha25
          refine hK.out _ _ (HS.out _ HB.out) (fun qa26 => ?_)
          clear hK K
          try simp only [Act.put, List.setIfInBounds_toArray, List.set_cons_zero, List.set_cons_succ]
          refine take_to (some 31) (i := 4) (oi := _) (v := ?_) rfl rfl (by kernel_rfl) (by kernel_rfl) (by kernel_rfl) (fun _ _ _ h => h) (Or.inl ⟨by kernel_rfl, ?_⟩) qa26 ?_
          rotate_left 1
          · (intro w hSw; obtain ⟨g0, g1, g2⟩ := hSw; go_simp; (try with_reducible rfl))
          try simp only [Act.put, List.setIfInBounds_toArray, List.set_cons_zero, List.set_cons_succ]
          refine wpAnyH_ready (rs := [5]) (by kernel_rfl) (by simp) ?_
          refine AllReadyH.cons (o := _) rfl (fun K hK => ?_) AllReadyH.nil
          go_simp
          refine (HAP.out wa24 _ _ HIN HFI HB.out).mono ?_
          rintro e wa27 ⟨pw, cw, rfl, HCW, HOW, hb⟩
          have HIN_ := HIN.below hb
          have HZ_ := (hb.block _ (Array.getElem?_eq_some_iff.1 HZ).1).trans HZ
          have HFI_ := HFI.below hb
          clear HIN
          have HIN := HIN_
          clear HIN_
          clear HZ
          have HZ := HZ_
          clear HZ_
          clear HFI
          have HFI := HFI_
          clear HFI_
          have HB_ := Lib.hid (HB.out.trans (hb.mono HB.out.size))
          clear HB
          have HB := HB_
          clear HB_ hb
          refine hK.out _ _ (HS.out _ HB.out) (fun qa28 => ?_)
          clear hK K
          try simp only [Act.put, List.setIfInBounds_toArray, List.set_cons_zero, List.set_cons_succ]
          refine take_to (some 26) (i := 6) (oi := _) (v := ?_) rfl rfl (by kernel_rfl) (by kernel_rfl) (by kernel_rfl) (fun _ _ _ h => h) (Or.inl ⟨by kernel_rfl, ?_⟩) qa28 ?_
          rotate_left 1
          · (intro w hSw; obtain ⟨g0, g1, g2⟩ := hSw; go_simp; (try with_reducible rfl))
          try simp only [Act.put, List.setIfInBounds_toArray, List.set_cons_zero, List.set_cons_succ]
          refine take_to (some 33) (i := 7) (oi := _) (v := ?_) rfl rfl (by kernel_rfl) (by kernel_rfl) (by kernel_rfl) (fun _ _ _ h => h) (Or.inl ⟨by kernel_rfl, ?_⟩) qa28 ?_
          rotate_left 1
          · (intro w hSw; obtain ⟨g0, g1, g2⟩ := hSw; go_simp; (try with_reducible rfl))
          try simp only [Act.put, List.setIfInBounds_toArray, List.set_cons_zero, List.set_cons_succ]
          refine take_to (some 34) (i := 8) (oi := _) (v := ?_) rfl rfl (by kernel_rfl) (by kernel_rfl) (by kernel_rfl) (fun _ _ _ h => h) (Or.inl ⟨by kernel_rfl, ?_⟩) qa28 ?_
          rotate_left 1
          · (intro w hSw; obtain ⟨g0, g1, g2⟩ := hSw; go_simp; (try with_reducible rfl))
          try simp only [Act.put, List.setIfInBounds_toArray, List.set_cons_zero, List.set_cons_succ]
          refine wpAnyH_ready (rs := [10]) (by kernel_rfl) (by simp) ?_
          refine AllReadyH.cons (o := _) rfl (fun K hK => ?_) AllReadyH.nil
          obtain ⟨z0, z1, z2⟩ := st_cells HZ
          have zf0 := st_frozen HZ 0
          have zf1 := st_frozen HZ 1
          have zf2 := st_frozen HZ 2
          have HE := Lib.hid (stored_st (nx := 3) (lg := 5) HZ HOW HZN.out HB.out)
          go_simp
          refine hK.out _ _ (HS.out _ HE.out.2.2) (fun qa29 => ?_)
          clear hK K
          try simp only [Act.put, List.setIfInBounds_toArray, List.set_cons_zero, List.set_cons_succ]
          refine take_to (some 4) (i := 11) (oi := _) (v := ?_) rfl rfl (by kernel_rfl) (by kernel_rfl) (by kernel_rfl) (fun _ _ _ h => h) (Or.inl ⟨by kernel_rfl, ?_⟩) qa29 ?_
          rotate_left 1
          · (intro w hSw; obtain ⟨g0, g1, g2⟩ := hSw; go_simp; (try with_reducible rfl))
          try simp only [Act.put, List.setIfInBounds_toArray, List.set_cons_zero, List.set_cons_succ]
          refine wpAnyH_done (by kernel_rfl) ?_ _
          go_wp2_with fail
          go_meet
          exact ⟨zb, pw, cw, rfl, rfl, Lib.hid ⟨HE.out.1, HE.out.2.1, HCW.out, HZN.out, HE.out.2.2⟩⟩
      · have HZN := Lib.hid (show W2.heap.size ≤ wa1.heap.size from HB.out.size)
        go_simp
        obtain ⟨wa30, ha31⟩ : ∃ x, x = wa1.alloc (.cells #[.int .i64 0, .int .i64 0, .slice none 0 0] 24) := ⟨_, rfl⟩
        rw [← ha31]
        have hb : Below wa1.heap.size wa1 wa30 := by rw [ha31]; exact mbelow_alloc _ _
        have HIN_ := HIN.below hb
        clear HIN
        have HIN := HIN_
        clear HIN_
        have HZ := (by rw [ha31]; exact heap_alloc_new wa1 _ : wa30.heap[wa1.heap.size]? = some (stO 0 0 none 0 0))
        have HB_ := Lib.hid (HB.out.trans (hb.mono HB.out.size))
        clear HB
        have HB := HB_
        clear HB_ hb ha31
        generalize wa1.heap.size = zb at *
        refine hK.out _ _ (HS.out _ HB.out) (fun qa32 => ?_)
        clear hK K
        try simp only [Act.put, List.setIfInBounds_toArray, List.set_cons_zero, List.set_cons_succ]
        refine wpAnyH_ready (rs := [2]) (by kernel_rfl) (by simp) ?_
        refine AllReadyH.cons (o := _) rfl (fun K hK => ?_) AllReadyH.nil
        go_simp
        refine (other_any wa30).mono ?_
        rintro e wa33 ⟨rfl, hb⟩
        have HIN_ := HIN.below hb
        have HZ_ := (hb.block _ (Array.getElem?_eq_some_iff.1 HZ).1).trans HZ
        clear HIN
        have HIN := HIN_
        clear HIN_
        clear HZ
        have HZ := HZ_
        clear HZ_
        have HB_ := Lib.hid (HB.out.trans (hb.mono HB.out.size))
        clear HB
        have HB := HB_
        clear HB_ hb
        refine hK.out _ _ (HS.out _ HB.out) (fun qa34 => ?_)
        clear hK K
        try simp only [Act.put, List.setIfInBounds_toArray, List.set_cons_zero, List.set_cons_succ]
        refine wpAnyH_ready (rs := [3]) (by kernel_rfl) (by simp) ?_
        refine AllReadyH.cons (o := _) rfl (fun K hK => ?_) AllReadyH.nil
        go_simp
        obtain ⟨wa35, ha36⟩ : ∃ x, x = wa33.alloc (.cells #[.int .i64 2, .int .i64 1, .int .i64 1, .string ⟨#[98]⟩, .string ⟨#[98]⟩] 29) := ⟨_, rfl⟩
        rw [← ha36]
        have hb : Below wa33.heap.size wa33 wa35 := by rw [ha36]; exact mbelow_alloc _ _
        have HIN_ := HIN.below hb
        have HZ_ := (hb.block _ (Array.getElem?_eq_some_iff.1 HZ).1).trans HZ
        clear HIN
        have HIN := HIN_
        clear HIN_
        clear HZ
        have HZ := HZ_
        clear HZ_
        have HFI := (by rw [ha36]; exact files_new wa33 otherF fiIn_other _ : FilesAt wa35 (some ⟨wa33.heap.size, 0, none⟩) [otherF])
        have HB_ := Lib.hid (HB.out.trans (hb.mono HB.out.size))
        clear HB
        have HB := HB_
        clear HB_ hb ha36
        refine hK.out _ _ (HS.out _ HB.out) (fun qa37 => ?_)
        clear hK K
        try simp only [Act.put, List.setIfInBounds_toArray, List.set_cons_zero, List.set_cons_succ]
        refine take_to (some 31) (i := 4) (oi := _) (v := ?_) rfl rfl (by kernel_rfl) (by kernel_rfl) (by kernel_rfl) (fun _ _ _ h => h) (Or.inl ⟨by kernel_rfl, ?_⟩) qa37 ?_
        rotate_left 1
        · (intro w hSw; obtain ⟨g0, g1, g2⟩ := hSw; go_simp; (try with_reducible rfl))
        try simp only [Act.put, List.setIfInBounds_toArray, List.set_cons_zero, List.set_cons_succ]
        refine wpAnyH_ready (rs := [5]) (by kernel_rfl) (by simp) ?_
        refine AllReadyH.cons (o := _) rfl (fun K hK => ?_) AllReadyH.nil
        go_simp
        refine (HAP.out wa35 _ _ HIN HFI HB.out).mono ?_
        rintro e wa38 ⟨pw, cw, rfl, HCW, HOW, hb⟩
        have HIN_ := HIN.below hb
        have HZ_ := (hb.block _ (Array.getElem?_eq_some_iff.1 HZ).1).trans HZ
        have HFI_ := HFI.below hb
        clear HIN
        have HIN := HIN_
        clear HIN_
        clear HZ
        have HZ := HZ_
        clear HZ_
        clear HFI
        have HFI := HFI_
        clear HFI_
        have HB_ := Lib.hid (HB.out.trans (hb.mono HB.out.size))
        clear HB
        have HB := HB_
        clear HB_ hb
        refine hK.out _ _ (HS.out _ HB.out) (fun qa39 => ?_)
        clear hK K
        try simp only [Act.put, List.setIfInBounds_toArray, List.set_cons_zero, List.set_cons_succ]
        refine take_to (some 26) (i := 6) (oi := _) (v := ?_) rfl rfl (by kernel_rfl) (by kernel_rfl) (by kernel_rfl) (fun _ _ _ h => h) (Or.inl ⟨by kernel_rfl, ?_⟩) qa39 ?_
        rotate_left 1
        · (intro w hSw; obtain ⟨g0, g1, g2⟩ := hSw; go_simp; (try with_reducible rfl))
        try simp only [Act.put, List.setIfInBounds_toArray, List.set_cons_zero, List.set_cons_succ]
        refine take_to (some 33) (i := 7) (oi := _) (v := ?_) rfl rfl (by kernel_rfl) (by kernel_rfl) (by kernel_rfl) (fun _ _ _ h => h) (Or.inl ⟨by kernel_rfl, ?_⟩) qa39 ?_
        rotate_left 1
        · (intro w hSw; obtain ⟨g0, g1, g2⟩ := hSw; go_simp; (try with_reducible rfl))
        try simp only [Act.put, List.setIfInBounds_toArray, List.set_cons_zero, List.set_cons_succ]
        refine take_to (some 34) (i := 8) (oi := _) (v := ?_) rfl rfl (by kernel_rfl) (by kernel_rfl) (by kernel_rfl) (fun _ _ _ h => h) (Or.inl ⟨by kernel_rfl, ?_⟩) qa39 ?_
        rotate_left 1
        · (intro w hSw; obtain ⟨g0, g1, g2⟩ := hSw; go_simp; (try with_reducible rfl))
        try simp only [Act.put, List.setIfInBounds_toArray, List.set_cons_zero, List.set_cons_succ]
        refine wpAnyH_ready (rs := [10]) (by kernel_rfl) (by simp) ?_
        refine AllReadyH.cons (o := _) rfl (fun K hK => ?_) AllReadyH.nil
        obtain ⟨z0, z1, z2⟩ := st_cells HZ
        have zf0 := st_frozen HZ 0
        have zf1 := st_frozen HZ 1
        have zf2 := st_frozen HZ 2
        have HE := Lib.hid (stored_st (nx := 3) (lg := 5) HZ HOW HZN.out HB.out)
        go_simp
        refine hK.out _ _ (HS.out _ HE.out.2.2) (fun qa40 => ?_)
        clear hK K
        try simp only [Act.put, List.setIfInBounds_toArray, List.set_cons_zero, List.set_cons_succ]
        refine take_to (some 4) (i := 11) (oi := _) (v := ?_) rfl rfl (by kernel_rfl) (by kernel_rfl) (by kernel_rfl) (fun _ _ _ h => h) (Or.inl ⟨by kernel_rfl, ?_⟩) qa40 ?_
        rotate_left 1
        · (intro w hSw; obtain ⟨g0, g1, g2⟩ := hSw; go_simp; (try with_reducible rfl))
        try simp only [Act.put, List.setIfInBounds_toArray, List.set_cons_zero, List.set_cons_succ]
        refine wpAnyH_done (by kernel_rfl) ?_ _
        go_wp2_with fail
        go_meet
        exact ⟨zb, pw, cw, rfl, rfl, Lib.hid ⟨HE.out.1, HE.out.2.1, HCW.out, HZN.out, HE.out.2.2⟩⟩
    · go_simp
      refine (other_any w0_).mono ?_
      rintro e wa41 ⟨rfl, hb⟩
      have HB_ := Lib.hid (HB.out.trans (hb.mono HB.out.size))
      clear HB
      have HB := HB_
      clear HB_ hb
      refine hK.out _ _ (HS.out _ HB.out) (fun qa42 => ?_)
      clear hK K
      try simp only [Act.put, List.setIfInBounds_toArray, List.set_cons_zero, List.set_cons_succ]
      refine wpAnyH_ready (rs := [1, 3, 9]) (by kernel_rfl) (by simp) ?_
      refine AllReadyH.cons (o := _) rfl (fun K hK => ?_) (AllReadyH.cons (o := _) rfl (fun K hK => ?_) (AllReadyH.cons (o := _) rfl (fun K hK => ?_) AllReadyH.nil))
      · go_simp
        obtain ⟨wa43, ha44⟩ : ∃ x, x = wa41.alloc (.cells #[.int .i64 1] 3) := ⟨_, rfl⟩
        rw [← ha44]
        have hb : Below wa41.heap.size wa41 wa43 := by rw [ha44]; exact mbelow_alloc _ _
        have HIN := (by rw [ha44]; exact ints_new wa41 1 ⟨by decide, by decide⟩ _ : IntsM wa43 (some ⟨wa41.heap.size, 0, none⟩) [1])
        have HB_ := Lib.hid (HB.out.trans (hb.mono HB.out.size))
        clear HB
        have HB := HB_
        clear HB_ hb ha44
        refine hK.out _ _ (HS.out _ HB.out) (fun qa45 => ?_)
        clear hK K
        try simp only [Act.put, List.setIfInBounds_toArray, List.set_cons_zero, List.set_cons_succ]
        refine wpAnyH_ready (rs := [3, 9]) (by kernel_rfl) (by simp) ?_
        refine AllReadyH.cons (o := _) rfl (fun K hK => ?_) (AllReadyH.cons (o := _) rfl (fun K hK => ?_) AllReadyH.nil)
        · go_simp
          obtain ⟨wa46, ha47⟩ : ∃ x, x = wa43.alloc (.cells #[.int .i64 2, .int .i64 1, .int .i64 1, .string ⟨#[98]⟩, .string ⟨#[98]⟩] 29) := ⟨_, rfl⟩
          rw [← ha47]
          have hb : Below wa43.heap.size wa43 wa46 := by rw [ha47]; exact mbelow_alloc _ _
          have HIN_ := HIN.below hb
          clear HIN
          have HIN := HIN_
          clear HIN_
          have HFI := (by rw [ha47]; exact files_new wa43 otherF fiIn_other _ : FilesAt wa46 (some ⟨wa43.heap.size, 0, none⟩) [otherF])
          have HB_ := Lib.hid (HB.out.trans (hb.mono HB.out.size))
          clear HB
          have HB := HB_
          clear HB_ hb ha47
          refine hK.out _ _ (HS.out _ HB.out) (fun qa48 => ?_)
          clear hK K
          try simp only [Act.put, List.setIfInBounds_toArray, List.set_cons_zero, List.set_cons_succ]
          refine take_to (some 31) (i := 4) (oi := _) (v := ?_) rfl rfl (by kernel_rfl) (by kernel_rfl) (by kernel_rfl) (fun _ _ _ h => h) (Or.inl ⟨by kernel_rfl, ?_⟩) qa48 ?_
          rotate_left 1
          · (intro w hSw; obtain ⟨g0, g1, g2⟩ := hSw; go_simp; (try with_reducible rfl))
          try simp only [Act.put, List.setIfInBounds_toArray, List.set_cons_zero, List.set_cons_succ]
          refine wpAnyH_ready (rs := [5, 9]) (by kernel_rfl) (by simp) ?_
          refine AllReadyH.cons (o := _) rfl (fun K hK => ?_) (AllReadyH.cons (o := _) rfl (fun K hK => ?_) AllReadyH.nil)
          · go_simp
            refine (HAP.out wa46 _ _ HIN HFI HB.out).mono ?_
            rintro e wa49 ⟨pw, cw, rfl, HCW, HOW, hb⟩
            have HIN_ := HIN.below hb
            have HFI_ := HFI.below hb
            clear HIN
            have HIN := HIN_
            clear HIN_
            clear HFI
            have HFI := HFI_
            clear HFI_
            have HB_ := Lib.hid (HB.out.trans (hb.mono HB.out.size))
            clear HB
            have HB := HB_
            clear HB_ hb
            refine hK.out _ _ (HS.out _ HB.out) (fun qa50 => ?_)
            clear hK K
            try simp only [Act.put, List.setIfInBounds_toArray, List.set_cons_zero, List.set_cons_succ]
            refine take_to (some 26) (i := 6) (oi := _) (v := ?_) rfl rfl (by kernel_rfl) (by kernel_rfl) (by kernel_rfl) (fun _ _ _ h => h) (Or.inl ⟨by kernel_rfl, ?_⟩) qa50 ?_
            rotate_left 1
            · (intro w hSw; obtain ⟨g0, g1, g2⟩ := hSw; go_simp; (try with_reducible rfl))
            try simp only [Act.put, List.setIfInBounds_toArray, List.set_cons_zero, List.set_cons_succ]
            refine take_to (some 33) (i := 7) (oi := _) (v := ?_) rfl rfl (by kernel_rfl) (by kernel_rfl) (by kernel_rfl) (fun _ _ _ h => h) (Or.inl ⟨by kernel_rfl, ?_⟩) qa50 ?_
            rotate_left 1
            · (intro w hSw; obtain ⟨g0, g1, g2⟩ := hSw; go_simp; (try with_reducible rfl))
            try simp only [Act.put, List.setIfInBounds_toArray, List.set_cons_zero, List.set_cons_succ]
            refine take_to (some 34) (i := 8) (oi := _) (v := ?_) rfl rfl (by kernel_rfl) (by kernel_rfl) (by kernel_rfl) (fun _ _ _ h => h) (Or.inl ⟨by kernel_rfl, ?_⟩) qa50 ?_
            rotate_left 1
            · (intro w hSw; obtain ⟨g0, g1, g2⟩ := hSw; go_simp; (try with_reducible rfl))
            try simp only [Act.put, List.setIfInBounds_toArray, List.set_cons_zero, List.set_cons_succ]
            refine wpAnyH_ready (rs := [9]) (by kernel_rfl) (by simp) ?_
            refine AllReadyH.cons (o := _) rfl (fun K hK => ?_) AllReadyH.nil
            have HZN := Lib.hid (show W2.heap.size ≤ wa49.heap.size from HB.out.size)
            go_simp
            obtain ⟨wa51, ha52⟩ : ∃ x, x = wa49.alloc (.cells #[.int .i64 0, .int .i64 0, .slice none 0 0] 24) := ⟨_, rfl⟩
            rw [← ha52]
            have hb : Below wa49.heap.size wa49 wa51 := by rw [ha52]; exact mbelow_alloc _ _
            have HIN_ := HIN.below hb
            have HFI_ := HFI.below hb
            have HOW_ := HOW.below hb
            clear HIN
            have HIN := HIN_
            clear HIN_
            clear HFI
            have HFI := HFI_
            clear HFI_
            clear HOW
            have HOW := HOW_
            clear HOW_
            have HZ := (by rw [ha52]; exact heap_alloc_new wa49 _ : wa51.heap[wa49.heap.size]? = some (stO 0 0 none 0 0))
            have HB_ := Lib.hid (HB.out.trans (hb.mono HB.out.size))
            clear HB
            have HB := HB_
            clear HB_ hb ha52
            generalize wa49.heap.size = zb at *
            refine hK.out _ _ (HS.out _ HB.out) (fun qa53 => ?_)
            clear hK K
            try simp only [Act.put, List.setIfInBounds_toArray, List.set_cons_zero, List.set_cons_succ]
            refine wpAnyH_ready (rs := [10]) (by kernel_rfl) (by simp) ?_
            refine AllReadyH.cons (o := _) rfl (fun K hK => ?_) AllReadyH.nil
            obtain ⟨z0, z1, z2⟩ := st_cells HZ
            have zf0 := st_frozen HZ 0
            have zf1 := st_frozen HZ 1
            have zf2 := st_frozen HZ 2
            have HE := Lib.hid (stored_st (nx := 3) (lg := 5) HZ HOW HZN.out HB.out)
            go_simp
            refine hK.out _ _ (HS.out _ HE.out.2.2) (fun qa54 => ?_)
            clear hK K
            try simp only [Act.put, List.setIfInBounds_toArray, List.set_cons_zero, List.set_cons_succ]
            refine take_to (some 4) (i := 11) (oi := _) (v := ?_) rfl rfl (by kernel_rfl) (by kernel_rfl) (by kernel_rfl) (fun _ _ _ h => h) (Or.inl ⟨by kernel_rfl, ?_⟩) qa54 ?_
            rotate_left 1
            · (intro w hSw; obtain ⟨g0, g1, g2⟩ := hSw; go_simp; (try with_reducible rfl))
            try simp only [Act.put, List.setIfInBounds_toArray, List.set_cons_zero, List.set_cons_succ]
            refine wpAnyH_done (by kernel_rfl) ?_ _
            go_wp2_with fail
            go_meet
            exact ⟨zb, pw, cw, rfl, rfl, Lib.hid ⟨HE.out.1, HE.out.2.1, HCW.out, HZN.out, HE.out.2.2⟩⟩
          · have HZN := Lib.hid (show W2.heap.size ≤ wa46.heap.size from HB.out.size)
            go_simp
            obtain ⟨wa55, ha56⟩ : ∃ x, x = wa46.alloc (.cells #[.int .i64 0, .int .i64 0, .slice none 0 0] 24) := ⟨_, rfl⟩
            rw [← ha56]
            have hb : Below wa46.heap.size wa46 wa55 := by rw [ha56]; exact mbelow_alloc _ _
            have HIN_ := HIN.below hb
            have HFI_ := HFI.below hb
            clear HIN
            have HIN := HIN_
            clear HIN_
            clear HFI
            have HFI := HFI_
            clear HFI_
            have HZ := (by rw [ha56]; exact heap_alloc_new wa46 _ : wa55.heap[wa46.heap.size]? = some (stO 0 0 none 0 0))
            have HB_ := Lib.hid (HB.out.trans (hb.mono HB.out.size))
            clear HB
            have HB := HB_
            clear HB_ hb ha56
            generalize wa46.heap.size = zb at *
            refine hK.out _ _ (HS.out _ HB.out) (fun qa57 => ?_)
            clear hK K
            try simp only [Act.put, List.setIfInBounds_toArray, List.set_cons_zero, List.set_cons_succ]
            refine wpAnyH_ready (rs := [5]) (by kernel_rfl) (by simp) ?_
            refine AllReadyH.cons (o := _) rfl (fun K hK => ?_) AllReadyH.nil
            go_simp
            refine (HAP.out wa55 _ _ HIN HFI HB.out).mono ?_
            rintro e wa58 ⟨pw, cw, rfl, HCW, HOW, hb⟩
            have HIN_ := HIN.below hb
            have HFI_ := HFI.below hb
            have HZ_ := (hb.block _ (Array.getElem?_eq_some_iff.1 HZ).1).trans HZ
            clear HIN
            have HIN := HIN_
            clear HIN_
            clear HFI
            have HFI := HFI_
            clear HFI_
            clear HZ
            have HZ := HZ_
            clear HZ_
            have HB_ := Lib.hid (HB.out.trans (hb.mono HB.out.size))
            clear HB
            have HB := HB_
            clear HB_ hb
            refine hK.out _ _ (HS.out _ HB.out) (fun qa59 => ?_)
            clear hK K
            try simp only [Act.put, List.setIfInBounds_toArray, List.set_cons_zero, List.set_cons_succ]
            refine take_to (some 26) (i := 6) (oi := _) (v := ?_) rfl rfl (by kernel_rfl) (by kernel_rfl) (by kernel_rfl) (fun _ _ _ h => h) (Or.inl ⟨by kernel_rfl, ?_⟩) qa59 ?_
            rotate_left 1
            · (intro w hSw; obtain ⟨g0, g1, g2⟩ := hSw; go_simp; (try with_reducible rfl))
            try simp only [Act.put, List.setIfInBounds_toArray, List.set_cons_zero, List.set_cons_succ]
            refine take_to (some 33) (i := 7) (oi := _) (v := ?_) rfl rfl (by kernel_rfl) (by kernel_rfl) (by kernel_rfl) (fun _ _ _ h => h) (Or.inl ⟨by kernel_rfl, ?_⟩) qa59 ?_
            rotate_left 1
            · (intro w hSw; obtain ⟨g0, g1, g2⟩ := hSw; go_simp; (try with_reducible rfl))
            try simp only [Act.put, List.setIfInBounds_toArray, List.set_cons_zero, List.set_cons_succ]
            refine take_to (some 34) (i := 8) (oi := _) (v := ?_) rfl rfl (by kernel_rfl) (by kernel_rfl) (by kernel_rfl) (fun _ _ _ h => h) (Or.inl ⟨by kernel_rfl, ?_⟩) qa59 ?_
            rotate_left 1
            · (intro w hSw; obtain ⟨g0, g1, g2⟩ := hSw; go_simp; (try with_reducible rfl))
            try simp only [Act.put, List.setIfInBounds_toArray, List.set_cons_zero, List.set_cons_succ]
            refine wpAnyH_ready (rs := [10]) (by kernel_rfl) (by simp) ?_
            refine AllReadyH.cons (o := _) rfl (fun K hK => ?_) AllReadyH.nil
            obtain ⟨z0, z1, z2⟩ := st_cells HZ
            have zf0 := st_frozen HZ 0
            have zf1 := st_frozen HZ 1
            have zf2 := st_frozen HZ 2
            have HE := Lib.hid (stored_st (nx := 3) (lg := 5) HZ HOW HZN.out HB.out)
            go_simp
            refine hK.out _ _ (HS.out _ HE.out.2.2) (fun qa60 => ?_)
            clear hK K
            try simp only [Act.put, List.setIfInBounds_toArray, List.set_cons_zero, List.set_cons_succ]
            refine take_to (some 4) (i := 11) (oi := _) (v := ?_) rfl rfl (by kernel_rfl) (by kernel_rfl) (by kernel_rfl) (fun _ _ _ h => h) (Or.inl ⟨by kernel_rfl, ?_⟩) qa60 ?_
            rotate_left 1
            · (intro w hSw; obtain ⟨g0, g1, g2⟩ := hSw; go_simp; (try with_reducible rfl))
            try simp only [Act.put, List.setIfInBounds_toArray, List.set_cons_zero, List.set_cons_succ]
            refine wpAnyH_done (by kernel_rfl) ?_ _
            go_wp2_with fail
            go_meet
            exact ⟨zb, pw, cw, rfl, rfl, Lib.hid ⟨HE.out.1, HE.out.2.1, HCW.out, HZN.out, HE.out.2.2⟩⟩
        · have HZN := Lib.hid (show W2.heap.size ≤ wa43.heap.size from HB.out.size)
          go_simp
          obtain ⟨wa61, ha62⟩ : ∃ x, x = wa43.alloc (.cells #[.int .i64 0, .int .i64 0, .slice none 0 0] 24) := ⟨_, rfl⟩
          rw [← ha62]
          have hb : Below wa43.heap.size wa43 wa61 := by rw [ha62]; exact mbelow_alloc _ _
          have HIN_ := HIN.below hb
          clear HIN
          have HIN := HIN_
          clear HIN_
          have HZ := (by rw [ha62]; exact heap_alloc_new wa43 _ : wa61.heap[wa43.heap.size]? = some (stO 0 0 none 0 0))
          have HB_ := Lib.hid (HB.out.trans (hb.mono HB.out.size))
          clear HB
          have HB := HB_
          clear HB_ hb ha62
          generalize wa43.heap.size = zb at *
          refine hK.out _ _ (HS.out _ HB.out) (fun qa63 => ?_)
          clear hK K
          try simp only [Act.put, List.setIfInBounds_toArray, List.set_cons_zero, List.set_cons_succ]
          refine wpAnyH_ready (rs := [3]) (by kernel_rfl) (by simp) ?_
          refine AllReadyH.cons (o := _) rfl (fun K hK => ?_) AllReadyH.nil
          go_simp
          obtain ⟨wa64, ha65⟩ : ∃ x, x = wa61.alloc (.cells #[.int .i64 2, .int .i64 1, .int .i64 1, .string ⟨#[98]⟩, .string ⟨#[98]⟩] 29) := ⟨_, rfl⟩
          rw [← ha65]
          have hb : Below wa61.heap.size wa61 wa64 := by rw [ha65]; exact mbelow_alloc _ _
          have HIN_ := HIN.below hb
          have HZ_ := (hb.block _ (Array.getElem?_eq_some_iff.1 HZ).1).trans HZ
          clear HIN
          have HIN := HIN_
          clear HIN_
          clear HZ
          have HZ := HZ_
          clear HZ_
          have HFI := (by rw [ha65]; exact files_new wa61 otherF fiIn_other _ : FilesAt wa64 (some ⟨wa61.heap.size, 0, none⟩) [otherF])
          have HB_ := Lib.hid (HB.out.trans (hb.mono HB.out.size))
          clear HB
          have HB := HB_
          clear HB_ hb ha65
          refine hK.out _ _ (HS.out _ HB.out) (fun qa66 => ?_)
          clear hK K
          try simp only [Act.put, List.setIfInBounds_toArray, List.set_cons_zero, List.set_cons_succ]
          refine take_to (some 31) (i := 4) (oi := _) (v := ?_) rfl rfl (by kernel_rfl) (by kernel_rfl) (by kernel_rfl) (fun _ _ _ h => h) (Or.inl ⟨by kernel_rfl, ?_⟩) qa66 ?_
          rotate_left 1
          · (intro w hSw; obtain ⟨g0, g1, g2⟩ := hSw; go_simp; (try with_reducible rfl))
          try simp only [Act.put, List.setIfInBounds_toArray, List.set_cons_zero, List.set_cons_succ]
          refine wpAnyH_ready (rs := [5]) (by kernel_rfl) (by simp) ?_
          refine AllReadyH.cons (o := _) rfl (fun K hK => ?_) AllReadyH.nil
          go_simp
          refine (HAP.out wa64 _ _ HIN HFI HB.out).mono ?_
          rintro e wa67 ⟨pw, cw, rfl, HCW, HOW, hb⟩
          have HIN_ := HIN.below hb
          have HZ_ := (hb.block _ (Array.getElem?_eq_some_iff.1 HZ).1).trans HZ
          have HFI_ := HFI.below hb
          clear HIN
          have HIN := HIN_
          clear HIN_
          clear HZ
          have HZ := HZ_
          clear HZ_
          clear HFI
          have HFI := HFI_
          clear HFI_
          have HB_ := Lib.hid (HB.out.trans (hb.mono HB.out.size))
          clear HB
          have HB := HB_
          clear HB_ hb
          refine hK.out _ _ (HS.out _ HB.out) (fun qa68 => ?_)
          clear hK K
          try simp only [Act.put, List.setIfInBounds_toArray, List.set_cons_zero, List.set_cons_succ]
          refine take_to (some 26) (i := 6) (oi := _) (v := ?_) rfl rfl (by kernel_rfl) (by kernel_rfl) (by kernel_rfl) (fun _ _ _ h => h) (Or.inl ⟨by kernel_rfl, ?_⟩) qa68 ?_
          rotate_left 1
          · (intro w hSw; obtain ⟨g0, g1, g2⟩ := hSw; go_simp; (try with_reducible rfl))
          try simp only [Act.put, List.setIfInBounds_toArray, List.set_cons_zero, List.set_cons_succ]
          refine take_to (some 33) (i := 7) (oi := _) (v := ?_) rfl rfl (by kernel_rfl) (by kernel_rfl) (by kernel_rfl) (fun _ _ _ h => h) (Or.inl ⟨by kernel_rfl, ?_⟩) qa68 ?_
          rotate_left 1
          · (intro w hSw; obtain ⟨g0, g1, g2⟩ := hSw; go_simp; (try with_reducible rfl))
          try simp only [Act.put, List.setIfInBounds_toArray, List.set_cons_zero, List.set_cons_succ]
          refine take_to (some 34) (i := 8) (oi := _) (v := ?_) rfl rfl (by kernel_rfl) (by kernel_rfl) (by kernel_rfl) (fun _ _ _ h => h) (Or.inl ⟨by kernel_rfl, ?_⟩) qa68 ?_
          rotate_left 1
          · (intro w hSw; obtain ⟨g0, g1, g2⟩ := hSw; go_simp; (try with_reducible rfl))
          try simp only [Act.put, List.setIfInBounds_toArray, List.set_cons_zero, List.set_cons_succ]
          refine wpAnyH_ready (rs := [10]) (by kernel_rfl) (by simp) ?_
          refine AllReadyH.cons (o := _) rfl (fun K hK => ?_) AllReadyH.nil
          obtain ⟨z0, z1, z2⟩ := st_cells HZ
          have zf0 := st_frozen HZ 0
          have zf1 := st_frozen HZ 1
          have zf2 := st_frozen HZ 2
          have HE := Lib.hid (stored_st (nx := 3) (lg := 5) HZ HOW HZN.out HB.out)
          go_simp
          refine hK.out _ _ (HS.out _ HE.out.2.2) (fun qa69 => ?_)
          clear hK K
          try simp only [Act.put, List.setIfInBounds_toArray, List.set_cons_zero, List.set_cons_succ]
          refine take_to (some 4) (i := 11) (oi := _) (v := ?_) rfl rfl (by kernel_rfl) (by kernel_rfl) (by kernel_rfl) (fun _ _ _ h => h) (Or.inl ⟨by kernel_rfl, ?_⟩) qa69 ?_
          rotate_left 1
          · (intro w hSw; obtain ⟨g0, g1, g2⟩ := hSw; go_simp; (try with_reducible rfl))
          try simp only [Act.put, List.setIfInBounds_toArray, List.set_cons_zero, List.set_cons_succ]
          refine wpAnyH_done (by kernel_rfl) ?_ _
          go_wp2_with fail
          go_meet
          exact ⟨zb, pw, cw, rfl, rfl, Lib.hid ⟨HE.out.1, HE.out.2.1, HCW.out, HZN.out, HE.out.2.2⟩⟩
      · go_simp
        obtain ⟨wa70, ha71⟩ : ∃ x, x = wa41.alloc (.cells #[.int .i64 2, .int .i64 1, .int .i64 1, .string ⟨#[98]⟩, .string ⟨#[98]⟩] 29) := ⟨_, rfl⟩
        rw [← ha71]
        have hb : Below wa41.heap.size wa41 wa70 := by rw [ha71]; exact mbelow_alloc _ _
        have HFI := (by rw [ha71]; exact files_new wa41 otherF fiIn_other _ : FilesAt wa70 (some ⟨wa41.heap.size, 0, none⟩) [otherF])
        have HB_ := Lib.hid (HB.out.trans (hb.mono HB.out.size))
        clear HB
        have HB := HB_
        clear HB_ hb ha71
        refine hK.out _ _ (HS.out _ HB.out) (fun qa72 => ?_)
        clear hK K
        try simp only [Act.put, List.setIfInBounds_toArray, List.set_cons_zero, List.set_cons_succ]
        refine wpAnyH_ready (rs := [1, 9]) (by kernel_rfl) (by simp) ?_
        refine AllReadyH.cons (o := _) rfl (fun K hK => ?_) (AllReadyH.cons (o := _) rfl (fun K hK => ?_) AllReadyH.nil)
        · go_simp
          obtain ⟨wa73, ha74⟩ : ∃ x, x = wa70.alloc (.cells #[.int .i64 1] 3) := ⟨_, rfl⟩
          rw [← ha74]
          have hb : Below wa70.heap.size wa70 wa73 := by rw [ha74]; exact mbelow_alloc _ _
          have HFI_ := HFI.below hb
          clear HFI
          have HFI := HFI_
          clear HFI_
          have HIN := (by rw [ha74]; exact ints_new wa70 1 ⟨by decide, by decide⟩ _ : IntsM wa73 (some ⟨wa70.heap.size, 0, none⟩) [1])
          have HB_ := Lib.hid (HB.out.trans (hb.mono HB.out.size))
          clear HB
          have HB := HB_
          clear HB_ hb ha74
          refine hK.out _ _ (HS.out _ HB.out) (fun qa75 => ?_)
          clear hK K
          try simp only [Act.put, List.setIfInBounds_toArray, List.set_cons_zero, List.set_cons_succ]
          refine take_to (some 31) (i := 4) (oi := _) (v := ?_) rfl rfl (by kernel_rfl) (by kernel_rfl) (by kernel_rfl) (fun _ _ _ h => h) (Or.inl ⟨by kernel_rfl, ?_⟩) qa75 ?_
          rotate_left 1
          · (intro w hSw; obtain ⟨g0, g1, g2⟩ := hSw; go_simp; (try with_reducible rfl))
          try simp only [Act.put, List.setIfInBounds_toArray, List.set_cons_zero, List.set_cons_succ]
          refine wpAnyH_ready (rs := [5, 9]) (by kernel_rfl) (by simp) ?_
          refine AllReadyH.cons (o := _) rfl (fun K hK => ?_) (AllReadyH.cons (o := _) rfl (fun K hK => ?_) AllReadyH.nil)
          · go_simp
            refine (HAP.out wa73 _ _ HIN HFI HB.out).mono ?_
            rintro e wa76 ⟨pw, cw, rfl, HCW, HOW, hb⟩
            have HFI_ := HFI.below hb
            have HIN_ := HIN.below hb
            clear HFI
            have HFI := HFI_
            clear HFI_
            clear HIN
            have HIN := HIN_
            clear HIN_
            have HB_ := Lib.hid (HB.out.trans (hb.mono HB.out.size))
            clear HB
            have HB := HB_
            clear HB_ hb
            refine hK.out _ _ (HS.out _ HB.out) (fun qa77 => ?_)
            clear hK K
            try simp only [Act.put, List.setIfInBounds_toArray, List.set_cons_zero, List.set_cons_succ]
            refine take_to (some 26) (i := 6) (oi := _) (v := ?_) rfl rfl (by kernel_rfl) (by kernel_rfl) (by kernel_rfl) (fun _ _ _ h => h) (Or.inl ⟨by kernel_rfl, ?_⟩) qa77 ?_
            rotate_left 1
            · (intro w hSw; obtain ⟨g0, g1, g2⟩ := hSw; go_simp; (try with_reducible rfl))
            try simp only [Act.put, List.setIfInBounds_toArray, List.set_cons_zero, List.set_cons_succ]
            refine take_to (some 33) (i := 7) (oi := _) (v := ?_) rfl rfl (by kernel_rfl) (by kernel_rfl) (by kernel_rfl) (fun _ _ _ h => h) (Or.inl ⟨by kernel_rfl, ?_⟩) qa77 ?_
            rotate_left 1
            · (intro w hSw; obtain ⟨g0, g1, g2⟩ := hSw; go_simp; (try with_reducible rfl))
            try simp only [Act.put, List.setIfInBounds_toArray, List.set_cons_zero, List.set_cons_succ]
            refine take_to (some 34) (i := 8) (oi := _) (v := ?_) rfl rfl (by kernel_rfl) (by kernel_rfl) (by kernel_rfl) (fun _ _ _ h => h) (Or.inl ⟨by kernel_rfl, ?_⟩) qa77 ?_
            rotate_left 1
            · (intro w hSw; obtain ⟨g0, g1, g2⟩ := hSw; go_simp; (try with_reducible rfl))
            try simp only [Act.put, List.setIfInBounds_toArray, List.set_cons_zero, List.set_cons_succ]
            refine wpAnyH_ready (rs := [9]) (by kernel_rfl) (by simp) ?_
            refine AllReadyH.cons (o := _) rfl (fun K hK => ?_) AllReadyH.nil
            have HZN := Lib.hid (show W2.heap.size ≤ wa76.heap.size from HB.out.size)
            go_simp
            obtain ⟨wa78, ha79⟩ : ∃ x, x = wa76.alloc (.cells #[.int .i64 0, .int .i64 0, .slice none 0 0] 24) := ⟨_, rfl⟩
            rw [← ha79]
            have hb : Below wa76.heap.size wa76 wa78 := by rw [ha79]; exact mbelow_alloc _ _
            have HFI_ := HFI.below hb
            have HIN_ := HIN.below hb
            have HOW_ := HOW.below hb
            clear HFI
            have HFI := HFI_
            clear HFI_
            clear HIN
            have HIN := HIN_
            clear HIN_
            clear HOW
            have HOW := HOW_
            clear HOW_
            have HZ := (by rw [ha79]; exact heap_alloc_new wa76 _ : wa78.heap[wa76.heap.size]? = some (stO 0 0 none 0 0))
            have HB_ := Lib.hid (HB.out.trans (hb.mono HB.out.size))
            clear HB
            have HB := HB_
            clear HB_ hb ha79
            generalize wa76.heap.size = zb at *
            refine hK.out _ _ (HS.out _ HB.out) (fun qa80 => ?_)
            clear hK K
            try simp only [Act.put, List.setIfInBounds_toArray, List.set_cons_zero, List.set_cons_succ]
            refine wpAnyH_ready (rs := [10]) (by kernel_rfl) (by simp) ?_
            refine AllReadyH.cons (o := _) rfl (fun K hK => ?_) AllReadyH.nil
            obtain ⟨z0, z1, z2⟩ := st_cells HZ
            have zf0 := st_frozen HZ 0
            have zf1 := st_frozen HZ 1
            have zf2 := st_frozen HZ 2
            have HE := Lib.hid (stored_st (nx := 3) (lg := 5) HZ HOW HZN.out HB.out)
            go_simp
            refine hK.out _ _ (HS.out _ HE.out.2.2) (fun qa81 => ?_)
            clear hK K
            try simp only [Act.put, List.setIfInBounds_toArray, List.set_cons_zero, List.set_cons_succ]
            refine take_to (some 4) (i := 11) (oi := _) (v := ?_) rfl rfl (by kernel_rfl) (by kernel_rfl) (by kernel_rfl) (fun _ _ _ h => h) (Or.inl ⟨by kernel_rfl, ?_⟩) qa81 ?_
            rotate_left 1
            · (intro w hSw; obtain ⟨g0, g1, g2⟩ := hSw; go_simp; (try with_reducible rfl))
            try simp only [Act.put, List.setIfInBounds_toArray, List.set_cons_zero, List.set_cons_succ]
            refine wpAnyH_done (by kernel_rfl) ?_ _
            go_wp2_with fail
            go_meet
            exact ⟨zb, pw, cw, rfl, rfl, Lib.hid ⟨HE.out.1, HE.out.2.1, HCW.out, HZN.out, HE.out.2.2⟩⟩
          · have HZN := Lib.hid (show W2.heap.size ≤ wa73.heap.size from HB.out.size)
            go_simp
            obtain ⟨wa82, ha83⟩ : ∃ x, x = wa73.alloc (.cells #[.int .i64 0, .int .i64 0, .slice none 0 0] 24) := ⟨_, rfl⟩
            rw [← ha83]
            have hb : Below wa73.heap.size wa73 wa82 := by rw [ha83]; exact mbelow_alloc _ _
            have HFI_ := HFI.below hb
            have HIN_ := HIN.below hb
            clear HFI
            have HFI := HFI_
            clear HFI_
            clear HIN
            have HIN := HIN_
            clear HIN_
            have HZ := (by rw [ha83]; exact heap_alloc_new wa73 _ : wa82.heap[wa73.heap.size]? = some (stO 0 0 none 0 0))
            have HB_ := Lib.hid (HB.out.trans (hb.mono HB.out.size))
            clear HB
            have HB := HB_
            clear HB_ hb ha83
            generalize wa73.heap.size = zb at *
            refine hK.out _ _ (HS.out _ HB.out) (fun qa84 => ?_)
            clear hK K
            try simp only [Act.put, List.setIfInBounds_toArray, List.set_cons_zero, List.set_cons_succ]
            refine wpAnyH_ready (rs := [5]) (by kernel_rfl) (by simp) ?_
            refine AllReadyH.cons (o := _) rfl (fun K hK => ?_) AllReadyH.nil
            go_simp
            refine (HAP.out wa82 _ _ HIN HFI HB.out).mono ?_
            rintro e wa85 ⟨pw, cw, rfl, HCW, HOW, hb⟩
            have HFI_ := HFI.below hb
            have HIN_ := HIN.below hb
            have HZ_ := (hb.block _ (Array.getElem?_eq_some_iff.1 HZ).1).trans HZ
            clear HFI
            have HFI := HFI_
            clear HFI_
            clear HIN
            have HIN := HIN_
            clear HIN_
            clear HZ
            have HZ := HZ_
            clear HZ_
            have HB_ := Lib.hid (HB.out.trans (hb.mono HB.out.size))
            clear HB
            have HB := HB_
            clear HB_ hb
            refine hK.out _ _ (HS.out _ HB.out) (fun qa86 => ?_)
            clear hK K
            try simp only [Act.put, List.setIfInBounds_toArray, List.set_cons_zero, List.set_cons_succ]
            refine take_to (some 26) (i := 6) (oi := _) (v := ?_) rfl rfl (by kernel_rfl) (by kernel_rfl) (by kernel_rfl) (fun _ _ _ h => h) (Or.inl ⟨by kernel_rfl, ?_⟩) qa86 ?_
            rotate_left 1
            · (intro w hSw; obtain ⟨g0, g1, g2⟩ := hSw; go_simp; (try with_reducible rfl))
            try simp only [Act.put, List.setIfInBounds_toArray, List.set_cons_zero, List.set_cons_succ]
            refine take_to (some 33) (i := 7) (oi := _) (v := ?_) rfl rfl (by kernel_rfl) (by kernel_rfl) (by kernel_rfl) (fun _ _ _ h => h) (Or.inl ⟨by kernel_rfl, ?_⟩) qa86 ?_
            rotate_left 1
            · (intro w hSw; obtain ⟨g0, g1, g2⟩ := hSw; go_simp; (try with_reducible rfl))
            try simp only [Act.put, List.setIfInBounds_toArray, List.set_cons_zero, List.set_cons_succ]
            refine take_to (some 34) (i := 8) (oi := _) (v := ?_) rfl rfl (by kernel_rfl) (by kernel_rfl) (by kernel_rfl) (fun _ _ _ h => h) (Or.inl ⟨by kernel_rfl, ?_⟩) qa86 ?_
            rotate_left 1
            · (intro w hSw; obtain ⟨g0, g1, g2⟩ := hSw; go_simp; (try with_reducible rfl))
            try simp only [Act.put, List.setIfInBounds_toArray, List.set_cons_zero, List.set_cons_succ]
            refine wpAnyH_ready (rs := [10]) (by kernel_rfl) (by simp) ?_
            refine AllReadyH.cons (o := _) rfl (fun K hK => ?_) AllReadyH.nil
            obtain ⟨z0, z1, z2⟩ := st_cells HZ
            have zf0 := st_frozen HZ 0
            have zf1 := st_frozen HZ 1
            have zf2 := st_frozen HZ 2
            have HE := Lib.hid (stored_st (nx := 3) (lg := 5) HZ HOW HZN.out HB.out)
            go_simp
            refine hK.out _ _ (HS.out _ HE.out.2.2) (fun qa87 => ?_)
            clear hK K
            try simp only [Act.put, List.setIfInBounds_toArray, List.set_cons_zero, List.set_cons_succ]
            refine take_to (some 4) (i := 11) (oi := _) (v := ?_) rfl rfl (by kernel_rfl) (by kernel_rfl) (by kernel_rfl) (fun _ _ _ h => h) (Or.inl ⟨by kernel_rfl, ?_⟩) qa87 ?_
            rotate_left 1
            · (intro w hSw; obtain ⟨g0, g1, g2⟩ := hSw; go_simp; (try with_reducible rfl))
            try simp only [Act.put, List.setIfInBounds_toArray, List.set_cons_zero, List.set_cons_succ]
            refine wpAnyH_done (by kernel_rfl) ?_ _
            go_wp2_with fail
            go_meet
            exact ⟨zb, pw, cw, rfl, rfl, Lib.hid ⟨HE.out.1, HE.out.2.1, HCW.out, HZN.out, HE.out.2.2⟩⟩
        · have HZN := Lib.hid (show W2.heap.size ≤ wa70.heap.size from HB.out.size)
          go_simp
          obtain ⟨wa88, ha89⟩ : ∃ x, x = wa70.alloc (.cells #[.int .i64 0, .int .i64 0, .slice none 0 0] 24) := ⟨_, rfl⟩
          rw [← ha89]
          have hb : Below wa70.heap.size wa70 wa88 := by rw [ha89]; exact mbelow_alloc _ _
          have HFI_ := HFI.below hb
          clear HFI
          have HFI := HFI_
          clear HFI_
          have HZ := (by rw [ha89]; exact heap_alloc_new wa70 _ : wa88.heap[wa70.heap.size]? = some (stO 0 0 none 0 0))
          have HB_ := Lib.hid (HB.out.trans (hb.mono HB.out.size))
          clear HB
          have HB := HB_
          clear HB_ hb ha89
          generalize wa70.heap.size = zb at *
          refine hK.out _ _ (HS.out _ HB.out) (fun qa90 => ?_)
          clear hK K
          try simp only [Act.put, List.setIfInBounds_toArray, List.set_cons_zero, List.set_cons_succ]
          refine wpAnyH_ready (rs := [1]) (by kernel_rfl) (by simp) ?_
          refine AllReadyH.cons (o := _) rfl (fun K hK => ?_) AllReadyH.nil
          go_simp
          obtain ⟨wa91, ha92⟩ : ∃ x, x = wa88.alloc (.cells #[.int .i64 1] 3) := ⟨_, rfl⟩
          rw [← ha92]
          have hb : Below wa88.heap.size wa88 wa91 := by rw [ha92]; exact mbelow_alloc _ _
          have HFI_ := HFI.below hb
          have HZ_ := (hb.block _ (Array.getElem?_eq_some_iff.1 HZ).1).trans HZ
          clear HFI
          have HFI := HFI_
          clear HFI_
          clear HZ
          have HZ := HZ_
          clear HZ_
          have HIN := (by rw [ha92]; exact ints_new wa88 1 ⟨by decide, by decide⟩ _ : IntsM wa91 (some ⟨wa88.heap.size, 0, none⟩) [1])
          have HB_ := Lib.hid (HB.out.trans (hb.mono HB.out.size))
          clear HB
          have HB := HB_
          clear HB_ hb ha92
          refine hK.out _ _ (HS.out _ HB.out) (fun qa93 => ?_)
          clear hK K
          try simp only [Act.put, List.setIfInBounds_toArray, List.set_cons_zero, List.set_cons_succ]
          refine take_to (some 31) (i := 4) (oi := _) (v := ?_) rfl rfl (by kernel_rfl) (by kernel_rfl) (by kernel_rfl) (fun _ _ _ h => h) (Or.inl ⟨by kernel_rfl, ?_⟩) qa93 ?_
          rotate_left 1
          · (intro w hSw; obtain ⟨g0, g1, g2⟩ := hSw; go_simp; (try with_reducible rfl))
          try simp only [Act.put, List.setIfInBounds_toArray, List.set_cons_zero, List.set_cons_succ]
          refine wpAnyH_ready (rs := [5]) (by kernel_rfl) (by simp) ?_
          refine AllReadyH.cons (o := _) rfl (fun K hK => ?_) AllReadyH.nil
          go_simp
          refine (HAP.out wa91 _ _ HIN HFI HB.out).mono ?_
          rintro e wa94 ⟨pw, cw, rfl, HCW, HOW, hb⟩
          have HFI_ := HFI.below hb
          have HZ_ := (hb.block _ (Array.getElem?_eq_some_iff.1 HZ).1).trans HZ
          have HIN_ := HIN.below hb
          clear HFI
          have HFI := HFI_
          clear HFI_
          clear HZ
          have HZ := HZ_
          clear HZ_
          clear HIN
          have HIN := HIN_
          clear HIN_
          have HB_ := Lib.hid (HB.out.trans (hb.mono HB.out.size))
          clear HB
          have HB := HB_
          clear HB_ hb
          refine hK.out _ _ (HS.out _ HB.out) (fun qa95 => ?_)
          clear hK K
          try simp only [Act.put, List.setIfInBounds_toArray, List.set_cons_zero, List.set_cons_succ]
          refine take_to (some 26) (i := 6) (oi := _) (v := ?_) rfl rfl (by kernel_rfl) (by kernel_rfl) (by kernel_rfl) (fun _ _ _ h => h) (Or.inl ⟨by kernel_rfl, ?_⟩) qa95 ?_
          rotate_left 1
          · (intro w hSw; obtain ⟨g0, g1, g2⟩ := hSw; go_simp; (try with_reducible rfl))
          try simp only [Act.put, List.setIfInBounds_toArray, List.set_cons_zero, List.set_cons_succ]
          refine take_to (some 33) (i := 7) (oi := _) (v := ?_) rfl rfl (by kernel_rfl) (by kernel_rfl) (by kernel_rfl) (fun _ _ _ h => h) (Or.inl ⟨by kernel_rfl, ?_⟩) qa95 ?_
          rotate_left 1
          · (intro w hSw; obtain ⟨g0, g1, g2⟩ := hSw; go_simp; (try with_reducible rfl))
          try simp only [Act.put, List.setIfInBounds_toArray, List.set_cons_zero, List.set_cons_succ]
          refine take_to (some 34) (i := 8) (oi := _) (v := ?_) rfl rfl (by kernel_rfl) (by kernel_rfl) (by kernel_rfl) (fun _ _ _ h => h) (Or.inl ⟨by kernel_rfl, ?_⟩) qa95 ?_
          rotate_left 1
          · (intro w hSw; obtain ⟨g0, g1, g2⟩ := hSw; go_simp; (try with_reducible rfl))
          try simp only [Act.put, List.setIfInBounds_toArray, List.set_cons_zero, List.set_cons_succ]
          refine wpAnyH_ready (rs := [10]) (by kernel_rfl) (by simp) ?_
          refine AllReadyH.cons (o := _) rfl (fun K hK => ?_) AllReadyH.nil
          obtain ⟨z0, z1, z2⟩ := st_cells HZ
          have zf0 := st_frozen HZ 0
          have zf1 := st_frozen HZ 1
          have zf2 := st_frozen HZ 2
          have HE := Lib.hid (stored_st (nx := 3) (lg := 5) HZ HOW HZN.out HB.out)
          go_simp
          refine hK.out _ _ (HS.out _ HE.out.2.2) (fun qa96 => ?_)
          clear hK K
          try simp only [Act.put, List.setIfInBounds_toArray, List.set_cons_zero, List.set_cons_succ]
          refine take_to (some 4) (i := 11) (oi := _) (v := ?_) rfl rfl (by kernel_rfl) (by kernel_rfl) (by kernel_rfl) (fun _ _ _ h => h) (Or.inl ⟨by kernel_rfl, ?_⟩) qa96 ?_
          rotate_left 1
          · (intro w hSw; obtain ⟨g0, g1, g2⟩ := hSw; go_simp; (try with_reducible rfl))
          try simp only [Act.put, List.setIfInBounds_toArray, List.set_cons_zero, List.set_cons_succ]
          refine wpAnyH_done (by kernel_rfl) ?_ _
          go_wp2_with fail
          go_meet
          exact ⟨zb, pw, cw, rfl, rfl, Lib.hid ⟨HE.out.1, HE.out.2.1, HCW.out, HZN.out, HE.out.2.2⟩⟩
      · have HZN := Lib.hid (show W2.heap.size ≤ wa41.heap.size from HB.out.size)
        go_simp
        obtain ⟨wa97, ha98⟩ : ∃ x, x = wa41.alloc (.cells #[.int .i64 0, .int .i64 0, .slice none 0 0] 24) := ⟨_, rfl⟩
        rw [← ha98]
        have hb : Below wa41.heap.size wa41 wa97 := by rw [ha98]; exact mbelow_alloc _ _
        have HZ := (by rw [ha98]; exact heap_alloc_new wa41 _ : wa97.heap[wa41.heap.size]? = some (stO 0 0 none 0 0))
        have HB_ := Lib.hid (HB.out.trans (hb.mono HB.out.size))
        clear HB
        have HB := HB_
        clear HB_ hb ha98
        generalize wa41.heap.size = zb at *
        refine hK.out _ _ (HS.out _ HB.out) (fun qa99 => ?_)
        clear hK K
        try simp only [Act.put, List.setIfInBounds_toArray, List.set_cons_zero, List.set_cons_succ]
        refine wpAnyH_ready (rs := [1, 3]) (by kernel_rfl) (by simp) ?_
        refine AllReadyH.cons (o := _) rfl (fun K hK => ?_) (AllReadyH.cons (o := _) rfl (fun K hK => ?_) AllReadyH.nil)
        · go_simp
          obtain ⟨wa100, ha101⟩ : ∃ x, x = wa97.alloc (.cells #[.int .i64 1] 3) := ⟨_, rfl⟩
          rw [← ha101]
          have hb : Below wa97.heap.size wa97 wa100 := by rw [ha101]; exact mbelow_alloc _ _
          have HZ_ := (hb.block _ (Array.getElem?_eq_some_iff.1 HZ).1).trans HZ
          clear HZ
          have HZ := HZ_
          clear HZ_
          have HIN := (by rw [ha101]; exact ints_new wa97 1 ⟨by decide, by decide⟩ _ : IntsM wa100 (some ⟨wa97.heap.size, 0, none⟩) [1])
          have HB_ := Lib.hid (HB.out.trans (hb.mono HB.out.size))
          clear HB
          have HB := HB_
          clear HB_ hb ha101
          refine hK.out _ _ (HS.out _ HB.out) (fun qa102 => ?_)
          clear hK K
          try simp only [Act.put, List.setIfInBounds_toArray, List.set_cons_zero, List.set_cons_succ]
          refine wpAnyH_ready (rs := [3]) (by kernel_rfl) (by simp) ?_
          refine AllReadyH.cons (o := _) rfl (fun K hK => ?_) AllReadyH.nil
          go_simp
          obtain ⟨wa103, ha104⟩ : ∃ x, x = wa100.alloc (.cells #[.int .i64 2, .int .i64 1, .int .i64 1, .string ⟨#[98]⟩, .string ⟨#[98]⟩] 29) := ⟨_, rfl⟩
          rw [← ha104]
          have hb : Below wa100.heap.size wa100 wa103 := by rw [ha104]; exact mbelow_alloc _ _
          have HZ_ := (hb.block _ (Array.getElem?_eq_some_iff.1 HZ).1).trans HZ
          have HIN_ := HIN.below hb
          clear HZ
          have HZ := HZ_
          clear HZ_
          clear HIN
          have HIN := HIN_
          clear HIN_
          have HFI := (by rw [ha104]; exact files_new wa100 otherF fiIn_other _ : FilesAt wa103 (some ⟨wa100.heap.size, 0, none⟩) [otherF])
          have HB_ := Lib.hid (HB.out.trans (hb.mono HB.out.size))
          clear HB
          have HB := HB_
          clear HB_ hb ha104
          refine hK.out _ _ (HS.out _ HB.out) (fun qa105 => ?_)
          clear hK K
          try simp only [Act.put, List.setIfInBounds_toArray, List.set_cons_zero, List.set_cons_succ]
          refine take_to (some 31) (i := 4) (oi := _) (v := ?_) rfl rfl (by kernel_rfl) (by kernel_rfl) (by kernel_rfl) (fun _ _ _ h => h) (Or.inl ⟨by kernel_rfl, ?_⟩) qa105 ?_
          rotate_left 1
          · (intro w hSw; obtain ⟨g0, g1, g2⟩ := hSw; go_simp; (try with_reducible rfl))
          try simp only [Act.put, List.setIfInBounds_toArray, List.set_cons_zero, List.set_cons_succ]
          refine wpAnyH_ready (rs := [5]) (by kernel_rfl) (by simp) ?_
          refine AllReadyH.cons (o := _) rfl (fun K hK => ?_) AllReadyH.nil
          go_simp
          refine (HAP.out wa103 _ _ HIN HFI HB.out).mono ?_
          rintro e wa106 ⟨pw, cw, rfl, HCW, HOW, hb⟩
          have HZ_ := (hb.block _ (Array.getElem?_eq_some_iff.1 HZ).1).trans HZ
          have HIN_ := HIN.below hb
          have HFI_ := HFI.below hb
          clear HZ
          have HZ := HZ_
          clear HZ_
          clear HIN
          have HIN := HIN_
          clear HIN_
          clear HFI
          have HFI := HFI_
          clear HFI_
          have HB_ := Lib.hid (HB.out.trans (hb.mono HB.out.size))
          clear HB
          have HB := HB_
          clear HB_ hb
          refine hK.out _ _ (HS.out _ HB.out) (fun qa107 => ?_)
          clear hK K
          try simp only [Act.put, List.setIfInBounds_toArray, List.set_cons_zero, List.set_cons_succ]
          refine take_to (some 26) (i := 6) (oi := _) (v := ?_) rfl rfl (by kernel_rfl) (by kernel_rfl) (by kernel_rfl) (fun _ _ _ h => h) (Or.inl ⟨by kernel_rfl, ?_⟩) qa107 ?_
          rotate_left 1
          · (intro w hSw; obtain ⟨g0, g1, g2⟩ := hSw; go_simp; (try with_reducible rfl))
          try simp only [Act.put, List.setIfInBounds_toArray, List.set_cons_zero, List.set_cons_succ]
          refine take_to (some 33) (i := 7) (oi := _) (v := ?_) rfl rfl (by kernel_rfl) (by kernel_rfl) (by kernel_rfl) (fun _ _ _ h => h) (Or.inl ⟨by kernel_rfl, ?_⟩) qa107 ?_
          rotate_left 1
          · (intro w hSw; obtain ⟨g0, g1, g2⟩ := hSw; go_simp; (try with_reducible rfl))
          try simp only [Act.put, List.setIfInBounds_toArray, List.set_cons_zero, List.set_cons_succ]
          refine take_to (some 34) (i := 8) (oi := _) (v := ?_) rfl rfl (by kernel_rfl) (by kernel_rfl) (by kernel_rfl) (fun _ _ _ h => h) (Or.inl ⟨by kernel_rfl, ?_⟩) qa107 ?_
          rotate_left 1
          · (intro w hSw; obtain ⟨g0, g1, g2⟩ := hSw; go_simp; (try with_reducible rfl))
          try simp only [Act.put, List.setIfInBounds_toArray, List.set_cons_zero, List.set_cons_succ]
          refine wpAnyH_ready (rs := [10]) (by kernel_rfl) (by simp) ?_
          refine AllReadyH.cons (o := _) rfl (fun K hK => ?_) AllReadyH.nil
          obtain ⟨z0, z1, z2⟩ := st_cells HZ
          have zf0 := st_frozen HZ 0
          have zf1 := st_frozen HZ 1
          have zf2 := st_frozen HZ 2
          have HE := Lib.hid (stored_st (nx := 3) (lg := 5) HZ HOW HZN.out HB.out)
          go_simp
          refine hK.out _ _ (HS.out _ HE.out.2.2) (fun qa108 => ?_)
          clear hK K
          try simp only [Act.put, List.setIfInBounds_toArray, List.set_cons_zero, List.set_cons_succ]
          refine take_to (some 4) (i := 11) (oi := _) (v := ?_) rfl rfl (by kernel_rfl) (by kernel_rfl) (by kernel_rfl) (fun _ _ _ h => h) (Or.inl ⟨by kernel_rfl, ?_⟩) qa108 ?_
          rotate_left 1
          · (intro w hSw; obtain ⟨g0, g1, g2⟩ := hSw; go_simp; (try with_reducible rfl))
          try simp only [Act.put, List.setIfInBounds_toArray, List.set_cons_zero, List.set_cons_succ]
          refine wpAnyH_done (by kernel_rfl) ?_ _
          go_wp2_with fail
          go_meet
          exact ⟨zb, pw, cw, rfl, rfl, Lib.hid ⟨HE.out.1, HE.out.2.1, HCW.out, HZN.out, HE.out.2.2⟩⟩
        · go_simp
          obtain ⟨wa109, ha110⟩ : ∃ x, x = wa97.alloc (.cells #[.int .i64 2, .int .i64 1, .int .i64 1, .string ⟨#[98]⟩, .string ⟨#[98]⟩] 29) := ⟨_, rfl⟩
          rw [← ha110]
          have hb : Below wa97.heap.size wa97 wa109 := by rw [ha110]; exact mbelow_alloc _ _
          have HZ_ := (hb.block _ (Array.getElem?_eq_some_iff.1 HZ).1).trans HZ
          clear HZ
          have HZ := HZ_
          clear HZ_
          have HFI := (by rw [ha110]; exact files_new wa97 otherF fiIn_other _ : FilesAt wa109 (some ⟨wa97.heap.size, 0, none⟩) [otherF])
          have HB_ := Lib.hid (HB.out.trans (hb.mono HB.out.size))
          clear HB
          have HB := HB_
          clear HB_ hb ha110
          refine hK.out _ _ (HS.out _ HB.out) (fun qa111 => ?_)
          clear hK K
          try simp only [Act.put, List.setIfInBounds_toArray, List.set_cons_zero, List.set_cons_succ]
          refine wpAnyH_ready (rs := [1]) (by kernel_rfl) (by simp) ?_
          refine AllReadyH.cons (o := _) rfl (fun K hK => ?_) AllReadyH.nil
          go_simp
          obtain ⟨wa112, ha113⟩ : ∃ x, x = wa109.alloc (.cells #[.int .i64 1] 3) := ⟨_, rfl⟩
          rw [← ha113]
          have hb : Below wa109.heap.size wa109 wa112 := by rw [ha113]; exact mbelow_alloc _ _
          have HZ_ := (hb.block _ (Array.getElem?_eq_some_iff.1 HZ).1).trans HZ
          have HFI_ := HFI.below hb
          clear HZ
          have HZ := HZ_
          clear HZ_
          clear HFI
          have HFI := HFI_
          clear HFI_
          have HIN := (by rw [ha113]; exact ints_new wa109 1 ⟨by decide, by decide⟩ _ : IntsM wa112 (some ⟨wa109.heap.size, 0, none⟩) [1])
          have HB_ := Lib.hid (HB.out.trans (hb.mono HB.out.size))
          clear HB
          have HB := HB_
          clear HB_ hb ha113
          refine hK.out _ _ (HS.out _ HB.out) (fun qa114 => ?_)
          clear hK K
          try simp only [Act.put, List.setIfInBounds_toArray, List.set_cons_zero, List.set_cons_succ]
          refine take_to (some 31) (i := 4) (oi := _) (v := ?_) rfl rfl (by kernel_rfl) (by kernel_rfl) (by kernel_rfl) (fun _ _ _ h => h) (Or.inl ⟨by kernel_rfl, ?_⟩) qa114 ?_
          rotate_left 1
          · (intro w hSw; obtain ⟨g0, g1, g2⟩ := hSw; go_simp; (try with_reducible rfl))
          try simp only [Act.put, List.setIfInBounds_toArray, List.set_cons_zero, List.set_cons_succ]
          refine wpAnyH_ready (rs := [5]) (by kernel_rfl) (by simp) ?_
          refine AllReadyH.cons (o := _) rfl (fun K hK => ?_) AllReadyH.nil
          go_simp
          refine (HAP.out wa112 _ _ HIN HFI HB.out).mono ?_
          rintro e wa115 ⟨pw, cw, rfl, HCW, HOW, hb⟩
          have HZ_ := (hb.block _ (Array.getElem?_eq_some_iff.1 HZ).1).trans HZ
          have HFI_ := HFI.below hb
          have HIN_ := HIN.below hb
          clear HZ
          have HZ := HZ_
          clear HZ_
          clear HFI
          have HFI := HFI_
          clear HFI_
          clear HIN
          have HIN := HIN_
          clear HIN_
          have HB_ := Lib.hid (HB.out.trans (hb.mono HB.out.size))
          clear HB
          have HB := HB_
          clear HB_ hb
          refine hK.out _ _ (HS.out _ HB.out) (fun qa116 => ?_)
          clear hK K
          try simp only [Act.put, List.setIfInBounds_toArray, List.set_cons_zero, List.set_cons_succ]
          refine take_to (some 26) (i := 6) (oi := _) (v := ?_) rfl rfl (by kernel_rfl) (by kernel_rfl) (by kernel_rfl) (fun _ _ _ h => h) (Or.inl ⟨by kernel_rfl, ?_⟩) qa116 ?_
          rotate_left 1
          · (intro w hSw; obtain ⟨g0, g1, g2⟩ := hSw; go_simp; (try with_reducible rfl))
          try simp only [Act.put, List.setIfInBounds_toArray, List.set_cons_zero, List.set_cons_succ]
          refine take_to (some 33) (i := 7) (oi := _) (v := ?_) rfl rfl (by kernel_rfl) (by kernel_rfl) (by kernel_rfl) (fun _ _ _ h => h) (Or.inl ⟨by kernel_rfl, ?_⟩) qa116 ?_
          rotate_left 1
          · (intro w hSw; obtain ⟨g0, g1, g2⟩ := hSw; go_simp; (try with_reducible rfl))
          try simp only [Act.put, List.setIfInBounds_toArray, List.set_cons_zero, List.set_cons_succ]
          refine take_to (some 34) (i := 8) (oi := _) (v := ?_) rfl rfl (by kernel_rfl) (by kernel_rfl) (by kernel_rfl) (fun _ _ _ h => h) (Or.inl ⟨by kernel_rfl, ?_⟩) qa116 ?_
          rotate_left 1
          · (intro w hSw; obtain ⟨g0, g1, g2⟩ := hSw; go_simp; (try with_reducible rfl))
          try simp only [Act.put, List.setIfInBounds_toArray, List.set_cons_zero, List.set_cons_succ]
          refine wpAnyH_ready (rs := [10]) (by kernel_rfl) (by simp) ?_
          refine AllReadyH.cons (o := _) rfl (fun K hK => ?_) AllReadyH.nil
          obtain ⟨z0, z1, z2⟩ := st_cells HZ
          have zf0 := st_frozen HZ 0
          have zf1 := st_frozen HZ 1
          have zf2 := st_frozen HZ 2
          have HE := Lib.hid (stored_st (nx := 3) (lg := 5) HZ HOW HZN.out HB.out)
          go_simp
          refine hK.out _ _ (HS.out _ HE.out.2.2) (fun qa117 => ?_)
          clear hK K
          try simp only [Act.put, List.setIfInBounds_toArray, List.set_cons_zero, List.set_cons_succ]
          refine take_to (some 4) (i := 11) (oi := _) (v := ?_) rfl rfl (by kernel_rfl) (by kernel_rfl) (by kernel_rfl) (fun _ _ _ h => h) (Or.inl ⟨by kernel_rfl, ?_⟩) qa117 ?_
          rotate_left 1
          · (intro w hSw; obtain ⟨g0, g1, g2⟩ := hSw; go_simp; (try with_reducible rfl))
          try simp only [Act.put, List.setIfInBounds_toArray, List.set_cons_zero, List.set_cons_succ]
          refine wpAnyH_done (by kernel_rfl) ?_ _
          go_wp2_with fail
          go_meet
          exact ⟨zb, pw, cw, rfl, rfl, Lib.hid ⟨HE.out.1, HE.out.2.1, HCW.out, HZN.out, HE.out.2.2⟩⟩
    · have HZN := Lib.hid (show W2.heap.size ≤ w0_.heap.size from HB.out.size)
      go_simp
      obtain ⟨wa118, ha119⟩ : ∃ x, x = w0_.alloc (.cells #[.int .i64 0, .int .i64 0, .slice none 0 0] 24) := ⟨_, rfl⟩
      rw [← ha119]
      have hb : Below w0_.heap.size w0_ wa118 := by rw [ha119]; exact mbelow_alloc _ _
      have HZ := (by rw [ha119]; exact heap_alloc_new w0_ _ : wa118.heap[w0_.heap.size]? = some (stO 0 0 none 0 0))
      have HB_ := Lib.hid (HB.out.trans (hb.mono HB.out.size))
      clear HB
      have HB := HB_
      clear HB_ hb ha119
      generalize w0_.heap.size = zb at *
      refine hK.out _ _ (HS.out _ HB.out) (fun qa120 => ?_)
      clear hK K
      try simp only [Act.put, List.setIfInBounds_toArray, List.set_cons_zero, List.set_cons_succ]
      refine wpAnyH_ready (rs := [1, 2]) (by kernel_rfl) (by simp) ?_
      refine AllReadyH.cons (o := _) rfl (fun K hK => ?_) (AllReadyH.cons (o := _) rfl (fun K hK => ?_) AllReadyH.nil)
      · go_simp
        obtain ⟨wa121, ha122⟩ : ∃ x, x = wa118.alloc (.cells #[.int .i64 1] 3) := ⟨_, rfl⟩
        rw [← ha122]
        have hb : Below wa118.heap.size wa118 wa121 := by rw [ha122]; exact mbelow_alloc _ _
        have HZ_ := (hb.block _ (Array.getElem?_eq_some_iff.1 HZ).1).trans HZ
        clear HZ
        have HZ := HZ_
        clear HZ_
        have HIN := (by rw [ha122]; exact ints_new wa118 1 ⟨by decide, by decide⟩ _ : IntsM wa121 (some ⟨wa118.heap.size, 0, none⟩) [1])
        have HB_ := Lib.hid (HB.out.trans (hb.mono HB.out.size))
        clear HB
        have HB := HB_
        clear HB_ hb ha122
        refine hK.out _ _ (HS.out _ HB.out) (fun qa123 => ?_)
        clear hK K
        try simp only [Act.put, List.setIfInBounds_toArray, List.set_cons_zero, List.set_cons_succ]
        refine wpAnyH_ready (rs := [2]) (by kernel_rfl) (by simp) ?_
        refine AllReadyH.cons (o := _) rfl (fun K hK => ?_) AllReadyH.nil
        go_simp
        refine (other_any wa121).mono ?_
        rintro e wa124 ⟨rfl, hb⟩
        have HZ_ := (hb.block _ (Array.getElem?_eq_some_iff.1 HZ).1).trans HZ
        have HIN_ := HIN.below hb
        clear HZ
        have HZ := HZ_
        clear HZ_
        clear HIN
        have HIN := HIN_
        clear HIN_
        have HB_ := Lib.hid (HB.out.trans (hb.mono HB.out.size))
        clear HB
        have HB := HB_
        clear HB_ hb
        refine hK.out _ _ (HS.out _ HB.out) (fun qa125 => ?_)
        clear hK K
        try simp only [Act.put, List.setIfInBounds_toArray, List.set_cons_zero, List.set_cons_succ]
        refine wpAnyH_ready (rs := [3]) (by kernel_rfl) (by simp) ?_
        refine AllReadyH.cons (o := _) rfl (fun K hK => ?_) AllReadyH.nil
        go_simp
        obtain ⟨wa126, ha127⟩ : ∃ x, x = wa124.alloc (.cells #[.int .i64 2, .int .i64 1, .int .i64 1, .string ⟨#[98]⟩, .string ⟨#[98]⟩] 29) := ⟨_, rfl⟩
        rw [← ha127]
        have hb : Below wa124.heap.size wa124 wa126 := by rw [ha127]; exact mbelow_alloc _ _
        have HZ_ := (hb.block _ (Array.getElem?_eq_some_iff.1 HZ).1).trans HZ
        have HIN_ := HIN.below hb
        clear HZ
        have HZ := HZ_
        clear HZ_
        clear HIN
        have HIN := HIN_
        clear HIN_
        have HFI := (by rw [ha127]; exact files_new wa124 otherF fiIn_other _ : FilesAt wa126 (some ⟨wa124.heap.size, 0, none⟩) [otherF])
        have HB_ := Lib.hid (HB.out.trans (hb.mono HB.out.size))
        clear HB
        have HB := HB_
        clear HB_ hb ha127
        refine hK.out _ _ (HS.out _ HB.out) (fun qa128 => ?_)
        clear hK K
        try simp only [Act.put, List.setIfInBounds_toArray, List.set_cons_zero, List.set_cons_succ]
        refine take_to (some 31) (i := 4) (oi := _) (v := ?_) rfl rfl (by kernel_rfl) (by kernel_rfl) (by kernel_rfl) (fun _ _ _ h => h) (Or.inl ⟨by kernel_rfl, ?_⟩) qa128 ?_
        rotate_left 1
        · (intro w hSw; obtain ⟨g0, g1, g2⟩ := hSw; go_simp; (try with_reducible rfl))
        try simp only [Act.put, List.setIfInBounds_toArray, List.set_cons_zero, List.set_cons_succ]
        refine wpAnyH_ready (rs := [5]) (by kernel_rfl) (by simp) ?_
        refine AllReadyH.cons (o := _) rfl (fun K hK => ?_) AllReadyH.nil
        go_simp
        refine (HAP.out wa126 _ _ HIN HFI HB.out).mono ?_
        rintro e wa129 ⟨pw, cw, rfl, HCW, HOW, hb⟩
        have HZ_ := (hb.block _ (Array.getElem?_eq_some_iff.1 HZ).1).trans HZ
        have HIN_ := HIN.below hb
        have HFI_ := HFI.below hb
        clear HZ
        have HZ := HZ_
        clear HZ_
        clear HIN
        have HIN := HIN_
        clear HIN_
        clear HFI
        have HFI := HFI_
        clear HFI_
        have HB_ := Lib.hid (HB.out.trans (hb.mono HB.out.size))
        clear HB
        have HB := HB_
        clear HB_ hb
        refine hK.out _ _ (HS.out _ HB.out) (fun qa130 => ?_)
        clear hK K
        try simp only [Act.put, List.setIfInBounds_toArray, List.set_cons_zero, List.set_cons_succ]
        refine take_to (some 26) (i := 6) (oi := _) (v := ?_) rfl rfl (by kernel_rfl) (by kernel_rfl) (by kernel_rfl) (fun _ _ _ h => h) (Or.inl ⟨by kernel_rfl, ?_⟩) qa130 ?_
        rotate_left 1
        · (intro w hSw; obtain ⟨g0, g1, g2⟩ := hSw; go_simp; (try with_reducible rfl))
        try simp only [Act.put, List.setIfInBounds_toArray, List.set_cons_zero, List.set_cons_succ]
        refine take_to (some 33) (i := 7) (oi := _) (v := ?_) rfl rfl (by kernel_rfl) (by kernel_rfl) (by kernel_rfl) (fun _ _ _ h => h) (Or.inl ⟨by kernel_rfl, ?_⟩) qa130 ?_
        rotate_left 1
        · (intro w hSw; obtain ⟨g0, g1, g2⟩ := hSw; go_simp; (try with_reducible rfl))
        try simp only [Act.put, List.setIfInBounds_toArray, List.set_cons_zero, List.set_cons_succ]
        refine take_to (some 34) (i := 8) (oi := _) (v := ?_) rfl rfl (by kernel_rfl) (by kernel_rfl) (by kernel_rfl) (fun _ _ _ h => h) (Or.inl ⟨by kernel_rfl, ?_⟩) qa130 ?_
        rotate_left 1
        · (intro w hSw; obtain ⟨g0, g1, g2⟩ := hSw; go_simp; (try with_reducible rfl))
        try simp only [Act.put, List.setIfInBounds_toArray, List.set_cons_zero, List.set_cons_succ]
        refine wpAnyH_ready (rs := [10]) (by kernel_rfl) (by simp) ?_
        refine AllReadyH.cons (o := _) rfl (fun K hK => ?_) AllReadyH.nil
        obtain ⟨z0, z1, z2⟩ := st_cells HZ
        have zf0 := st_frozen HZ 0
        have zf1 := st_frozen HZ 1
        have zf2 := st_frozen HZ 2
        have HE := Lib.hid (stored_st (nx := 3) (lg := 5) HZ HOW HZN.out HB.out)
        go_simp
        refine hK.out _ _ (HS.out _ HE.out.2.2) (fun qa131 => ?_)
        clear hK K
        try simp only [Act.put, List.setIfInBounds_toArray, List.set_cons_zero, List.set_cons_succ]
        refine take_to (some 4) (i := 11) (oi := _) (v := ?_) rfl rfl (by kernel_rfl) (by kernel_rfl) (by kernel_rfl) (fun _ _ _ h => h) (Or.inl ⟨by kernel_rfl, ?_⟩) qa131 ?_
        rotate_left 1
        · (intro w hSw; obtain ⟨g0, g1, g2⟩ := hSw; go_simp; (try with_reducible rfl))
        try simp only [Act.put, List.setIfInBounds_toArray, List.set_cons_zero, List.set_cons_succ]
        refine wpAnyH_done (by kernel_rfl) ?_ _
        go_wp2_with fail
        go_meet
        exact ⟨zb, pw, cw, rfl, rfl, Lib.hid ⟨HE.out.1, HE.out.2.1, HCW.out, HZN.out, HE.out.2.2⟩⟩
      · go_simp
        refine (other_any wa118).mono ?_
        rintro e wa132 ⟨rfl, hb⟩
        have HZ_ := (hb.block _ (Array.getElem?_eq_some_iff.1 HZ).1).trans HZ
        clear HZ
        have HZ := HZ_
        clear HZ_
        have HB_ := Lib.hid (HB.out.trans (hb.mono HB.out.size))
        clear HB
        have HB := HB_
        clear HB_ hb
        refine hK.out _ _ (HS.out _ HB.out) (fun qa133 => ?_)
        clear hK K
        try simp only [Act.put, List.setIfInBounds_toArray, List.set_cons_zero, List.set_cons_succ]
        refine wpAnyH_ready (rs := [1, 3]) (by kernel_rfl) (by simp) ?_
        refine AllReadyH.cons (o := _) rfl (fun K hK => ?_) (AllReadyH.cons (o := _) rfl (fun K hK => ?_) AllReadyH.nil)
        · go_simp
          obtain ⟨wa134, ha135⟩ : ∃ x, x = wa132.alloc (.cells #[.int .i64 1] 3) := ⟨_, rfl⟩
          rw [← ha135]
          have hb : Below wa132.heap.size wa132 wa134 := by rw [ha135]; exact mbelow_alloc _ _
          have HZ_ := (hb.block _ (Array.getElem?_eq_some_iff.1 HZ).1).trans HZ
          clear HZ
          have HZ := HZ_
          clear HZ_
          have HIN := (by rw [ha135]; exact ints_new wa132 1 ⟨by decide, by decide⟩ _ : IntsM wa134 (some ⟨wa132.heap.size, 0, none⟩) [1])
          have HB_ := Lib.hid (HB.out.trans (hb.mono HB.out.size))
          clear HB
          have HB := HB_
          clear HB_ hb ha135
          refine hK.out _ _ (HS.out _ HB.out) (fun qa136 => ?_)
          clear hK K
          try simp only [Act.put, List.setIfInBounds_toArray, List.set_cons_zero, List.set_cons_succ]
          refine wpAnyH_ready (rs := [3]) (by kernel_rfl) (by simp) ?_
          refine AllReadyH.cons (o := _) rfl (fun K hK => ?_) AllReadyH.nil
          go_simp
          obtain ⟨wa137, ha138⟩ : ∃ x, x = wa134.alloc (.cells #[.int .i64 2, .int .i64 1, .int .i64 1, .string ⟨#[98]⟩, .string ⟨#[98]⟩] 29) := ⟨_, rfl⟩
          rw [← ha138]
          have hb : Below wa134.heap.size wa134 wa137 := by rw [ha138]; exact mbelow_alloc _ _
          have HZ_ := (hb.block _ (Array.getElem?_eq_some_iff.1 HZ).1).trans HZ
          have HIN_ := HIN.below hb
          clear HZ
          have HZ := HZ_
          clear HZ_
          clear HIN
          have HIN := HIN_
          clear HIN_
          have HFI := (by rw [ha138]; exact files_new wa134 otherF fiIn_other _ : FilesAt wa137 (some ⟨wa134.heap.size, 0, none⟩) [otherF])
          have HB_ := Lib.hid (HB.out.trans (hb.mono HB.out.size))
          clear HB
          have HB := HB_
          clear HB_ hb ha138
          refine hK.out _ _ (HS.out _ HB.out) (fun qa139 => ?_)
          clear hK K
          try simp only [Act.put, List.setIfInBounds_toArray, List.set_cons_zero, List.set_cons_succ]
          refine take_to (some 31) (i := 4) (oi := _) (v := ?_) rfl rfl (by kernel_rfl) (by kernel_rfl) (by kernel_rfl) (fun _ _ _ h => h) (Or.inl ⟨by kernel_rfl, ?_⟩) qa139 ?_
          rotate_left 1
          · (intro w hSw; obtain ⟨g0, g1, g2⟩ := hSw; go_simp; (try with_reducible rfl))
          try simp only [Act.put, List.setIfInBounds_toArray, List.set_cons_zero, List.set_cons_succ]
          refine wpAnyH_ready (rs := [5]) (by kernel_rfl) (by simp) ?_
          refine AllReadyH.cons (o := _) rfl (fun K hK => ?_) AllReadyH.nil
          go_simp
          refine (HAP.out wa137 _ _ HIN HFI HB.out).mono ?_
          rintro e wa140 ⟨pw, cw, rfl, HCW, HOW, hb⟩
          have HZ_ := (hb.block _ (Array.getElem?_eq_some_iff.1 HZ).1).trans HZ
          have HIN_ := HIN.below hb
          have HFI_ := HFI.below hb
          clear HZ
          have HZ := HZ_
          clear HZ_
          clear HIN
          have HIN := HIN_
          clear HIN_
          clear HFI
          have HFI := HFI_
          clear HFI_
          have HB_ := Lib.hid (HB.out.trans (hb.mono HB.out.size))
          clear HB
          have HB := HB_
          clear HB_ hb
          refine hK.out _ _ (HS.out _ HB.out) (fun qa141 => ?_)
          clear hK K
          try simp only [Act.put, List.setIfInBounds_toArray, List.set_cons_zero, List.set_cons_succ]
          refine take_to (some 26) (i := 6) (oi := _) (v := ?_) rfl rfl (by kernel_rfl) (by kernel_rfl) (by kernel_rfl) (fun _ _ _ h => h) (Or.inl ⟨by kernel_rfl, ?_⟩) qa141 ?_
          rotate_left 1
          · (intro w hSw; obtain ⟨g0, g1, g2⟩ := hSw; go_simp; (try with_reducible rfl))
          try simp only [Act.put, List.setIfInBounds_toArray, List.set_cons_zero, List.set_cons_succ]
          refine take_to (some 33) (i := 7) (oi := _) (v := ?_) rfl rfl (by kernel_rfl) (by kernel_rfl) (by kernel_rfl) (fun _ _ _ h => h) (Or.inl ⟨by kernel_rfl, ?_⟩) qa141 ?_
          rotate_left 1
          · (intro w hSw; obtain ⟨g0, g1, g2⟩ := hSw; go_simp; (try with_reducible rfl))
          try simp only [Act.put, List.setIfInBounds_toArray, List.set_cons_zero, List.set_cons_succ]
          refine take_to (some 34) (i := 8) (oi := _) (v := ?_) rfl rfl (by kernel_rfl) (by kernel_rfl) (by kernel_rfl) (fun _ _ _ h => h) (Or.inl ⟨by kernel_rfl, ?_⟩) qa141 ?_
          rotate_left 1
          · (intro w hSw; obtain ⟨g0, g1, g2⟩ := hSw; go_simp; (try with_reducible rfl))
          try simp only [Act.put, List.setIfInBounds_toArray, List.set_cons_zero, List.set_cons_succ]
          refine wpAnyH_ready (rs := [10]) (by kernel_rfl) (by simp) ?_
          refine AllReadyH.cons (o := _) rfl (fun K hK => ?_) AllReadyH.nil
          obtain ⟨z0, z1, z2⟩ := st_cells HZ
          have zf0 := st_frozen HZ 0
          have zf1 := st_frozen HZ 1
          have zf2 := st_frozen HZ 2
          have HE := Lib.hid (stored_st (nx := 3) (lg := 5) HZ HOW HZN.out HB.out)
          go_simp
          refine hK.out _ _ (HS.out _ HE.out.2.2) (fun qa142 => ?_)
          clear hK K
          try simp only [Act.put, List.setIfInBounds_toArray, List.set_cons_zero, List.set_cons_succ]
          refine take_to (some 4) (i := 11) (oi := _) (v := ?_) rfl rfl (by kernel_rfl) (by kernel_rfl) (by kernel_rfl) (fun _ _ _ h => h) (Or.inl ⟨by kernel_rfl, ?_⟩) qa142 ?_
          rotate_left 1
          · (intro w hSw; obtain ⟨g0, g1, g2⟩ := hSw; go_simp; (try with_reducible rfl))
          try simp only [Act.put, List.setIfInBounds_toArray, List.set_cons_zero, List.set_cons_succ]
          refine wpAnyH_done (by kernel_rfl) ?_ _
          go_wp2_with fail
          go_meet
          exact ⟨zb, pw, cw, rfl, rfl, Lib.hid ⟨HE.out.1, HE.out.2.1, HCW.out, HZN.out, HE.out.2.2⟩⟩
        · go_simp
          obtain ⟨wa143, ha144⟩ : ∃ x, x = wa132.alloc (.cells #[.int .i64 2, .int .i64 1, .int .i64 1, .string ⟨#[98]⟩, .string ⟨#[98]⟩] 29) := ⟨_, rfl⟩
          rw [← ha144]
          have hb : Below wa132.heap.size wa132 wa143 := by rw [ha144]; exact mbelow_alloc _ _
          have HZ_ := (hb.block _ (Array.getElem?_eq_some_iff.1 HZ).1).trans HZ
          clear HZ
          have HZ := HZ_
          clear HZ_
          have HFI := (by rw [ha144]; exact files_new wa132 otherF fiIn_other _ : FilesAt wa143 (some ⟨wa132.heap.size, 0, none⟩) [otherF])
          have HB_ := Lib.hid (HB.out.trans (hb.mono HB.out.size))
          clear HB
          have HB := HB_
          clear HB_ hb ha144
          refine hK.out _ _ (HS.out _ HB.out) (fun qa145 => ?_)
          clear hK K
          try simp only [Act.put, List.setIfInBounds_toArray, List.set_cons_zero, List.set_cons_succ]
          refine wpAnyH_ready (rs := [1]) (by kernel_rfl) (by simp) ?_
          refine AllReadyH.cons (o := _) rfl (fun K hK => ?_) AllReadyH.nil
          go_simp
          obtain ⟨wa146, ha147⟩ : ∃ x, x = wa143.alloc (.cells #[.int .i64 1] 3) := ⟨_, rfl⟩
          rw [← ha147]
          have hb : Below wa143.heap.size wa143 wa146 := by rw [ha147]; exact mbelow_alloc _ _
          have HZ_ := (hb.block _ (Array.getElem?_eq_some_iff.1 HZ).1).trans HZ
          have HFI_ := HFI.below hb
          clear HZ
          have HZ := HZ_
          clear HZ_
          clear HFI
          have HFI := HFI_
          clear HFI_
          have HIN := (by rw [ha147]; exact ints_new wa143 1 ⟨by decide, by decide⟩ _ : IntsM wa146 (some ⟨wa143.heap.size, 0, none⟩) [1])
          have HB_ := Lib.hid (HB.out.trans (hb.mono HB.out.size))
          clear HB
          have HB := HB_
          clear HB_ hb ha147
          refine hK.out _ _ (HS.out _ HB.out) (fun qa148 => ?_)
          clear hK K
          try simp only [Act.put, List.setIfInBounds_toArray, List.set_cons_zero, List.set_cons_succ]
          refine take_to (some 31) (i := 4) (oi := _) (v := ?_) rfl rfl (by kernel_rfl) (by kernel_rfl) (by kernel_rfl) (fun _ _ _ h => h) (Or.inl ⟨by kernel_rfl, ?_⟩) qa148 ?_
          rotate_left 1
          · (intro w hSw; obtain ⟨g0, g1, g2⟩ := hSw; go_simp; (try with_reducible rfl))
          try simp only [Act.put, List.setIfInBounds_toArray, List.set_cons_zero, List.set_cons_succ]
          refine wpAnyH_ready (rs := [5]) (by kernel_rfl) (by simp) ?_
          refine AllReadyH.cons (o := _) rfl (fun K hK => ?_) AllReadyH.nil
          go_simp
          refine (HAP.out wa146 _ _ HIN HFI HB.out).mono ?_
          rintro e wa149 ⟨pw, cw, rfl, HCW, HOW, hb⟩
          have HZ_ := (hb.block _ (Array.getElem?_eq_some_iff.1 HZ).1).trans HZ
          have HFI_ := HFI.below hb
          have HIN_ := HIN.below hb
          clear HZ
          have HZ := HZ_
          clear HZ_
          clear HFI
          have HFI := HFI_
          clear HFI_
          clear HIN
          have HIN := HIN_
          clear HIN_
          have HB_ := Lib.hid (HB.out.trans (hb.mono HB.out.size))
          clear HB
          have HB := HB_
          clear HB_ hb
          refine hK.out _ _ (HS.out _ HB.out) (fun qa150 => ?_)
          clear hK K
          try simp only [Act.put, List.setIfInBounds_toArray, List.set_cons_zero, List.set_cons_succ]
          refine take_to (some 26) (i := 6) (oi := _) (v := ?_) rfl rfl (by kernel_rfl) (by kernel_rfl) (by kernel_rfl) (fun _ _ _ h => h) (Or.inl ⟨by kernel_rfl, ?_⟩) qa150 ?_
          rotate_left 1
          · (intro w hSw; obtain ⟨g0, g1, g2⟩ := hSw; go_simp; (try with_reducible rfl))
          try simp only [Act.put, List.setIfInBounds_toArray, List.set_cons_zero, List.set_cons_succ]
          refine take_to (some 33) (i := 7) (oi := _) (v := ?_) rfl rfl (by kernel_rfl) (by kernel_rfl) (by kernel_rfl) (fun _ _ _ h => h) (Or.inl ⟨by kernel_rfl, ?_⟩) qa150 ?_
          rotate_left 1
          · (intro w hSw; obtain ⟨g0, g1, g2⟩ := hSw; go_simp; (try with_reducible rfl))
          try simp only [Act.put, List.setIfInBounds_toArray, List.set_cons_zero, List.set_cons_succ]
          refine take_to (some 34) (i := 8) (oi := _) (v := ?_) rfl rfl (by kernel_rfl) (by kernel_rfl) (by kernel_rfl) (fun _ _ _ h => h) (Or.inl ⟨by kernel_rfl, ?_⟩) qa150 ?_
          rotate_left 1
          · (intro w hSw; obtain ⟨g0, g1, g2⟩ := hSw; go_simp; (try with_reducible rfl))
          try simp only [Act.put, List.setIfInBounds_toArray, List.set_cons_zero, List.set_cons_succ]
          refine wpAnyH_ready (rs := [10]) (by kernel_rfl) (by simp) ?_
          refine AllReadyH.cons (o := _) rfl (fun K hK => ?_) AllReadyH.nil
          obtain ⟨z0, z1, z2⟩ := st_cells HZ
          have zf0 := st_frozen HZ 0
          have zf1 := st_frozen HZ 1
          have zf2 := st_frozen HZ 2
          have HE := Lib.hid (stored_st (nx := 3) (lg := 5) HZ HOW HZN.out HB.out)
          go_simp
          refine hK.out _ _ (HS.out _ HE.out.2.2) (fun qa151 => ?_)
          clear hK K
          try simp only [Act.put, List.setIfInBounds_toArray, List.set_cons_zero, List.set_cons_succ]
          refine take_to (some 4) (i := 11) (oi := _) (v := ?_) rfl rfl (by kernel_rfl) (by kernel_rfl) (by kernel_rfl) (fun _ _ _ h => h) (Or.inl ⟨by kernel_rfl, ?_⟩) qa151 ?_
          rotate_left 1
          · (intro w hSw; obtain ⟨g0, g1, g2⟩ := hSw; go_simp; (try with_reducible rfl))
          try simp only [Act.put, List.setIfInBounds_toArray, List.set_cons_zero, List.set_cons_succ]
          refine wpAnyH_done (by kernel_rfl) ?_ _
          go_wp2_with fail
          go_meet
          exact ⟨zb, pw, cw, rfl, rfl, Lib.hid ⟨HE.out.1, HE.out.2.1, HCW.out, HZN.out, HE.out.2.2⟩⟩
  case rest =>
    obtain ⟨b2, p2, c2, rfl, rfl, H3⟩ := hcut
    generalize wc = wx at *
    clear wc
    have HAP := Lib.hid (applyO (l := []) (ds := [1]) (add := []) (w := wx.alloc (.cells #[.int .i64 1] 3)) (p := none) (q := some ⟨wx.heap.size, 0, none⟩) (r := none) (cap := 0) (cd := 1) (ca := 0) (FilesAt.nil _ _) ⟨Nat.le_refl _, Nat.zero_le _⟩ (ints_new wx 1 ⟨by decide, by decide⟩ _) (FilesAt.nil _ _) (by decide) (show 1 ≤ 1000 by decide) (by decide) ⟨by decide, by decide⟩ ⟨by decide, by decide⟩ ⟨by decide, by decide⟩ ⟨by decide, by decide⟩ apply_k3 (n := 0) rfl)
    go_wp2_with fail
    refine HAP.out.mono ?_
    rintro e w4 ⟨p4, c4, rfl, -, -, hb4⟩
    have HB4 : Hid (Below wx.heap.size wx w4) := Lib.hid ((mbelow_alloc wx _).trans (hb4.mono (mbelow_alloc wx _).size))
    obtain ⟨W4, hW4⟩ : ∃ x, x = w4.alloc (.cells #[.int .i64 0, .int .i64 0, .slice p4 0 c4] 24) := ⟨_, rfl⟩
    have HB5 : Hid (Below wx.heap.size wx W4) := Lib.hid (by rw [hW4]; exact HB4.out.alloc HB4.out.size _)
    clear hb4 HB4 HAP
    go_upto_region 4 with fail
    rw [← hW4]
    clear hW4
    go_wp2_with fail
    refine (one_any W4).mono ?_
    rintro e w5 ⟨rfl, hb5⟩
    have HAP := Lib.hid (applyO (l := []) (ds := []) (add := [oneF]) (w := w5.alloc (.cells #[.int .i64 1, .int .i64 0, .int .i64 2, .string ⟨#[97]⟩, .string ⟨#[99]⟩] 29)) (p := none) (q := none) (r := some ⟨w5.heap.size, 0, none⟩) (cap := 0) (cd := 0) (ca := 1) (FilesAt.nil _ _) ⟨Nat.le_refl _, Nat.zero_le _⟩ (IntsM.nil _ _) (files_new w5 oneF fiIn_one _) (by decide) (by decide) (show 1 ≤ 1000 by decide) ⟨by decide, by decide⟩ ⟨by decide, by decide⟩ ⟨by decide, by decide⟩ ⟨by decide, by decide⟩ apply_k4 (n := 0) rfl)
    have HB6 : Hid (Below wx.heap.size wx (w5.alloc (.cells #[.int .i64 1, .int .i64 0, .int .i64 2, .string ⟨#[97]⟩, .string ⟨#[99]⟩] 29))) := Lib.hid ((HB5.out.trans (hb5.mono HB5.out.size)).alloc (Nat.le_trans HB5.out.size hb5.size) _)
    clear hb5
    go_wp2_with fail
    refine HAP.out.mono ?_
    rintro e w6 ⟨p6, c6, rfl, -, -, hb6⟩
    have HB7 : Hid (Below wx.heap.size wx w6) := Lib.hid (HB6.out.trans (hb6.mono HB6.out.size))
    obtain ⟨W5, hW5⟩ : ∃ x, x = w6.alloc (.cells #[.int .i64 0, .int .i64 0, .slice p6 0 c6] 24) := ⟨_, rfl⟩
    have HB8 : Hid (Below wx.heap.size wx W5) := Lib.hid (by rw [hW5]; exact HB7.out.alloc HB7.out.size _)
    clear hb6 HB7 HB6 HAP HB5
    go_upto_region 5 with fail
    rw [← hW5]
    clear hW5
    have HBX : Hid (Below W2.heap.size W2 W5) := Lib.hid (H3.out.2.2.2.2.trans (HB8.out.mono H3.out.2.2.2.2.size))
    go_cut [9, 10] from 50 to 57 (fun sv ev wx => ∃ (b : Nat) (p : Option Addr) (c : Nat), sv = .pointer (some ⟨b, 0, none⟩) ∧ ev = .int .i64 5 ∧ Hid (wx.heap[b]? = some (stO 0 0 p 0 c) ∧ OwnFis wx 0 (.slice p 0 c) [] ∧ (0 ≤ c ∧ c ≤ maxLen) ∧ W5.heap.size ≤ b ∧ Below W5.heap.size W5 wx))
    case first =>
      have HS : Hid (∀ W, Below W5.heap.size W5 W → W.cell? ⟨b1, 0, none⟩ = some (.int .i64 2) ∧ W.cell? ⟨b1, 1, none⟩ = some (.int .i64 0) ∧ W.cell? ⟨b1, 2, none⟩ = some (.slice p1 1 c1)) := Lib.hid fun W hW => st_cells (HX1.out W (HBX.out.trans (hW.mono HBX.out.size)))
      have HAP : Hid (∀ (W : World) (A2 : Addr), FilesAt W (some A2) [oneF] → Below W5.heap.size W5 W → Calls Tryz.prog 8 #[.agg #[.int .i64 2, .int .i64 0, .slice p1 1 c1], .agg #[.slice none 0 0, .slice (some A2) 1 1, .int .i64 0, .int .i64 0]] W fun e w' => ∃ pw cw, e = .returned (.tuple #[.agg #[.int .i64 0, .int .i64 0, .slice pw 0 cw], .int .i64 5]) ∧ Hid (0 ≤ cw ∧ cw ≤ maxLen) ∧ OwnFis w' W.heap.size (.slice pw 0 cw) [] ∧ Below W.heap.size W w') := Lib.hid fun W A2 hf hW =>
        applyO (l := [oneF]) (ds := []) (add := [oneF]) (F1.out.below (HBX.out.trans (hW.mono HBX.out.size))) HC1.out (IntsM.nil _ _) hf (show 1 ≤ 1000 by decide) (by decide) (show 1 ≤ 1000 by decide) ⟨by decide, by decide⟩ ⟨by decide, by decide⟩ ⟨by decide, by decide⟩ ⟨by decide, by decide⟩ apply_k5 (n := 0) rfl
      clear HX1 F1 HC1 HBA HB2 H3 HB8 HBX
      refine wp_region_held_drew (S := fun W => W.cell? ⟨b1, 0, none⟩ = some (.int .i64 2) ∧ W.cell? ⟨b1, 1, none⟩ = some (.int .i64 0) ∧ W.cell? ⟨b1, 2, none⟩ = some (.slice p1 1 c1)) (by kernel_rfl) (HS.out _ (Below.refl _ _).drew) (fun hHeld => ?_)
      have HB := Lib.hid ((Below.refl W5.heap.size W5).drew)
      generalize W5.drew = w0_ at *
      refine take_to (some 51) (i := 0) (oi := _) (v := ?_) rfl rfl (by kernel_rfl) (by kernel_rfl) (by kernel_rfl) (fun _ _ _ h => h) (Or.inl ⟨by kernel_rfl, ?_⟩) hHeld ?_
      rotate_left 1
      · (intro w hSw; obtain ⟨g0, g1, g2⟩ := hSw; go_simp; (try with_reducible rfl))
      try simp only [Act.put, List.setIfInBounds_toArray, List.set_cons_zero, List.set_cons_succ]
      refine wpAnyH_ready (rs := [1, 8]) (by kernel_rfl) (by simp) ?_
      refine AllReadyH.cons (o := _) rfl (fun K hK => ?_) (AllReadyH.cons (o := _) rfl (fun K hK => ?_) AllReadyH.nil)
      · go_simp
        refine (one_any w0_).mono ?_
        rintro e wb1 ⟨rfl, hb⟩
        have HB_ := Lib.hid (HB.out.trans (hb.mono HB.out.size))
        clear HB
        have HB := HB_
        clear HB_ hb
        refine hK.out _ _ (HS.out _ HB.out) (fun qb2 => ?_)
        clear hK K
        try simp only [Act.put, List.setIfInBounds_toArray, List.set_cons_zero, List.set_cons_succ]
        refine wpAnyH_ready (rs := [2, 8]) (by kernel_rfl) (by simp) ?_
        refine AllReadyH.cons (o := _) rfl (fun K hK => ?_) (AllReadyH.cons (o := _) rfl (fun K hK => ?_) AllReadyH.nil)
        · go_simp
          obtain ⟨wb3, hb4⟩ : ∃ x, x = wb1.alloc (.cells #[.int .i64 1, .int .i64 0, .int .i64 2, .string ⟨#[97]⟩, .string ⟨#[99]⟩] 29) := ⟨_, rfl⟩
          rw [← hb4]
          have hb : Below wb1.heap.size wb1 wb3 := by rw [hb4]; exact mbelow_alloc _ _
          have HFI := (by rw [hb4]; exact files_new wb1 oneF fiIn_one _ : FilesAt wb3 (some ⟨wb1.heap.size, 0, none⟩) [oneF])
          have HB_ := Lib.hid (HB.out.trans (hb.mono HB.out.size))
          clear HB
          have HB := HB_
          clear HB_ hb hb4
          refine hK.out _ _ (HS.out _ HB.out) (fun qb5 => ?_)
          clear hK K
          try simp only [Act.put, List.setIfInBounds_toArray, List.set_cons_zero, List.set_cons_succ]
          refine take_to (some 54) (i := 3) (oi := _) (v := ?_) rfl rfl (by kernel_rfl) (by kernel_rfl) (by kernel_rfl) (fun _ _ _ h => h) (Or.inl ⟨by kernel_rfl, ?_⟩) qb5 ?_
          rotate_left 1
          · (intro w hSw; obtain ⟨g0, g1, g2⟩ := hSw; go_simp; (try with_reducible rfl))
          try simp only [Act.put, List.setIfInBounds_toArray, List.set_cons_zero, List.set_cons_succ]
          refine wpAnyH_ready (rs := [4, 8]) (by kernel_rfl) (by simp) ?_
          refine AllReadyH.cons (o := _) rfl (fun K hK => ?_) (AllReadyH.cons (o := _) rfl (fun K hK => ?_) AllReadyH.nil)
          · go_simp
            refine (HAP.out wb3 _ HFI HB.out).mono ?_
            rintro e wb6 ⟨pw, cw, rfl, HCW, HOW, hb⟩
            have HFI_ := HFI.below hb
            clear HFI
            have HFI := HFI_
            clear HFI_
            have HB_ := Lib.hid (HB.out.trans (hb.mono HB.out.size))
            clear HB
            have HB := HB_
            clear HB_ hb
            refine hK.out _ _ (HS.out _ HB.out) (fun qb7 => ?_)
            clear hK K
            try simp only [Act.put, List.setIfInBounds_toArray, List.set_cons_zero, List.set_cons_succ]
            refine take_to (some 50) (i := 5) (oi := _) (v := ?_) rfl rfl (by kernel_rfl) (by kernel_rfl) (by kernel_rfl) (fun _ _ _ h => h) (Or.inl ⟨by kernel_rfl, ?_⟩) qb7 ?_
            rotate_left 1
            · (intro w hSw; obtain ⟨g0, g1, g2⟩ := hSw; go_simp; (try with_reducible rfl))
            try simp only [Act.put, List.setIfInBounds_toArray, List.set_cons_zero, List.set_cons_succ]
            refine take_to (some 56) (i := 6) (oi := _) (v := ?_) rfl rfl (by kernel_rfl) (by kernel_rfl) (by kernel_rfl) (fun _ _ _ h => h) (Or.inl ⟨by kernel_rfl, ?_⟩) qb7 ?_
            rotate_left 1
            · (intro w hSw; obtain ⟨g0, g1, g2⟩ := hSw; go_simp; (try with_reducible rfl))
            try simp only [Act.put, List.setIfInBounds_toArray, List.set_cons_zero, List.set_cons_succ]
            refine take_to (some 57) (i := 7) (oi := _) (v := ?_) rfl rfl (by kernel_rfl) (by kernel_rfl) (by kernel_rfl) (fun _ _ _ h => h) (Or.inl ⟨by kernel_rfl, ?_⟩) qb7 ?_
            rotate_left 1
            · (intro w hSw; obtain ⟨g0, g1, g2⟩ := hSw; go_simp; (try with_reducible rfl))
            try simp only [Act.put, List.setIfInBounds_toArray, List.set_cons_zero, List.set_cons_succ]
            refine wpAnyH_ready (rs := [8]) (by kernel_rfl) (by simp) ?_
            refine AllReadyH.cons (o := _) rfl (fun K hK => ?_) AllReadyH.nil
            have HZN := Lib.hid (show W5.heap.size ≤ wb6.heap.size from HB.out.size)
            go_simp
            obtain ⟨wb8, hb9⟩ : ∃ x, x = wb6.alloc (.cells #[.int .i64 0, .int .i64 0, .slice none 0 0] 24) := ⟨_, rfl⟩
            rw [← hb9]
            have hb : Below wb6.heap.size wb6 wb8 := by rw [hb9]; exact mbelow_alloc _ _
            have HFI_ := HFI.below hb
            have HOW_ := HOW.below hb
            clear HFI
            have HFI := HFI_
            clear HFI_
            clear HOW
            have HOW := HOW_
            clear HOW_
            have HZ := (by rw [hb9]; exact heap_alloc_new wb6 _ : wb8.heap[wb6.heap.size]? = some (stO 0 0 none 0 0))
            have HB_ := Lib.hid (HB.out.trans (hb.mono HB.out.size))
            clear HB
            have HB := HB_
            clear HB_ hb hb9
            generalize wb6.heap.size = zb at *
            refine hK.out _ _ (HS.out _ HB.out) (fun qb10 => ?_)
            clear hK K
            try simp only [Act.put, List.setIfInBounds_toArray, List.set_cons_zero, List.set_cons_succ]
            refine wpAnyH_ready (rs := [9]) (by kernel_rfl) (by simp) ?_
            refine AllReadyH.cons (o := _) rfl (fun K hK => ?_) AllReadyH.nil
            obtain ⟨z0, z1, z2⟩ := st_cells HZ
            have zf0 := st_frozen HZ 0
            have zf1 := st_frozen HZ 1
            have zf2 := st_frozen HZ 2
            have HE := Lib.hid (stored_st (nx := 0) (lg := 0) HZ HOW HZN.out HB.out)
            go_simp
            refine hK.out _ _ (HS.out _ HE.out.2.2) (fun qb11 => ?_)
            clear hK K
            try simp only [Act.put, List.setIfInBounds_toArray, List.set_cons_zero, List.set_cons_succ]
            refine take_to (some 10) (i := 10) (oi := _) (v := ?_) rfl rfl (by kernel_rfl) (by kernel_rfl) (by kernel_rfl) (fun _ _ _ h => h) (Or.inl ⟨by kernel_rfl, ?_⟩) qb11 ?_
            rotate_left 1
            · (intro w hSw; obtain ⟨g0, g1, g2⟩ := hSw; go_simp; (try with_reducible rfl))
            try simp only [Act.put, List.setIfInBounds_toArray, List.set_cons_zero, List.set_cons_succ]
            refine wpAnyH_done (by kernel_rfl) ?_ _
            go_wp2_with fail
            go_meet
            exact ⟨zb, pw, cw, rfl, rfl, Lib.hid ⟨HE.out.1, HE.out.2.1, HCW.out, HZN.out, HE.out.2.2⟩⟩
          · have HZN := Lib.hid (show W5.heap.size ≤ wb3.heap.size from HB.out.size)
            go_simp
            obtain ⟨wb12, hb13⟩ : ∃ x, x = wb3.alloc (.cells #[.int .i64 0, .int .i64 0, .slice none 0 0] 24) := ⟨_, rfl⟩
            rw [← hb13]
            have hb : Below wb3.heap.size wb3 wb12 := by rw [hb13]; exact mbelow_alloc _ _
            have HFI_ := HFI.below hb
            clear HFI
            have HFI := HFI_
            clear HFI_
            have HZ := (by rw [hb13]; exact heap_alloc_new wb3 _ : wb12.heap[wb3.heap.size]? = some (stO 0 0 none 0 0))
            have HB_ := Lib.hid (HB.out.trans (hb.mono HB.out.size))
            clear HB
            have HB := HB_
            clear HB_ hb hb13
            generalize wb3.heap.size = zb at *
            refine hK.out _ _ (HS.out _ HB.out) (fun qb14 => ?_)
            clear hK K
            try simp only [Act.put, List.setIfInBounds_toArray, List.set_cons_zero, List.set_cons_succ]
            refine wpAnyH_ready (rs := [4]) (by kernel_rfl) (by simp) ?_
            refine AllReadyH.cons (o := _) rfl (fun K hK => ?_) AllReadyH.nil
            go_simp
            refine (HAP.out wb12 _ HFI HB.out).mono ?_
            rintro e wb15 ⟨pw, cw, rfl, HCW, HOW, hb⟩
            have HFI_ := HFI.below hb
            have HZ_ := (hb.block _ (Array.getElem?_eq_some_iff.1 HZ).1).trans HZ
            clear HFI
            have HFI := HFI_
            clear HFI_
            clear HZ
            have HZ := HZ_
            clear HZ_
            have HB_ := Lib.hid (HB.out.trans (hb.mono HB.out.size))
            clear HB
            have HB := HB_
            clear HB_ hb
            refine hK.out _ _ (HS.out _ HB.out) (fun qb16 => ?_)
            clear hK K
            try simp only [Act.put, List.setIfInBounds_toArray, List.set_cons_zero, List.set_cons_succ]
            refine take_to (some 50) (i := 5) (oi := _) (v := ?_) rfl rfl (by kernel_rfl) (by kernel_rfl) (by kernel_rfl) (fun _ _ _ h => h) (Or.inl ⟨by kernel_rfl, ?_⟩) qb16 ?_
            rotate_left 1
            · (intro w hSw; obtain ⟨g0, g1, g2⟩ := hSw; go_simp; (try with_reducible rfl))
            try simp only [Act.put, List.setIfInBounds_toArray, List.set_cons_zero, List.set_cons_succ]
            refine take_to (some 56) (i := 6) (oi := _) (v := ?_) rfl rfl (by kernel_rfl) (by kernel_rfl) (by kernel_rfl) (fun _ _ _ h => h) (Or.inl ⟨by kernel_rfl, ?_⟩) qb16 ?_
            rotate_left 1
            · (intro w hSw; obtain ⟨g0, g1, g2⟩ := hSw; go_simp; (try with_reducible rfl))
            try simp only [Act.put, List.setIfInBounds_toArray, List.set_cons_zero, List.set_cons_succ]
            refine take_to (some 57) (i := 7) (oi := _) (v := ?_) rfl rfl (by kernel_rfl) (by kernel_rfl) (by kernel_rfl) (fun _ _ _ h => h) (Or.inl ⟨by kernel_rfl, ?_⟩) qb16 ?_
            rotate_left 1
            · (intro w hSw; obtain ⟨g0, g1, g2⟩ := hSw; go_simp; (try with_reducible rfl))
            try simp only [Act.put, List.setIfInBounds_toArray, List.set_cons_zero, List.set_cons_succ]
            refine wpAnyH_ready (rs := [9]) (by kernel_rfl) (by simp) ?_
            refine AllReadyH.cons (o := _) rfl (fun K hK => ?_) AllReadyH.nil
            obtain ⟨z0, z1, z2⟩ := st_cells HZ
            have zf0 := st_frozen HZ 0
            have zf1 := st_frozen HZ 1
            have zf2 := st_frozen HZ 2
            have HE := Lib.hid (stored_st (nx := 0) (lg := 0) HZ HOW HZN.out HB.out)
            go_simp
            refine hK.out _ _ (HS.out _ HE.out.2.2) (fun qb17 => ?_)
            clear hK K
            try simp only [Act.put, List.setIfInBounds_toArray, List.set_cons_zero, List.set_cons_succ]
            refine take_to (some 10) (i := 10) (oi := _) (v := ?_) rfl rfl (by kernel_rfl) (by kernel_rfl) (by kernel_rfl) (fun _ _ _ h => h) (Or.inl ⟨by kernel_rfl, ?_⟩) qb17 ?_
            rotate_left 1
            · (intro w hSw; obtain ⟨g0, g1, g2⟩ := hSw; go_simp; (try with_reducible rfl))
            try simp only [Act.put, List.setIfInBounds_toArray, List.set_cons_zero, List.set_cons_succ]
            refine wpAnyH_done (by kernel_rfl) ?_ _
            go_wp2_with fail
            go_meet
            exact ⟨zb, pw, cw, rfl, rfl, Lib.hid ⟨HE.out.1, HE.out.2.1, HCW.out, HZN.out, HE.out.2.2⟩⟩
        · have HZN := Lib.hid (show W5.heap.size ≤ wb1.heap.size from HB.out.size)
          go_simp
          obtain ⟨wb18, hb19⟩ : ∃ x, x = wb1.alloc (.cells #[.int .i64 0, .int .i64 0, .slice none 0 0] 24) := ⟨_, rfl⟩
          rw [← hb19]
          have hb : Below wb1.heap.size wb1 wb18 := by rw [hb19]; exact mbelow_alloc _ _
          have HZ := (by rw [hb19]; exact heap_alloc_new wb1 _ : wb18.heap[wb1.heap.size]? = some (stO 0 0 none 0 0))
          have HB_ := Lib.hid (HB.out.trans (hb.mono HB.out.size))
          clear HB
          have HB := HB_
          clear HB_ hb hb19
          generalize wb1.heap.size = zb at *
          refine hK.out _ _ (HS.out _ HB.out) (fun qb20 => ?_)
          clear hK K
          try simp only [Act.put, List.setIfInBounds_toArray, List.set_cons_zero, List.set_cons_succ]
          refine wpAnyH_ready (rs := [2]) (by kernel_rfl) (by simp) ?_
          refine AllReadyH.cons (o := _) rfl (fun K hK => ?_) AllReadyH.nil
          go_simp
          obtain ⟨wb21, hb22⟩ : ∃ x, x = wb18.alloc (.cells #[.int .i64 1, .int .i64 0, .int .i64 2, .string ⟨#[97]⟩, .string ⟨#[99]⟩] 29) := ⟨_, rfl⟩
          rw [← hb22]
          have hb : Below wb18.heap.size wb18 wb21 := by rw [hb22]; exact mbelow_alloc _ _
          have HZ_ := (hb.block _ (Array.getElem?_eq_some_iff.1 HZ).1).trans HZ
          clear HZ
          have HZ := HZ_
          clear HZ_
          have HFI := (by rw [hb22]; exact files_new wb18 oneF fiIn_one _ : FilesAt wb21 (some ⟨wb18.heap.size, 0, none⟩) [oneF])
          have HB_ := Lib.hid (HB.out.trans (hb.mono HB.out.size))
          clear HB
          have HB := HB_
          clear HB_ hb hb22
          refine hK.out _ _ (HS.out _ HB.out) (fun qb23 => ?_)
          clear hK K
          try simp only [Act.put, List.setIfInBounds_toArray, List.set_cons_zero, List.set_cons_succ]
          refine take_to (some 54) (i := 3) (oi := _) (v := ?_) rfl rfl (by kernel_rfl) (by kernel_rfl) (by kernel_rfl) (fun _ _ _ h => h) (Or.inl ⟨by kernel_rfl, ?_⟩) qb23 ?_
          rotate_left 1
          · (intro w hSw; obtain ⟨g0, g1, g2⟩ := hSw; go_simp; (try with_reducible rfl))
          try simp only [Act.put, List.setIfInBounds_toArray, List.set_cons_zero, List.set_cons_succ]
          refine wpAnyH_ready (rs := [4]) (by kernel_rfl) (by simp) ?_
          refine AllReadyH.cons (o := _) rfl (fun K hK => ?_) AllReadyH.nil
          go_simp
          refine (HAP.out wb21 _ HFI HB.out).mono ?_
          rintro e wb24 ⟨pw, cw, rfl, HCW, HOW, hb⟩
          have HZ_ := (hb.block _ (Array.getElem?_eq_some_iff.1 HZ).1).trans HZ
          have HFI_ := HFI.below hb
          clear HZ
          have HZ := HZ_
          clear HZ_
          clear HFI
          have HFI := HFI_
          clear HFI_
          have HB_ := Lib.hid (HB.out.trans (hb.mono HB.out.size))
          clear HB
          have HB := HB_
          clear HB_ hb
          refine hK.out _ _ (HS.out _ HB.out) (fun qb25 => ?_)
          clear hK K
          try simp only [Act.put, List.setIfInBounds_toArray, List.set_cons_zero, List.set_cons_succ]
          refine take_to (some 50) (i := 5) (oi := _) (v := ?_) rfl rfl (by kernel_rfl) (by kernel_rfl) (by kernel_rfl) (fun _ _ _ h => h) (Or.inl ⟨by kernel_rfl, ?_⟩) qb25 ?_
          rotate_left 1
          · (intro w hSw; obtain ⟨g0, g1, g2⟩ := hSw; go_simp; (try with_reducible rfl))
          try simp only [Act.put, List.setIfInBounds_toArray, List.set_cons_zero, List.set_cons_succ]
          refine take_to (some 56) (i := 6) (oi := _) (v := ?_) rfl rfl (by kernel_rfl) (by kernel_rfl) (by kernel_rfl) (fun _ _ _ h => h) (Or.inl ⟨by kernel_rfl, ?_⟩) qb25 ?_
          rotate_left 1
          · (intro w hSw; obtain ⟨g0, g1, g2⟩ := hSw; go_simp; (try with_reducible rfl))
          try simp only [Act.put, List.setIfInBounds_toArray, List.set_cons_zero, List.set_cons_succ]
          refine take_to (some 57) (i := 7) (oi := _) (v := ?_) rfl rfl (by kernel_rfl) (by kernel_rfl) (by kernel_rfl) (fun _ _ _ h => h) (Or.inl ⟨by kernel_rfl, ?_⟩) qb25 ?_
          rotate_left 1
          · (intro w hSw; obtain ⟨g0, g1, g2⟩ := hSw; go_simp; (try with_reducible rfl))
          try simp only [Act.put, List.setIfInBounds_toArray, List.set_cons_zero, List.set_cons_succ]
          refine wpAnyH_ready (rs := [9]) (by kernel_rfl) (by simp) ?_
          refine AllReadyH.cons (o := _) rfl (fun K hK => ?_) AllReadyH.nil
          obtain ⟨z0, z1, z2⟩ := st_cells HZ
          have zf0 := st_frozen HZ 0
          have zf1 := st_frozen HZ 1
          have zf2 := st_frozen HZ 2
          have HE := Lib.hid (stored_st (nx := 0) (lg := 0) HZ HOW HZN.out HB.out)
          go_simp
          refine hK.out _ _ (HS.out _ HE.out.2.2) (fun qb26 => ?_)
          clear hK K
          try simp only [Act.put, List.setIfInBounds_toArray, List.set_cons_zero, List.set_cons_succ]
          refine take_to (some 10) (i := 10) (oi := _) (v := ?_) rfl rfl (by kernel_rfl) (by kernel_rfl) (by kernel_rfl) (fun _ _ _ h => h) (Or.inl ⟨by kernel_rfl, ?_⟩) qb26 ?_
          rotate_left 1
          · (intro w hSw; obtain ⟨g0, g1, g2⟩ := hSw; go_simp; (try with_reducible rfl))
          try simp only [Act.put, List.setIfInBounds_toArray, List.set_cons_zero, List.set_cons_succ]
          refine wpAnyH_done (by kernel_rfl) ?_ _
          go_wp2_with fail
          go_meet
          exact ⟨zb, pw, cw, rfl, rfl, Lib.hid ⟨HE.out.1, HE.out.2.1, HCW.out, HZN.out, HE.out.2.2⟩⟩
      · have HZN := Lib.hid (show W5.heap.size ≤ w0_.heap.size from HB.out.size)
        go_simp
        obtain ⟨wb27, hb28⟩ : ∃ x, x = w0_.alloc (.cells #[.int .i64 0, .int .i64 0, .slice none 0 0] 24) := ⟨_, rfl⟩
        rw [← hb28]
        have hb : Below w0_.heap.size w0_ wb27 := by rw [hb28]; exact mbelow_alloc _ _
        have HZ := (by rw [hb28]; exact heap_alloc_new w0_ _ : wb27.heap[w0_.heap.size]? = some (stO 0 0 none 0 0))
        have HB_ := Lib.hid (HB.out.trans (hb.mono HB.out.size))
        clear HB
        have HB := HB_
        clear HB_ hb hb28
        generalize w0_.heap.size = zb at *
        refine hK.out _ _ (HS.out _ HB.out) (fun qb29 => ?_)
        clear hK K
        try simp only [Act.put, List.setIfInBounds_toArray, List.set_cons_zero, List.set_cons_succ]
        refine wpAnyH_ready (rs := [1]) (by kernel_rfl) (by simp) ?_
        refine AllReadyH.cons (o := _) rfl (fun K hK => ?_) AllReadyH.nil
        go_simp
        refine (one_any wb27).mono ?_
        rintro e wb30 ⟨rfl, hb⟩
        have HZ_ := (hb.block _ (Array.getElem?_eq_some_iff.1 HZ).1).trans HZ
        clear HZ
        have HZ := HZ_
        clear HZ_
        have HB_ := Lib.hid (HB.out.trans (hb.mono HB.out.size))
        clear HB
        have HB := HB_
        clear HB_ hb
        refine hK.out _ _ (HS.out _ HB.out) (fun qb31 => ?_)
        clear hK K
        try simp only [Act.put, List.setIfInBounds_toArray, List.set_cons_zero, List.set_cons_succ]
        refine wpAnyH_ready (rs := [2]) (by kernel_rfl) (by simp) ?_
        refine AllReadyH.cons (o := _) rfl (fun K hK => ?_) AllReadyH.nil
        go_simp
        obtain ⟨wb32, hb33⟩ : ∃ x, x = wb30.alloc (.cells #[.int .i64 1, .int .i64 0, .int .i64 2, .string ⟨#[97]⟩, .string ⟨#[99]⟩] 29) := ⟨_, rfl⟩
        rw [← hb33]
        have hb : Below wb30.heap.size wb30 wb32 := by rw [hb33]; exact mbelow_alloc _ _
        have HZ_ := (hb.block _ (Array.getElem?_eq_some_iff.1 HZ).1).trans HZ
        clear HZ
        have HZ := HZ_
        clear HZ_
        have HFI := (by rw [hb33]; exact files_new wb30 oneF fiIn_one _ : FilesAt wb32 (some ⟨wb30.heap.size, 0, none⟩) [oneF])
        have HB_ := Lib.hid (HB.out.trans (hb.mono HB.out.size))
        clear HB
        have HB := HB_
        clear HB_ hb hb33
        refine hK.out _ _ (HS.out _ HB.out) (fun qb34 => ?_)
        clear hK K
        try simp only [Act.put, List.setIfInBounds_toArray, List.set_cons_zero, List.set_cons_succ]
        refine take_to (some 54) (i := 3) (oi := _) (v := ?_) rfl rfl (by kernel_rfl) (by kernel_rfl) (by kernel_rfl) (fun _ _ _ h => h) (Or.inl ⟨by kernel_rfl, ?_⟩) qb34 ?_
        rotate_left 1
        · (intro w hSw; obtain ⟨g0, g1, g2⟩ := hSw; go_simp; (try with_reducible rfl))
        try simp only [Act.put, List.setIfInBounds_toArray, List.set_cons_zero, List.set_cons_succ]
        refine wpAnyH_ready (rs := [4]) (by kernel_rfl) (by simp) ?_
        refine AllReadyH.cons (o := _) rfl (fun K hK => ?_) AllReadyH.nil
        go_simp
        refine (HAP.out wb32 _ HFI HB.out).mono ?_
        rintro e wb35 ⟨pw, cw, rfl, HCW, HOW, hb⟩
        have HZ_ := (hb.block _ (Array.getElem?_eq_some_iff.1 HZ).1).trans HZ
        have HFI_ := HFI.below hb
        clear HZ
        have HZ := HZ_
        clear HZ_
        clear HFI
        have HFI := HFI_
        clear HFI_
        have HB_ := Lib.hid (HB.out.trans (hb.mono HB.out.size))
        clear HB
        have HB := HB_
        clear HB_ hb
        refine hK.out _ _ (HS.out _ HB.out) (fun qb36 => ?_)
        clear hK K
        try simp only [Act.put, List.setIfInBounds_toArray, List.set_cons_zero, List.set_cons_succ]
        refine take_to (some 50) (i := 5) (oi := _) (v := ?_) rfl rfl (by kernel_rfl) (by kernel_rfl) (by kernel_rfl) (fun _ _ _ h => h) (Or.inl ⟨by kernel_rfl, ?_⟩) qb36 ?_
        rotate_left 1
        · (intro w hSw; obtain ⟨g0, g1, g2⟩ := hSw; go_simp; (try with_reducible rfl))
        try simp only [Act.put, List.setIfInBounds_toArray, List.set_cons_zero, List.set_cons_succ]
        refine take_to (some 56) (i := 6) (oi := _) (v := ?_) rfl rfl (by kernel_rfl) (by kernel_rfl) (by kernel_rfl) (fun _ _ _ h => h) (Or.inl ⟨by kernel_rfl, ?_⟩) qb36 ?_
        rotate_left 1
        · (intro w hSw; obtain ⟨g0, g1, g2⟩ := hSw; go_simp; (try with_reducible rfl))
        try simp only [Act.put, List.setIfInBounds_toArray, List.set_cons_zero, List.set_cons_succ]
        refine take_to (some 57) (i := 7) (oi := _) (v := ?_) rfl rfl (by kernel_rfl) (by kernel_rfl) (by kernel_rfl) (fun _ _ _ h => h) (Or.inl ⟨by kernel_rfl, ?_⟩) qb36 ?_
        rotate_left 1
        · (intro w hSw; obtain ⟨g0, g1, g2⟩ := hSw; go_simp; (try with_reducible rfl))
        try simp only [Act.put, List.setIfInBounds_toArray, List.set_cons_zero, List.set_cons_succ]
        refine wpAnyH_ready (rs := [9]) (by kernel_rfl) (by simp) ?_
        refine AllReadyH.cons (o := _) rfl (fun K hK => ?_) AllReadyH.nil
        obtain ⟨z0, z1, z2⟩ := st_cells HZ
        have zf0 := st_frozen HZ 0
        have zf1 := st_frozen HZ 1
        have zf2 := st_frozen HZ 2
        have HE := Lib.hid (stored_st (nx := 0) (lg := 0) HZ HOW HZN.out HB.out)
        go_simp
        refine hK.out _ _ (HS.out _ HE.out.2.2) (fun qb37 => ?_)
        clear hK K
        try simp only [Act.put, List.setIfInBounds_toArray, List.set_cons_zero, List.set_cons_succ]
        refine take_to (some 10) (i := 10) (oi := _) (v := ?_) rfl rfl (by kernel_rfl) (by kernel_rfl) (by kernel_rfl) (fun _ _ _ h => h) (Or.inl ⟨by kernel_rfl, ?_⟩) qb37 ?_
        rotate_left 1
        · (intro w hSw; obtain ⟨g0, g1, g2⟩ := hSw; go_simp; (try with_reducible rfl))
        try simp only [Act.put, List.setIfInBounds_toArray, List.set_cons_zero, List.set_cons_succ]
        refine wpAnyH_done (by kernel_rfl) ?_ _
        go_wp2_with fail
        go_meet
        exact ⟨zb, pw, cw, rfl, rfl, Lib.hid ⟨HE.out.1, HE.out.2.1, HCW.out, HZN.out, HE.out.2.2⟩⟩
    case rest =>
      obtain ⟨b5, p5, c5, rfl, rfl, H5⟩ := hcut
      generalize wc = wd at *
      clear wc
      have HBW : Hid (Below w.heap.size w W5) := Lib.hid (HB2.out.trans (HBX.out.mono HB2.out.size))
      have HBD : Hid (Below W5.heap.size W5 wd) := Lib.hid H5.out.2.2.2.2
      have HX2 : Hid (∀ W, Below wd.heap.size wd W → W.cell? ⟨b2, 0, none⟩ = some (.int .i64 3) ∧ W.cell? ⟨b2, 1, none⟩ = some (.int .i64 5) ∧ W.cell? ⟨b2, 2, none⟩ = some (.slice p2 1 c2)) := Lib.hid fun W hW => by
        have h1 : W5.heap[b2]? = some (stO 3 5 p2 1 c2) := (HB8.out.block _ (Array.getElem?_eq_some_iff.1 H3.out.1).1).trans H3.out.1
        have h2 : wd.heap[b2]? = some (stO 3 5 p2 1 c2) := (HBD.out.block _ (Array.getElem?_eq_some_iff.1 h1).1).trans h1
        exact st_cells ((hW.block _ (Array.getElem?_eq_some_iff.1 h2).1).trans h2)
      have F2 : Hid (∀ W, Below wd.heap.size wd W → FilesAt W p2 [otherF]) := Lib.hid fun W hW => by
        obtain ⟨p', c', e, -, -, hf⟩ := H3.out.2.1.files (fun f hf => by rw [List.mem_singleton.1 hf]; exact fiIn_other)
        cases e
        exact ((hf.below HB8.out).below HBD.out).below hW
      have HBZ : Hid (Below w.heap.size w wd) := Lib.hid (HBW.out.trans (HBD.out.mono HBW.out.size))
      have HSM : Hid (∀ W, Below wd.heap.size wd W → Calls Tryz.prog 11 #[.agg #[.int .i64 3, .int .i64 5, .slice p2 1 c2], .agg #[.int .i64 3, .int .i64 5, .slice (some ⟨W.heap.size, 0, none⟩) 1 1]] (W.alloc (.cells #[.int .i64 2, .int .i64 1, .int .i64 1, .string ⟨#[98]⟩, .string ⟨#[98]⟩] 35)) fun e w' => e = .returned (.bool true) ∧ Below wd.heap.size wd w') := Lib.hid fun W hW => by
        have hW2 := hW.alloc hW.size (.cells #[.int .i64 2, .int .i64 1, .int .i64 1, .string ⟨#[98]⟩, .string ⟨#[98]⟩] 35)
        refine (same8_any (nx := 3) (lg := 5) (nx2 := 3) (lg2 := 5) (cap := c2) (cap2 := 1) (l := [otherF]) (m := [otherF]) (F2.out _ hW2) (files_new W otherF fiIn_other _) (show 1 ≤ 1000 by decide) (show 1 ≤ 1000 by decide)).mono ?_
        rintro e w' ⟨b, rfl, h1, h2⟩
        obtain rfl := h1.2 rfl
        exact ⟨rfl, hW2.trans (h2.mono hW2.size)⟩
      clear H5 H3 HB8 HBX HB2 HX1 F1 HC1 HBA HBD HBW
      have HS0 := Lib.hid (HX2.out _ (Below.refl _ _).drew)
      have HBp := Lib.hid ((Below.refl wd.heap.size wd).drew)
      go_upto_region 6 with fail
      go_region_held3 (fun W => W.cell? ⟨b2, 0, none⟩ = some (.int .i64 3) ∧ W.cell? ⟨b2, 1, none⟩ = some (.int .i64 5) ∧ W.cell? ⟨b2, 2, none⟩ = some (.slice p2 1 c2))
        (first | exact HS0.out | exact HX2.out _ HBp.out | exact HX2.out _ (HBp.out.alloc HBp.out.size _))
        (first
          | (go_at_call 10; (with_reducible refine (other_any _).mono ?_); rintro e wO ⟨rfl, hbO⟩; replace HBp := Lib.hid (HBp.out.trans (hbO.mono HBp.out.size)))
          | (go_at_call 11; (with_reducible refine (HSM.out wO HBp.out).mono ?_); rintro e wS ⟨rfl, hbS⟩; replace HBp := Lib.hid hbS)
          | fail)
      have HBS := Lib.hid (HBZ.out.trans (HBp.out.mono HBZ.out.size))
      clear HBp HBZ HSM F2 HX2 HS0 hbO hbS
      obtain ⟨W7, hW7⟩ : ∃ x, x = wS.alloc (.cells #[.int .i64 3, .int .i64 1, .int .i64 2, .string ⟨#[97]⟩, .string ⟨#[99]⟩] 29) := ⟨_, rfl⟩
      have HB7 : Hid (Below w.heap.size w W7) := Lib.hid (by rw [hW7]; exact HBS.out.alloc HBS.out.size _)
      have HX3 : Hid (∀ W, Below W7.heap.size W7 W → W.cell? ⟨wS.heap.size, 0, none⟩ = some (.int .i64 3) ∧ W.cell? ⟨wS.heap.size, 1, none⟩ = some (.int .i64 1) ∧ W.cell? ⟨wS.heap.size, 2, none⟩ = some (.int .i64 2) ∧ W.cell? ⟨wS.heap.size, 3, none⟩ = some (.string ⟨#[97]⟩) ∧ W.cell? ⟨wS.heap.size, 4, none⟩ = some (.string ⟨#[99]⟩)) := Lib.hid fun W hW => by
        rw [hW7] at hW
        exact mcells5 ((hW.block _ (by simp)).trans (heap_alloc_new wS _))
      go_upto_region 9 with fail
      rw [← hW7]
      clear hW7
      have HC1 : Hid (∀ W, Below W7.heap.size W7 W → Calls Tryz.prog 12 #[.agg #[.int .i64 3, .int .i64 0, .slice (some ⟨W.heap.size, 0, none⟩) 2 2]] (W.alloc (.cells #[.int .i64 1, .int .i64 0, .int .i64 2, .string ⟨#[97]⟩, .string ⟨#[99]⟩, .int .i64 2, .int .i64 1, .int .i64 1, .string ⟨#[98]⟩, .string ⟨#[98]⟩] 29)) fun e w' => e = .returned (.int .i64 0) ∧ Below W7.heap.size W7 w') := Lib.hid fun W hW => by
        have hW2 := hW.alloc hW.size (.cells #[.int .i64 1, .int .i64 0, .int .i64 2, .string ⟨#[97]⟩, .string ⟨#[99]⟩, .int .i64 2, .int .i64 1, .int .i64 1, .string ⟨#[98]⟩, .string ⟨#[98]⟩] 29)
        refine (check_yes (nx := 3) (lg := 0) (cap := 2) (l := [oneF, otherF]) (files_two W oneF otherF fiIn_one fiIn_other _) ⟨(show 2 ≤ 2 by decide), (show 2 ≤ maxLen by decide)⟩ right_two).mono ?_
        rintro e w' ⟨rfl, h2⟩
        exact ⟨rfl, hW2.trans (h2.mono hW2.size)⟩
      have HC2 : Hid (∀ W, Below W7.heap.size W7 W → Calls Tryz.prog 12 #[.agg #[.int .i64 4, .int .i64 0, .slice (some ⟨W.heap.size, 0, none⟩) 2 2]] (W.alloc (.cells #[.int .i64 2, .int .i64 1, .int .i64 1, .string ⟨#[98]⟩, .string ⟨#[98]⟩, .int .i64 3, .int .i64 1, .int .i64 2, .string ⟨#[97]⟩, .string ⟨#[99]⟩] 29)) fun e w' => e = .returned (.int .i64 1) ∧ Below W7.heap.size W7 w') := Lib.hid fun W hW => by
        have hW2 := hW.alloc hW.size (.cells #[.int .i64 2, .int .i64 1, .int .i64 1, .string ⟨#[98]⟩, .string ⟨#[98]⟩, .int .i64 3, .int .i64 1, .int .i64 2, .string ⟨#[97]⟩, .string ⟨#[99]⟩] 29)
        refine (check_no (nx := 4) (lg := 0) (cap := 2) (l := [otherF, thirdF]) (files_two W otherF thirdF fiIn_other fiIn_third _) ⟨(show 2 ≤ 2 by decide), (show 2 ≤ maxLen by decide)⟩ not_right_met).mono ?_
        rintro e w' ⟨rfl, h2⟩
        exact ⟨rfl, hW2.trans (h2.mono hW2.size)⟩
      have HC3 : Hid (∀ W, Below W7.heap.size W7 W → Calls Tryz.prog 12 #[.agg #[.int .i64 0, .int .i64 0, .slice none 0 0]] W fun e w' => e = .returned (.int .i64 1) ∧ Below W7.heap.size W7 w') := Lib.hid fun W hW => by
        refine (check_no (nx := 0) (lg := 0) (cap := 0) (l := []) (FilesAt.nil _ _) ⟨Nat.le_refl _, Nat.zero_le _⟩ not_right_zero).mono ?_
        rintro e w' ⟨rfl, h2⟩
        exact ⟨rfl, hW.trans (h2.mono hW.size)⟩
      have HS0 := Lib.hid (HX3.out _ (Below.refl _ _).drew)
      have HBp := Lib.hid ((Below.refl W7.heap.size W7).drew)
      go_region_held3 (fun W => W.cell? ⟨wS.heap.size, 0, none⟩ = some (.int .i64 3) ∧ W.cell? ⟨wS.heap.size, 1, none⟩ = some (.int .i64 1) ∧ W.cell? ⟨wS.heap.size, 2, none⟩ = some (.int .i64 2) ∧ W.cell? ⟨wS.heap.size, 3, none⟩ = some (.string ⟨#[97]⟩) ∧ W.cell? ⟨wS.heap.size, 4, none⟩ = some (.string ⟨#[99]⟩))
        (first | exact HS0.out | exact HX3.out _ HBp.out | exact HX3.out _ (HBp.out.alloc HBp.out.size _))
        (first
          | (go_at_call 9; (with_reducible refine (one_any _).mono ?_); rintro e wO ⟨rfl, hbO⟩; replace HBp := Lib.hid (HBp.out.trans (hbO.mono HBp.out.size)))
          | (go_at_call 10; (with_reducible refine (other_any _).mono ?_); rintro e wO ⟨rfl, hbO⟩; replace HBp := Lib.hid (HBp.out.trans (hbO.mono HBp.out.size)))
          | (go_at_call 12; (with_reducible refine (HC1.out wO HBp.out).mono ?_); rintro e wO ⟨rfl, hbO⟩; replace HBp := Lib.hid hbO)
          | (go_at_call 12; (with_reducible refine (HC2.out wO HBp.out).mono ?_); rintro e wO ⟨rfl, hbO⟩; replace HBp := Lib.hid hbO)
          | (go_at_call 12; (with_reducible refine (HC3.out _ HBp.out).mono ?_); rintro e wO ⟨rfl, hbO⟩; replace HBp := Lib.hid hbO)
          | fail)
      have HB9 := Lib.hid (HB7.out.trans (HBp.out.mono HB7.out.size))
      clear HBp HC1 HC2 HC3 HX3 HS0 hbO HB7 HBS
      go_wp2_with fail
      refine (manOpen_nil _).mono ?_
      rintro e w9 ⟨rfl, rfl⟩
      go_wp2_with fail
      refine (new_b (w0 := w9) (Below.refl _ _)).mono ?_
      rintro e w10 ⟨a, rfl, h10⟩
      have H10 := Lib.hid (crash_b0 h10)
      clear h10
      go_wp2_with fail
      refine H10.out.mono ?_
      rintro e w11 ⟨rfl, h11⟩
      have H11 := Lib.hid (manOpen_down h11 rfl)
      clear h11 H10
      go_wp2_with fail
      refine H11.out.mono ?_
      rintro e w12 ⟨rfl, h12⟩
      have HB12 : Hid (Below w.heap.size w w12) := Lib.hid (HB9.out.trans (h12.below.mono HB9.out.size))
      clear h12 H11
      go_wp2_with fail
      refine (awake8_any w12).mono ?_
      rintro e w13 ⟨rfl, hb13⟩
      have HB13 : Hid (Below w.heap.size w w13) := Lib.hid (HB12.out.trans (hb13.mono HB12.out.size))
      have HCN := Lib.hid (Commit_none (q := none) (nd := 0) (cd := 0) (r := none) (na := 0) (ca := 0) (enx := 0) (elg := 0) w13)
      unfold edV at HCN
      clear hb13
      go_wp2_with fail
      refine HCN.out.mono ?_
      rintro e w14 ⟨rfl, hb14⟩
      have HB14 : Hid (Below w.heap.size w w14) := Lib.hid (HB13.out.trans (hb14.mono HB13.out.size))
      have HSN := Lib.hid (State_none w14)
      unfold stV at HSN
      clear hb14 HCN
      go_wp2_with fail
      refine HSN.out.mono ?_
      rintro e w15 ⟨rfl, hb15⟩
      have HB15 : Hid (Below w.heap.size w w15) := Lib.hid (HB14.out.trans (hb15.mono HB14.out.size))
      have HSZ := Lib.hid (same8_any (w := w15) (p := none) (q := none) (nx := 0) (lg := 0) (nx2 := 0) (lg2 := 0) (cap := 0) (cap2 := 0) (l := []) (m := []) (FilesAt.nil _ _) (FilesAt.nil _ _) (Nat.zero_le _) (Nat.zero_le _))
      unfold stV at HSZ
      clear hb15 HSN
      go_wp2_with fail
      refine HSZ.out.mono ?_
      rintro e w16 ⟨b, rfl, hb, hb16⟩
      obtain rfl : b = true := by simpa using hb
      have HB16 : Hid (Below w.heap.size w w16) := Lib.hid (HB15.out.trans (hb16.mono HB15.out.size))
      have HCE : Hid (Calls Tryz.prog 17 #[.pointer (some ⟨w16.heap.size, 0, none⟩), .agg #[.slice none 0 0, .slice none 0 0, .int .i64 0, .int .i64 0]] (w16.alloc (.cells #[.pointer none, .string ⟨#[]⟩, .bool false] 50)) fun e w' => e = .returned (.int .i64 2) ∧ Below (w16.alloc (.cells #[.pointer none, .string ⟨#[]⟩, .bool false] 50)).heap.size (w16.alloc (.cells #[.pointer none, .string ⟨#[]⟩, .bool false] 50)) w') :=
        Lib.hid (Commit_empty fun W hW => by rw [cell_of_row W _ _ _ _ _ ((hW.block _ (by simp)).trans (heap_alloc_new w16 _))]; rfl)
      have HB17 : Hid (Below w.heap.size w (w16.alloc (.cells #[.pointer none, .string ⟨#[]⟩, .bool false] 50))) := Lib.hid (HB16.out.alloc HB16.out.size _)
      clear hb hb16 HSZ
      go_wp2_with fail
      refine HCE.out.mono ?_
      rintro e w18 ⟨rfl, hb18⟩
      have HB18 := Lib.hid (HB17.out.trans (hb18.mono HB17.out.size))
      clear hb18 HCE
      go_wp2_with fail
      go_ret
      exact ⟨rfl, HB18.out⟩
end Go.Proofs.YtbhjpkejdkfenaaGreatDoor
