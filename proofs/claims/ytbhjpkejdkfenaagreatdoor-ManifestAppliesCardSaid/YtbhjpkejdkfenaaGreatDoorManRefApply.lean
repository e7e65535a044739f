/-
  Walks over the document's answer for states: Apply. Conditions: those in the theorems.
-/
import Derived.Test.YtbhjpkejdkfenaaGreatDoorManRefRight
import Derived.Test.YtbhjpkejdkfenaaGreatDoorManTurned
set_option linter.unusedSimpArgs false
set_option linter.unusedVariables false
namespace Go.Proofs.YtbhjpkejdkfenaaGreatDoor
open Go.RowKit Go.Shelf Go.ChangeShapes Go.WideShapes Go.ChangeAt
open Mf (File State Edit)
theorem rf_nil (W : World) (v : Value) (p : Option Addr) (n c : Nat) (hv : v = .slice p n c) (ty : TypeId) (hnc : n ≤ c) :
    (Builtin.append_ #[36, 36] ty #[v, .slice none 0 0]).run Tryz.prog W = .ok v W := by
  subst hv
  cases p <;> simp [Builtin.append_, run_underlying Tryz.underlying36, hnc, go_sem]
theorem news_fis {W : World} {A : Addr} {l : List File} (h : FilesAt W (some A) l) (j m : Nat) (hm : j + m ≤ l.length) : ∀ q u, (fisCells ((l.drop j).take m))[q]? = some u → W.cell? ((A.add (j * 5)).add q) = some u := by
  intro q u hq
  have hlen : ((l.drop j).take m).length = m := by rw [List.length_take, List.length_drop]; omega
  have hq5 : q < m * 5 := by
    have := (List.getElem?_eq_some_iff.1 hq).1
    rw [fisCells_length, hlen] at this
    exact this
  have hi : j + q / 5 < l.length := by omega
  obtain ⟨A', e, -, h3, -⟩ := h (j + q / 5) hi
  cases e
  have hr : q % 5 < 5 := Nat.mod_lt _ (by omega)
  have h4 := h3 (q % 5) hr
  have e1 : (j + q / 5) * 5 + q % 5 = j * 5 + q := by omega
  rw [e1] at h4
  rw [madd, h4]
  have h5 := fisCells_get (l := (l.drop j).take m) (k := q / 5) (by rw [hlen]; omega) hr
  have e2 : q / 5 * 5 + q % 5 = q := by omega
  rw [e2, hq] at h5
  rw [h5, List.getElem_take, List.getElem_drop]
theorem rf_below {w W0 W W' : World} {base : Nat} {v v' : Value} {xs : List File} (hb : Below base w W) (ho : OwnRfs W0 base v xs) (hz : base ≤ W.heap.size) (g : GrewF v v' W W') : Below base w W' :=
  g.below hb hz fun k hk => (ho.lt k hk).1
theorem addr_at8 (g j : Nat) : (⟨g, 0, none⟩ : Addr).add j = ⟨g, j, none⟩ := by unfold Addr.add; split <;> simp_all
theorem rf_zero (W : World) (q : Option Addr) (c' : Nat) (ty : TypeId) :
    (Builtin.append_ #[36, 36] ty #[.slice none 0 0, .slice q 0 c']).run Tryz.prog W = .ok (.slice none 0 0) W := by
  cases q <;> simp [Builtin.append_, run_underlying Tryz.underlying36, go_sem]
theorem OwnRfs.opens {W : World} {base : Nat} {v : Value} {xs : List File} (h : OwnRfs W base v xs) (hp : ∀ x ∈ xs, FiIn x) (hn : xs.length ≠ 0) : ∃ g cap, v = .slice (some ⟨g, 0, none⟩) xs.length cap ∧ xs.length ≤ cap ∧ cap ≤ maxLen ∧ FilesAt W (some ⟨g, 0, none⟩) xs := by
  obtain ⟨p, cap, e, h1, h2, h3⟩ := h.files hp
  rcases h.2 with ⟨rfl, hz⟩ | ⟨g, cap', cur, rfl, -⟩
  · exact absurd hz hn
  · cases e; exact ⟨g, cap, rfl, h1, h2, h3⟩
/-- A row is copied by append to none. -/
theorem copy_in {w W : World} {base : Nat} {q : Option Addr} {c : Nat} {xs : List File} (h : FilesAt W q xs) (hn : xs.length ≤ 100000) (hb : Below base w W) (hbz : base ≤ W.heap.size) (ty : TypeId) :
    ∃ (pv : Option Addr) (cv : Nat) (W' : World), (Builtin.append_ #[36, 36] ty #[.slice none 0 0, .slice q xs.length c]).run Tryz.prog W = .ok (.slice pv xs.length cv) W' ∧
      OwnRfs W' base (.slice pv xs.length cv) xs ∧ (xs.length = 0 → pv = none ∧ cv = 0) ∧ Below base w W' := by
  by_cases h0 : xs.length = 0
  · obtain rfl := List.eq_nil_of_length_eq_zero h0
    exact ⟨none, 0, W, rf_zero W q c ty, OwnRfs.nil _ _, fun _ => ⟨rfl, rfl⟩, hb⟩
  · obtain ⟨A, rfl⟩ := h.some (i := 0) (by omega)
    have hn1 := news_fis h 0 xs.length (by omega)
    have e0 : A.add (0 * 5) = A := by unfold Addr.add; simp
    rw [List.drop_zero, List.take_length, e0] at hn1
    obtain ⟨p3, c3, W3, r3, o3, g3⟩ := rf_append (OwnRfs.nil W base) (Below.refl _ W) A xs xs.length c rfl hn1 (by simp; omega) hbz ty
    rw [List.nil_append] at o3
    simp only [List.length_nil, Nat.zero_add] at r3 o3 g3
    exact ⟨p3, c3, W3, r3, o3, fun h => absurd h h0, rf_below hb (OwnRfs.nil W base) hbz g3⟩
theorem files_set {W : World} {q : Option Addr} {xs : List File} {b : Nat} {x y z : Value} (h : FilesAt W q xs) (hb : ∀ A, q = some A → A.block ≠ b) : FilesAt (((W.setCell ⟨b, 0, none⟩ x).setCell ⟨b, 1, none⟩ y).setCell ⟨b, 2, none⟩ z) q xs := fun i hi => by
  obtain ⟨A, e, h2, h3, h4⟩ := h i hi
  have hne := hb A e
  refine ⟨A, e, by rw [World.size_setCell, World.size_setCell, World.size_setCell]; exact h2, fun j hj => ?_, h4⟩
  have hbk : b ≠ (A.add (i * 5 + j)).block := by rw [madd_block]; exact fun e => hne e.symm
  rw [World.cell?_setCell_far _ _ _ _ hbk, World.cell?_setCell_far _ _ _ _ hbk, World.cell?_setCell_far _ _ _ _ hbk]
  exact h3 j hj
theorem OwnRfs.far {W : World} {base : Nat} {q : Option Addr} {n cap : Nat} {xs : List File} (h : OwnRfs W base (.slice q n cap) xs) : ∀ A, q = some A → base ≤ A.block := fun A e => by
  subst e
  rcases h.2 with ⟨e, -⟩ | ⟨g, cap', cur, e, h1, -⟩
  · cases e
  · cases e; exact h1
/-- The three appends that put a table in. -/
theorem put_in {w W : World} {M : List File} {f : File} {A0 : Addr} {cap : Nat} (hb : Below w.heap.size w W) (hM : FilesAt W (some A0) M) (hml : M.length ≤ 100000) {j : Nat} (hj : j ≤ M.length) (A2 : Addr) (hA : M.length - j = 0 ∨ A2 = A0.add (j * 5)) (ty : TypeId) :
    ∃ (p3 : Option Addr) (c3 : Nat) (W3 : World), (Builtin.append_ #[36, 36] ty #[.slice none 0 0, .slice (some A0) j cap]).run Tryz.prog W = .ok (.slice p3 j c3) W3 ∧
      ∃ (p4 : Option Addr) (c4 : Nat) (W4 : World), (Builtin.append_ #[36, 36] ty #[.slice p3 j c3, .slice (some ⟨W3.heap.size, 0, none⟩) 1 1]).run Tryz.prog (W3.alloc (.cells #[.int .i64 f.n, .int .i64 f.level, .int .i64 f.count, .string f.first, .string f.last] 35)) = .ok (.slice p4 (j + 1) c4) W4 ∧
        ∃ (p5 : Option Addr) (c5 : Nat) (W5 : World), (Builtin.append_ #[36, 36] ty #[.slice p4 (j + 1) c4, .slice (some A2) (M.length - j) (cap - j)]).run Tryz.prog W4 = .ok (.slice p5 (M.length + 1) c5) W5 ∧
          Below w.heap.size w W5 ∧ OwnRfs W5 w.heap.size (.slice p5 (M.length + 1) c5) (M.take j ++ f :: M.drop j) ∧ Below W.heap.size W W3 := by
  have hl1 : (M.take j).length = j := by rw [List.length_take]; omega
  have hn1 := news_fis hM 0 j (by omega)
  rw [List.drop_zero] at hn1
  have e0 : A0.add (0 * 5) = A0 := by unfold Addr.add; simp
  rw [e0] at hn1
  obtain ⟨p3, c3, W3, r3, o3, g3⟩ := rf_append (OwnRfs.nil W W.heap.size) (Below.refl _ W) A0 (M.take j) j cap hl1 hn1 (by simp; omega) (Nat.le_refl _) ty
  have hb3 : Below W.heap.size W W3 := rf_below (Below.refl _ W) (OwnRfs.nil W W.heap.size) (Nat.le_refl _) g3
  rw [List.nil_append] at o3
  simp only [List.length_nil, Nat.zero_add] at r3 o3 g3
  have hz3 := hb3.size
  have o3' := o3.below (mbelow_alloc W3 (.cells #[.int .i64 f.n, .int .i64 f.level, .int .i64 f.count, .string f.first, .string f.last] 35))
  obtain ⟨p4, c4, W4, r4, o4, g4⟩ := rf_append o3 (mbelow_alloc W3 (.cells #[.int .i64 f.n, .int .i64 f.level, .int .i64 f.count, .string f.first, .string f.last] 35)) ⟨W3.heap.size, 0, none⟩ [f] 1 1 rfl (by simpa [fisCells, fiCells] using news_five W3 (.int .i64 f.n) (.int .i64 f.level) (.int .i64 f.count) (.string f.first) (.string f.last) 35) (by rw [hl1]; omega) hz3 ty
  rw [hl1] at r4 o4 g4
  have hb4 : Below W.heap.size W W4 := g4.below hb3 hz3 fun k hk => (o3.lt k hk).1
  have hz4 := hb4.size
  have hM4 := hM.below hb4
  have hl4 : (M.take j ++ [f]).length = j + 1 := by rw [List.length_append, hl1]; rfl
  have hl5 : (M.drop j).length = M.length - j := List.length_drop
  have hn5 : ∀ q u, (fisCells (M.drop j))[q]? = some u → W4.cell? (A2.add q) = some u := by
    intro q u hu
    rcases hA with h0 | rfl
    · have h1 : M.drop j = [] := List.drop_eq_nil_iff.2 (by omega)
      rw [h1] at hu; simp [fisCells] at hu
    · exact news_fis hM4 j (M.length - j) (by omega) q u (by rw [List.take_of_length_le (by rw [hl5]; exact Nat.le_refl _)]; exact hu)
  obtain ⟨p5, c5, W5, r5, o5, g5⟩ := rf_append o4 (Below.refl _ W4) A2 (M.drop j) (M.length - j) (cap - j) hl5 hn5 (by rw [hl4]; omega) hz4 ty
  rw [hl4, show j + 1 + (M.length - j) = M.length + 1 by omega] at r5 o5 g5
  have hb5 : Below W.heap.size W W5 := g5.below hb4 hz4 fun k hk => (o4.lt k hk).1
  refine ⟨p3, c3, W3, r3, p4, c4, W4, r4, p5, c5, W5, r5, hb.trans (hb5.mono hb.size), ?_, hb3⟩
  have := o5.mono hb.size
  rw [List.append_assoc] at this
  exact this
section
attribute [local go_sem] Oper.semAt_some
theorem refApply_res {W : World} {tmps : Array Value} {b : Nat} {nx lg c : Int} {p : Option Addr} {n cap : Nat} (h4 : tmps[4]? = some (.pointer (some ⟨b, 0, none⟩))) (h5 : tmps[5]? = some (.int .i64 c)) (h : W.heap[b]? = some (rsO nx lg p n cap)) :
    (results Tryz.f21 tmps).run Tryz.prog W = .ok (.tuple #[.agg #[.int .i64 nx, .int .i64 lg, .slice p n cap], .int .i64 c]) W := by
  obtain ⟨c0, c1, c2, -⟩ := rs_cells h
  simp [results, Tryz.results21, h4, h5, go_sem, c0, c1, c2]
end
/-- What the answer tells: an outcome of an edit, its tables in memory. -/
def RefApplied (o : Nat × State) (w : World) (e : Ending) (w' : World) : Prop :=
  ∃ pw cw, e = .returned (.tuple #[.agg #[.int .i64 o.2.next, .int .i64 o.2.log, .slice pw o.2.files.length cw], .int .i64 (o.1 : Nat)]) ∧ FilesAt w' pw o.2.files ∧ (o.2.files.length ≤ cw ∧ cw ≤ maxLen) ∧ (∀ A, pw = some A → w.heap.size ≤ A.block) ∧ Below w.heap.size w w'
theorem refApplied_bad {c : Nat} {w w' : World} (hb : Below w.heap.size w w') : RefApplied (c, ⟨0, 0, []⟩) w (.returned (.tuple #[.agg #[.int .i64 0, .int .i64 0, .slice none 0 0], .int .i64 (c : Nat)])) w' :=
  ⟨none, 0, rfl, FilesAt.nil _ _, ⟨Nat.le_refl _, Nat.zero_le _⟩, (fun _ e => by cases e), hb⟩
set_option maxRecDepth 100000 in
set_option maxHeartbeats 16000000 in
theorem refApply_any {w : World} {p q r : Option Addr} {cap cd ca : Nat} {l add : List File} {ds : List Int} {nx lg enx elg : Int} (hl : FilesAt w p l) (hc : l.length ≤ cap ∧ cap ≤ maxLen) (hd : IntsM w q ds) (ha : FilesAt w r add)
    (hn : l.length ≤ 1000) (hdn : ds.length ≤ 1000) (han : add.length ≤ 1000) :
    Calls Tryz.prog 21 #[.agg #[.int .i64 nx, .int .i64 lg, .slice p l.length cap], .agg #[.slice q ds.length cd, .slice r add.length ca, .int .i64 enx, .int .i64 elg]] w (RefApplied (Mf.apply ⟨nx, lg, l⟩ ⟨ds, add, enx, elg⟩) w) := by
  obtain ⟨W1, hW1⟩ : ∃ W1, W1 = ((w.alloc (.cells #[.int .i64 nx, .int .i64 lg, .slice p l.length cap] 38)).alloc (.cells #[.slice q ds.length cd, .slice r add.length ca, .int .i64 enx, .int .i64 elg] 58)).alloc (.cells #[.int .i64 0, .int .i64 0, .slice none 0 0] 38) := ⟨_, rfl⟩
  have hb1 : Below w.heap.size w W1 := by rw [hW1]; exact (((Below.refl _ w).alloc (Nat.le_refl _) _).alloc (by simp) _).alloc (by simp; omega) _
  have h1 : W1.heap[w.heap.size]? = some (rsO nx lg p l.length cap) := by rw [hW1, Below.heap_alloc _ _ _ (by simp; omega), Below.heap_alloc _ _ _ (by simp)]; exact heap_alloc_new w _
  have h2 : W1.heap[w.heap.size + 1]? = some (reO q ds.length cd r add.length ca enx elg) := by
    rw [hW1, Below.heap_alloc _ _ _ (by simp)]
    have := heap_alloc_new (w.alloc (.cells #[.int .i64 nx, .int .i64 lg, .slice p l.length cap] 38)) (.cells #[.slice q ds.length cd, .slice r add.length ca, .int .i64 enx, .int .i64 elg] 58)
    rwa [World.size_alloc] at this
  have h3 : W1.heap[w.heap.size + 1 + 1]? = some (rsO 0 0 none 0 0) := by
    rw [hW1]
    have := heap_alloc_new ((w.alloc (.cells #[.int .i64 nx, .int .i64 lg, .slice p l.length cap] 38)).alloc (.cells #[.slice q ds.length cd, .slice r add.length ca, .int .i64 enx, .int .i64 elg] 58)) (.cells #[.int .i64 0, .int .i64 0, .slice none 0 0] 38)
    rwa [World.size_alloc, World.size_alloc] at this
  have HX : Hid (∀ W, Below W1.heap.size W1 W → W.heap[w.heap.size]? = some (rsO nx lg p l.length cap) ∧ W.heap[w.heap.size + 1]? = some (reO q ds.length cd r add.length ca enx elg) ∧ W.heap[w.heap.size + 1 + 1]? = some (rsO 0 0 none 0 0)) :=
    Lib.hid fun W hW => ⟨(hW.block _ (Array.getElem?_eq_some_iff.1 h1).1).trans h1, (hW.block _ (Array.getElem?_eq_some_iff.1 h2).1).trans h2, (hW.block _ (Array.getElem?_eq_some_iff.1 h3).1).trans h3⟩
  have HSZ1 : Hid (w.heap.size + 1 + 1 < W1.heap.size) := Lib.hid (Array.getElem?_eq_some_iff.1 h3).1
  have FS := Lib.hid (hl.below hb1)
  have FD := Lib.hid (hd.below hb1)
  have FA := Lib.hid (ha.below hb1)
  have HB1 := Lib.hid hb1
  have HSC := Lib.hid hc
  have HN := Lib.hid (And.intro hn (And.intro hdn han))
  have HRS : Hid (∀ (W : World) (x y : Int) (p' : Option Addr) (n' c' : Nat), Below W1.heap.size W1 W → Below w.heap.size w (((W.setCell ⟨w.heap.size + 1 + 1, 0, none⟩ (.int .i64 x)).setCell ⟨w.heap.size + 1 + 1, 1, none⟩ (.int .i64 y)).setCell ⟨w.heap.size + 1 + 1, 2, none⟩ (.slice p' n' c'))) :=
    Lib.hid fun W x y p' n' c' hW => st_below (hb1.trans (hW.mono hb1.size)) (by omega)
  obtain ⟨o, ho⟩ : ∃ o, o = Mf.apply ⟨nx, lg, l⟩ ⟨ds, add, enx, elg⟩ := ⟨_, rfl⟩
  have HO : Hid (Mf.apply ⟨nx, lg, l⟩ ⟨ds, add, enx, elg⟩ = o) := Lib.hid ho.symm
  rw [← ho]
  obtain ⟨c0, c1, c2, -⟩ := rs_cells h1
  have HRT := Lib.hid (refRight_any (nx := nx) (lg := lg) (cap := cap) (hl.below hb1) (by omega))
  unfold stV at HRT
  clear hl hd ha hb1 h1 h2 h3 hc hn hdn han ho
  go_enter Tryz.func21, Tryz.ntmps21
  go_upto_region 1 with fail
  rw [← hW1]
  clear hW1
  go_wp2_with fail
  refine HRT.out.mono ?_
  rintro e w2 ⟨b, rfl, hb, hb2⟩
  have HB2 : Hid (Below W1.heap.size W1 w2) := Lib.hid hb2
  clear HRT c0 c1 c2 hb2
  cases b with
  | false =>
    have HE : Hid (o = (1, ⟨0, 0, []⟩)) := Lib.hid (by rw [← HO.out]; exact apply_bad fun h => by have := hb.2 h; cases this)
    have hx := (HX.out _ HB2.out).2.2
    obtain ⟨z0, z1, z2, zf⟩ := rs_cells hx
    have f0 := zf 0
    have f1 := zf 1
    have f2 := zf 2
    have HXX := Lib.hid hx
    clear hb hx zf
    go_wp2_with fail
    refine bodyPost_ret (refApply_res rfl rfl (st_set_rs HXX.out)) rfl ?_
    rw [HE.out]
    exact refApplied_bad (HRS.out _ _ _ _ _ _ HB2.out)
  | true =>
    have HR := Lib.hid (hb.1 rfl)
    clear hb
    obtain ⟨x1, x2, -⟩ := HX.out _ HB2.out
    obtain ⟨c0, c1, c2, -⟩ := rs_cells x1
    clear x1 x2
    obtain ⟨p3, c3, W3, hrun, ho3, hz3, hb3⟩ := copy_in (c := cap) (FS.out.below HB2.out) (by have := HN.out; omega) HB2.out HB2.out.size 36
    have H3 := Lib.hid (And.intro ho3 (And.intro hz3 hb3))
    clear ho3 hz3 hb3
    go_upto_region 4 with fail
    obtain ⟨nv, hnv⟩ : ∃ nv, nv = Value.slice none 0 0 := ⟨_, rfl⟩
    have HNV := Lib.hid hnv
    rw [← hnv] at hrun ⊢
    clear hnv
    go_wp2_with (at_builtin; refine Lib.wpList_append_run _ rfl (.tmp 19) (.tmp 21) _ _ rfl _ _ rfl rfl _ _ hrun ?_)
    have hnv := HNV.out
    subst hnv
    clear c0 c1 c2 hrun
    go_loopw [6, 7] (fun lv iv wr => ∃ (i : Nat) (m : List File) (pv : Option Addr) (cv : Nat), i ≤ ds.length ∧ lv = .slice pv m.length cv ∧ iv = .int .i64 (i : Nat) ∧ Hid (Mf.dropAll l (ds.take i) = some m ∧ OwnRfs wr W1.heap.size (.slice pv m.length cv) m ∧ (m.length = 0 → pv = none ∧ cv = 0) ∧ Below W1.heap.size W1 wr)) (fun _ iv _ => ds.length - (intOf iv).toNat)
    case atStart => exact ⟨0, l, p3, c3, Nat.zero_le _, rfl, rfl, Lib.hid ⟨rfl, H3.out⟩⟩
    case round =>
      obtain ⟨i, m, pv, cv, hi, rfl, rfl, H⟩ := hrel
      have hi9 : i ≤ 1000 := by have := HN.out; omega
      have hsub : m.Sublist l := Mf.dropAll_some H.out.1
      have HML : Hid (m.length ≤ 1000 ∧ (∀ f ∈ m, FiIn f) ∧ m.Pairwise fun a b => a.n < b.n) := Lib.hid ⟨Nat.le_trans hsub.length_le HN.out.1, fun f hf => FS.out.ok f (hsub.subset hf), HR.out.numbered.2.sublist hsub⟩
      obtain ⟨x1, x2, -⟩ := HX.out _ H.out.2.2.2
      obtain ⟨d0, d1, d2, d3, -⟩ := re_cells x2
      clear x1 x2 hsub
      by_cases hlt : i < ds.length
      · have i1 : (i : Int) < (ds.length : Int) := by omega
        have i2 : (0 : Int) ≤ (i : Int) := by omega
        obtain ⟨A, rfl, -, -⟩ := FD.out.at H.out.2.2.2 hlt
        have HDT := Lib.hid (Mf.dropAll_take hlt H.out.1)
        have HDC : Hid (∀ W, Below W1.heap.size W1 W → W.cell? (A.add i) = some (.int .i64 ds[i])) := Lib.hid fun W hW => by
          obtain ⟨A', e, h, -⟩ := FD.out.at hW hlt
          cases e
          exact h
        generalize ds[i] = d at *
        generalize wr = W5 at *
        have HLT := Lib.hid hlt
        clear hlt
        go_wp2_with fail
        clear d0 d1 d2 d3
        go_loopw [8, 9] (fun mv kv wr2 => ∃ (k : Nat) (pv2 : Option Addr) (cv2 : Nat), k ≤ m.length ∧ mv = .slice pv2 (Mf.without d (m.take k)).length cv2 ∧ kv = .int .i64 (k : Nat) ∧ Hid (OwnRfs wr2 W5.heap.size (.slice pv2 (Mf.without d (m.take k)).length cv2) (Mf.without d (m.take k)) ∧ ((Mf.without d (m.take k)).length = 0 → pv2 = none ∧ cv2 = 0) ∧ Below W5.heap.size W5 wr2)) (fun _ kv _ => m.length - (intOf kv).toNat)
        case atStart => exact ⟨0, none, 0, Nat.zero_le _, rfl, rfl, Lib.hid ⟨OwnRfs.nil _ _, fun _ => ⟨rfl, rfl⟩, Below.refl _ _⟩⟩
        case round =>
          obtain ⟨k, pv2, cv2, hk, rfl, rfl, H5⟩ := hrel
          have hk9 : k ≤ 1000 := by have := HML.out.1; omega
          have HBW : Hid (Below W1.heap.size W1 wr) := Lib.hid (H.out.2.2.2.trans (H5.out.2.2.mono H.out.2.2.2.size))
          by_cases hkl : k < m.length
          · have i3 : (k : Int) < (m.length : Int) := by omega
            have i4 : (0 : Int) ≤ (k : Int) := by omega
            obtain ⟨g, cap2, e1, -, -, hfm⟩ := H.out.2.1.opens HML.out.2.1 (by omega)
            simp only [Value.slice.injEq] at e1
            obtain ⟨rfl, -, rfl⟩ := e1
            have HFM := Lib.hid hfm
            obtain ⟨A', ea, z0, z1, z2, z3, z4, -⟩ := hfm.at H5.out.2.2 hkl
            cases ea
            obtain ⟨x1, x2, -⟩ := HX.out _ HBW.out
            obtain ⟨d0, d1, d2, d3, -⟩ := re_cells x2
            have y0 := HDC.out _ HBW.out
            have HWT := Lib.hid (Mf.without_take (n := d) hkl)
            clear x1 x2 hfm
            generalize m[k] = f at *
            clear hkl
            obtain ⟨fn, fl, fc, ff, ft⟩ := f
            simp only [addr_at8] at z0 z1 z2 z3 z4 HWT
            by_cases hfd : fn = d
            · have q1 : (fn != d) = false := by rw [bne_eq_false_iff_eq]; exact hfd
              have q2 : (fn == d) = true := by rw [beq_iff_eq]; exact hfd
              have HWE : Hid (Mf.without d (m.take (k + 1)) = Mf.without d (m.take k)) := Lib.hid (by rw [HWT.out, if_pos hfd, List.append_nil])
              clear hfd HWT
              go_wp2_with fail
              go_quiet (fail)
              go_wp2_with fail
              go_roundw
              case rel => exact ⟨k + 1, pv2, cv2, by omega, by rw [HWE.out], by go_num, Lib.hid (by rw [HWE.out]; exact ⟨H5.out.1.below (below_drewN (Below.refl _ _) _), H5.out.2.1, below_drewN H5.out.2.2 _⟩)⟩
              case measure => simp [intOf]; omega
            · have q1 : (fn != d) = true := by rw [bne_iff_ne]; exact hfd
              have q2 : (fn == d) = false := by rw [beq_eq_false_iff_ne]; exact hfd
              have HWE : Hid (Mf.without d (m.take (k + 1)) = Mf.without d (m.take k) ++ [⟨fn, fl, fc, ff, ft⟩]) := Lib.hid (by rw [HWT.out, if_neg hfd])
              clear hfd HWT
              go_wp2_with fail
              go_quiet (fail)
              have HB6 : Hid (Below wr.heap.size wr (wr.drewN nq)) := Lib.hid (below_drewN (Below.refl _ _) _)
              have hcz : ∀ a v, wr.cell? a = some v → (wr.drewN nq).cell? a = some v := fun a v h => h
              replace z0 := hcz _ _ z0
              replace z1 := hcz _ _ z1
              replace z2 := hcz _ _ z2
              replace z3 := hcz _ _ z3
              replace z4 := hcz _ _ z4
              clear hcz d0 d1 d2 d3 y0
              generalize wr.drewN nq = W6 at *
              have HH5 : Hid (OwnRfs W6 W5.heap.size (.slice pv2 (Mf.without d (m.take k)).length cv2) (Mf.without d (m.take k)) ∧ Below W5.heap.size W5 W6) := Lib.hid ⟨H5.out.1.below HB6.out, H5.out.2.2.trans (HB6.out.mono H5.out.2.2.size)⟩
              obtain ⟨pw, cw, W7, hrun, ho7, hg7⟩ := rf_append HH5.out.1 (mbelow_alloc W6 (.cells #[.int .i64 fn, .int .i64 fl, .int .i64 fc, .string ff, .string ft] 35)) ⟨W6.heap.size, 0, none⟩ [⟨fn, fl, fc, ff, ft⟩] 1 1 rfl (by simpa [fisCells, fiCells] using news_five W6 (.int .i64 fn) (.int .i64 fl) (.int .i64 fc) (.string ff) (.string ft) 35) (by have := Mf.without_len (n := d) (l := m.take k); rw [List.length_take] at this; omega) HH5.out.2.size 36
              have HE : Hid (OwnRfs W7 W5.heap.size (.slice pw ((Mf.without d (m.take k)).length + 1) cw) (Mf.without d (m.take k) ++ [⟨fn, fl, fc, ff, ft⟩]) ∧ Below W5.heap.size W5 W7) := Lib.hid ⟨ho7, hg7.below HH5.out.2 HH5.out.2.size fun j hj => (HH5.out.1.lt j hj).1⟩
              clear ho7 hg7
              go_wp2_with (at_builtin; refine Lib.wpList_append_run _ rfl (.tmp 47) (.tmp 52) _ _ rfl _ _ rfl rfl _ _ hrun ?_)
              go_roundw
              case rel => exact ⟨k + 1, pw, cw, by omega, by rw [HWE.out, List.length_append]; rfl, by go_num, Lib.hid (by rw [HWE.out, List.length_append]; exact ⟨HE.out.1, fun h => absurd h (by simp), HE.out.2⟩)⟩
              case measure => simp [intOf]; omega
          · obtain rfl : k = m.length := by omega
            have i3 : ¬ (m.length : Int) < (m.length : Int) := by omega
            have hh := H5.out
            rw [List.take_length] at hh ⊢
            have HH := Lib.hid hh
            have hwl := Mf.without_len (n := d) (l := m)
            clear hh H5
            have HBW' : Hid (Below W1.heap.size W1 wr) := HBW
            by_cases hall : (Mf.without d m).length = m.length
            · have q1 : (((Mf.without d m).length : Int) == (m.length : Int)) = true := by rw [beq_iff_eq]; omega
              have HE : Hid (o = (4, ⟨0, 0, []⟩)) := Lib.hid (by
                rw [← HO.out]
                exact apply_none HR.out (Mf.dropAll_none (i := i + 1) (by rw [HDT.out]; exact Mf.without_all hall)))
              have hx := (HX.out _ HBW.out).2.2
              obtain ⟨z0, z1, z2, zf⟩ := rs_cells hx
              have f0 := zf 0
              have f1 := zf 1
              have f2 := zf 2
              have HXX := Lib.hid hx
              clear hall hx zf
              go_wp2_with fail
              refine bodyPost_ret (refApply_res rfl rfl (st_set_rs HXX.out)) rfl ?_
              rw [HE.out]
              exact refApplied_bad (HRS.out _ _ _ _ _ _ HBW.out)
            · have q1 : (((Mf.without d m).length : Int) == (m.length : Int)) = false := by rw [beq_eq_false_iff_ne]; omega
              have HD2 : Hid (Mf.dropAll l (ds.take (i + 1)) = some (Mf.without d m)) := Lib.hid (by rw [HDT.out]; exact Mf.without_some HML.out.2.2 hall)
              have HO2 : Hid (OwnRfs wr W1.heap.size (.slice pv2 (Mf.without d m).length cv2) (Mf.without d m)) := Lib.hid (HH.out.1.mono H.out.2.2.2.size)
              clear hall
              go_wp2_with fail
              go_roundw
              case rel => exact ⟨i + 1, Mf.without d m, pv2, cv2, HLT.out, rfl, by go_num, Lib.hid ⟨HD2.out, HO2.out, HH.out.2.1, HBW.out⟩⟩
              case measure => have := HLT.out; simp [intOf]; omega
      · obtain rfl : i = ds.length := by omega
        have i1 : ¬ (ds.length : Int) < (ds.length : Int) := by omega
        have hh := H.out
        rw [List.take_length] at hh
        have HD := Lib.hid hh.1
        have HOW := Lib.hid (And.intro hh.2.1 hh.2.2.1)
        have HBW := Lib.hid hh.2.2.2
        clear hh H
        go_wp2_with fail
        clear d0 d1 d2 d3
        go_loopw [6, 10] (fun lv iv wr => ∃ (i : Nat) (pv : Option Addr) (cv : Nat), i ≤ add.length ∧ lv = .slice pv (Mf.insertAll m (add.take i)).length cv ∧ iv = .int .i64 (i : Nat) ∧ Hid ((Mf.insertAll m (add.take i)).Pairwise (fun a b => a.n < b.n) ∧ OwnRfs wr W1.heap.size (.slice pv (Mf.insertAll m (add.take i)).length cv) (Mf.insertAll m (add.take i)) ∧ ((Mf.insertAll m (add.take i)).length = 0 → pv = none ∧ cv = 0) ∧ Below W1.heap.size W1 wr)) (fun _ iv _ => add.length - (intOf iv).toNat)
        case atStart => exact ⟨0, pv, cv, Nat.zero_le _, rfl, rfl, Lib.hid ⟨HML.out.2.2, HOW.out.1, HOW.out.2, HBW.out⟩⟩
        case round =>
          obtain ⟨i, pv, cv, hi, rfl, rfl, H⟩ := hrel
          clear hi9
          have hi9 : i ≤ 1000 := by have := HN.out; omega
          obtain ⟨x1, x2, -⟩ := HX.out _ H.out.2.2.2
          obtain ⟨d0, d1, d2, d3, -⟩ := re_cells x2
          clear x1 x2
          by_cases hlt : i < add.length
          · have i1 : (i : Int) < (add.length : Int) := by omega
            have i2 : (0 : Int) ≤ (i : Int) := by omega
            obtain ⟨A, rfl, y0, y1, y2, y3, y4, hfi⟩ := FA.out.at H.out.2.2.2 hlt
            have HNX := Lib.hid (Mf.insertAll_take m add hlt)
            have HTW := Lib.hid (fun k hk e => Mf.twice_now (l := m) hlt k hk e)
            have HML2 : Hid ((Mf.insertAll m (add.take i)).length ≤ 2000 ∧ ∀ f ∈ Mf.insertAll m (add.take i), FiIn f) := Lib.hid ⟨by rw [(Mf.insertAll_perm m _).length_eq, List.length_append, List.length_take]; have := HML.out.1; omega, fun f hf => by
              rcases List.mem_append.1 ((Mf.insertAll_perm m _).mem_iff.1 hf) with h | h
              · exact HML.out.2.1 f h
              · exact FA.out.ok f (List.mem_of_mem_take h)⟩
            have HLT := Lib.hid hlt
            generalize Mf.insertAll m (add.take i) = M at *
            generalize add[i] = f at *
            clear hlt
            obtain ⟨fn, fl, fc, ff, ft⟩ := f
            simp only at y0 y1 y2 y3 y4 HTW
            obtain ⟨W6, hW6⟩ : ∃ x, x = wr.alloc (.cells #[.int .i64 fn, .int .i64 fl, .int .i64 fc, .string ff, .string ft] 35) := ⟨_, rfl⟩
            have HB6 : Hid (Below wr.heap.size wr W6) := Lib.hid (by rw [hW6]; exact mbelow_alloc _ _)
            have HC6 : Hid (∀ W, Below W6.heap.size W6 W → W.cell? ⟨wr.heap.size, 0, none⟩ = some (.int .i64 fn) ∧ W.cell? ⟨wr.heap.size, 1, none⟩ = some (.int .i64 fl) ∧ W.cell? ⟨wr.heap.size, 2, none⟩ = some (.int .i64 fc) ∧ W.cell? ⟨wr.heap.size, 3, none⟩ = some (.string ff) ∧ W.cell? ⟨wr.heap.size, 4, none⟩ = some (.string ft)) := Lib.hid (by rw [hW6]; exact rfi_cells)
            have HO6 : Hid (OwnRfs W6 W1.heap.size (.slice pv M.length cv) M) := Lib.hid (H.out.2.1.below HB6.out)
            have HW16 : Hid (Below W1.heap.size W1 W6) := Lib.hid (H.out.2.2.2.trans (HB6.out.mono H.out.2.2.2.size))
            have HSO := Lib.hid H.out.1
            have HNL := Lib.hid H.out.2.2.1
            clear H
            go_upto_region 21 with fail
            rw [← hW6]
            clear hW6 y0 y1 y2 y3 y4 d0 d1 d2 d3
            generalize wr.heap.size = fb at *
            go_wp2_with fail
            go_loopw [12] (fun kv wr2 => ∃ k : Nat, k ≤ M.length ∧ kv = .int .i64 (k : Nat) ∧ Hid ((∀ g ∈ M.take k, g.n < fn) ∧ Below W6.heap.size W6 wr2)) (fun kv _ => M.length - (intOf kv).toNat)
            case atStart => exact ⟨0, Nat.zero_le _, rfl, Lib.hid ⟨(fun _ h => nomatch h), Below.refl _ _⟩⟩
            case round =>
              obtain ⟨k, hk, rfl, H7⟩ := hrel
              have hk9 : k ≤ 2000 := by have := HML2.out.1; omega
              obtain ⟨g0, g1, g2, g3, g4⟩ := HC6.out _ H7.out.2
              obtain ⟨P22, H22⟩ : ∃ P : Prop, Hid (P ↔ ∃ h : k < M.length, M[k].n < fn) := ⟨_, Lib.hid Iff.rfl⟩
              obtain ⟨P24, H24⟩ : ∃ P : Prop, Hid (P ↔ ∃ h : k < M.length, M[k].n = fn) := ⟨_, Lib.hid Iff.rfl⟩
              go_upto_region 22 with fail
              go_cut [86] from 73 to 88 (fun cv wx => Says P22 cv ∧ Hid (Below wr.heap.size wr wx))
              case first =>
                by_cases hkl : k < M.length
                · have i3 : (k : Int) < (M.length : Int) := by omega
                  have i4 : (0 : Int) ≤ (k : Int) := by omega
                  have i3d : decide (k < M.length) = true := decide_eq_true hkl
                  obtain ⟨g, cap2, e1, -, -, hfm⟩ := HO6.out.opens HML2.out.2 (by omega)
                  simp only [Value.slice.injEq] at e1
                  obtain ⟨rfl, -, rfl⟩ := e1
                  obtain ⟨A', ea, z0, -⟩ := hfm.at H7.out.2 hkl
                  cases ea
                  obtain ⟨gn, hgn⟩ : ∃ x, x = M[k].n := ⟨_, rfl⟩
                  rw [← hgn] at z0
                  simp only [addr_at8] at z0
                  by_cases hlt2 : gn < fn
                  · have HE : Hid P22 := Lib.hid (H22.out.2 ⟨hkl, by rw [← hgn]; exact hlt2⟩)
                    clear hgn hfm
                    go_quiet (fail)
                    go_wp2_with fail
                    go_meet
                    exact ⟨Says.yes HE.out, Lib.hid (below_drewN (Below.refl _ _) _)⟩
                  · have HE : Hid (¬ P22) := Lib.hid fun h => by
                      obtain ⟨h1, h2⟩ := H22.out.1 h
                      exact hlt2 (by rw [hgn]; exact h2)
                    clear hgn hfm
                    go_quiet (fail)
                    go_wp2_with fail
                    go_meet
                    exact ⟨Says.no HE.out, Lib.hid (below_drewN (Below.refl _ _) _)⟩
                · have i3 : ¬ (k : Int) < (M.length : Int) := by omega
                  have i3d : decide (k < M.length) = false := decide_eq_false hkl
                  have HE : Hid (¬ P22) := Lib.hid fun h => by
                    obtain ⟨h1, h2⟩ := H22.out.1 h
                    exact hkl h1
                  go_quiet (fail)
                  go_wp2_with fail
                  go_meet
                  exact ⟨Says.no HE.out, Lib.hid (below_drewN (Below.refl _ _) _)⟩
              case rest =>
                obtain ⟨⟨c, rfl, hc⟩, HBC⟩ := hcut
                have HBC6 : Hid (Below W6.heap.size W6 wc) := Lib.hid (H7.out.2.trans (HBC.out.mono H7.out.2.size))
                clear g0 g1 g2 g3 g4
                cases c with
                | true =>
                  have HP := Lib.hid (H22.out.1 (hc.1 rfl))
                  have HT : Hid (k < M.length ∧ ∀ g ∈ M.take (k + 1), g.n < fn) := Lib.hid (by
                    obtain ⟨h1, h2⟩ := HP.out
                    refine ⟨h1, ?_⟩
                    rw [List.take_succ_eq_append_getElem h1]
                    intro g hg
                    rcases List.mem_append.1 hg with h | h
                    · exact H7.out.1 g h
                    · rw [List.mem_singleton.1 h]; exact h2)
                  clear hc
                  go_wp2_with fail
                  go_roundw
                  case rel => exact ⟨k + 1, HT.out.1, by go_num, Lib.hid ⟨HT.out.2, HBC6.out⟩⟩
                  case measure => have := HT.out.1; simp [intOf]; omega
                | false =>
                  have HST : Hid (Mf.Stands ⟨fn, fl, fc, ff, ft⟩ M k) := Lib.hid ⟨hk, H7.out.1, fun h => by
                    have h2 : ¬ P22 := fun h => by have := hc.2 h; cases this
                    rw [H22.out] at h2
                    by_cases c : M[k].n < fn
                    · exact absurd ⟨h, c⟩ h2
                    · show fn ≤ M[k].n; omega⟩
                  clear hc
                  obtain ⟨g0, g1, g2, g3, g4⟩ := HC6.out _ HBC6.out
                  generalize wc = wb at *
                  clear wc
                  go_upto_region 24 with fail
                  go_cut [102] from 89 to 117 (fun cv wx => Says P24 cv ∧ Hid (Below W6.heap.size W6 wx))
                  case first =>
                    by_cases hkl : k < M.length
                    · have i3 : (k : Int) < (M.length : Int) := by omega
                      have i4 : (0 : Int) ≤ (k : Int) := by omega
                      have i3d : decide (k < M.length) = true := decide_eq_true hkl
                      obtain ⟨g, cap2, e1, -, -, hfm⟩ := HO6.out.opens HML2.out.2 (by omega)
                      simp only [Value.slice.injEq] at e1
                      obtain ⟨rfl, -, rfl⟩ := e1
                      obtain ⟨A', ea, z0, -⟩ := hfm.at HBC6.out hkl
                      cases ea
                      obtain ⟨gn, hgn⟩ : ∃ x, x = M[k].n := ⟨_, rfl⟩
                      rw [← hgn] at z0
                      simp only [addr_at8] at z0
                      by_cases heq : gn = fn
                      · have HE : Hid P24 := Lib.hid (H24.out.2 ⟨hkl, by rw [← hgn]; exact heq⟩)
                        have j1 : (gn == fn) = true := by rw [beq_iff_eq]; exact heq
                        clear hgn hfm heq
                        go_quiet (fail)
                        go_wp2_with fail
                        go_meet
                        exact ⟨Says.yes HE.out, Lib.hid (below_drewN HBC6.out _)⟩
                      · have HE : Hid (¬ P24) := Lib.hid fun h => by
                          obtain ⟨h1, h2⟩ := H24.out.1 h
                          exact heq (by rw [hgn]; exact h2)
                        have j1 : (gn == fn) = false := by rw [beq_eq_false_iff_ne]; exact heq
                        clear hgn hfm heq
                        go_quiet (fail)
                        go_wp2_with fail
                        go_meet
                        exact ⟨Says.no HE.out, Lib.hid (below_drewN HBC6.out _)⟩
                    · have i3 : ¬ (k : Int) < (M.length : Int) := by omega
                      have i3d : decide (k < M.length) = false := decide_eq_false hkl
                      have HE : Hid (¬ P24) := Lib.hid fun h => by
                        obtain ⟨h1, h2⟩ := H24.out.1 h
                        exact hkl h1
                      go_quiet (fail)
                      go_wp2_with fail
                      go_meet
                      exact ⟨Says.no HE.out, Lib.hid (below_drewN HBC6.out _)⟩
                  case rest =>
                    obtain ⟨⟨c, rfl, hc⟩, HBD6⟩ := hcut
                    have HW1C : Hid (Below W1.heap.size W1 wc) := Lib.hid (HW16.out.trans (HBD6.out.mono HW16.out.size))
                    clear g0 g1 g2 g3 g4
                    cases c with
                    | true =>
                      have HE : Hid (o = (5, ⟨0, 0, []⟩)) := Lib.hid (by
                        obtain ⟨h1, h2⟩ := H24.out.1 (hc.1 rfl)
                        rw [← HO.out]
                        exact apply_there HR.out HD.out (HTW.out k h1 h2))
                      have hx := (HX.out _ HW1C.out).2.2
                      obtain ⟨z0, z1, z2, zf⟩ := rs_cells hx
                      have f0 := zf 0
                      have f1 := zf 1
                      have f2 := zf 2
                      have HXX := Lib.hid hx
                      clear hc hx zf
                      go_wp2_with fail
                      refine bodyPost_ret (refApply_res rfl rfl (st_set_rs HXX.out)) rfl ?_
                      rw [HE.out]
                      exact refApplied_bad (HRS.out _ _ _ _ _ _ HW1C.out)
                    | false =>
                      have HNE : Hid (∀ h : k < M.length, M[k].n ≠ fn) := Lib.hid fun h e => by
                        have := hc.2 (H24.out.2 ⟨h, e⟩)
                        cases this
                      have HIN : Hid (Mf.insertAll m (add.take (i + 1)) = M.take k ++ ⟨fn, fl, fc, ff, ft⟩ :: M.drop k) := Lib.hid (by rw [HNX.out, Mf.insert_at HST.out])
                      have HSN : Hid ((Mf.insertAll m (add.take (i + 1))).Pairwise fun a b => a.n < b.n) := Lib.hid (by rw [HNX.out]; exact Mf.insert_rising HSO.out HST.out HNE.out)
                      have HLN : Hid ((Mf.insertAll m (add.take (i + 1))).length = M.length + 1) := Lib.hid (by rw [HNX.out, (Mf.insert_perm _ _).length_eq]; rfl)
                      clear hc
                      by_cases hm0 : M.length = 0
                      · obtain ⟨rfl, rfl⟩ := HNL.out hm0
                        obtain rfl : k = 0 := by omega
                        have hmn := List.eq_nil_of_length_eq_zero hm0
                        subst hmn
                        simp only [List.take_nil, List.drop_nil, List.nil_append] at HIN
                        have r3 := rf_zero wc none 0 36
                        have o3 := (OwnRfs.nil wc wc.heap.size)
                        obtain ⟨p4, c4, W14, r4, o4, g4'⟩ := rf_append o3 (mbelow_alloc wc (.cells #[.int .i64 fn, .int .i64 fl, .int .i64 fc, .string ff, .string ft] 35)) ⟨wc.heap.size, 0, none⟩ [⟨fn, fl, fc, ff, ft⟩] 1 1 rfl (by simpa [fisCells, fiCells] using news_five wc (.int .i64 fn) (.int .i64 fl) (.int .i64 fc) (.string ff) (.string ft) 35) (by simp) (Nat.le_refl _) 36
                        simp only [List.length_nil, Nat.zero_add, List.nil_append] at r4 o4 g4'
                        have hb5 : Below W1.heap.size W1 W14 := HW1C.out.trans ((g4'.below (Below.refl _ _) (Nat.le_refl _) fun j hj => (o3.lt j hj).1).mono HW1C.out.size)
                        have ho5 := o4.mono HW1C.out.size
                        obtain ⟨pq, cq, eq, hc1, -⟩ := o4.shape
                        have r5 := rf_nil W14 (.slice p4 1 c4) p4 1 c4 rfl 36 (by cases eq; exact hc1)
                        obtain ⟨g0, g1, g2, g3, g4⟩ := HC6.out _ HBD6.out
                        clear o3 o4 g4' eq hc1
                        have HE5 := Lib.hid (And.intro ho5 hb5)
                        clear ho5 hb5
                        go_upto_region 27 with fail
                        go_wp2_with (at_builtin; first
                          | refine Lib.wpList_append_run _ rfl (.tmp 104) (.tmp 107) _ _ rfl _ _ rfl rfl _ _ r3 ?_
                          | refine Lib.wpList_append_run _ rfl (.tmp 109) (.tmp 111) _ _ rfl _ _ rfl rfl _ _ r4 ?_
                          | refine Lib.wpList_append_run _ rfl (.tmp 113) (.tmp 116) _ _ rfl _ _ rfl rfl _ _ r5 ?_)
                        go_roundw
                        case rel => exact ⟨i + 1, p4, c4, HLT.out, by rw [HLN.out]; rfl, by go_num, Lib.hid ⟨HSN.out, by rw [HLN.out, HIN.out]; exact HE5.out.1, fun h => absurd (HLN.out.symm.trans h) (by simp), HE5.out.2⟩⟩
                        case measure => have := HLT.out; simp [intOf]; omega
                      · obtain ⟨g, cap2, e1, hcap, hcapm, hfm⟩ := HO6.out.opens HML2.out.2 hm0
                        simp only [Value.slice.injEq] at e1
                        obtain ⟨rfl, -, rfl⟩ := e1
                        have HFM := Lib.hid (hfm.below HBD6.out)
                        have hcm9 : cv ≤ 9223372036854775807 := by unfold maxLen at hcapm; omega
                        clear hfm
                        by_cases hkl : k < M.length
                        · skip
                          obtain ⟨A2, hA2⟩ : ∃ A2 : Addr, A2 = ⟨g, k * 5, none⟩ := ⟨_, rfl⟩
                          have hA3 : M.length - k = 0 ∨ A2 = (⟨g, 0, none⟩ : Addr).add (k * 5) := .inr (by rw [hA2, addr_at8])
                          subst hA2
                          have hcj : ¬ cv = k := by omega
                          obtain ⟨p3', c3', W13, r3, p4, c4, W14, r4, p5, c5, W15, r5, hb5, ho5, hb23⟩ := put_in (f := ⟨fn, fl, fc, ff, ft⟩) (cap := cv) HW1C.out HFM.out (by have := HML2.out.1; omega) (j := k) (by omega) _ hA3 36
                          have HEX := Lib.hid hb23
                          obtain ⟨g0, g1, g2, g3, g4⟩ := HC6.out _ (HBD6.out.trans (hb23.mono HBD6.out.size))
                          clear hA3 hb23
                          have k1 : (k : Int) ≤ (cv : Int) := by omega
                          have k2 : (k : Int) ≤ (M.length : Int) := by omega
                          have k3 : k ≤ cv := by omega
                          have k4 : k ≤ M.length := by omega
                          have k6 : (M.length : Int) ≤ (cv : Int) := by omega
                          have k5 : IntKind.i64.wrap (k : Int) = (k : Int) := IntWalk.i64_in _ (by omega)
                          have k7 : M.length ≤ cv := by omega
                          have k8 : (0 : Int) ≤ (k : Int) := by omega
                          have HE5 := Lib.hid (And.intro ho5 hb5)
                          clear ho5 hb5
                          go_upto_region 27 with fail
                          obtain ⟨nv, hnv⟩ : ∃ nv, nv = Value.slice none 0 0 := ⟨_, rfl⟩
                          have HNV := Lib.hid hnv
                          rw [← hnv] at r3 ⊢
                          clear hnv
                          go_wp2_with (at_builtin; first
                            | refine Lib.wpList_append_run _ rfl (.tmp 104) (.tmp 107) _ _ rfl _ _ rfl rfl _ _ r3 ?_
                            | refine Lib.wpList_append_run _ rfl (.tmp 109) (.tmp 111) _ _ rfl _ _ rfl rfl _ _ r4 ?_
                            | refine Lib.wpList_append_run _ rfl (.tmp 113) (.tmp 116) _ _ rfl _ _ rfl rfl _ _ r5 ?_)
                          have hnv := HNV.out
                          subst hnv
                          go_roundw
                          case rel => exact ⟨_, .slice p5 (M.length + 1) c5, .int .i64 ((i : Int) + 1), ⟨i + 1, HLT.out, p5, c5, by rw [HLN.out], by go_num, Lib.hid ⟨HSN.out, by rw [HLN.out, HIN.out]; exact HE5.out.1, fun h => absurd (HLN.out.symm.trans (congrArg List.length h)) (by simp), HE5.out.2⟩⟩, rfl, rfl, rfl, rfl⟩
                          case measure => have := HLT.out; simp [intOf]; omega
                        · obtain rfl : k = M.length := by omega
                          by_cases hcj : cv = M.length
                          · subst hcj
                            obtain ⟨A2, hA2⟩ : ∃ A2 : Addr, A2 = ⟨g, 0, none⟩ := ⟨_, rfl⟩
                            have hA3 : M.length - M.length = 0 ∨ A2 = (⟨g, 0, none⟩ : Addr).add (M.length * 5) := .inl (by omega)
                            subst hA2
                            obtain ⟨p3', c3', W13, r3, p4, c4, W14, r4, p5, c5, W15, r5, hb5, ho5, hb23⟩ := put_in (f := ⟨fn, fl, fc, ff, ft⟩) (cap := M.length) HW1C.out HFM.out (by have := HML2.out.1; omega) (j := M.length) (by omega) _ hA3 36
                            have HEX := Lib.hid hb23
                            simp only [Nat.sub_self] at r5
                            obtain ⟨g0, g1, g2, g3, g4⟩ := HC6.out _ (HBD6.out.trans (hb23.mono HBD6.out.size))
                            clear hA3 hb23
                            have k1 : (M.length : Int) ≤ (M.length : Int) := by omega
                            have k2 : (M.length : Int) ≤ (M.length : Int) := by omega
                            have k3 : M.length ≤ M.length := by omega
                            have k4 : M.length ≤ M.length := by omega
                            have k6 : (M.length : Int) ≤ (M.length : Int) := by omega
                            have k5 : IntKind.i64.wrap (M.length : Int) = (M.length : Int) := IntWalk.i64_in _ (by omega)
                            have k7 : M.length ≤ M.length := by omega
                            have k8 : (0 : Int) ≤ (M.length : Int) := by omega
                            have HE5 := Lib.hid (And.intro ho5 hb5)
                            clear ho5 hb5
                            go_upto_region 27 with fail
                            obtain ⟨nv, hnv⟩ : ∃ nv, nv = Value.slice none 0 0 := ⟨_, rfl⟩
                            have HNV := Lib.hid hnv
                            rw [← hnv] at r3 ⊢
                            clear hnv
                            go_wp2_with (at_builtin; first
                              | refine Lib.wpList_append_run _ rfl (.tmp 104) (.tmp 107) _ _ rfl _ _ rfl rfl _ _ r3 ?_
                              | refine Lib.wpList_append_run _ rfl (.tmp 109) (.tmp 111) _ _ rfl _ _ rfl rfl _ _ r4 ?_
                              | refine Lib.wpList_append_run _ rfl (.tmp 113) (.tmp 116) _ _ rfl _ _ rfl rfl _ _ r5 ?_)
                            have hnv := HNV.out
                            subst hnv
                            go_roundw
                            case rel => exact ⟨_, .slice p5 (M.length + 1) c5, .int .i64 ((i : Int) + 1), ⟨i + 1, HLT.out, p5, c5, by rw [HLN.out], by go_num, Lib.hid ⟨HSN.out, by rw [HLN.out, HIN.out]; exact HE5.out.1, fun h => absurd (HLN.out.symm.trans (congrArg List.length h)) (by simp), HE5.out.2⟩⟩, rfl, rfl, rfl, rfl⟩
                            case measure => have := HLT.out; simp [intOf]; omega
                          · skip
                            obtain ⟨A2, hA2⟩ : ∃ A2 : Addr, A2 = ⟨g, M.length * 5, none⟩ := ⟨_, rfl⟩
                            have hA3 : M.length - M.length = 0 ∨ A2 = (⟨g, 0, none⟩ : Addr).add (M.length * 5) := .inr (by rw [hA2, addr_at8])
                            subst hA2
                            obtain ⟨p3', c3', W13, r3, p4, c4, W14, r4, p5, c5, W15, r5, hb5, ho5, hb23⟩ := put_in (f := ⟨fn, fl, fc, ff, ft⟩) (cap := cv) HW1C.out HFM.out (by have := HML2.out.1; omega) (j := M.length) (by omega) _ hA3 36
                            have HEX := Lib.hid hb23
                            simp only [Nat.sub_self] at r5
                            obtain ⟨g0, g1, g2, g3, g4⟩ := HC6.out _ (HBD6.out.trans (hb23.mono HBD6.out.size))
                            clear hA3 hb23
                            have k1 : (M.length : Int) ≤ (cv : Int) := by omega
                            have k2 : (M.length : Int) ≤ (M.length : Int) := by omega
                            have k3 : M.length ≤ cv := by omega
                            have k4 : M.length ≤ M.length := by omega
                            have k6 : (M.length : Int) ≤ (cv : Int) := by omega
                            have k5 : IntKind.i64.wrap (M.length : Int) = (M.length : Int) := IntWalk.i64_in _ (by omega)
                            have k7 : M.length ≤ cv := by omega
                            have k8 : (0 : Int) ≤ (M.length : Int) := by omega
                            have HE5 := Lib.hid (And.intro ho5 hb5)
                            clear ho5 hb5
                            go_upto_region 27 with fail
                            obtain ⟨nv, hnv⟩ : ∃ nv, nv = Value.slice none 0 0 := ⟨_, rfl⟩
                            have HNV := Lib.hid hnv
                            rw [← hnv] at r3 ⊢
                            clear hnv
                            go_wp2_with (at_builtin; first
                              | refine Lib.wpList_append_run _ rfl (.tmp 104) (.tmp 107) _ _ rfl _ _ rfl rfl _ _ r3 ?_
                              | refine Lib.wpList_append_run _ rfl (.tmp 109) (.tmp 111) _ _ rfl _ _ rfl rfl _ _ r4 ?_
                              | refine Lib.wpList_append_run _ rfl (.tmp 113) (.tmp 116) _ _ rfl _ _ rfl rfl _ _ r5 ?_)
                            have hnv := HNV.out
                            subst hnv
                            go_roundw
                            case rel => exact ⟨_, .slice p5 (M.length + 1) c5, .int .i64 ((i : Int) + 1), ⟨i + 1, HLT.out, p5, c5, by rw [HLN.out], by go_num, Lib.hid ⟨HSN.out, by rw [HLN.out, HIN.out]; exact HE5.out.1, fun h => absurd (HLN.out.symm.trans (congrArg List.length h)) (by simp), HE5.out.2⟩⟩, rfl, rfl, rfl, rfl⟩
                            case measure => have := HLT.out; simp [intOf]; omega
          · obtain rfl : i = add.length := by omega
            have i1 : ¬ (add.length : Int) < (add.length : Int) := by omega
            have hh := H.out
            rw [List.take_length] at hh
            have HLS : Hid ((Mf.insertAll m add).length ≤ 2000 ∧ ∀ f ∈ Mf.insertAll m add, FiIn f) := Lib.hid ⟨by rw [(Mf.insertAll_perm m _).length_eq, List.length_append]; have := HML.out.1; omega, fun f hf => by
              rcases List.mem_append.1 ((Mf.insertAll_perm m _).mem_iff.1 hf) with h | h
              · exact HML.out.2.1 f h
              · exact FA.out.ok f h⟩
            have HAL := Lib.hid (apply_last (e := ⟨ds, add, enx, elg⟩) HR.out HD.out (Mf.not_twice hh.1) (Mf.insertAll_perm m add) (hh.1.imp fun h => by omega))
            simp only at HAL
            rw [List.take_length]
            generalize Mf.insertAll m add = X at *
            obtain ⟨p9, c9, e9, hl9, hm9, hf9⟩ := hh.2.1.files HLS.out.2
            simp only [Value.slice.injEq] at e9
            obtain ⟨rfl, -, rfl⟩ := e9
            have HWR := Lib.hid hh.2.2.2
            have HCP : Hid (X.length ≤ cv ∧ cv ≤ maxLen) := Lib.hid ⟨hl9, hm9⟩
            have HFX := Lib.hid hf9
            have HPB := Lib.hid hh.2.1.far
            clear hh H hl9 hm9 hf9
            obtain ⟨x1, x2, -⟩ := HX.out _ HWR.out
            obtain ⟨c0, c1, c2, -⟩ := rs_cells x1
            clear x1 x2
            obtain ⟨W8, hW8⟩ : ∃ x, x = wr.alloc (.cells #[.int .i64 nx, .int .i64 lg, .slice pv X.length cv] 38) := ⟨_, rfl⟩
            have HB8 : Hid (Below W1.heap.size W1 W8) := Lib.hid (by rw [hW8]; exact HWR.out.alloc HWR.out.size _)
            have HT8 : Hid (W8.heap[wr.heap.size]? = some (rsO nx lg pv X.length cv)) := Lib.hid (by rw [hW8]; exact heap_alloc_new wr _)
            have HF8 : Hid (∀ W, (∀ k, k < wr.heap.size → W.heap[k]? = wr.heap[k]?) → wr.heap.size ≤ W.heap.size → FilesAt W pv X) := Lib.hid fun W hk hz j hj => by
              obtain ⟨A', e, h2, h3, h4⟩ := HFX.out j hj
              refine ⟨A', e, by omega, fun q hq => ?_, h4⟩
              rw [← h3 q hq]
              have hbk : (A'.add (j * 5 + q)).block = A'.block := madd_block _ _
              unfold World.cell?
              rw [hbk, hk _ h2]
            have HK8 : Hid (∀ k, k < wr.heap.size → W8.heap[k]? = wr.heap[k]?) := Lib.hid fun k hk => by rw [hW8]; exact Below.heap_alloc wr _ k hk
            have HZ8 : Hid (wr.heap.size ≤ W8.heap.size ∧ W1.heap.size ≤ wr.heap.size) := Lib.hid ⟨by rw [hW8]; simp, HWR.out.size⟩
            have da := fun o => (re_cells (HX.out _ (HWR.out.alloc HWR.out.size o)).2.1).2.2.1
            have db := fun o => (re_cells (HX.out _ (HWR.out.alloc HWR.out.size o)).2.1).2.2.2.1
            go_upto_if 128 with fail
            rw [← hW8]
            clear hW8 c0 c1 c2 d0 d1 d2 d3 da db HWR HFX
            generalize wr.heap.size = tb at *
            go_cut [] from 124 to 131 (fun wc => Hid (wc.heap[tb]? = some (rsO (max nx enx) lg pv X.length cv) ∧ (∀ k, k < tb → wc.heap[k]? = wr.heap[k]?) ∧ tb ≤ wc.heap.size ∧ Below W1.heap.size W1 wc))
            case first =>
              obtain ⟨x1, x2, -⟩ := HX.out _ HB8.out
              obtain ⟨d0, d1, d2, d3, -⟩ := re_cells x2
              obtain ⟨t0, t1, t2, tf⟩ := rs_cells HT8.out
              have f0 := tf 0
              by_cases hlt2 : nx < enx
              · have HE : Hid ((W8.setCell ⟨tb, 0, none⟩ (.int .i64 enx)).heap[tb]? = some (rsO (max nx enx) lg pv X.length cv) ∧ (∀ k, k < tb → (W8.setCell ⟨tb, 0, none⟩ (.int .i64 enx)).heap[k]? = wr.heap[k]?) ∧ tb ≤ (W8.setCell ⟨tb, 0, none⟩ (.int .i64 enx)).heap.size ∧ Below W1.heap.size W1 (W8.setCell ⟨tb, 0, none⟩ (.int .i64 enx))) := Lib.hid ⟨by rw [show max nx enx = enx by omega]; exact mset HT8.out _, fun k hk => (Below.heap_setCell _ _ _ _ (by show k ≠ tb; omega)).trans (HK8.out k hk), by rw [World.size_setCell]; exact HZ8.out.1, HB8.out.setCell HZ8.out.2 _⟩
                clear x1 x2 tf
                go_wp2_with fail
                go_meet
                exact HE
              · have HE : Hid (W8.heap[tb]? = some (rsO (max nx enx) lg pv X.length cv) ∧ (∀ k, k < tb → W8.heap[k]? = wr.heap[k]?) ∧ tb ≤ W8.heap.size ∧ Below W1.heap.size W1 W8) := Lib.hid ⟨by rw [show max nx enx = nx by omega]; exact HT8.out, HK8.out, HZ8.out.1, HB8.out⟩
                clear x1 x2 tf
                go_wp2_with fail
                go_meet
                exact HE
            case rest =>
              have H9 : Hid (wc.heap[tb]? = some (rsO (max nx enx) lg pv X.length cv) ∧ (∀ k, k < tb → wc.heap[k]? = wr.heap[k]?) ∧ tb ≤ wc.heap.size ∧ Below W1.heap.size W1 wc) := hcut
              clear hcut
              generalize wc = W9 at *
              clear wc
              obtain ⟨t0, t1, t2, -⟩ := rs_cells H9.out.1
              obtain ⟨x1, x2, -⟩ := HX.out _ H9.out.2.2.2
              obtain ⟨d0, d1, d2, d3, -⟩ := re_cells x2
              clear x1 x2
              go_upto_if 136 with fail
              clear t0 t1 t2 d0 d1 d2 d3
              go_cut [] from 132 to 139 (fun wc => Hid (wc.heap[tb]? = some (rsO (max nx enx) (max lg elg) pv X.length cv) ∧ (∀ k, k < tb → wc.heap[k]? = wr.heap[k]?) ∧ tb ≤ wc.heap.size ∧ Below W1.heap.size W1 wc))
              case first =>
                obtain ⟨x1, x2, -⟩ := HX.out _ H9.out.2.2.2
                obtain ⟨d0, d1, d2, d3, -⟩ := re_cells x2
                obtain ⟨t0, t1, t2, tf⟩ := rs_cells H9.out.1
                have f1 := tf 1
                by_cases hlt2 : lg < elg
                · have HE : Hid ((W9.setCell ⟨tb, 1, none⟩ (.int .i64 elg)).heap[tb]? = some (rsO (max nx enx) (max lg elg) pv X.length cv) ∧ (∀ k, k < tb → (W9.setCell ⟨tb, 1, none⟩ (.int .i64 elg)).heap[k]? = wr.heap[k]?) ∧ tb ≤ (W9.setCell ⟨tb, 1, none⟩ (.int .i64 elg)).heap.size ∧ Below W1.heap.size W1 (W9.setCell ⟨tb, 1, none⟩ (.int .i64 elg))) := Lib.hid ⟨by rw [show max lg elg = elg by omega]; exact mset H9.out.1 _, fun k hk => (Below.heap_setCell _ _ _ _ (by show k ≠ tb; omega)).trans (H9.out.2.1 k hk), by rw [World.size_setCell]; exact H9.out.2.2.1, H9.out.2.2.2.setCell HZ8.out.2 _⟩
                  clear x1 x2 tf
                  go_wp2_with fail
                  go_meet
                  exact HE
                · have HE : Hid (W9.heap[tb]? = some (rsO (max nx enx) (max lg elg) pv X.length cv) ∧ (∀ k, k < tb → W9.heap[k]? = wr.heap[k]?) ∧ tb ≤ W9.heap.size ∧ Below W1.heap.size W1 W9) := Lib.hid ⟨by rw [show max lg elg = lg by omega]; exact H9.out.1, H9.out.2⟩
                  clear x1 x2 tf
                  go_wp2_with fail
                  go_meet
                  exact HE
              case rest =>
                have HA : Hid (wc.heap[tb]? = some (rsO (max nx enx) (max lg elg) pv X.length cv) ∧ (∀ k, k < tb → wc.heap[k]? = wr.heap[k]?) ∧ tb ≤ wc.heap.size ∧ Below W1.heap.size W1 wc) := hcut
                clear hcut
                have FX : Hid (FilesAt wc pv X) := Lib.hid (by
                  refine HF8.out wc ?_ ?_
                  · exact HA.out.2.1
                  · exact HA.out.2.2.1)
                have HRT := Lib.hid (refRight_any (nx := max nx enx) (lg := max lg elg) (cap := cv) FX.out (by have := HLS.out.1; omega))
                unfold stV at HRT
                obtain ⟨t0, t1, t2, -⟩ := rs_cells HA.out.1
                go_wp2_with fail
                refine HRT.out.mono ?_
                rintro e w15 ⟨b, rfl, hb, hb15⟩
                have HB15 : Hid (Below W1.heap.size W1 w15) := Lib.hid (HA.out.2.2.2.trans (hb15.mono HA.out.2.2.2.size))
                have FX15 : Hid (FilesAt w15 pv X) := Lib.hid (FX.out.below hb15)
                have HTT : Hid (w15.heap[tb]? = some (rsO (max nx enx) (max lg elg) pv X.length cv)) := Lib.hid ((hb15.block _ (Array.getElem?_eq_some_iff.1 HA.out.1).1).trans HA.out.1)
                have hx := (HX.out _ HB15.out).2.2
                obtain ⟨z0, z1, z2, zf⟩ := rs_cells hx
                have f0 := zf 0
                have f1 := zf 1
                have f2 := zf 2
                have HXX := Lib.hid hx
                clear t0 t1 t2 hb15 HRT hx zf
                cases b with
                | false =>
                  have HE : Hid (o = (1, ⟨0, 0, []⟩)) := Lib.hid (by rw [← HO.out]; exact HAL.out.2 fun h => by have := hb.2 h; cases this)
                  clear hb
                  go_wp2_with fail
                  refine bodyPost_ret (refApply_res rfl rfl (st_set_rs HXX.out)) rfl ?_
                  rw [HE.out]
                  exact refApplied_bad (HRS.out _ _ _ _ _ _ HB15.out)
                | true =>
                  have HE : Hid (o = (0, ⟨max nx enx, max lg elg, X⟩)) := Lib.hid (by rw [← HO.out]; exact HAL.out.1 (hb.1 rfl))
                  obtain ⟨t0, t1, t2, -⟩ := rs_cells HTT.out
                  clear hb
                  go_wp2_with fail
                  refine bodyPost_ret (refApply_res rfl rfl (st_set_rs HXX.out)) rfl ?_
                  rw [HE.out]
                  refine ⟨pv, cv, rfl, ?_, HCP.out, (fun A e => by have := HPB.out A e; have h2 := HSZ1.out; omega), HRS.out _ _ _ _ _ _ HB15.out⟩
                  exact files_set FX15.out fun A e => by have := HPB.out A e; have := (Array.getElem?_eq_some_iff.1 HXX.out).1; have h2 := HSZ1.out; omega
end Go.Proofs.YtbhjpkejdkfenaaGreatDoor
