/-
  Walks over package manifest: Apply. Conditions: those in the theorems.
-/
import Derived.Test.YtbhjpkejdkfenaaGreatDoorManOwn
set_option linter.unusedSimpArgs false
set_option linter.unusedVariables false
namespace Go.Proofs.YtbhjpkejdkfenaaGreatDoor
open Go.RowKit Go.Shelf Go.Sort
open Mf (File State Edit)

def edV (q : Option Addr) (nd cd : Nat) (r : Option Addr) (na ca : Nat) (nx lg : Int) : Value := .agg #[.slice q nd cd, .slice r na ca, .int .i64 nx, .int .i64 lg]
/-- What Apply answers: an error and a state whose files lie in a row of its own. -/
def Applied (o : Nat × State) (w : World) (e : Ending) (w' : World) : Prop :=
  ∃ v, e = .returned (.tuple #[.agg #[.int .i64 o.2.next, .int .i64 o.2.log, v], .int .i64 (o.1 : Nat)]) ∧ OwnFis w' w.heap.size v o.2.files ∧ Below w.heap.size w w'
theorem apply_bad {s : State} {e : Edit} (h : ¬ Mf.Right s) : Mf.apply s e = (1, ⟨0, 0, []⟩) := by unfold Mf.apply; rw [if_pos h]
theorem apply_none {s : State} {e : Edit} (h : Mf.Right s) (hd : Mf.dropAll s.files e.drop = none) : Mf.apply s e = (4, ⟨0, 0, []⟩) := by unfold Mf.apply; rw [if_neg (fun k => k h), hd]
theorem apply_there {s : State} {e : Edit} (h : Mf.Right s) {l : List File} (hd : Mf.dropAll s.files e.drop = some l) (ht : Mf.Twice (l ++ e.add)) : Mf.apply s e = (5, ⟨0, 0, []⟩) := by
  unfold Mf.apply; rw [if_neg (fun k => k h), hd]; simp only; rw [if_pos ht]
theorem joined_is {l m x : List File} (hl : Mf.Upward l) (ht : ¬ Mf.Twice (l ++ m)) (hp : x.Perm (l ++ m)) (hu : Mf.Upward x) : x = Mf.insertAll l m := by
  refine Mf.rising_unique (Mf.rising_of hu ?_) (Mf.rising_of (Mf.insertAll_upward hl m) ?_) (hp.trans (Mf.insertAll_perm l m).symm)
  · rwa [Mf.twice_perm hp]
  · rwa [Mf.twice_perm (Mf.insertAll_perm l m)]
theorem apply_last {s : State} {e : Edit} (h : Mf.Right s) {l x : List File} (hd : Mf.dropAll s.files e.drop = some l) (ht : ¬ Mf.Twice (l ++ e.add)) (hp : x.Perm (l ++ e.add)) (hu : Mf.Upward x) :
    (Mf.Right ⟨max s.next e.next, max s.log e.log, x⟩ → Mf.apply s e = (0, ⟨max s.next e.next, max s.log e.log, x⟩)) ∧ (¬ Mf.Right ⟨max s.next e.next, max s.log e.log, x⟩ → Mf.apply s e = (1, ⟨0, 0, []⟩)) := by
  have hlu : Mf.Upward l := (h.numbered.2.sublist (Mf.dropAll_some hd)).imp fun h => by omega
  have hx := joined_is hlu ht hp hu
  constructor
  · intro hr
    unfold Mf.apply; rw [if_neg (fun k => k h), hd]; simp only; rw [if_neg ht, if_neg (fun k => k (by rw [← hx]; exact hr)), hx]
  · intro hr
    unfold Mf.apply; rw [if_neg (fun k => k h), hd]; simp only; rw [if_neg ht, if_pos (fun k => hr (by rw [hx]; exact k))]
/-- An edit's block. -/
def edO (q : Option Addr) (nd cd : Nat) (r : Option Addr) (na ca : Nat) (nx lg : Int) : Obj := .cells #[.slice q nd cd, .slice r na ca, .int .i64 nx, .int .i64 lg] 33 (0, 0)
theorem ed_cells {W : World} {a : Nat} {q r : Option Addr} {nd cd na ca : Nat} {nx lg : Int} (h : W.heap[a]? = some (edO q nd cd r na ca nx lg)) : W.cell? ⟨a, 0, none⟩ = some (.slice q nd cd) ∧ W.cell? ⟨a, 1, none⟩ = some (.slice r na ca) ∧ W.cell? ⟨a, 2, none⟩ = some (.int .i64 nx) ∧ W.cell? ⟨a, 3, none⟩ = some (.int .i64 lg) := by
  unfold edO at h
  refine ⟨?_, ?_, ?_, ?_⟩ <;> rw [cell_of_row W a _ _ _ _ h] <;> rfl
theorem st_frozen {W : World} {a : Nat} {nx lg : Int} {p : Option Addr} {n cap : Nat} (h : W.heap[a]? = some (stO nx lg p n cap)) (i : Nat) : W.frozen? ⟨a, i, none⟩ = false := frozen_of_row W a i _ _ h
theorem mset {w : World} {a i : Nat} {cs : Array Value} {T : TypeId} (h : w.heap[a]? = some (.cells cs T (0, 0))) (v : Value) : (w.setCell ⟨a, i, none⟩ v).heap[a]? = some (.cells (cs.setIfInBounds i v) T (0, 0)) := heap_setCell_same w a i cs T v h
/-- A state is stored into a block of one. -/
theorem st_set {W : World} {a : Nat} {nx lg nx' lg' : Int} {p p' : Option Addr} {n cap n' cap' : Nat} (h : W.heap[a]? = some (stO nx lg p n cap)) :
    (((W.setCell ⟨a, 0, none⟩ (.int .i64 nx')).setCell ⟨a, 1, none⟩ (.int .i64 lg')).setCell ⟨a, 2, none⟩ (.slice p' n' cap')).heap[a]? = some (stO nx' lg' p' n' cap') :=
  mset (mset (mset h _) _) _
theorem st_below {B : Nat} {w W : World} {a : Nat} {x y z : Value} (h : Below B w W) (ha : B ≤ a) : Below B w (((W.setCell ⟨a, 0, none⟩ x).setCell ⟨a, 1, none⟩ y).setCell ⟨a, 2, none⟩ z) :=
  ((h.setCell ha _).setCell ha _).setCell ha _
set_option maxRecDepth 100000 in
theorem apply_res {W : World} {tmps : Array Value} {b : Nat} {nx lg c : Int} {p : Option Addr} {n cap : Nat} (h4 : tmps[4]? = some (.pointer (some ⟨b, 0, none⟩))) (h5 : tmps[5]? = some (.int .i64 c)) (h : W.heap[b]? = some (stO nx lg p n cap)) :
    (results Tryz.f8 tmps).run Tryz.prog W = .ok (.tuple #[stV nx lg p n cap, .int .i64 c]) W := by
  obtain ⟨c0, c1, c2⟩ := st_cells h
  unfold stV
  simp [results, Tryz.results8, h4, h5, go_sem, c0, c1, c2]
set_option maxRecDepth 100000 in
set_option maxHeartbeats 8000000 in
theorem Apply_any {w : World} {p q r : Option Addr} {cap capd capa : Nat} {l add : List File} {ds : List Int} {nx lg enx elg : Int} (hl : FilesAt w p l) (hcap : l.length ≤ cap) (hcm : cap ≤ maxLen) (hd : IntsM w q ds) (ha : FilesAt w r add)
    (hn : l.length ≤ 1000) (hdn : ds.length ≤ 1000) (han : add.length ≤ 1000) (i1 : I64 nx) (i2 : I64 lg) (i3 : I64 enx) (i4 : I64 elg) :
    Calls Tryz.prog 8 #[stV nx lg p l.length cap, edV q ds.length capd r add.length capa enx elg] w (Applied (Mf.apply ⟨nx, lg, l⟩ ⟨ds, add, enx, elg⟩) w) := by
  have HL := Lib.hid hl
  have HD := Lib.hid hd
  have HA := Lib.hid ha
  have HN := Lib.hid (And.intro hn (And.intro hdn han))
  have HC : Hid (∀ W, Below w.heap.size w W → Calls Tryz.prog 12 #[stV nx lg p l.length cap] W fun e w' => ∃ n : Nat, e = .returned (.int .i64 (n : Int)) ∧ (n = 0 ↔ Mf.Right ⟨nx, lg, l⟩) ∧ (n = 0 ∨ n = 1) ∧ Below W.heap.size W w') := Lib.hid fun W hW => Check_any (hl.below hW) hcap hcm
  clear hl hd ha hn hdn han hcap hcm
  unfold stV edV at *
  unfold I64 at *
  have hb3 : Below w.heap.size w (((w.alloc (.cells #[.int .i64 nx, .int .i64 lg, .slice p l.length cap] 24)).alloc (.cells #[.slice q ds.length capd, .slice r add.length capa, .int .i64 enx, .int .i64 elg] 33)).alloc (.cells #[.int .i64 0, .int .i64 0, .slice none 0 0] 24)) :=
    (((Below.refl _ w).alloc (Nat.le_refl _) _).alloc (by simp) _).alloc (by simp; omega) _
  have HB := Lib.hid hb3
  clear hb3
  go_enter Tryz.func8, Tryz.ntmps8
  go_wp2_with fail
  refine (HC.out _ HB.out).mono ?_
  rintro e w1 ⟨n, rfl, hr, hn, hb⟩
  obtain ⟨W0, hW0⟩ : ∃ W0, W0 = (((w.alloc (.cells #[.int .i64 nx, .int .i64 lg, .slice p l.length cap] 24)).alloc (.cells #[.slice q ds.length capd, .slice r add.length capa, .int .i64 enx, .int .i64 elg] 33)).alloc (.cells #[.int .i64 0, .int .i64 0, .slice none 0 0] 24)) := ⟨_, rfl⟩
  have hz : W0.heap.size = w.heap.size + 3 := by rw [hW0]; simp
  have h2 : W0.heap[w.heap.size]? = some (stO nx lg p l.length cap) := by rw [hW0, Below.heap_alloc _ _ _ (by simp; omega), Below.heap_alloc _ _ _ (by simp)]; exact heap_alloc_new w _
  have h3 : W0.heap[w.heap.size + 1]? = some (edO q ds.length capd r add.length capa enx elg) := by
    rw [hW0, Below.heap_alloc _ _ _ (by simp)]
    have := heap_alloc_new (w.alloc (.cells #[.int .i64 nx, .int .i64 lg, .slice p l.length cap] 24)) (.cells #[.slice q ds.length capd, .slice r add.length capa, .int .i64 enx, .int .i64 elg] 33)
    rwa [World.size_alloc] at this
  have h4 : W0.heap[w.heap.size + 1 + 1]? = some (stO 0 0 none 0 0) := by
    rw [hW0]
    have := heap_alloc_new ((w.alloc (.cells #[.int .i64 nx, .int .i64 lg, .slice p l.length cap] 24)).alloc (.cells #[.slice q ds.length capd, .slice r add.length capa, .int .i64 enx, .int .i64 elg] 33)) (.cells #[.int .i64 0, .int .i64 0, .slice none 0 0] 24)
    rwa [World.size_alloc, World.size_alloc] at this
  rw [← hW0] at hb HB
  have HZ := Lib.hid hz
  have HR := Lib.hid hr
  have HB1 := Lib.hid hb
  have HX : Hid (∀ W, Below W0.heap.size W0 W → W.heap[w.heap.size]? = some (stO nx lg p l.length cap) ∧ W.heap[w.heap.size + 1]? = some (edO q ds.length capd r add.length capa enx elg) ∧ W.heap[w.heap.size + 1 + 1]? = some (stO 0 0 none 0 0)) :=
    Lib.hid fun W hW => ⟨(hW.block _ (by omega)).trans h2, (hW.block _ (by omega)).trans h3, (hW.block _ (by omega)).trans h4⟩
  clear hz hr hb h2 h3 h4 hW0
  have HS : Hid (∀ W, Below W0.heap.size W0 W → Below w.heap.size w W) := Lib.hid fun W hW => HB.out.trans (hW.mono HB.out.size)
  rcases hn with rfl | rfl
  case inr =>
    have hnr : Hid (¬ Mf.Right ⟨nx, lg, l⟩) := Lib.hid fun h => by have := HR.out.2 h; omega
    obtain ⟨-, -, k4⟩ := HX.out _ HB1.out
    obtain ⟨c0, c1, c2⟩ := st_cells k4
    have f0 := st_frozen k4 0
    have f1 := st_frozen k4 1
    have f2 := st_frozen k4 2
    have K4 := Lib.hid (st_set (nx' := 0) (lg' := 0) (p' := none) (n' := 0) (cap' := 0) k4)
    clear k4
    go_wp2_with fail
    refine bodyPost_ret (apply_res rfl rfl K4.out) rfl ?_
    rw [apply_bad hnr.out]
    exact ⟨_, rfl, OwnFis.nil _ _, st_below (HS.out _ HB1.out) (by omega)⟩
  have HRT : Hid (Mf.Right ⟨nx, lg, l⟩) := Lib.hid (HR.out.1 rfl)
  obtain ⟨k2, k3, -⟩ := HX.out _ HB1.out
  obtain ⟨c0, c1, c2⟩ := st_cells k2
  obtain ⟨d0, d1, d2, d3⟩ := ed_cells k3
  clear k2 k3
  go_wp2_with fail
  clear c0 c1 c2 d0 d1 d2 d3
  refine (without_any (HL.out.below (HS.out _ HB1.out)) (HD.out.below (HS.out _ HB1.out)) (by have := HN.out; omega) (by have := HN.out; omega)).mono ?_
  rintro e w2 hleft
  have HB0 : Hid (W0.heap.size ≤ w1.heap.size) := Lib.hid HB1.out.size
  cases hdr : Mf.dropAll l ds with
  | none =>
    rw [hdr] at hleft
    obtain ⟨rfl, hb2⟩ := hleft
    have HB2 := Lib.hid (HB1.out.trans (hb2.mono HB1.out.size))
    have HDR := Lib.hid hdr
    clear hb2 hdr
    obtain ⟨-, -, k4⟩ := HX.out _ HB2.out
    obtain ⟨c0, c1, c2⟩ := st_cells k4
    have f0 := st_frozen k4 0
    have f1 := st_frozen k4 1
    have f2 := st_frozen k4 2
    have K4 := Lib.hid (st_set (nx' := 0) (lg' := 0) (p' := none) (n' := 0) (cap' := 0) k4)
    clear k4
    go_wp2_with fail
    refine bodyPost_ret (apply_res rfl rfl K4.out) rfl ?_
    rw [apply_none HRT.out HDR.out]
    exact ⟨_, rfl, OwnFis.nil _ _, st_below (HS.out _ HB2.out) (by omega)⟩
  | some m =>
  rw [hdr] at hleft
  obtain ⟨v, rfl, ho2, hb2⟩ := hleft
  have HB2 := Lib.hid (HB1.out.trans (hb2.mono HB1.out.size))
  have HDR := Lib.hid hdr
  have HML : Hid (m.length ≤ 1000) := Lib.hid (Nat.le_trans (Mf.dropAll_some hdr).length_le HN.out.1)
  have hmi : ∀ f ∈ m, FiIn f := fun f hf => HL.out.ok f ((Mf.dropAll_some hdr).subset hf)
  obtain ⟨pm, cm, rfl, -, -, hfm⟩ := ho2.files hmi
  have HFM := Lib.hid hfm
  have HMI := Lib.hid hmi
  clear hb2 hdr ho2 hfm hmi
  obtain ⟨k2, k3, -⟩ := HX.out _ HB2.out
  obtain ⟨c0, c1, c2⟩ := st_cells k2
  obtain ⟨d0, d1, d2, d3⟩ := ed_cells k3
  clear k2 k3
  go_wp2_with fail
  clear c0 c1 c2 d0 d1 d2 d3
  refine (with_any HFM.out (HA.out.below (HS.out _ HB2.out)) (by have := HN.out; have := HML.out; omega)).mono ?_
  rintro e w3 ⟨hj1, hj2⟩
  by_cases ht : Mf.Twice (m ++ add)
  · obtain ⟨rfl, hb3⟩ := hj1 ht
    have HB3 := Lib.hid (HB2.out.trans (hb3.mono HB2.out.size))
    have HT := Lib.hid ht
    clear hb3 ht hj1 hj2
    obtain ⟨-, -, k4⟩ := HX.out _ HB3.out
    obtain ⟨c0, c1, c2⟩ := st_cells k4
    have f0 := st_frozen k4 0
    have f1 := st_frozen k4 1
    have f2 := st_frozen k4 2
    have K4 := Lib.hid (st_set (nx' := 0) (lg' := 0) (p' := none) (n' := 0) (cap' := 0) k4)
    clear k4
    go_wp2_with fail
    refine bodyPost_ret (apply_res rfl rfl K4.out) rfl ?_
    rw [apply_there HRT.out HDR.out HT.out]
    exact ⟨_, rfl, OwnFis.nil _ _, st_below (HS.out _ HB3.out) (by omega)⟩
  obtain ⟨v3, x, rfl, hxp, hxu, ho3, hb3⟩ := hj2 ht
  have HB3 := Lib.hid (HB2.out.trans (hb3.mono HB2.out.size))
  have HA3 := Lib.hid (apply_last (s := ⟨nx, lg, l⟩) (e := ⟨ds, add, enx, elg⟩) HRT.out HDR.out ht hxp hxu)
  have hxi : ∀ f ∈ x, FiIn f := fun f hf => (List.mem_append.1 (hxp.mem_iff.1 hf)).elim (HMI.out f) (HA.out.ok f)
  obtain ⟨px, cx, rfl, hxc, hxm, hfx⟩ := ho3.files hxi
  have HFX := Lib.hid hfx
  have HXI := Lib.hid hxi
  have HXC := Lib.hid (And.intro hxc hxm)
  have HO3 : Hid (OwnFis w3 w.heap.size (.slice px x.length cx) x) := Lib.hid (ho3.mono (HS.out _ HB2.out).size)
  have hown : ∀ k, (Value.slice px x.length cx).ownBlock = some k → W0.heap.size ≤ k := fun k hk => Nat.le_trans HB2.out.size (ho3.lt k hk).1
  have HOW := Lib.hid hown
  clear hj1 hj2 ht hxp hxu ho3 hb3 hxi hxc hxm hfx hown HFM HMI
  obtain ⟨k2, k3, k4⟩ := HX.out _ HB3.out
  have hs2 := st_set (nx' := max nx enx) (lg' := max lg elg) (p' := px) (n' := x.length) (cap' := cx) k2
  obtain ⟨c0, c1, c2⟩ := st_cells k2
  obtain ⟨d0, d1, d2, d3⟩ := ed_cells k3
  have f0 := st_frozen k2 0
  have f1 := st_frozen k2 1
  have f2 := st_frozen k2 2
  go_wp2_with fail
  obtain ⟨W3, hW3⟩ : ∃ W3, W3 = (((w3.setCell ⟨w.heap.size, 0, none⟩ (.int .i64 (max nx enx))).setCell ⟨w.heap.size, 1, none⟩ (.int .i64 (max lg elg))).setCell ⟨w.heap.size, 2, none⟩ (.slice px x.length cx)) := ⟨_, rfl⟩
  rw [← hW3] at hs2 ⊢
  have hB3 : Below w.heap.size w W3 := by rw [hW3]; exact st_below (HS.out _ HB3.out) (Nat.le_refl _)
  have hblk : ∀ k, k ≠ w.heap.size → W3.heap[k]? = w3.heap[k]? := fun k hk => by rw [hW3]; exact (Below.heap_setCell _ _ _ _ hk).trans ((Below.heap_setCell _ _ _ _ hk).trans (Below.heap_setCell _ _ _ _ hk))
  have hz3 : W3.heap.size = w3.heap.size := by rw [hW3]; simp [World.setCell]
  have k4' : W3.heap[w.heap.size + 1 + 1]? = some (stO 0 0 none 0 0) := (hblk _ (by omega)).trans k4
  have ho3 : OwnFis W3 w.heap.size (.slice px x.length cx) x := HO3.out.stays fun k _ hk => hblk k (by have := HOW.out k hk; have := HZ.out; omega)
  obtain ⟨p', c', ep, -, -, hfx⟩ := ho3.files HXI.out
  cases ep
  have hC3 := Check_any (nx := max nx enx) (lg := max lg elg) hfx HXC.out.1 HXC.out.2
  unfold stV at hC3
  have HS2 := Lib.hid hs2
  have HK4 := Lib.hid k4'
  have HO4 := Lib.hid ho3
  have HB4 := Lib.hid hB3
  have HC3 := Lib.hid hC3
  have HLT : Hid (w.heap.size + 1 + 1 < W3.heap.size) := Lib.hid (by have := HB3.out.size; have := HZ.out; omega)
  clear hW3 hs2 hB3 hblk hz3 k4' ho3 hfx hC3 k2 k3 k4 c0 c1 c2 d0 d1 d2 d3 f0 f1 f2
  refine HC3.out.mono ?_
  rintro e w5 ⟨n, rfl, hr, hn, hb⟩
  have HR5 := Lib.hid hr
  have HB5 := Lib.hid hb
  have HK5 : Hid (w5.heap[w.heap.size + 1 + 1]? = some (stO 0 0 none 0 0)) := Lib.hid ((hb.block _ HLT.out).trans HK4.out)
  have HS5 : Hid (w5.heap[w.heap.size]? = some (stO (max nx enx) (max lg elg) px x.length cx)) := Lib.hid ((hb.block _ (by have := HLT.out; omega)).trans HS2.out)
  clear hr hb
  rcases hn with rfl | rfl
  case inr =>
    have hnr : Hid (¬ Mf.Right ⟨max nx enx, max lg elg, x⟩) := Lib.hid fun h => by have := HR5.out.2 h; omega
    obtain ⟨c0, c1, c2⟩ := st_cells HK5.out
    have f0 := st_frozen HK5.out 0
    have f1 := st_frozen HK5.out 1
    have f2 := st_frozen HK5.out 2
    have K4 := Lib.hid (st_set (nx' := 0) (lg' := 0) (p' := none) (n' := 0) (cap' := 0) HK5.out)
    go_wp2_with fail
    refine bodyPost_ret (apply_res rfl rfl K4.out) rfl ?_
    rw [HA3.out.2 hnr.out]
    exact ⟨_, rfl, OwnFis.nil _ _, st_below (HB4.out.trans (HB5.out.mono HB4.out.size)) (by omega)⟩
  have hrt : Mf.Right ⟨max nx enx, max lg elg, x⟩ := HR5.out.1 rfl
  have HRT5 := Lib.hid hrt
  have HO5 := Lib.hid (HO4.out.below HB5.out)
  clear hrt
  go_wp2_with fail
  refine (own_any HO5.out HXI.out fun f hf => by obtain ⟨-, -, -, -, -, h1, -, h2, -⟩ := HRT5.out.files f hf; exact ⟨h1, h2⟩).mono ?_
  rintro e w6 ⟨rfl, hb6⟩
  have HB6 := Lib.hid (HB5.out.trans (hb6.mono HB5.out.size))
  have HO6 := Lib.hid (HO5.out.below hb6)
  have k4 : w6.heap[w.heap.size + 1 + 1]? = some (stO 0 0 none 0 0) := (hb6.block _ (Nat.lt_of_lt_of_le HLT.out HB5.out.size)).trans HK5.out
  have k2 : w6.heap[w.heap.size]? = some (stO (max nx enx) (max lg elg) px x.length cx) := (hb6.block _ (Nat.lt_of_lt_of_le (show w.heap.size < W3.heap.size by have := HLT.out; omega) HB5.out.size)).trans HS5.out
  clear hb6
  obtain ⟨c0, c1, c2⟩ := st_cells k4
  have f0 := st_frozen k4 0
  have f1 := st_frozen k4 1
  have f2 := st_frozen k4 2
  obtain ⟨b0, b1, b2⟩ := st_cells k2
  have K4 := Lib.hid (st_set (nx' := max nx enx) (lg' := max lg elg) (p' := px) (n' := x.length) (cap' := cx) k4)
  clear k4 k2
  go_wp2_with fail
  refine bodyPost_ret (apply_res rfl rfl K4.out) rfl ?_
  rw [HA3.out.1 HRT5.out]
  refine ⟨_, rfl, HO6.out.stays fun k _ hk => ?_, st_below (HB4.out.trans (HB6.out.mono HB4.out.size)) (by omega)⟩
  have hne : k ≠ w.heap.size + 1 + 1 := by have := HOW.out k hk; have := HZ.out; omega
  exact (Below.heap_setCell _ _ _ _ hne).trans ((Below.heap_setCell _ _ _ _ hne).trans (Below.heap_setCell _ _ _ _ hne))
end Go.Proofs.YtbhjpkejdkfenaaGreatDoor
