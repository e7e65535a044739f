/-
  Rows of the document's tables (redressref08.File), as its answer builds them by append: the same as ManRow's, of another type. Made by gen/mk_manrefrow.py. Conditions: those in the theorems.
  Walks over the document's answer for states: Same. Conditions: those in the theorems.
  Walks over the laws of package manifest: state. Conditions: those in the theorems.
  Walks over the laws of package manifest: edit. Conditions: those in the theorems.
  Walks over the laws of package manifest: one, other, Same, alike. Conditions: those in the theorems.
  Walks over the laws of package manifest: awake. No condition.
  Walks over the laws of package manifest: great, alike, touches, apart. Conditions: those in the theorems.
-/
import Derived.Test.YtbhjpkejdkfenaaGreatDoorManRow
import Derived.Test.YtbhjpkejdkfenaaGreatDoorManOne
import Derived.Test.YtbhjpkejdkfenaaGreatDoorManMath
set_option linter.unusedSimpArgs false
set_option linter.unusedVariables false
namespace Go.Proofs.YtbhjpkejdkfenaaGreatDoor
open Go.ChangeShapes Go.WideShapes Go.ChangeAt Go.RowKit
open Mf (File)
theorem one_rf : Tryz.prog.cellsOf 35 = 5 := by kernel_rfl
theorem infoRf : (Tryz.prog.info? 35).map (fun i => (i.zero, i.size, i.bytes)) = some (some (.agg #[.int .i64 0, .int .i64 0, .int .i64 0, .string ⟨#[]⟩, .string ⟨#[]⟩]), 5, 56) := by kernel_rfl
/-- v is a row of the tables xs, in a block of its own, not below base. -/
def OwnRfs (W : World) (base : Nat) (v : Value) (xs : List File) : Prop := W.ownsRow base 35 5 v xs.length (fisCells xs)
section
variable {W C : World} {base : Nat} {v : Value} {xs : List File}
theorem OwnRfs.nil (W : World) (base : Nat) : OwnRfs W base (.slice none 0 0) [] := World.ownsRow_nil _ _ _ _
theorem OwnRfs.lt (h : OwnRfs W base v xs) : ∀ k, v.ownBlock = some k → base ≤ k ∧ k < W.heap.size := World.ownsRow.lt h
theorem OwnRfs.shape (h : OwnRfs W base v xs) : ∃ p cap, v = .slice p xs.length cap ∧ xs.length ≤ cap ∧ cap ≤ maxLen := by
  rcases h.2 with ⟨rfl, e⟩ | ⟨g, cap, cur, rfl, h2, h3, h4, h5, -⟩
  · rw [e]; exact ⟨none, 0, rfl, Nat.le_refl _, Nat.zero_le _⟩
  · exact ⟨_, _, rfl, h4, h5⟩
theorem OwnRfs.stays (h : OwnRfs W base v xs) (hb : ∀ k, k < W.heap.size → v.ownBlock = some k → C.heap[k]? = W.heap[k]?) : OwnRfs C base v xs := by
  refine ⟨h.1, ?_⟩
  rcases h.2 with hn | ⟨g, cap, cur, rfl, h1, h2, h3⟩
  · exact .inl hn
  · exact .inr ⟨g, cap, cur, rfl, h1, (hb g (Array.getElem?_eq_some_iff.1 h2).1 rfl).trans h2, h3⟩
theorem OwnRfs.below (h : OwnRfs W base v xs) (hb : Below W.heap.size W C) : OwnRfs C base v xs := h.stays fun k hk _ => hb.block k hk
theorem OwnRfs.mono {b' : Nat} (h : OwnRfs W base v xs) (hb : b' ≤ base) : OwnRfs W b' v xs := by
  refine ⟨h.1, ?_⟩
  rcases h.2 with hn | ⟨g, cap, cur, rfl, h1, h2⟩
  · exact .inl hn
  · exact .inr ⟨g, cap, cur, rfl, Nat.le_trans hb h1, h2⟩
theorem OwnRfs.files (h : OwnRfs W base v xs) (hp : ∀ x ∈ xs, FiIn x) : ∃ p cap, v = .slice p xs.length cap ∧ xs.length ≤ cap ∧ cap ≤ maxLen ∧ FilesAt W p xs := by
  rcases h.2 with ⟨rfl, hn⟩ | ⟨g, cap, cur, rfl, h1, h2, h3, h4, h5, h6⟩
  · rw [hn]; exact ⟨none, 0, rfl, Nat.le_refl _, Nat.zero_le _, fun i hi => by omega⟩
  · refine ⟨Option.some ⟨g, 0, none⟩, cap, rfl, h3, h4, fun i hi => ⟨_, rfl, (Array.getElem?_eq_some_iff.1 h2).1, fun j hj => ?_, hp _ (List.getElem_mem hi)⟩⟩
    have hadd : (⟨g, 0, none⟩ : Addr).add (i * 5 + j) = ⟨g, i * 5 + j, none⟩ := by unfold Addr.add; split <;> simp_all
    rw [hadd, cell_of_row W g _ cur _ _ h2, ← fisCells_get hi hj, ← h6, List.getElem?_take, if_pos (by omega)]; simp
end
/-- Tables that lie at A are appended; the world may have new blocks since the row was looked at. -/
theorem rf_append {W0 W : World} {base : Nat} {v : Value} {l : List File} (h : OwnRfs W0 base v l) (hb0 : Below W0.heap.size W0 W) (A : Addr) (r : List File) (m c : Nat) (hm : r.length = m) (hnews : ∀ q u, (fisCells r)[q]? = some u → W.cell? (A.add q) = some u) (hs : l.length + m ≤ 1000000) (hb : base ≤ W0.heap.size) (ty : TypeId) :
    ∃ (pv : Option Addr) (cv : Nat) (W' : World), (Builtin.append_ #[36, 36] ty #[v, .slice (some A) m c]).run Tryz.prog W = .ok (.slice pv (l.length + m) cv) W' ∧
      OwnRfs W' base (.slice pv (l.length + m) cv) (l ++ r) ∧ GrewF v (.slice pv (l.length + m) cv) W0 W' := by
  subst hm
  have h0 := h.below hb0
  have hz := hb0.size
  obtain ⟨i0, hi0, hz0, hz1, hz2⟩ := info_parts infoRf
  obtain ⟨v', W', hrun, ho, hg, -, hown⟩ := run_append_own_at (P := Tryz.prog) W base 36 ty 35 i0 _ 5 56 Tryz.underlying36 hi0 hz0 hz1 hz2 rfl (by decide) v _ _ h0
    A r.length c (fisCells r) (fisCells_length r) hnews (fisCells_one r) (by unfold maxLen; omega) (by omega) (by omega)
  have ho2 : OwnRfs W' base v' (l ++ r) := by unfold OwnRfs; rw [fisCells_append, List.length_append]; exact ho
  obtain ⟨pv, cv, rfl, -, -⟩ := ho2.shape
  rw [List.length_append] at hrun ho2 hown
  refine ⟨pv, cv, W', hrun, ho2, hg.os.trans hb0.os, hg.tape.trans hb0.tape, hg.output.trans hb0.output, Nat.le_trans hz hg.size, fun k hk hn => ?_, fun k hk => ?_⟩
  · exact (hg.block k (by omega) fun e => hn e.symm).trans (hb0.block k hk)
  · rcases hown with e | e
    · exact .inl (e ▸ hk)
    · rw [e] at hk
      simp only [Option.some.injEq] at hk
      exact .inr (by omega)
end Go.Proofs.YtbhjpkejdkfenaaGreatDoor
namespace Go.Proofs.YtbhjpkejdkfenaaGreatDoor
open Go.RowKit Go.Shelf
open Mf (File State Edit)
def rsO (nx lg : Int) (p : Option Addr) (n cap : Nat) : Obj := .cells #[.int .i64 nx, .int .i64 lg, .slice p n cap] 38 (0, 0)
theorem rs_cells {W : World} {a : Nat} {nx lg : Int} {p : Option Addr} {n cap : Nat} (h : W.heap[a]? = some (rsO nx lg p n cap)) : W.cell? ⟨a, 0, none⟩ = some (.int .i64 nx) ∧ W.cell? ⟨a, 1, none⟩ = some (.int .i64 lg) ∧ W.cell? ⟨a, 2, none⟩ = some (.slice p n cap) ∧ ∀ i, W.frozen? ⟨a, i, none⟩ = false := by
  unfold rsO at h
  refine ⟨?_, ?_, ?_, fun i => frozen_of_row W a i _ _ h⟩ <;> rw [cell_of_row W a _ _ _ _ h] <;> rfl
theorem file_ext {f g : File} (h0 : f.n = g.n) (h1 : f.level = g.level) (h2 : f.count = g.count) (h3 : f.first = g.first) (h4 : f.last = g.last) : f = g := by
  cases f; cases g; simp_all
set_option maxRecDepth 100000 in
set_option maxHeartbeats 8000000 in
theorem refSame_any {w : World} {p q : Option Addr} {cap cap2 : Nat} {l m : List File} {nx lg nx2 lg2 : Int} (hp : FilesAt w p l) (hq : FilesAt w q m) (hl : l.length ≤ maxLen) (hm : m.length ≤ maxLen) :
    Calls Tryz.prog 25 #[stV nx lg p l.length cap, stV nx2 lg2 q m.length cap2] w (Tells ((⟨nx, lg, l⟩ : State) = ⟨nx2, lg2, m⟩) w) := by
  unfold maxLen at hl hm
  obtain ⟨W1, hW1⟩ : ∃ W1, W1 = (w.alloc (.cells #[.int .i64 nx, .int .i64 lg, .slice p l.length cap] 38)).alloc (.cells #[.int .i64 nx2, .int .i64 lg2, .slice q m.length cap2] 38) := ⟨_, rfl⟩
  have hb1 : Below w.heap.size w W1 := by rw [hW1]; exact ((Below.refl _ w).alloc (Nat.le_refl _) _).alloc (by simp) _
  have h1 : W1.heap[w.heap.size]? = some (rsO nx lg p l.length cap) := by rw [hW1, Below.heap_alloc _ _ _ (by simp)]; exact heap_alloc_new w _
  have h2 : W1.heap[w.heap.size + 1]? = some (rsO nx2 lg2 q m.length cap2) := by
    rw [hW1]
    have := heap_alloc_new (w.alloc (.cells #[.int .i64 nx, .int .i64 lg, .slice p l.length cap] 38)) (.cells #[.int .i64 nx2, .int .i64 lg2, .slice q m.length cap2] 38)
    rwa [World.size_alloc] at this
  have HP := Lib.hid (hp.below hb1)
  have HQ := Lib.hid (hq.below hb1)
  have HB1 := Lib.hid hb1
  have HX : Hid (∀ W, Below W1.heap.size W1 W → W.heap[w.heap.size]? = some (rsO nx lg p l.length cap) ∧ W.heap[w.heap.size + 1]? = some (rsO nx2 lg2 q m.length cap2)) :=
    Lib.hid fun W hW => ⟨(hW.block _ (Array.getElem?_eq_some_iff.1 h1).1).trans h1, (hW.block _ (Array.getElem?_eq_some_iff.1 h2).1).trans h2⟩
  obtain ⟨c0, c1, c2, -⟩ := rs_cells h1
  obtain ⟨d0, d1, d2, -⟩ := rs_cells h2
  unfold stV
  clear hp hq hb1 h1 h2
  go_enter Tryz.func25, Tryz.ntmps25
  go_upto_region 1 with fail
  rw [← hW1]
  clear hW1
  by_cases e1 : nx = nx2
  case neg =>
    have g1 : (nx != nx2) = true := by rw [bne_iff_ne]; exact e1
    have E1 := Lib.hid e1
    clear e1
    go_wp2_with fail
    go_ret
    exact tells false (by simp only [Bool.false_eq_true, false_iff]; intro h; exact E1.out (congrArg State.next h)) HB1.out
  subst e1
  by_cases e2 : lg = lg2
  case neg =>
    have g1 : (lg != lg2) = true := by rw [bne_iff_ne]; exact e2
    have E1 := Lib.hid e2
    clear e2
    go_wp2_with fail
    go_ret
    exact tells false (by simp only [Bool.false_eq_true, false_iff]; intro h; exact E1.out (congrArg State.log h)) HB1.out
  subst e2
  by_cases e3 : l.length = m.length
  case neg =>
    have g1 : ((l.length : Int) != (m.length : Int)) = true := by rw [bne_iff_ne]; omega
    have E1 := Lib.hid e3
    clear e3
    go_wp2_with fail
    go_ret
    exact tells false (by simp only [Bool.false_eq_true, false_iff]; intro h; exact E1.out (congrArg (fun s : State => s.files.length) h)) HB1.out
  have E3 := Lib.hid e3
  have g3 : ((l.length : Int) != (m.length : Int)) = false := by rw [e3, bne_self_eq_false]
  clear e3
  go_wp2_with fail
  clear c0 c1 c2 d0 d1 d2 g3
  go_loopw [5] (fun kv wr => ∃ k : Nat, k ≤ l.length ∧ kv = .int .i64 (k : Nat) ∧ Hid (l.take k = m.take k ∧ Below W1.heap.size W1 wr)) (fun kv _ => l.length - (intOf kv).toNat)
  case atStart => exact ⟨0, Nat.zero_le _, rfl, Lib.hid ⟨rfl, Below.refl _ _⟩⟩
  case round =>
    obtain ⟨k, hk, rfl, H⟩ := hrel
    obtain ⟨x1, x2⟩ := HX.out _ H.out.2
    obtain ⟨c0, c1, c2, -⟩ := rs_cells x1
    obtain ⟨d0, d1, d2, -⟩ := rs_cells x2
    clear x1 x2
    by_cases hlt : k < l.length
    · have hlt2 : k < m.length := by have := E3.out; omega
      have i1 : (k : Int) < (l.length : Int) := by omega
      have i2 : (0 : Int) ≤ (k : Int) := by omega
      have i3 : (k : Int) < (m.length : Int) := by omega
      obtain ⟨A, rfl, a0, a1, a2, a3, a4, -⟩ := HP.out.at H.out.2 hlt
      obtain ⟨B, rfl, b0, b1, b2, b3, b4, -⟩ := HQ.out.at H.out.2 hlt2
      have HTK : Hid (l[k] = m[k] → l.take (k + 1) = m.take (k + 1)) := Lib.hid fun e => by
        rw [List.take_succ_eq_append_getElem hlt, List.take_succ_eq_append_getElem hlt2, H.out.1, e]
      have HNE : Hid (l[k] ≠ m[k] → ¬ ((⟨nx, lg, l⟩ : State) = ⟨nx, lg, m⟩)) := Lib.hid fun e h => e (by
        have : l = m := congrArg State.files h
        subst this; rfl)
      have HW := Lib.hid (HB1.out.trans (H.out.2.mono HB1.out.size))
      by_cases hfg : l[k] = m[k]
      · have HT := Lib.hid (HTK.out hfg)
        rw [← hfg] at b0 b1 b2 b3 b4
        clear hfg HTK HNE
        generalize l[k] = f at *
        go_wp2_with fail
        go_quiet (fail)
        go_wp2_with fail
        go_roundw
        case rel => exact ⟨k + 1, by omega, by go_num, Lib.hid ⟨HT.out, below_drewN H.out.2 _⟩⟩
        case measure => simp [intOf]; omega
      · have HF := Lib.hid (HNE.out hfg)
        have HFG := Lib.hid hfg
        clear hfg HTK HNE
        generalize l[k] = f at *
        generalize m[k] = g at *
        cases f with | mk f0 f1 f2 f3 f4 =>
        cases g with | mk g0 g1 g2 g3 g4 =>
        simp only at a0 a1 a2 a3 a4 b0 b1 b2 b3 b4
        by_cases e0 : f0 = g0
        case neg =>
          have q0 : (f0 == g0) = false := by rw [beq_eq_false_iff_ne]; exact e0
          have q1 : (f0 != g0) = true := by rw [bne_iff_ne]; exact e0
          go_wp2_with fail
          go_quiet (fail)
          go_wp2_with fail
          go_ret
          exact tells false (by simp only [Bool.false_eq_true, false_iff]; exact HF.out) (below_drewN HW.out _)
        subst e0
        by_cases e1 : f1 = g1
        case neg =>
          have q0 : (f1 == g1) = false := by rw [beq_eq_false_iff_ne]; exact e1
          go_wp2_with fail
          go_quiet (fail)
          go_wp2_with fail
          go_ret
          exact tells false (by simp only [Bool.false_eq_true, false_iff]; exact HF.out) (below_drewN HW.out _)
        subst e1
        by_cases e2 : f2 = g2
        case neg =>
          have q0 : (f2 == g2) = false := by rw [beq_eq_false_iff_ne]; exact e2
          go_wp2_with fail
          go_quiet (fail)
          go_wp2_with fail
          go_ret
          exact tells false (by simp only [Bool.false_eq_true, false_iff]; exact HF.out) (below_drewN HW.out _)
        subst e2
        by_cases e3 : f3 = g3
        case neg =>
          have q0 : (f3.toList == g3.toList) = false := by rw [beq_eq_false_iff_ne]; exact fun h => e3 (Mm.toList_inj h)
          go_wp2_with fail
          go_quiet (fail)
          go_wp2_with fail
          go_ret
          exact tells false (by simp only [Bool.false_eq_true, false_iff]; exact HF.out) (below_drewN HW.out _)
        subst e3
        by_cases e4 : f4 = g4
        case neg =>
          have q0 : (f4.toList == g4.toList) = false := by rw [beq_eq_false_iff_ne]; exact fun h => e4 (Mm.toList_inj h)
          go_wp2_with fail
          go_quiet (fail)
          go_wp2_with fail
          go_ret
          exact tells false (by simp only [Bool.false_eq_true, false_iff]; exact HF.out) (below_drewN HW.out _)
        exact absurd (by rw [e4]) HFG.out
    · obtain rfl : k = l.length := by omega
      have i1 : ¬ (l.length : Int) < (l.length : Int) := by omega
      go_wp2_with fail
      go_ret
      refine tells true ?_ (HB1.out.trans (H.out.2.mono HB1.out.size))
      have h1 := H.out.1
      rw [List.take_length, E3.out, List.take_length] at h1
      simp [h1]
end Go.Proofs.YtbhjpkejdkfenaaGreatDoor
namespace Go.Proofs.YtbhjpkejdkfenaaGreatDoor
open Go.RowKit Go.Shelf
open Mf (File State Edit)
attribute [local go_sem] Oper.semAt_some
theorem state8_res {W : World} {tmps : Array Value} {b : Nat} {nx lg : Int} {p : Option Addr} {n cap : Nat} (h2 : tmps[2]? = some (.pointer (some ⟨b, 0, none⟩))) (h : W.heap[b]? = some (rsO nx lg p n cap)) :
    (results Tryz.f22 tmps).run Tryz.prog W = .ok (stV nx lg p n cap) W := by
  obtain ⟨c0, c1, c2, -⟩ := rs_cells h
  unfold stV
  simp [results, Tryz.results22, h2, go_sem, c0, c1, c2]
theorem st_set_rs {W : World} {a : Nat} {nx lg nx' lg' : Int} {p p' : Option Addr} {n cap n' cap' : Nat} (h : W.heap[a]? = some (rsO nx lg p n cap)) :
    (((W.setCell ⟨a, 0, none⟩ (.int .i64 nx')).setCell ⟨a, 1, none⟩ (.int .i64 lg')).setCell ⟨a, 2, none⟩ (.slice p' n' cap')).heap[a]? = some (rsO nx' lg' p' n' cap') :=
  mset (mset (mset h _) _) _
set_option maxRecDepth 100000 in
set_option maxHeartbeats 8000000 in
theorem state8_any {w : World} {p : Option Addr} {cap : Nat} {l : List File} {nx lg : Int} (hl : FilesAt w p l) (hn : l.length ≤ 1000) :
    Calls Tryz.prog 22 #[stV nx lg p l.length cap] w fun e w' => ∃ v, e = .returned (.agg #[.int .i64 nx, .int .i64 lg, v]) ∧ OwnRfs w' w.heap.size v l ∧ Below w.heap.size w w' := by
  obtain ⟨W0, hW0⟩ : ∃ W0, W0 = (w.alloc (.cells #[.int .i64 nx, .int .i64 lg, .slice p l.length cap] 24)).alloc (.cells #[.int .i64 0, .int .i64 0, .slice none 0 0] 38) := ⟨_, rfl⟩
  have hb0 : Below w.heap.size w W0 := by rw [hW0]; exact ((Below.refl _ w).alloc (Nat.le_refl _) _).alloc (by simp) _
  have hz : W0.heap.size = w.heap.size + 2 := by rw [hW0]; simp
  have h1 : W0.heap[w.heap.size]? = some (stO nx lg p l.length cap) := by rw [hW0, Below.heap_alloc _ _ _ (by simp)]; exact heap_alloc_new w _
  have h2 : W0.heap[w.heap.size + 1]? = some (rsO 0 0 none 0 0) := by
    rw [hW0]
    have := heap_alloc_new (w.alloc (.cells #[.int .i64 nx, .int .i64 lg, .slice p l.length cap] 24)) (.cells #[.int .i64 0, .int .i64 0, .slice none 0 0] 38)
    rwa [World.size_alloc] at this
  have HL := Lib.hid (hl.below hb0)
  have HB0 := Lib.hid hb0
  have HZ := Lib.hid hz
  have HN := Lib.hid hn
  have HX : Hid (∀ W, Below W0.heap.size W0 W → W.heap[w.heap.size]? = some (stO nx lg p l.length cap) ∧ W.heap[w.heap.size + 1]? = some (rsO 0 0 none 0 0)) :=
    Lib.hid fun W hW => ⟨(hW.block _ (Array.getElem?_eq_some_iff.1 h1).1).trans h1, (hW.block _ (Array.getElem?_eq_some_iff.1 h2).1).trans h2⟩
  obtain ⟨c0, c1, c2⟩ := st_cells h1
  unfold stV
  clear hl hb0 hz h1 h2 hn
  go_enter Tryz.func22, Tryz.ntmps22
  go_upto_region 1 with fail
  rw [← hW0]
  clear hW0
  go_wp2_with fail
  clear c0 c1 c2
  go_loopw [4] (fun kv wr => ∃ (k : Nat) (pv : Option Addr) (cv : Nat), k ≤ l.length ∧ kv = .int .i64 (k : Nat) ∧ Hid (wr.heap[W0.heap.size]? = some (rsO nx lg pv k cv) ∧ OwnRfs wr (W0.heap.size + 1) (.slice pv k cv) (l.take k) ∧ Below W0.heap.size W0 wr)) (fun kv _ => l.length - (intOf kv).toNat)
  case atStart => exact ⟨0, none, 0, Nat.zero_le _, rfl, Lib.hid ⟨heap_alloc_new _ _, OwnRfs.nil _ _, mbelow_alloc _ _⟩⟩
  case round =>
    obtain ⟨k, pv, cv, hk, rfl, H⟩ := hrel
    obtain ⟨x1, x2⟩ := HX.out _ H.out.2.2
    obtain ⟨c0, c1, c2⟩ := st_cells x1
    by_cases hlt : k < l.length
    · have i1 : (k : Int) < (l.length : Int) := by omega
      have i2 : (0 : Int) ≤ (k : Int) := by omega
      obtain ⟨A, rfl, y0, y1, y2, y3, y4, -⟩ := HL.out.at H.out.2.2 hlt
      have HTK : Hid (l.take (k + 1) = l.take k ++ [l[k]]) := Lib.hid (List.take_succ_eq_append_getElem hlt)
      have HKL : Hid (k ≤ 1000 ∧ (l.take k).length = k) := Lib.hid ⟨by have := HN.out; omega, by rw [List.length_take]; omega⟩
      generalize l[k] = f at *
      cases f with | mk fn fl fc ff ft =>
      simp only at y0 y1 y2 y3 y4
      have hal : ∀ o, (wr.alloc o).cell? ⟨W0.heap.size, 2, none⟩ = some (.slice pv k cv) := fun o => ((mbelow_alloc wr o).cell (Array.getElem?_eq_some_iff.1 H.out.1).1).trans (rs_cells H.out.1).2.2.1
      have hcr : wr.cell? ⟨W0.heap.size, 2, none⟩ = some (.slice pv k cv) := (rs_cells H.out.1).2.2.1
      have HAP : Hid (∀ W : World, wr.heap.size + 1 = W.heap.size → Below wr.heap.size wr W → W.os = W.os → (∀ q u, (fisCells [⟨fn, fl, fc, ff, ft⟩])[q]? = some u → W.cell? ((⟨wr.heap.size, 0, none⟩ : Addr).add q) = some u) → ∃ (pv2 : Option Addr) (cv2 : Nat) (W' : World),
          (Builtin.append_ #[36, 36] 36 #[.slice pv k cv, .slice (some ⟨wr.heap.size, 0, none⟩) 1 1]).run Tryz.prog W = .ok (.slice pv2 (k + 1) cv2) W' ∧
          W'.cell? ⟨W0.heap.size, 2, none⟩ = some (.slice pv k cv) ∧ W'.frozen? ⟨W0.heap.size, 2, none⟩ = false ∧
          Hid ((W'.setCell ⟨W0.heap.size, 2, none⟩ (.slice pv2 (k + 1) cv2)).heap[W0.heap.size]? = some (rsO nx lg pv2 (k + 1) cv2) ∧ OwnRfs (W'.setCell ⟨W0.heap.size, 2, none⟩ (.slice pv2 (k + 1) cv2)) (W0.heap.size + 1) (.slice pv2 (k + 1) cv2) (l.take (k + 1)) ∧ Below W0.heap.size W0 (W'.setCell ⟨W0.heap.size, 2, none⟩ (.slice pv2 (k + 1) cv2)))) := Lib.hid fun W hz hb _ hnew => by
        obtain ⟨hr, ho, hB⟩ := H.out
        have hge : W0.heap.size + 1 ≤ wr.heap.size := (Array.getElem?_eq_some_iff.1 hr).1
        obtain ⟨pv2, cv2, W', hrun, ho2, hg⟩ := rf_append ho hb ⟨wr.heap.size, 0, none⟩ [⟨fn, fl, fc, ff, ft⟩] 1 1 rfl hnew (by rw [HKL.out.2]; have := HKL.out.1; omega) hge 36
        rw [HKL.out.2] at hrun ho2 hg
        rw [← HTK.out] at ho2
        have hne : ∀ j, (Value.slice pv k cv).ownBlock = some j → j ≠ W0.heap.size := fun j hj => by have := (ho.lt j hj).1; omega
        have hne2 : ∀ j, (Value.slice pv2 (k + 1) cv2).ownBlock = some j → j ≠ W0.heap.size := fun j hj => by have := (ho2.lt j hj).1; omega
        have hr2 : W'.heap[W0.heap.size]? = some (rsO nx lg pv k cv) := (hg.block _ (Array.getElem?_eq_some_iff.1 hr).1 (fun e => hne _ e rfl)).trans hr
        have hB2 : Below W0.heap.size W0 W' := hg.below hB hB.size fun j hj => by have := (ho.lt j hj).1; omega
        obtain ⟨-, -, c2, c3⟩ := rs_cells hr2
        exact ⟨pv2, cv2, W', hrun, c2, c3 2, Lib.hid ⟨mset hr2 _, ho2.stays fun j _ hj => Below.heap_setCell _ _ _ _ (hne2 j hj), hB2.setCell (Nat.le_refl _) _⟩⟩
      have HLT := Lib.hid hlt
      have HNEW := Lib.hid (fun t => news_five wr (.int .i64 fn) (.int .i64 fl) (.int .i64 fc) (.string ff) (.string ft) t)
      clear x1 x2 hlt HTK H HL HX
      go_upto_region 5 with fail
      go_region_law (obtain ⟨pv2, cv2, W', hrun, hc', hf', HE⟩ := HAP.out (wr.alloc (.cells #[.int .i64 fn, .int .i64 fl, .int .i64 fc, .string ff, .string ft] 35)).drew (by simp) (by exact (mbelow_alloc wr _).drew) rfl (by simpa [fisCells, fiCells] using HNEW.out 35); refine mtab_append_run rfl (.tmp 18) (.tmp 24) 36 36 rfl _ _ (by simp [Act.eval, Act.put]) (by simp [Act.eval, Act.put]) _ _ hrun ?_)
      all_goals
        have hk9 := HKL.out.1
        go_wp2_with fail
        go_roundw
        case rel => exact ⟨k + 1, pv2, cv2, HLT.out, by go_num, HE⟩
        case measure => have h1 := HKL.out.1; have h2 := HLT.out; simp [intOf]; omega
    · obtain rfl : k = l.length := by omega
      have i1 : ¬ (l.length : Int) < (l.length : Int) := by omega
      have hh := H.out
      rw [List.take_length] at hh
      obtain ⟨z0, z1, z2, z3⟩ := rs_cells x2
      obtain ⟨y0, y1, y2, -⟩ := rs_cells hh.1
      have f0 := z3 0
      have f1 := z3 1
      have f2 := z3 2
      have HE := Lib.hid hh
      have HXX := Lib.hid x2
      clear hh z3 x1 x2
      go_wp2_with fail
      refine bodyPost_ret (state8_res rfl (st_set_rs HXX.out)) rfl ?_
      refine ⟨_, rfl, (HE.out.2.1.stays fun j _ hj => ?_).mono (by have := HZ.out; omega), st_below (HB0.out.trans (HE.out.2.2.mono HB0.out.size)) (by omega)⟩
      have hne : j ≠ w.heap.size + 1 := by have := (HE.out.2.1.lt j hj).1; have := HZ.out; omega
      exact (Below.heap_setCell _ _ _ _ hne).trans ((Below.heap_setCell _ _ _ _ hne).trans (Below.heap_setCell _ _ _ _ hne))
end Go.Proofs.YtbhjpkejdkfenaaGreatDoor
namespace Go.Proofs.YtbhjpkejdkfenaaGreatDoor
open Go.RowKit Go.Shelf
open Mf (File State Edit)
def reO (q : Option Addr) (nd cd : Nat) (r : Option Addr) (na ca : Nat) (nx lg : Int) : Obj := .cells #[.slice q nd cd, .slice r na ca, .int .i64 nx, .int .i64 lg] 58 (0, 0)
theorem re_cells {W : World} {a : Nat} {q r : Option Addr} {nd cd na ca : Nat} {nx lg : Int} (h : W.heap[a]? = some (reO q nd cd r na ca nx lg)) : W.cell? ⟨a, 0, none⟩ = some (.slice q nd cd) ∧ W.cell? ⟨a, 1, none⟩ = some (.slice r na ca) ∧ W.cell? ⟨a, 2, none⟩ = some (.int .i64 nx) ∧ W.cell? ⟨a, 3, none⟩ = some (.int .i64 lg) ∧ ∀ i, W.frozen? ⟨a, i, none⟩ = false := by
  unfold reO at h
  refine ⟨?_, ?_, ?_, ?_, fun i => frozen_of_row W a i _ _ h⟩ <;> rw [cell_of_row W a _ _ _ _ h] <;> rfl
attribute [local go_sem] Oper.semAt_some
theorem edit8_res {W : World} {tmps : Array Value} {b : Nat} {q r : Option Addr} {nd cd na ca : Nat} {nx lg : Int} (h2 : tmps[2]? = some (.pointer (some ⟨b, 0, none⟩))) (h : W.heap[b]? = some (reO q nd cd r na ca nx lg)) :
    (results Tryz.f23 tmps).run Tryz.prog W = .ok (edV q nd cd r na ca nx lg) W := by
  obtain ⟨c0, c1, c2, c3, -⟩ := re_cells h
  unfold edV
  simp [results, Tryz.results23, h2, go_sem, c0, c1, c2, c3]
theorem ed_set_re {W : World} {a : Nat} {q r q' r' : Option Addr} {nd cd na ca nd' cd' na' ca' : Nat} {nx lg nx' lg' : Int} (h : W.heap[a]? = some (reO q nd cd r na ca nx lg)) :
    ((((W.setCell ⟨a, 0, none⟩ (.slice q' nd' cd')).setCell ⟨a, 1, none⟩ (.slice r' na' ca')).setCell ⟨a, 2, none⟩ (.int .i64 nx')).setCell ⟨a, 3, none⟩ (.int .i64 lg')).heap[a]? = some (reO q' nd' cd' r' na' ca' nx' lg') :=
  mset (mset (mset (mset h _) _) _) _
theorem ed_below {B : Nat} {w W : World} {a : Nat} {x y z u : Value} (h : Below B w W) (ha : B ≤ a) : Below B w ((((W.setCell ⟨a, 0, none⟩ x).setCell ⟨a, 1, none⟩ y).setCell ⟨a, 2, none⟩ z).setCell ⟨a, 3, none⟩ u) :=
  (((h.setCell ha _).setCell ha _).setCell ha _).setCell ha _
set_option maxRecDepth 100000 in
set_option maxHeartbeats 8000000 in
theorem edit8_any {w : World} {p q : Option Addr} {nd cd cap : Nat} {l : List File} {nx lg : Int} (hl : FilesAt w p l) (hn : l.length ≤ 1000) :
    Calls Tryz.prog 23 #[edV q nd cd p l.length cap nx lg] w fun e w' => ∃ v, e = .returned (.agg #[.slice q nd cd, v, .int .i64 nx, .int .i64 lg]) ∧ OwnRfs w' w.heap.size v l ∧ Below w.heap.size w w' := by
  obtain ⟨W0, hW0⟩ : ∃ W0, W0 = (w.alloc (.cells #[.slice q nd cd, .slice p l.length cap, .int .i64 nx, .int .i64 lg] 33)).alloc (.cells #[.slice none 0 0, .slice none 0 0, .int .i64 0, .int .i64 0] 58) := ⟨_, rfl⟩
  have hb0 : Below w.heap.size w W0 := by rw [hW0]; exact ((Below.refl _ w).alloc (Nat.le_refl _) _).alloc (by simp) _
  have hz : W0.heap.size = w.heap.size + 2 := by rw [hW0]; simp
  have h1 : W0.heap[w.heap.size]? = some (edO q nd cd p l.length cap nx lg) := by rw [hW0, Below.heap_alloc _ _ _ (by simp)]; exact heap_alloc_new w _
  have h2 : W0.heap[w.heap.size + 1]? = some (reO none 0 0 none 0 0 0 0) := by
    rw [hW0]
    have := heap_alloc_new (w.alloc (.cells #[.slice q nd cd, .slice p l.length cap, .int .i64 nx, .int .i64 lg] 33)) (.cells #[.slice none 0 0, .slice none 0 0, .int .i64 0, .int .i64 0] 58)
    rwa [World.size_alloc] at this
  have HL := Lib.hid (hl.below hb0)
  have HB0 := Lib.hid hb0
  have HZ := Lib.hid hz
  have HN := Lib.hid hn
  have HX : Hid (∀ W, Below W0.heap.size W0 W → W.heap[w.heap.size]? = some (edO q nd cd p l.length cap nx lg) ∧ W.heap[w.heap.size + 1]? = some (reO none 0 0 none 0 0 0 0)) :=
    Lib.hid fun W hW => ⟨(hW.block _ (Array.getElem?_eq_some_iff.1 h1).1).trans h1, (hW.block _ (Array.getElem?_eq_some_iff.1 h2).1).trans h2⟩
  obtain ⟨c0, c1, c2, c3⟩ := ed_cells h1
  unfold edV
  clear hl hb0 hz h1 h2 hn
  go_enter Tryz.func23, Tryz.ntmps23
  go_upto_region 1 with fail
  rw [← hW0]
  clear hW0
  go_wp2_with fail
  clear c0 c1 c2 c3
  go_loopw [4] (fun kv wr => ∃ (k : Nat) (pv : Option Addr) (cv : Nat), k ≤ l.length ∧ kv = .int .i64 (k : Nat) ∧ Hid (wr.heap[W0.heap.size]? = some (reO q nd cd pv k cv nx lg) ∧ OwnRfs wr (W0.heap.size + 1) (.slice pv k cv) (l.take k) ∧ Below W0.heap.size W0 wr)) (fun kv _ => l.length - (intOf kv).toNat)
  case atStart => exact ⟨0, none, 0, Nat.zero_le _, rfl, Lib.hid ⟨heap_alloc_new _ _, OwnRfs.nil _ _, mbelow_alloc _ _⟩⟩
  case round =>
    obtain ⟨k, pv, cv, hk, rfl, H⟩ := hrel
    obtain ⟨x1, x2⟩ := HX.out _ H.out.2.2
    obtain ⟨c0, c1, c2, c3⟩ := ed_cells x1
    by_cases hlt : k < l.length
    · have i1 : (k : Int) < (l.length : Int) := by omega
      have i2 : (0 : Int) ≤ (k : Int) := by omega
      obtain ⟨A, rfl, y0, y1, y2, y3, y4, -⟩ := HL.out.at H.out.2.2 hlt
      have HTK : Hid (l.take (k + 1) = l.take k ++ [l[k]]) := Lib.hid (List.take_succ_eq_append_getElem hlt)
      have HKL : Hid (k ≤ 1000 ∧ (l.take k).length = k) := Lib.hid ⟨by have := HN.out; omega, by rw [List.length_take]; omega⟩
      generalize l[k] = f at *
      cases f with | mk fn fl fc ff ft =>
      simp only at y0 y1 y2 y3 y4
      have hal : ∀ o, (wr.alloc o).cell? ⟨W0.heap.size, 1, none⟩ = some (.slice pv k cv) := fun o => ((mbelow_alloc wr o).cell (Array.getElem?_eq_some_iff.1 H.out.1).1).trans (re_cells H.out.1).2.1
      have hcr : wr.cell? ⟨W0.heap.size, 1, none⟩ = some (.slice pv k cv) := (re_cells H.out.1).2.1
      have HAP : Hid (∀ W : World, wr.heap.size + 1 = W.heap.size → Below wr.heap.size wr W → W.os = W.os → (∀ q u, (fisCells [⟨fn, fl, fc, ff, ft⟩])[q]? = some u → W.cell? ((⟨wr.heap.size, 0, none⟩ : Addr).add q) = some u) → ∃ (pv2 : Option Addr) (cv2 : Nat) (W' : World),
          (Builtin.append_ #[36, 36] 36 #[.slice pv k cv, .slice (some ⟨wr.heap.size, 0, none⟩) 1 1]).run Tryz.prog W = .ok (.slice pv2 (k + 1) cv2) W' ∧
          W'.cell? ⟨W0.heap.size, 1, none⟩ = some (.slice pv k cv) ∧ W'.frozen? ⟨W0.heap.size, 1, none⟩ = false ∧
          Hid ((W'.setCell ⟨W0.heap.size, 1, none⟩ (.slice pv2 (k + 1) cv2)).heap[W0.heap.size]? = some (reO q nd cd pv2 (k + 1) cv2 nx lg) ∧ OwnRfs (W'.setCell ⟨W0.heap.size, 1, none⟩ (.slice pv2 (k + 1) cv2)) (W0.heap.size + 1) (.slice pv2 (k + 1) cv2) (l.take (k + 1)) ∧ Below W0.heap.size W0 (W'.setCell ⟨W0.heap.size, 1, none⟩ (.slice pv2 (k + 1) cv2)))) := Lib.hid fun W hz hb _ hnew => by
        obtain ⟨hr, ho, hB⟩ := H.out
        have hge : W0.heap.size + 1 ≤ wr.heap.size := (Array.getElem?_eq_some_iff.1 hr).1
        obtain ⟨pv2, cv2, W', hrun, ho2, hg⟩ := rf_append ho hb ⟨wr.heap.size, 0, none⟩ [⟨fn, fl, fc, ff, ft⟩] 1 1 rfl hnew (by rw [HKL.out.2]; have := HKL.out.1; omega) hge 36
        rw [HKL.out.2] at hrun ho2 hg
        rw [← HTK.out] at ho2
        have hne : ∀ j, (Value.slice pv k cv).ownBlock = some j → j ≠ W0.heap.size := fun j hj => by have := (ho.lt j hj).1; omega
        have hne2 : ∀ j, (Value.slice pv2 (k + 1) cv2).ownBlock = some j → j ≠ W0.heap.size := fun j hj => by have := (ho2.lt j hj).1; omega
        have hr2 : W'.heap[W0.heap.size]? = some (reO q nd cd pv k cv nx lg) := (hg.block _ (Array.getElem?_eq_some_iff.1 hr).1 (fun e => hne _ e rfl)).trans hr
        have hB2 : Below W0.heap.size W0 W' := hg.below hB hB.size fun j hj => by have := (ho.lt j hj).1; omega
        obtain ⟨-, c2, -, -, c3⟩ := re_cells hr2
        exact ⟨pv2, cv2, W', hrun, c2, c3 1, Lib.hid ⟨mset hr2 _, ho2.stays fun j _ hj => Below.heap_setCell _ _ _ _ (hne2 j hj), hB2.setCell (Nat.le_refl _) _⟩⟩
      have HLT := Lib.hid hlt
      have HNEW := Lib.hid (fun t => news_five wr (.int .i64 fn) (.int .i64 fl) (.int .i64 fc) (.string ff) (.string ft) t)
      clear x1 x2 hlt HTK H HL HX
      go_upto_region 5 with fail
      go_region_law (obtain ⟨pv2, cv2, W', hrun, hc', hf', HE⟩ := HAP.out (wr.alloc (.cells #[.int .i64 fn, .int .i64 fl, .int .i64 fc, .string ff, .string ft] 35)).drew (by simp) (by exact (mbelow_alloc wr _).drew) rfl (by simpa [fisCells, fiCells] using HNEW.out 35); refine mtab_append_run rfl (.tmp 20) (.tmp 26) 36 36 rfl _ _ (by simp [Act.eval, Act.put]) (by simp [Act.eval, Act.put]) _ _ hrun ?_)
      all_goals
        have hk9 := HKL.out.1
        go_wp2_with fail
        go_roundw
        case rel => exact ⟨k + 1, pv2, cv2, HLT.out, by go_num, HE⟩
        case measure => have h1 := HKL.out.1; have h2 := HLT.out; simp [intOf]; omega
    · obtain rfl : k = l.length := by omega
      have i1 : ¬ (l.length : Int) < (l.length : Int) := by omega
      have hh := H.out
      rw [List.take_length] at hh
      obtain ⟨z0, z1, z2, z4, z3⟩ := re_cells x2
      obtain ⟨y0, y1, y2, y3, -⟩ := re_cells hh.1
      have f0 := z3 0
      have f1 := z3 1
      have f2 := z3 2
      have f3 := z3 3
      have HE := Lib.hid hh
      have HXX := Lib.hid x2
      clear hh z3 x1 x2
      go_wp2_with fail
      refine bodyPost_ret (edit8_res rfl (ed_set_re HXX.out)) rfl ?_
      refine ⟨_, rfl, (HE.out.2.1.stays fun j _ hj => ?_).mono (by have := HZ.out; omega), ed_below (HB0.out.trans (HE.out.2.2.mono HB0.out.size)) (by omega)⟩
      have hne : j ≠ w.heap.size + 1 := by have := (HE.out.2.1.lt j hj).1; have := HZ.out; omega
      exact (Below.heap_setCell _ _ _ _ hne).trans ((Below.heap_setCell _ _ _ _ hne).trans ((Below.heap_setCell _ _ _ _ hne).trans (Below.heap_setCell _ _ _ _ hne)))
end Go.Proofs.YtbhjpkejdkfenaaGreatDoor
namespace Go.Proofs.YtbhjpkejdkfenaaGreatDoor
open Go.RowKit Go.Shelf
open Mf (File State Edit)
def oneF : File := ⟨1, 0, 2, ⟨#[97]⟩, ⟨#[99]⟩⟩
def otherF : File := ⟨2, 1, 1, ⟨#[98]⟩, ⟨#[98]⟩⟩
section
attribute [local go_sem] Oper.semAt_some
theorem one_res {W : World} {tmps : Array Value} {b : Nat} {x0 x1 x2 x3 x4 : Value} (h2 : tmps[0]? = some (.pointer (some ⟨b, 0, none⟩))) (h : W.heap[b]? = some (.cells #[x0, x1, x2, x3, x4] 29 (0, 0))) :
    (results Tryz.f9 tmps).run Tryz.prog W = .ok (.agg #[x0, x1, x2, x3, x4]) W := by
  obtain ⟨c0, c1, c2, c3, c4⟩ := mcells5 h
  simp [results, Tryz.results9, h2, go_sem, c0, c1, c2, c3, c4]
theorem other_res {W : World} {tmps : Array Value} {b : Nat} {x0 x1 x2 x3 x4 : Value} (h2 : tmps[0]? = some (.pointer (some ⟨b, 0, none⟩))) (h : W.heap[b]? = some (.cells #[x0, x1, x2, x3, x4] 29 (0, 0))) :
    (results Tryz.f10 tmps).run Tryz.prog W = .ok (.agg #[x0, x1, x2, x3, x4]) W := by
  obtain ⟨c0, c1, c2, c3, c4⟩ := mcells5 h
  simp [results, Tryz.results10, h2, go_sem, c0, c1, c2, c3, c4]
end
theorem set_five {W : World} {a : Nat} {x0 x1 x2 x3 x4 : Value} (y0 y1 y2 y3 y4 : Value) {T : TypeId} (h : W.heap[a]? = some (.cells #[x0, x1, x2, x3, x4] T (0, 0))) :
    (((((W.setCell ⟨a, 0, none⟩ y0).setCell ⟨a, 1, none⟩ y1).setCell ⟨a, 2, none⟩ y2).setCell ⟨a, 3, none⟩ y3).setCell ⟨a, 4, none⟩ y4).heap[a]? = some (.cells #[y0, y1, y2, y3, y4] T (0, 0)) :=
  mset (mset (mset (mset (mset h _) _) _) _) _
theorem below_five {B : Nat} {w W : World} {a : Nat} {x y z u v : Value} (h : Below B w W) (ha : B ≤ a) : Below B w (((((W.setCell ⟨a, 0, none⟩ x).setCell ⟨a, 1, none⟩ y).setCell ⟨a, 2, none⟩ z).setCell ⟨a, 3, none⟩ u).setCell ⟨a, 4, none⟩ v) :=
  ((((h.setCell ha _).setCell ha _).setCell ha _).setCell ha _).setCell ha _
theorem one_any (w : World) : Calls Tryz.prog 9 #[] w fun e w' => e = .returned (.agg #[.int .i64 1, .int .i64 0, .int .i64 2, .string ⟨#[97]⟩, .string ⟨#[99]⟩]) ∧ Below w.heap.size w w' := by
  obtain ⟨W0, hW0⟩ : ∃ W0, W0 = w.alloc (.cells #[.int .i64 0, .int .i64 0, .int .i64 0, .string ⟨#[]⟩, .string ⟨#[]⟩] 29) := ⟨_, rfl⟩
  have hb0 : Below w.heap.size w W0 := by rw [hW0]; exact mbelow_alloc _ _
  have h : W0.heap[w.heap.size]? = some (.cells #[.int .i64 0, .int .i64 0, .int .i64 0, .string ⟨#[]⟩, .string ⟨#[]⟩] 29 (0, 0)) := by rw [hW0]; exact heap_alloc_new w _
  obtain ⟨c0, c1, c2, c3, c4⟩ := mcells5 h
  have f0 := frozen_of_row _ _ 0 _ _ h
  have f1 := frozen_of_row _ _ 1 _ _ h
  have f2 := frozen_of_row _ _ 2 _ _ h
  have f3 := frozen_of_row _ _ 3 _ _ h
  have f4 := frozen_of_row _ _ 4 _ _ h
  have H := Lib.hid h
  have HB := Lib.hid hb0
  clear h hb0
  go_enter Tryz.func9, Tryz.ntmps9
  go_upto_region 1 with fail
  rw [← hW0]
  clear hW0
  go_wp2_with fail
  refine bodyPost_ret (one_res rfl (set_five _ _ _ _ _ H.out)) rfl ?_
  exact ⟨rfl, below_five HB.out (Nat.le_refl _)⟩
theorem other_any (w : World) : Calls Tryz.prog 10 #[] w fun e w' => e = .returned (.agg #[.int .i64 2, .int .i64 1, .int .i64 1, .string ⟨#[98]⟩, .string ⟨#[98]⟩]) ∧ Below w.heap.size w w' := by
  obtain ⟨W0, hW0⟩ : ∃ W0, W0 = w.alloc (.cells #[.int .i64 0, .int .i64 0, .int .i64 0, .string ⟨#[]⟩, .string ⟨#[]⟩] 29) := ⟨_, rfl⟩
  have hb0 : Below w.heap.size w W0 := by rw [hW0]; exact mbelow_alloc _ _
  have h : W0.heap[w.heap.size]? = some (.cells #[.int .i64 0, .int .i64 0, .int .i64 0, .string ⟨#[]⟩, .string ⟨#[]⟩] 29 (0, 0)) := by rw [hW0]; exact heap_alloc_new w _
  obtain ⟨c0, c1, c2, c3, c4⟩ := mcells5 h
  have f0 := frozen_of_row _ _ 0 _ _ h
  have f1 := frozen_of_row _ _ 1 _ _ h
  have f2 := frozen_of_row _ _ 2 _ _ h
  have f3 := frozen_of_row _ _ 3 _ _ h
  have f4 := frozen_of_row _ _ 4 _ _ h
  have H := Lib.hid h
  have HB := Lib.hid hb0
  clear h hb0
  go_enter Tryz.func10, Tryz.ntmps10
  go_upto_region 1 with fail
  rw [← hW0]
  clear hW0
  go_wp2_with fail
  refine bodyPost_ret (other_res rfl (set_five _ _ _ _ _ H.out)) rfl ?_
  exact ⟨rfl, below_five HB.out (Nat.le_refl _)⟩
set_option maxRecDepth 100000 in
set_option maxHeartbeats 4000000 in
theorem same8_any {w : World} {p q : Option Addr} {cap cap2 : Nat} {l m : List File} {nx lg nx2 lg2 : Int} (hp : FilesAt w p l) (hq : FilesAt w q m) (hl : l.length ≤ 1000) (hm : m.length ≤ 1000) :
    Calls Tryz.prog 11 #[stV nx lg p l.length cap, stV nx2 lg2 q m.length cap2] w (Tells ((⟨nx, lg, l⟩ : State) = ⟨nx2, lg2, m⟩) w) := by
  obtain ⟨W1, hW1⟩ : ∃ W1, W1 = (w.alloc (.cells #[.int .i64 nx, .int .i64 lg, .slice p l.length cap] 24)).alloc (.cells #[.int .i64 nx2, .int .i64 lg2, .slice q m.length cap2] 38) := ⟨_, rfl⟩
  have hb1 : Below w.heap.size w W1 := by rw [hW1]; exact ((Below.refl _ w).alloc (Nat.le_refl _) _).alloc (by simp) _
  have h1 : W1.heap[w.heap.size]? = some (stO nx lg p l.length cap) := by rw [hW1, Below.heap_alloc _ _ _ (by simp)]; exact heap_alloc_new w _
  have h2 : W1.heap[w.heap.size + 1]? = some (rsO nx2 lg2 q m.length cap2) := by
    rw [hW1]
    have := heap_alloc_new (w.alloc (.cells #[.int .i64 nx, .int .i64 lg, .slice p l.length cap] 24)) (.cells #[.int .i64 nx2, .int .i64 lg2, .slice q m.length cap2] 38)
    rwa [World.size_alloc] at this
  have HB1 := Lib.hid hb1
  have HS : Hid (∀ W, Below W1.heap.size W1 W → W.cell? ⟨w.heap.size, 0, none⟩ = some (.int .i64 nx) ∧ W.cell? ⟨w.heap.size, 1, none⟩ = some (.int .i64 lg) ∧ W.cell? ⟨w.heap.size, 2, none⟩ = some (.slice p l.length cap) ∧ W.cell? ⟨w.heap.size + 1, 0, none⟩ = some (.int .i64 nx2) ∧ W.cell? ⟨w.heap.size + 1, 1, none⟩ = some (.int .i64 lg2) ∧ W.cell? ⟨w.heap.size + 1, 2, none⟩ = some (.slice q m.length cap2) ∧ Below W1.heap.size W1 W) := Lib.hid fun W hW => by
    obtain ⟨c0, c1, c2⟩ := st_cells ((hW.block _ (Array.getElem?_eq_some_iff.1 h1).1).trans h1)
    obtain ⟨d0, d1, d2, -⟩ := rs_cells ((hW.block _ (Array.getElem?_eq_some_iff.1 h2).1).trans h2)
    exact ⟨c0, c1, c2, d0, d1, d2, hW⟩
  have HST : Hid (∀ W, Below W1.heap.size W1 W → Calls Tryz.prog 22 #[.agg #[.int .i64 nx, .int .i64 lg, .slice p l.length cap]] W fun e w' => ∃ pv cv, e = .returned (.agg #[.int .i64 nx, .int .i64 lg, .slice pv l.length cv]) ∧ FilesAt w' pv l ∧ Below W1.heap.size W1 w') := Lib.hid fun W hW => by
    refine (state8_any (hp.below (hb1.trans (hW.mono hb1.size))) hl).mono ?_
    rintro e w' ⟨v, rfl, ho, hb⟩
    obtain ⟨pv, cv, rfl, -, -, hf⟩ := ho.files hp.ok
    exact ⟨pv, cv, rfl, hf, hW.trans (hb.mono hW.size)⟩
  have HSA : Hid (∀ W pv cv, FilesAt W pv l → Below W1.heap.size W1 W → Calls Tryz.prog 25 #[.agg #[.int .i64 nx, .int .i64 lg, .slice pv l.length cv], .agg #[.int .i64 nx2, .int .i64 lg2, .slice q m.length cap2]] W fun e w' => ∃ b : Bool, e = .returned (.bool b) ∧ Hid ((b = true ↔ (⟨nx, lg, l⟩ : State) = ⟨nx2, lg2, m⟩) ∧ Below W1.heap.size W1 w')) := Lib.hid fun W pv cv hf hW => by
    refine (refSame_any hf (hq.below (hb1.trans (hW.mono hb1.size))) (by unfold maxLen; omega) (by unfold maxLen; omega)).mono ?_
    rintro e w' ⟨b, rfl, hi, hb⟩
    exact ⟨b, rfl, Lib.hid ⟨hi, hW.trans (hb.mono hW.size)⟩⟩
  have HBD := Lib.hid ((Below.refl W1.heap.size W1).drew)
  have hS0 := Lib.hid (HS.out _ HBD.out)
  unfold stV
  clear hp hq hb1 h1 h2 hl hm
  go_enter Tryz.func11, Tryz.ntmps11
  go_upto_region 1 with fail
  rw [← hW1]
  clear hW1
  go_region_held3 (fun W => W.cell? ⟨w.heap.size, 0, none⟩ = some (.int .i64 nx) ∧ W.cell? ⟨w.heap.size, 1, none⟩ = some (.int .i64 lg) ∧ W.cell? ⟨w.heap.size, 2, none⟩ = some (.slice p l.length cap) ∧ W.cell? ⟨w.heap.size + 1, 0, none⟩ = some (.int .i64 nx2) ∧ W.cell? ⟨w.heap.size + 1, 1, none⟩ = some (.int .i64 lg2) ∧ W.cell? ⟨w.heap.size + 1, 2, none⟩ = some (.slice q m.length cap2) ∧ Below W1.heap.size W1 W)
    (first | exact hS0.out | exact HS.out _ (by assumption) | exact HS.out _ HE.out.2)
    (first
      | (go_at_call 22; (with_reducible refine (HST.out _ HBD.out).mono ?_); rintro e w3 ⟨pv, cv, rfl, hf3, hb3⟩)
      | (go_at_call 25; (with_reducible refine (HSA.out _ _ _ hf3 hb3).mono ?_); rintro e w4 ⟨b, rfl, HE⟩)
      | fail)
  go_wp2_with fail
  go_ret
  exact tells b HE.out.1 (HB1.out.trans (HE.out.2.mono HB1.out.size))
end Go.Proofs.YtbhjpkejdkfenaaGreatDoor
namespace Go.Proofs.YtbhjpkejdkfenaaGreatDoor
open Go.RowKit Go.Shelf
open Mf (File State Edit)
theorem lt_bytes (a b : List UInt8) : Mm.lt ⟨a.toArray⟩ ⟨b.toArray⟩ = Op.bytesLess a b := by
  unfold Mm.lt
  rw [lst_bytes, lst_bytes]
theorem isFile_one : Mf.IsFile oneF := by
  refine ⟨by decide, by decide, by decide, by decide, by decide, by decide, by decide, by decide, ?_, ?_⟩
  · exact (lt_bytes [99] [97]).trans (by decide)
  · exact ⟨fun h => absurd (congrArg ByteArray.data h) (by decide), fun h => absurd h (by decide)⟩
theorem isFile_other : Mf.IsFile otherF := by
  refine ⟨by decide, by decide, by decide, by decide, by decide, by decide, by decide, by decide, ?_, ?_⟩
  · exact (lt_bytes [98] [98]).trans (by decide)
  · exact ⟨fun _ => rfl, fun _ => rfl⟩
def awS : State := ⟨2, 7, [oneF]⟩
theorem right_new : Mf.Right ⟨1, 0, []⟩ := ⟨⟨by decide, by decide⟩, ⟨by decide, by decide⟩, by decide, ⟨(fun _ h => nomatch h), List.Pairwise.nil⟩, (fun _ h => nomatch h), List.Pairwise.nil⟩
theorem right_one {nx lg : Int} (h1 : 2 ≤ nx) (h2 : nx ≤ 1099511627776) (h3 : 0 ≤ lg) (h4 : lg ≤ 1099511627776) : Mf.Right ⟨nx, lg, [oneF]⟩ := by
  refine ⟨⟨by show (1 : Int) ≤ nx; omega, h2⟩, ⟨h3, h4⟩, (show ([oneF] : List File).length ≤ 200 by decide), ⟨fun f hf => ?_, List.pairwise_singleton _ _⟩, fun f hf => ?_, List.pairwise_singleton _ _⟩
  · rw [List.mem_singleton.1 hf]; exact ⟨by decide, by show (1 : Int) < nx; omega⟩
  · rw [List.mem_singleton.1 hf]; exact isFile_one
theorem apply_awake : Mf.apply ⟨1, 0, []⟩ ⟨[], [oneF], 2, 7⟩ = (0, awS) :=
  Mf.apply_of right_new (right_one (by decide) (by decide) (by decide) (by decide)) (l := []) rfl (by decide) (by decide) (List.Perm.refl _)
theorem fiIn_one : FiIn oneF := ⟨⟨by decide, by decide⟩, ⟨by decide, by decide⟩, ⟨by decide, by decide⟩, by decide, by decide⟩
theorem fiIn_other : FiIn otherF := ⟨⟨by decide, by decide⟩, ⟨by decide, by decide⟩, ⟨by decide, by decide⟩, by decide, by decide⟩
/-- A table whose cells lie in a new block. -/
theorem files_new (w : World) (f : File) (hf : FiIn f) (t : TypeId) : FilesAt (w.alloc (.cells #[.int .i64 f.n, .int .i64 f.level, .int .i64 f.count, .string f.first, .string f.last] t)) (some ⟨w.heap.size, 0, none⟩) [f] := fun i hi => by
  have e : i = 0 := by simpa using hi
  subst e
  refine ⟨_, rfl, by simp, fun j hj => ?_, hf⟩
  have h := news_five w (.int .i64 f.n) (.int .i64 f.level) (.int .i64 f.count) (.string f.first) (.string f.last) t j
  have hj2 : j < (fiCells f).length := hj
  show _ = (fiCells f)[j]?
  rw [List.getElem?_eq_getElem hj2]
  rw [Nat.zero_mul, Nat.zero_add]
  exact h _ (List.getElem?_eq_getElem hj2)
theorem spelt_awake (w : World) : SpeltS w awS := by
  refine ⟨spelt_small w (by decide) (by decide), spelt_small w (by decide) (by decide), spelt_small w (by decide) (by decide), fun f hf => ?_⟩
  rw [List.mem_singleton.1 hf]
  exact ⟨spelt_small w (by decide) (by decide), spelt_small w (by decide) (by decide), spelt_small w (by decide) (by decide)⟩
theorem IntsM.nil (W : World) (p : Option Addr) : IntsM W p [] := fun i hi => nomatch hi
theorem text_short {s : State} (h : Mf.Right s) : (textS s).data.toList.length ≤ 1048576 := by
  have := textS_size h
  rw [Array.length_toList]
  show (textS s).size ≤ _
  omega
set_option maxRecDepth 100000 in
set_option maxHeartbeats 4000000 in
theorem awake8_any (w : World) : Calls Tryz.prog 16 #[] w fun e w' => e = .returned (.bool true) ∧ Below w.heap.size w w' := by
  have hrA : Mf.Right awS := right_one (by decide) (by decide) (by decide) (by decide)
  have HR := Lib.hid hrA
  clear hrA
  go_enter Tryz.func16, Tryz.ntmps16
  go_wp2_with fail
  refine (new_b (w0 := w) (Below.refl _ w)).mono ?_
  rintro e w1 ⟨a, rfl, h1⟩
  have HO := Lib.hid (open_newM h1)
  clear h1
  go_wp2_with fail
  refine HO.out.mono ?_
  rintro e w2 ⟨b, rfl, h2⟩
  have H2 := Lib.hid h2
  clear h2 HO
  go_wp2_with fail
  refine (one_any w2).mono ?_
  rintro e w3 ⟨rfl, hb3⟩
  obtain ⟨W4, hW4⟩ : ∃ W4, W4 = w3.alloc (.cells #[.int .i64 1, .int .i64 0, .int .i64 2, .string ⟨#[97]⟩, .string ⟨#[99]⟩] 29) := ⟨_, rfl⟩
  have HC : Hid (Calls Tryz.prog 17 #[.pointer (some ⟨b, 0, none⟩), .agg #[.slice none 0 0, .slice (some ⟨w3.heap.size, 0, none⟩) 1 1, .int .i64 2, .int .i64 7]] W4 fun e w' => e = .returned (.int .i64 0) ∧ Bx w w' a (oneM false (textS awS).data.toList) [(b, manO a (textS awS) false)]) := by
    have h4 : Bx w W4 a Dm.new [(b, manO a ⟨#[]⟩ false)] := by rw [hW4]; exact (H2.out.same hb3).same (mbelow_alloc _ _)
    have hf : FilesAt W4 (some ⟨w3.heap.size, 0, none⟩) [oneF] := by rw [hW4]; exact files_new w3 oneF fiIn_one _
    refine Lib.hid ((Commit_b (nx := 1) (lg := 0) (l := []) (q := none) (capd := 0) (capa := 1) (ds := []) (add := [oneF]) (enx := 2) (elg := 7) h4 ⟨right_new, .inr ⟨rfl, rfl⟩⟩ lost_new (IntsM.nil _ _) hf (by decide) (by decide) ⟨by decide, by decide⟩ ⟨by decide, by decide⟩ apply_awake (fun _ => spelt_awake _)).mono ?_)
    rintro e w' ⟨c, rfl, -, hc⟩
    obtain ⟨D', z, hk, hx⟩ := hc rfl
    obtain ⟨rfl, rfl, rfl⟩ := keepW_all (keep_new (text_short HR.out)) hk
    exact ⟨rfl, hx⟩
  clear hb3 H2
  go_wp2_with fail
  rw [← hW4]
  clear hW4
  refine HC.out.mono ?_
  rintro e w5 ⟨rfl, h5⟩
  have H5 := Lib.hid (crash_b0 h5)
  rw [crash_oneM] at H5
  clear h5 HC
  go_wp2_with fail
  refine H5.out.mono ?_
  rintro e w6 ⟨rfl, h6⟩
  have H6 := Lib.hid (start_b h6)
  rw [start_oneM] at H6
  clear h6 H5
  go_wp2_with fail
  refine H6.out.mono ?_
  rintro e w7 ⟨rfl, h7⟩
  have H7 := Lib.hid (open_oneM (nx := 2) (lg := 7) (l := [oneF]) h7 HR.out (spelt_awake w))
  clear h7 H6
  go_wp2_with fail
  refine H7.out.mono ?_
  rintro e w8 ⟨b8, rfl, h8⟩
  have H8 := Lib.hid (State_b (h8.box _ List.mem_cons_self) (nx := 2) (lg := 7) (l := [oneF]) ⟨HR.out, .inl rfl⟩)
  have HB8 := Lib.hid h8.below
  clear h8 H7
  go_wp2_with fail
  refine H8.out.mono ?_
  rintro e w9 ⟨v, rfl, ho9, hb9⟩
  obtain ⟨p9, c9, rfl, -, -, hf9⟩ := ho9.files (fun f hf => by rw [List.mem_singleton.1 hf]; exact fiIn_one)
  have HF9 := Lib.hid hf9
  have HB9 := Lib.hid (HB8.out.trans (hb9.mono HB8.out.size))
  clear ho9 hb9 hf9 H8 HB8
  go_wp2_with fail
  refine (one_any w9).mono ?_
  rintro e w10 ⟨rfl, hb10⟩
  obtain ⟨W11, hW11⟩ : ∃ W11, W11 = w10.alloc (.cells #[.int .i64 1, .int .i64 0, .int .i64 2, .string ⟨#[97]⟩, .string ⟨#[99]⟩] 35) := ⟨_, rfl⟩
  have hb11 : Below w9.heap.size w9 W11 := by rw [hW11]; exact hb10.trans ((mbelow_alloc _ _).mono hb10.size)
  have hq : FilesAt W11 (some ⟨w10.heap.size, 0, none⟩) [oneF] := by rw [hW11]; exact files_new w10 oneF fiIn_one _
  have HS := Lib.hid (same8_any (nx := 2) (lg := 7) (nx2 := 2) (lg2 := 7) (cap := c9) (cap2 := 1) (HF9.out.below hb11) hq (by decide) (by decide))
  have HB11 := Lib.hid (HB9.out.trans (hb11.mono HB9.out.size))
  unfold stV at HS
  clear hb10 hb11 hq
  go_wp2_with fail
  rw [← hW11]
  clear hW11
  refine HS.out.mono ?_
  rintro e w12 ⟨b, rfl, hb, hb12⟩
  obtain rfl : b = true := by simpa using hb
  have HE := Lib.hid (HB11.out.trans (hb12.mono HB11.out.size))
  clear hb hb12
  go_wp2_with fail
  go_ret
  exact ⟨rfl, HE.out⟩
end Go.Proofs.YtbhjpkejdkfenaaGreatDoor
namespace Go.Proofs.YtbhjpkejdkfenaaGreatDoor
open Go.RowKit Go.Shelf
open Mf (File State Edit)
set_option maxRecDepth 100000 in
theorem great8_any {w : World} {p q r : Option Addr} {n nd na cap cd ca : Nat} {nx lg enx elg : Int} :
    Calls Tryz.prog 19 #[stV nx lg p n cap, edV q nd cd r na ca enx elg] w (Tells (300 < n ∨ 300 < na ∨ 300 < nd) w) := by
  obtain ⟨W1, hW1⟩ : ∃ W1, W1 = (w.alloc (.cells #[.int .i64 nx, .int .i64 lg, .slice p n cap] 24)).alloc (.cells #[.slice q nd cd, .slice r na ca, .int .i64 enx, .int .i64 elg] 33) := ⟨_, rfl⟩
  have hb1 : Below w.heap.size w W1 := by rw [hW1]; exact ((Below.refl _ w).alloc (Nat.le_refl _) _).alloc (by simp) _
  have h1 : W1.heap[w.heap.size]? = some (stO nx lg p n cap) := by rw [hW1, Below.heap_alloc _ _ _ (by simp)]; exact heap_alloc_new w _
  have h2 : W1.heap[w.heap.size + 1]? = some (edO q nd cd r na ca enx elg) := by
    rw [hW1]
    have := heap_alloc_new (w.alloc (.cells #[.int .i64 nx, .int .i64 lg, .slice p n cap] 24)) (.cells #[.slice q nd cd, .slice r na ca, .int .i64 enx, .int .i64 elg] 33)
    rwa [World.size_alloc] at this
  obtain ⟨c0, c1, c2⟩ := st_cells h1
  obtain ⟨d0, d1, d2, d3⟩ := ed_cells h2
  have HB1 := Lib.hid hb1
  unfold stV edV
  clear hb1 h1 h2
  go_enter Tryz.func19, Tryz.ntmps19
  go_upto_region 1 with fail
  rw [← hW1]
  clear hW1
  by_cases e1 : 300 < n
  · have i1 : (300 : Int) < (n : Int) := by omega
    have HE := Lib.hid e1
    go_wp2_with fail
    go_ret
    exact tells true (by simp [HE.out]) HB1.out
  have i1 : ¬ (300 : Int) < (n : Int) := by omega
  by_cases e2 : 300 < na
  · have i2 : (300 : Int) < (na : Int) := by omega
    have HE := Lib.hid e2
    go_wp2_with fail
    go_ret
    exact tells true (by simp [HE.out]) HB1.out
  have i2 : ¬ (300 : Int) < (na : Int) := by omega
  by_cases e3 : 300 < nd
  · have i3 : (300 : Int) < (nd : Int) := by omega
    have HE := Lib.hid e3
    go_wp2_with fail
    go_ret
    exact tells true (by simp [HE.out]) HB1.out
  · have i3 : ¬ (300 : Int) < (nd : Int) := by omega
    have HE : Hid (¬ (300 < n ∨ 300 < na ∨ 300 < nd)) := Lib.hid (by omega)
    clear e1 e2 e3
    go_wp2_with fail
    go_ret
    exact tells false (by simp only [Bool.false_eq_true, false_iff]; exact HE.out) HB1.out
set_option maxRecDepth 100000 in
set_option maxHeartbeats 4000000 in
theorem alike8_any {w : World} {p q : Option Addr} {cap cap2 : Nat} {l m : List File} {nx lg nx2 lg2 : Int} (hp : FilesAt w p l) (hq : FilesAt w q m) (hl : l.length ≤ 1000) (hm : m.length ≤ 1000) :
    Calls Tryz.prog 32 #[stV nx lg p l.length cap, stV nx2 lg2 q m.length cap2] w (Tells ((⟨nx, lg, l⟩ : State) = ⟨nx2, lg2, m⟩) w) := by
  obtain ⟨W1, hW1⟩ : ∃ W1, W1 = (w.alloc (.cells #[.int .i64 nx, .int .i64 lg, .slice p l.length cap] 24)).alloc (.cells #[.int .i64 nx2, .int .i64 lg2, .slice q m.length cap2] 24) := ⟨_, rfl⟩
  have hb1 : Below w.heap.size w W1 := by rw [hW1]; exact ((Below.refl _ w).alloc (Nat.le_refl _) _).alloc (by simp) _
  have h1 : W1.heap[w.heap.size]? = some (stO nx lg p l.length cap) := by rw [hW1, Below.heap_alloc _ _ _ (by simp)]; exact heap_alloc_new w _
  have h2 : W1.heap[w.heap.size + 1]? = some (stO nx2 lg2 q m.length cap2) := by
    rw [hW1]
    have := heap_alloc_new (w.alloc (.cells #[.int .i64 nx, .int .i64 lg, .slice p l.length cap] 24)) (.cells #[.int .i64 nx2, .int .i64 lg2, .slice q m.length cap2] 24)
    rwa [World.size_alloc] at this
  have HB1 := Lib.hid hb1
  have HS : Hid (∀ W, Below W1.heap.size W1 W → W.cell? ⟨w.heap.size, 0, none⟩ = some (.int .i64 nx) ∧ W.cell? ⟨w.heap.size, 1, none⟩ = some (.int .i64 lg) ∧ W.cell? ⟨w.heap.size, 2, none⟩ = some (.slice p l.length cap) ∧ W.cell? ⟨w.heap.size + 1, 0, none⟩ = some (.int .i64 nx2) ∧ W.cell? ⟨w.heap.size + 1, 1, none⟩ = some (.int .i64 lg2) ∧ W.cell? ⟨w.heap.size + 1, 2, none⟩ = some (.slice q m.length cap2) ∧ Below W1.heap.size W1 W) := Lib.hid fun W hW => by
    obtain ⟨c0, c1, c2⟩ := st_cells ((hW.block _ (Array.getElem?_eq_some_iff.1 h1).1).trans h1)
    obtain ⟨d0, d1, d2⟩ := st_cells ((hW.block _ (Array.getElem?_eq_some_iff.1 h2).1).trans h2)
    exact ⟨c0, c1, c2, d0, d1, d2, hW⟩
  have HST : Hid (∀ W, Below W1.heap.size W1 W → Calls Tryz.prog 22 #[.agg #[.int .i64 nx2, .int .i64 lg2, .slice q m.length cap2]] W fun e w' => ∃ pv cv, e = .returned (.agg #[.int .i64 nx2, .int .i64 lg2, .slice pv m.length cv]) ∧ FilesAt w' pv m ∧ Below W1.heap.size W1 w') := Lib.hid fun W hW => by
    refine (state8_any (hq.below (hb1.trans (hW.mono hb1.size))) hm).mono ?_
    rintro e w' ⟨v, rfl, ho, hb⟩
    obtain ⟨pv, cv, rfl, -, -, hf⟩ := ho.files hq.ok
    exact ⟨pv, cv, rfl, hf, hW.trans (hb.mono hW.size)⟩
  have HSA : Hid (∀ W pv cv, FilesAt W pv m → Below W1.heap.size W1 W → Calls Tryz.prog 11 #[.agg #[.int .i64 nx, .int .i64 lg, .slice p l.length cap], .agg #[.int .i64 nx2, .int .i64 lg2, .slice pv m.length cv]] W fun e w' => ∃ b : Bool, e = .returned (.bool b) ∧ Hid ((b = true ↔ (⟨nx, lg, l⟩ : State) = ⟨nx2, lg2, m⟩) ∧ Below W1.heap.size W1 w')) := Lib.hid fun W pv cv hf hW => by
    refine (same8_any (hp.below (hb1.trans (hW.mono hb1.size))) hf hl hm).mono ?_
    rintro e w' ⟨b, rfl, hi, hb⟩
    exact ⟨b, rfl, Lib.hid ⟨hi, hW.trans (hb.mono hW.size)⟩⟩
  have HBD := Lib.hid ((Below.refl W1.heap.size W1).drew)
  have hS0 := Lib.hid (HS.out _ HBD.out)
  unfold stV
  clear hp hq hb1 h1 h2 hl hm
  go_enter Tryz.func32, Tryz.ntmps32
  go_upto_region 1 with fail
  rw [← hW1]
  clear hW1
  go_region_held3 (fun W => W.cell? ⟨w.heap.size, 0, none⟩ = some (.int .i64 nx) ∧ W.cell? ⟨w.heap.size, 1, none⟩ = some (.int .i64 lg) ∧ W.cell? ⟨w.heap.size, 2, none⟩ = some (.slice p l.length cap) ∧ W.cell? ⟨w.heap.size + 1, 0, none⟩ = some (.int .i64 nx2) ∧ W.cell? ⟨w.heap.size + 1, 1, none⟩ = some (.int .i64 lg2) ∧ W.cell? ⟨w.heap.size + 1, 2, none⟩ = some (.slice q m.length cap2) ∧ Below W1.heap.size W1 W)
    (first | exact hS0.out | exact HS.out _ (by assumption) | exact HS.out _ HE.out.2)
    (first
      | (go_at_call 22; (with_reducible refine (HST.out _ HBD.out).mono ?_); rintro e w3 ⟨pv, cv, rfl, hf3, hb3⟩)
      | (go_at_call 11; (with_reducible refine (HSA.out _ _ _ hf3 hb3).mono ?_); rintro e w4 ⟨b, rfl, HE⟩)
      | fail)
  go_wp2_with fail
  go_ret
  exact tells b HE.out.1 (HB1.out.trans (HE.out.2.mono HB1.out.size))
end Go.Proofs.YtbhjpkejdkfenaaGreatDoor
