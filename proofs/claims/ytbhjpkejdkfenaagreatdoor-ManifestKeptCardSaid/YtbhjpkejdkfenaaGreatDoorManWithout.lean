/-
  Walks over package manifest: the library's Clone at rows of tables; without. Conditions: those in the theorems.
-/
import Derived.Test.YtbhjpkejdkfenaaGreatDoorManDelete
namespace Go.Proofs.YtbhjpkejdkfenaaGreatDoor
open Go.RowKit Go.Maps
open Mf (File)

theorem filesCells {w : World} {A : Addr} {l : List File} (hl : FilesAt w (some A) l) : ∀ q u, (fisCells l)[q]? = some u → w.cell? (A.add q) = some u := fun q u hu => by
  have hq := (List.getElem?_eq_some_iff.1 hu).1
  rw [fisCells_length] at hq
  have hm : q % 5 < 5 := Nat.mod_lt _ (by omega)
  have hd : q / 5 < l.length := by omega
  obtain ⟨A', e1, -, h3, -⟩ := hl (q / 5) hd
  cases e1
  rw [show q = q / 5 * 5 + q % 5 by omega] at hu ⊢
  rw [h3 _ hm, ← fisCells_get hd hm]; exact hu
/-- A list is appended to a row of its own. -/
theorem l_append {W0 W : World} {base : Nat} {v : Value} {l m : List File} {p : Option Addr} {cap0 : Nat} (h : OwnFis W0 base v l) (hb0 : Below W0.heap.size W0 W) (hm : FilesAt W p m) (hs : l.length + m.length ≤ 1000000) (hb : base ≤ W0.heap.size) (ty : TypeId) :
    ∃ (pv : Option Addr) (cv : Nat) (W' : World), (Builtin.append_ #[22, 22] ty #[v, .slice p m.length cap0]).run Tryz.prog W = .ok (.slice pv (l.length + m.length) cv) W' ∧
      OwnFis W' base (.slice pv (l.length + m.length) cv) (l ++ m) ∧ GrewF v (.slice pv (l.length + m.length) cv) W0 W' := by
  by_cases h0 : m = []
  · subst h0
    have h1 := h.below hb0
    obtain ⟨pv, cv, rfl, hc, -⟩ := h.shape
    have hc2 : ¬ cv < l.length := by omega
    refine ⟨pv, cv, W, ?_, by rw [List.append_nil]; exact h1, hb0.os, hb0.tape, hb0.output, hb0.size, fun k hk _ => hb0.block k hk, fun k hk => .inl hk⟩
    cases p <;> cases pv <;> simp [hc2, Builtin.append_, run_underlying Tryz.underlying22, loadCellsFrom, storeCells, Builtin.firstCells, Builtin.lenOf, go_sem]
  · have hpos : 0 < m.length := by cases m with
      | nil => exact absurd rfl h0
      | cons _ _ => simp
    obtain ⟨A, rfl⟩ := hm.some hpos
    exact f_append h hb0 A m m.length cap0 rfl (filesCells hm) hs hb ty
theorem own_empty (w : World) : OwnFis (w.alloc (.cells #[] 29)) w.heap.size (.slice (some ⟨w.heap.size, 0, none⟩) 0 0) [] :=
  ⟨rfl, .inr ⟨w.heap.size, 0, #[], rfl, Nat.le_refl _, heap_alloc_new w _, Nat.le_refl _, Nat.zero_le _, rfl, rfl⟩⟩
theorem GrewF.above {w W' : World} {v : Value} (g : GrewF (.slice (some ⟨w.heap.size, 0, none⟩) 0 0) v (w.alloc (.cells #[] 29)) W') : Below w.heap.size w W' :=
  g.below (mbelow_alloc w _) (by simp) fun k hk => by simp [Value.ownBlock] at hk; omega
set_option maxRecDepth 100000 in
set_option maxHeartbeats 1000000 in
theorem CloneF_any {w : World} {p : Option Addr} {cap : Nat} {l : List File} (hl : FilesAt w p l) (hn : l.length ≤ 1000000) :
    Calls Tryz.prog 67 #[.slice p l.length cap] w fun e w' => ∃ v, e = .returned v ∧ OwnFis w' w.heap.size v l ∧ Below w.heap.size w w' := by
  cases p with
  | none =>
    have h0 : l = [] := by
      cases l with
      | nil => rfl
      | cons f r => obtain ⟨A, e, -⟩ := hl 0 (by simp); cases e
    subst h0
    have he : ∀ w : World, (binOp .eql 22 (.slice none 0 cap) (.slice none 0 0)).run Tryz.prog w = .ok (.bool true) w := fun _ => rfl
    go_enter Tryz.func67, Tryz.ntmps67
    go_wp2_with fail
    go_ret
    exact ⟨_, rfl, OwnFis.nil _ _, Below.refl _ _⟩
  | some A =>
    obtain ⟨pv, cv, W', hrun, ho, hg⟩ := l_append (cap0 := cap) (own_empty w) (Below.refl _ _) (hl.below (mbelow_alloc w (.cells #[] 29))) (by simp; omega) (by simp) 22
    simp only [List.length_nil, Nat.zero_add, List.nil_append] at hrun ho hg
    have HO := Lib.hid ho
    have HG := Lib.hid hg.above
    have he : ∀ w : World, (binOp .eql 22 (.slice (some A) l.length cap) (.slice none 0 0)).run Tryz.prog w = .ok (.bool false) w := fun _ => rfl
    clear ho hg hl
    go_enter Tryz.func67, Tryz.ntmps67
    go_wp2_with (at_builtin; refine Lib.wpList_append_run _ rfl (.tmp 5) (.tmp 6) _ _ rfl _ _ rfl rfl _ _ hrun ?_)
    go_ret
    exact ⟨_, rfl, HO.out, HG.out⟩
set_option maxRecDepth 100000 in
set_option maxHeartbeats 1000000 in
theorem isNum_any (f : File) (b : Nat) (n : Int) (w : World) (hb : w.heap[b]? = some (.cells #[.int .i64 n] 3 (0, 0))) :
    Calls Tryz.prog 69 #[fiV f, .pointer (some ⟨b, 0, none⟩)] w (Tells (f.n = n) w) := by
  obtain ⟨fn, lv, ct, fi, la⟩ := f
  unfold fiV
  have c0 : w.cell? ⟨b, 0, none⟩ = some (.int .i64 n) := by rw [cell_of_row w b _ _ _ _ hb]; rfl
  have hlt := mcell_block c0
  have e : (w.alloc (.cells #[.int .i64 fn, .int .i64 lv, .int .i64 ct, .string fi, .string la] 29)).cell? ⟨b, 0, none⟩ = some (.int .i64 n) := ((mbelow_alloc w _).cell hlt).trans c0
  clear hb c0
  go_enter Tryz.func69, Tryz.ntmps69
  go_wp2_with fail
  go_ret
  exact tells (fn == n) (by simp) (mbelow_alloc _ _)
/-- Whole numbers that lie in memory. -/
def IntsM (W : World) (p : Option Addr) (xs : List Int) : Prop := ∀ i (h : i < xs.length), ∃ A, p = some A ∧ A.block < W.heap.size ∧ W.cell? (A.add i) = some (.int .i64 xs[i]) ∧ I64 xs[i]
theorem IntsM.below {W W' : World} {p : Option Addr} {xs : List Int} (h : IntsM W p xs) (hb : Below W.heap.size W W') : IntsM W' p xs := fun i hi => by
  obtain ⟨A, h1, h2, h3, h4⟩ := h i hi
  exact ⟨A, h1, Nat.lt_of_lt_of_le h2 hb.size, (hb.cell (by rw [madd_block]; exact h2)).trans h3, h4⟩
theorem OwnFis.turned {W W' : World} {base g n cap : Nat} {l m : List File} {cur2 : Array Value} (h : OwnFis W base (.slice (some ⟨g, 0, none⟩) n cap) l) (h1 : W'.heap[g]? = some (.cells cur2 29 (0, 0))) (hs : cur2.size = cap * 5) (hmc : m.length ≤ cap) (ht : cur2.toList.take (m.length * 5) = fisCells m) :
    OwnFis W' base (.slice (some ⟨g, 0, none⟩) m.length cap) m := by
  refine ⟨(fisCells_length m), .inr ?_⟩
  rcases h.2 with ⟨e, -⟩ | ⟨g', cap', cur, e, h2, h3, h4, h5, h6, h7⟩
  · cases e
  · cases e
    exact ⟨g, cap, cur2, rfl, h2, h1, hmc, h5, hs, ht⟩
theorem fisCells_take (l : List File) (k : Nat) : (fisCells l).take (k * 5) = fisCells (l.take k) := by
  induction l generalizing k with
  | nil => simp [fisCells]
  | cons f r ih =>
    cases k with
    | zero => simp [fisCells]
    | succ k =>
      have e : fisCells (f :: r) = fiCells f ++ fisCells r := rfl
      have e2 : fisCells ((f :: r).take (k + 1)) = fiCells f ++ fisCells (r.take k) := rfl
      have h5 : (fiCells f).length = 5 := rfl
      rw [e, e2, List.take_append, h5, List.take_of_length_le (by rw [h5]; omega), show (k + 1) * 5 - 5 = k * 5 by omega, ih]
theorem fisCells_drop (l : List File) (k : Nat) : (fisCells l).drop (k * 5) = fisCells (l.drop k) := by
  induction l generalizing k with
  | nil => simp [fisCells]
  | cons f r ih =>
    cases k with
    | zero => simp
    | succ k =>
      have e : fisCells (f :: r) = fiCells f ++ fisCells r := rfl
      have h5 : (fiCells f).length = 5 := rfl
      rw [e, List.drop_append, h5, List.drop_eq_nil_of_le (by rw [h5]; omega), show (k + 1) * 5 - 5 = k * 5 by omega, ih]; rfl
/-- One table is struck out of a row of its own. -/
theorem strike_any {w0 w : World} {base : Nat} {v : Value} {l : List File} {i : Nat} (h : OwnFis w base v l) (hb : Below base w0 w) (hz : base ≤ w.heap.size) (hi : i < l.length) :
    Calls Tryz.prog 70 #[v, .int .i64 (i : Nat), .int .i64 ((i + 1 : Nat) : Int)] w fun e w' => ∃ v', e = .returned v' ∧ OwnFis w' base v' (l.take i ++ l.drop (i + 1)) ∧ Below base w0 w' ∧ w.heap.size ≤ w'.heap.size ∧
      ∀ k, k < w.heap.size → v.ownBlock ≠ some k → w'.heap[k]? = w.heap[k]? := by
  have h0 := h
  rcases h.2 with ⟨rfl, hn⟩ | ⟨g, cap, cur, rfl, h1, h2, h3, h4, h5, h6⟩
  · omega
  · have hlen : (l.take i ++ l.drop (i + 1)).length = i + (l.length - (i + 1)) := by rw [List.length_append, List.length_take, List.length_drop]; omega
    refine (DeleteF_any g l.length cap i (i + 1) cur (fisCells l) w h2 (by omega) (by omega) h3 (by unfold maxLen at h4; omega) h5 h6 (fisCells_one l)).mono ?_
    rintro e w' ⟨rfl, cur2, hc, hs, ht, hT⟩
    rw [fisCells_take, fisCells_drop, ← fisCells_append] at ht
    refine ⟨_, rfl, ?_, ⟨hT.os.trans hb.os, hT.tape.trans hb.tape, hT.output.trans hb.output, Nat.le_trans hb.size hT.size, fun k hk => (hT.block k (by omega) (by omega)).trans (hb.block k hk)⟩, hT.size, fun k hk hn => hT.block k hk fun e => hn (by rw [e]; rfl)⟩
    rw [← hlen] at ht ⊢
    exact h0.turned hc hs (by omega) ht

/-- What without answers. -/
def Left (o : Option (List File)) (w : World) (e : Ending) (w' : World) : Prop :=
  match o with
  | none => e = .returned (.tuple #[.slice none 0 0, .bool false]) ∧ Below w.heap.size w w'
  | some m => ∃ v, e = .returned (.tuple #[v, .bool true]) ∧ OwnFis w' w.heap.size v m ∧ Below w.heap.size w w'
theorem dropAll_append (l : List File) (a b : List Int) : Mf.dropAll l (a ++ b) = (Mf.dropAll l a).bind fun m => Mf.dropAll m b := by
  induction a generalizing l with
  | nil => rfl
  | cons n r ih =>
    show ((Mf.dropOne n l).bind fun m => Mf.dropAll m (r ++ b)) = ((Mf.dropOne n l).bind fun m => Mf.dropAll m r).bind _
    cases Mf.dropOne n l with
    | none => rfl
    | some m => exact ih m
set_option maxRecDepth 100000 in
set_option maxHeartbeats 8000000 in
theorem without_any {w : World} {p q : Option Addr} {cap capd : Nat} {l : List File} {ds : List Int} (hl : FilesAt w p l) (hd : IntsM w q ds) (hn : l.length ≤ 1000000) (hdn : ds.length ≤ 1000000) :
    Calls Tryz.prog 37 #[.slice p l.length cap, .slice q ds.length capd] w (Left (Mf.dropAll l ds) w) := by
  have HIN := Lib.hid hl.ok
  have HD := Lib.hid hd
  have HC := Lib.hid (CloneF_any (cap := cap) hl hn)
  have HN := Lib.hid hn
  clear hl hd hn
  go_enter Tryz.func37, Tryz.ntmps37
  go_wp2_with fail
  refine HC.out.mono ?_
  rintro e w1 ⟨v, rfl, ho, hb⟩
  have HO := Lib.hid ho
  have HB := Lib.hid hb
  clear ho hb
  go_wp2_with fail
  go_loopw [6, 14] (fun lv kv wr => ∃ k : Nat, k ≤ ds.length ∧ kv = .int .i64 (k : Nat) ∧ Hid (∃ m, Mf.dropAll l (ds.take k) = some m ∧ OwnFis wr w.heap.size lv m ∧ Below w.heap.size w wr)) (fun _ kv _ => ds.length - (intOf kv).toNat)
  case atStart => exact ⟨0, Nat.zero_le _, rfl, Lib.hid ⟨l, rfl, HO.out, HB.out⟩⟩
  case round =>
    obtain ⟨k, hk, rfl, H⟩ := hrel
    by_cases hlt : k < ds.length
    · have i1 : (k : Int) < (ds.length : Int) := by omega
      have i2 : (0 : Int) ≤ (k : Int) := by omega
      obtain ⟨m, hm, hom, hbm⟩ := H.out
      obtain ⟨A, rfl, hA, hc, hin⟩ := HD.out k hlt
      have c0 := (hbm.cell (by rw [madd_block]; exact hA)).trans hc
      have HTK : Hid (Mf.dropAll l (ds.take (k + 1)) = Mf.dropOne ds[k] m) := Lib.hid (by
        rw [List.take_succ_eq_append_getElem hlt, dropAll_append, hm]
        show ((Mf.dropOne ds[k] m).bind fun m => Mf.dropAll m []) = _
        cases Mf.dropOne ds[k] m <;> rfl)
      have HNO : Hid (Mf.dropOne ds[k] m = none → Mf.dropAll l ds = none) := Lib.hid fun h => by
        have e : ds = ds.take k ++ (ds[k] :: ds.drop (k + 1)) := by rw [List.getElem_cons_drop, List.take_append_drop]
        rw [e, dropAll_append, hm]
        show ((Mf.dropOne ds[k] m).bind fun m => Mf.dropAll m (ds.drop (k + 1))) = none
        rw [h]; rfl
      have HML : Hid (∀ f ∈ m, FiIn f) := Lib.hid fun f hf => HIN.out f ((Mf.dropAll_some hm).subset hf)
      have HMS : Hid (m.length ≤ 1000000) := Lib.hid (Nat.le_trans (Mf.dropAll_some hm).length_le HN.out)
      generalize ds[k] = n at *
      obtain ⟨b, hbb⟩ : ∃ b, b = wr.heap.size := ⟨_, rfl⟩
      have HBX : Hid (b = wr.heap.size) := Lib.hid hbb
      have h2 := hom.below (mbelow_alloc wr (.cells #[.int .i64 n] 3))
      have hb2 := hbm.alloc hbm.size (.cells #[.int .i64 n] 3)
      have hrow := heap_alloc_new wr (.cells #[.int .i64 n] 3)
      obtain ⟨pm, cm, rfl, -, -, hfm⟩ := h2.files HML.out
      have hidx := indexNum (cap := cm) (b := wr.heap.size) (P := fun f => f.n = n) hfm (Nat.le_trans HMS.out (by decide)) fun f _ W2 hW2 => isNum_any f wr.heap.size n W2 ((hW2.block _ (by simp)).trans hrow)
      have HI := Lib.hid hidx
      have H2 := Lib.hid h2
      have HB2 := Lib.hid hb2
      clear hm hom hbm hA hc hin h2 hb2 hrow hidx hfm hbb H
      go_wp2_with fail
      refine HI.out.mono ?_
      rintro e w3 ⟨j, rfl, hj, hb3⟩
      have HJ := Lib.hid hj
      have HB3 := Lib.hid (HB2.out.trans (hb3.mono HB2.out.size))
      have HO3 := Lib.hid (H2.out.below hb3)
      clear hj hb3
      by_cases hneg : j < 0
      · have HX : Hid (Mf.dropOne n m = none) := Lib.hid (by
          rcases HJ.out with ⟨-, h⟩ | ⟨k', -, h, -⟩
          · exact Mf.dropOne_index h
          · omega)
        go_wp2_with fail
        go_ret2
        rw [HNO.out HX.out]
        exact ⟨rfl, HB3.out⟩
      · obtain ⟨i, rfl⟩ : ∃ i : Nat, j = (i : Int) := ⟨j.toNat, by omega⟩
        have hx : ∃ hi : i < m.length, m[i].n = n ∧ ∀ f ∈ m.take i, ¬ f.n = n := by
          rcases HJ.out with ⟨h, -⟩ | ⟨k', h1, h2, h3, h4⟩
          · omega
          · obtain rfl : i = k' := by omega
            exact ⟨h1, h3, h4⟩
        obtain ⟨hi, hx1, hx2⟩ := hx
        have HX : Hid (Mf.dropOne n m = some (m.take i ++ m.drop (i + 1))) := Lib.hid (Mf.dropOne_at hi hx1 hx2)
        have hz3 : w.heap.size ≤ w3.heap.size := HB3.out.size
        have hcl := strike_any (i := i) HO3.out HB3.out hz3 hi
        rw [show ((i + 1 : Nat) : Int) = (i : Int) + 1 by omega] at hcl
        have HCL := Lib.hid hcl
        have him : i < 1000000 := Nat.lt_of_lt_of_le hi HMS.out
        clear hx1 hx2 hcl HJ hz3 hi
        go_wp2_with fail
        refine HCL.out.mono ?_
        rintro e w4 ⟨v4, rfl, h4, hb4, -, -⟩
        have H4 := Lib.hid h4
        have HB4 := Lib.hid hb4
        clear h4 hb4
        go_wp2_with fail
        go_roundw
        case rel => exact ⟨k + 1, by omega, by go_num, Lib.hid ⟨_, HTK.out.trans HX.out, H4.out, HB4.out⟩⟩
        case measure => simp [intOf]; omega
    · obtain rfl : k = ds.length := by omega
      have i1 : ¬ (ds.length : Int) < (ds.length : Int) := by omega
      rw [List.take_length] at H
      go_wp2_with fail
      go_ret2
      obtain ⟨m, hm, h1, h2⟩ := H.out
      rw [hm]
      exact ⟨_, rfl, h1, h2⟩
end Go.Proofs.YtbhjpkejdkfenaaGreatDoor
