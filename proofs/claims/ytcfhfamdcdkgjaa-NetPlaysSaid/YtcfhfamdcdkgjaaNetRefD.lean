/-
  Walks over the document's answer for nets: Dup, Cut. Conditions: those in the theorems.
-/
import Derived.Test.YtcfhfamdcdkgjaaNetRefC
import Derived.Deep.CutBlock
import Derived.Deep.LoopGhost
theorem Nm.seven (a b c d : Bool) : (a = false ∧ c = false ∧ ((a && b) || (c && d)) = false) ∨ (a = false ∧ c = true ∧ d = false ∧ ((a && b) || (c && d)) = false) ∨ (a = false ∧ c = true ∧ d = true ∧ ((a && b) || (c && d)) = true) ∨
    (a = true ∧ b = true ∧ ((a && b) || (c && d)) = true) ∨ (a = true ∧ b = false ∧ c = false ∧ ((a && b) || (c && d)) = false) ∨ (a = true ∧ b = false ∧ c = true ∧ d = false ∧ ((a && b) || (c && d)) = false) ∨ (a = true ∧ b = false ∧ c = true ∧ d = true ∧ ((a && b) || (c && d)) = true) := by
  cases a <;> cases b <;> cases c <;> cases d <;> simp
namespace Go.Proofs.Ytcfhfamdcdkgjaa
open Go.RowKit Go.Maps

set_option maxHeartbeats 400000 in
theorem refDup_none (i : Int) (w : World) : Calls Try.prog 33 #[.pointer none, .int .i64 i] w fun e w' => e = .returned (.bool false) ∧ w = w' := by
  go_enter Try.func33, Try.ntmps33
  go_wp2_with fail
  go_ret
  exact ⟨rfl, rfl⟩
set_option maxRecDepth 100000 in
set_option maxHeartbeats 4000000 in
theorem refDup_net {w : World} {r : Nat} {N : Nm.Net} {S : Nat → Prop} (h : RNet w r N S) (i : Int) (hi : Nm.Wf i) {c : Bool} {N' : Nm.Net} (e : Nm.dup N i = (c, N')) :
    Calls Try.prog 33 #[.pointer (some ⟨r, 0, none⟩), .int .i64 i] w fun e w' => e = .returned (.bool c) ∧ RNet w' r N' (Grow S w) ∧ Turned S w w' := by
  have HH := Lib.hid h
  obtain ⟨rv, cv, hR, hS⟩ := h
  have hfew := hR.right.few
  obtain ⟨c0, -, -⟩ := cells2 hR.cell
  obtain ⟨p, cap, rfl, hnc, -⟩ := row_shape hR.row
  unfold Nm.dup at e
  by_cases h0 : N.row.length = 0
  · rw [if_pos (List.length_eq_zero_iff.1 h0)] at e
    obtain ⟨rfl, rfl⟩ := Prod.mk.inj e
    rw [h0] at c0
    clear hR hS e
    go_enter Try.func33, Try.ntmps33
    go_wp2_with fail
    go_ret
    exact ⟨rfl, HH.out.mono grow_old, Turned.refl S w⟩
  · have hne : N.row ≠ [] := fun e => h0 (by rw [e]; rfl)
    rw [if_neg hne] at e
    have d1 : ((N.row.length : Int) == 0) = false := by rw [beq_eq_false_iff_ne]; omega
    by_cases hmost : 1024 ≤ N.row.length
    · have d2 : decide ((1024 : Int) ≤ (N.row.length : Int)) = true := decide_eq_true (by omega)
      rw [if_pos hmost] at e
      obtain ⟨rfl, rfl⟩ := Prod.mk.inj e
      clear hR hS e hmost hne h0 hfew
      go_enter Try.func33, Try.ntmps33
      go_wp2_with fail
      go_ret
      exact ⟨rfl, HH.out.mono grow_old, Turned.refl S w⟩
    · have d2 : decide ((1024 : Int) ≤ (N.row.length : Int)) = false := decide_eq_false (by omega)
      rw [if_neg hmost] at e
      obtain ⟨rfl, rfl⟩ := Prod.mk.inj e
      have hpl := fun w => refPlace_any i N.row.length w hi (by omega) hfew
      have hk := Nm.place_lt i (Nm.pos_of_ne hne)
      have hok := hR.right.at_ i hne
      obtain ⟨g, cap', e4, -, x0, x1, x2⟩ := pk_cells hR.row hk
      cases e4
      rw [← Nm.at_eq i hne] at x0 x1 x2
      have hk0 : (0 : Int) ≤ ((Nm.place i N.row.length : Nat) : Int) := by omega
      have hk1 : ((Nm.place i N.row.length : Nat) : Int) < (N.row.length : Int) := by omega
      have hlast : Nm.Right { N with row := N.row ++ [Nm.at_ N i] } := hR.right.add hok hmost
      generalize Nm.at_ N i = q at *
      obtain ⟨f, t, d⟩ := q
      simp only at x0 x1 x2
      have hpush : ∃ (pv : Option Addr) (nl cv' : Nat) (w4 : World), (Builtin.append_ #[43, 43] 43 #[.slice (some ⟨g, 0, none⟩) N.row.length cap, .slice (some ⟨w.heap.size, 0, none⟩) 1 1]).run Try.prog (w.alloc (.cells #[.int .i64 f, .int .i64 t, .string d] 23)).drew = .ok (.slice pv nl cv') w4 ∧
            w4.cell? ⟨r, 0, none⟩ = some (.slice (some ⟨g, 0, none⟩) N.row.length cap) ∧ w4.frozen? ⟨r, 0, none⟩ = false ∧ RNet (w4.setCell ⟨r, 0, none⟩ (.slice pv nl cv')) r { N with row := N.row ++ [⟨f, t, d⟩] } (Grow S w) ∧ Turned S w (w4.setCell ⟨r, 0, none⟩ (.slice pv nl cv')) := by
        have hb5 : Below w.heap.size w (w.alloc (.cells #[.int .i64 f, .int .i64 t, .string d] 23)).drew := ((Below.refl _ w).alloc (Nat.le_refl _) _).drew
        have hR5 := hR.below hb5
        obtain ⟨pv, nl, cv', w4, hrun, ho, hT, hbk⟩ := rpush hR5.row (p := ⟨f, t, d⟩) (z := w.heap.size) (heap_alloc_new w _) (by omega) 43
        have h4 := (hT.block r hR5.lt.1 hR5.ar).trans hR5.cell
        obtain ⟨q0, -, qf⟩ := cells2 h4
        have hfin := hR5.fin hS hlast hT ho hbk
        exact ⟨pv, nl, cv', w4, hrun, q0, qf 0, hfin.1.mono fun k hk => hk.imp id fun e => by have := hb5.size; omega, ((turned_of_below (S := S) hb5).trans hfin.2 fun _ e => .inl e)⟩
      obtain ⟨pv, nl, cv', w4, hrun, q0, q1, hfin⟩ := hpush
      have x4 : ∀ o, (w.alloc o).cell? ⟨r, 0, none⟩ = some (.slice (some ⟨g, 0, none⟩) N.row.length cap) := fun o => (cells2 (hR.below ((Below.refl _ w).alloc (Nat.le_refl _) o)).cell).1
      have HF := Lib.hid hfin
      clear hR hS hfin e hmost hne h0 hfew hk hok hlast HH
      generalize Nm.place i N.row.length = k at *
      generalize N.row.length = n at *
      go_enter Try.func33, Try.ntmps33
      go_wp2_with fail
      go_region_law (first
        | (go_simp; go_at_call 35; refine (hpl _).mono ?_; rintro e w3 ⟨rfl, rfl⟩)
        | (refine step_append_run rfl (.tmp 27) (.tmp 41) 43 43 rfl _ _ (by simp [Act.eval, Act.put]) (by simp [Act.eval, Act.put]) _ _ hrun ?_))
      all_goals
        go_wp2_with fail
        go_ret
        exact ⟨rfl, HF.out⟩

/-! ### Cut -/
theorem infoWay : (Try.prog.info? 70).map (fun i => (i.zero, i.size, i.bytes)) = some (some (.agg #[.int .i64 0, .int .i64 0]), 2, 16) := by kernel_rfl
/-- One way is appended, that lies in a block. -/
theorem wpush {W : World} {v : Value} {xs : List (Int × Int)} (hv : W.ownsRow 0 70 2 v xs.length (waysCells xs)) {z : Nat} {p : Int × Int} (hz : W.heap[z]? = some (.cells #[.int .i64 p.1, .int .i64 p.2] 70 (0, 0))) (hl : xs.length ≤ 2000000) (ty : TypeId) :
    ∃ (pv : Option Addr) (cv : Nat) (W' : World), (Builtin.append_ #[59, 59] ty #[v, .slice (some ⟨z, 0, none⟩) 1 1]).run Try.prog W = .ok (.slice pv (xs ++ [p]).length cv) W' ∧
      W'.ownsRow 0 70 2 (.slice pv (xs ++ [p]).length cv) (xs ++ [p]).length (waysCells (xs ++ [p])) ∧ Turned (fun k => k ∈ rowBlk v) W W' ∧ ∀ k ∈ rowBlk (.slice pv (xs ++ [p]).length cv), k ∈ rowBlk v ∨ W.heap.size ≤ k := by
  obtain ⟨i0, hi0, hz0, hz1, hz2⟩ := info_parts infoWay
  have hnews : ∀ j u, (waysCells [p])[j]? = some u → W.cell? ((⟨z, 0, none⟩ : Addr).add j) = some u := fun j u hu => by
    have hadd : (⟨z, 0, none⟩ : Addr).add j = ⟨z, j, none⟩ := by unfold Addr.add; split <;> simp_all
    rw [hadd, cell_of_row W z _ _ _ _ hz]
    simpa [waysCells, wayCells] using hu
  obtain ⟨v', W', hrun, ho, hg, hnil, hat⟩ := run_append_own_at (P := Try.prog) W 0 59 ty 70 i0 _ 2 16 Try.underlying59 hi0 hz0 hz1 hz2 rfl (by decide) v _ _ hv
    ⟨z, 0, none⟩ 1 1 (waysCells [p]) (by simp [waysCells, wayCells]) hnews (waysCells_one _) (by unfold maxLen; omega) (by omega) (Nat.zero_le _)
  rw [← waysCells_append] at ho
  have hl1 : xs.length + 1 = (xs ++ [p]).length := by simp
  rw [hl1] at ho
  obtain ⟨pv, cv, rfl, -, -⟩ := row_shapeG ho
  refine ⟨pv, cv, W', hrun, ho, turned_grown (S := fun k => k ∈ rowBlk v) hg fun k hk => ownBlock_row.1 hk, fun k hk => ?_⟩
  rcases hat with e | e
  · exact .inl (ownBlock_row.1 (by rw [← e]; exact ownBlock_row.2 hk))
  · have e2 := ownBlock_row.2 hk
    rw [e] at e2
    have e3 := Option.some.inj e2
    exact .inr (by omega)

set_option maxHeartbeats 400000 in
theorem refCut_none (x y : Int) (on : Bool) (w : World) : Calls Try.prog 34 #[.pointer none, .int .i64 x, .int .i64 y, .bool on] w fun e w' => e = .returned (.tuple #[]) ∧ w = w' := by
  go_enter Try.func34, Try.ntmps34
  go_wp2_with fail
  go_returns
  exact ⟨rfl, rfl⟩
/-- Behind an act: a list of ways in new blocks. -/
structure WList (w wr : World) (v : Value) (l : List (Int × Int)) : Prop where
  row : wr.ownsRow 0 70 2 v l.length (waysCells l)
  new : ∀ k ∈ rowBlk v, w.heap.size ≤ k
  below : Below w.heap.size w wr
theorem WList.push {w wr W1 : World} {v : Value} {l : List (Int × Int)} (h : WList w wr v l) (hb : Below wr.heap.size wr W1) {z : Nat} {p : Int × Int} (hz : W1.heap[z]? = some (.cells #[.int .i64 p.1, .int .i64 p.2] 70 (0, 0))) (hl : l.length ≤ 2000000) (ty : TypeId) :
    ∃ (pv : Option Addr) (cv : Nat) (W' : World), (Builtin.append_ #[59, 59] ty #[v, .slice (some ⟨z, 0, none⟩) 1 1]).run Try.prog W1 = .ok (.slice pv (l ++ [p]).length cv) W' ∧ WList w W' (.slice pv (l ++ [p]).length cv) (l ++ [p]) := by
  have hrow := row_ofG h.row fun k hk => hb.block k (row_ltG h.row k hk)
  obtain ⟨pv, cv, W', hrun, ho, hT, hbk⟩ := wpush hrow hz hl ty
  have hB := h.below.trans (hb.mono h.below.size)
  exact ⟨pv, cv, W', hrun, ho, fun k hk => (hbk k hk).elim (h.new k) fun e => Nat.le_trans hB.size e, hB.trans (hT.below hB.size h.new)⟩
theorem WList.same {w wr W1 : World} {v : Value} {l : List (Int × Int)} (h : WList w wr v l) (hb : Below wr.heap.size wr W1) : WList w W1 v l :=
  ⟨row_ofG h.row fun k hk => hb.block k (row_ltG h.row k hk), h.new, h.below.trans (hb.mono h.below.size)⟩
/-- The list takes the place of the net's ways. -/
theorem RRep.setWays {w W : World} {r : Nat} {N M : Nm.Net} {rv cv v : Value} {l : List (Int × Int)} {S : Nat → Prop} (h : RRep w r N rv cv) (hS : RIn S r rv cv) (hl : WList w W v l) (hr : M.row = N.row) (hc : ∀ x y, M.cut (min x y) (max x y) = Nm.isIn l x y) (hn : l.length ≤ M.cuts) :
    RNet (W.setCell ⟨r, 1, none⟩ v) r M (Grow S w) ∧ Turned S w (W.setCell ⟨r, 1, none⟩ v) := by
  have hW := h.below hl.below
  have hlt := h.lt
  have hna : ∀ k ∈ rowBlk v, k ≠ r := fun k hk e => by have := hl.new k hk; omega
  have hra : ∀ k ∈ rowBlk rv, k ≠ r := fun k hk e => h.ar (e ▸ hk)
  refine ⟨⟨rv, v, ⟨⟨by rw [hr]; exact h.right.few, fun p hp => h.right.ok p (by rw [hr] at hp; exact hp)⟩, by rw [set1 hW.cell]; rfl, ?_, ⟨l, row_ofG hl.row fun k hk => set_other _ _ _ _ _ (hna k hk), hc, hn⟩, h.ar, fun e => hna r e rfl, fun k hk e => ?_⟩, ⟨grow_old _ hS.1, fun k hk => grow_old _ (hS.2.1 k hk), fun k hk => grow_new _ (hl.new k hk)⟩⟩, ?_⟩
  · rw [hr]; exact row_of hW.row fun k hk => set_other _ _ _ _ _ (hra k hk)
  · have h1 := hlt.2.1 k hk; have h2 := hl.new k e; omega
  · exact (turned_of_below (S := S) hl.below).trans (turned_setCell (S := S) _ _ _ hS.1) fun _ e => .inl e

set_option maxRecDepth 100000 in
set_option maxHeartbeats 8000000 in
theorem refCut_net {w : World} {r : Nat} {N : Nm.Net} {S : Nat → Prop} (h : RNet w r N S) (x y : Int) (on : Bool) (hn : N.cuts ≤ 1000000) :
    Calls Try.prog 34 #[.pointer (some ⟨r, 0, none⟩), .int .i64 x, .int .i64 y, .bool on] w fun e w' => e = .returned (.tuple #[]) ∧ RNet w' r (Nm.cutTo N x y on) (Grow S w) ∧ Turned S w w' := by
  obtain ⟨rv, cv, hR, hS⟩ := h
  obtain ⟨l, hl, hcut, hlen⟩ := hR.ways
  obtain ⟨p, cap, rfl, hnc, hcm⟩ := row_shapeG hl
  have hlk : l.length ≤ 1000000 := by omega
  have hcell : ∀ W, Below w.heap.size w W → W.cell? ⟨r, 1, none⟩ = some (.slice p l.length cap) ∧ W.frozen? ⟨r, 1, none⟩ = false := fun W hW => ⟨(cells2 (hR.below hW).cell).2.1, (cells2 (hR.below hW).cell).2.2 1⟩
  have hways : ∀ W, Below w.heap.size w W → W.ownsRow 0 70 2 (.slice p l.length cap) l.length (waysCells l) := fun W hW => row_ofG hl fun k hk => hW.block k (row_ltG hl k hk)
  have hfin : ∀ W v, WList w W v (Nm.keep l x y ++ (if on then [(x, y)] else [])) → RNet (W.setCell ⟨r, 1, none⟩ v) r (Nm.cutTo N x y on) (Grow S w) ∧ Turned S w (W.setCell ⟨r, 1, none⟩ v) := fun W v hv =>
    hR.setWays hS hv rfl (fun u v => by rw [Nm.isIn_keep, ← hcut]; rfl) (by
      have h1 : (Nm.keep l x y).length ≤ l.length := List.length_filter_le _ _
      rw [List.length_append]
      show _ ≤ N.cuts + 1
      cases on <;> simp <;> omega)
  have hkl : ∀ k, (Nm.keep (l.take k) x y).length ≤ 1000000 := fun k => Nat.le_trans (List.length_filter_le _ _) (by rw [List.length_take]; omega)
  have HC := Lib.hid hcell
  have HW := Lib.hid hways
  have HF := Lib.hid hfin
  have HKL := Lib.hid hkl
  have hstart : WList w w (.slice none 0 0) (Nm.keep (l.take 0) x y) := ⟨World.ownsRow_nil _ _ _ _, (fun _ e => nomatch e), Below.refl _ _⟩
  have HST := Lib.hid hstart
  clear hcell hways hl hcut hlen hR hcm hS hfin hkl hstart
  go_enter Try.func34, Try.ntmps34
  go_wp2_with fail
  go_loopg [8, 9] l.length (fun g sv iv wr => ∃ (k : Nat) (pv : Option Addr) (cv : Nat), g = l.length - k ∧ k ≤ l.length ∧ iv = .int .i64 (k : Nat) ∧ sv = .slice pv (Nm.keep (l.take k) x y).length cv ∧ Hid (WList w wr (.slice pv (Nm.keep (l.take k) x y).length cv) (Nm.keep (l.take k) x y)))
  case atStart => exact ⟨0, none, 0, rfl, Nat.zero_le _, rfl, rfl, HST⟩
  case round =>
    obtain ⟨k, pv, cv, rfl, hk, rfl, rfl, HN⟩ := hrel
    have c1 := (HC.out wr HN.out.below).1
    by_cases hlt : k < l.length
    · have i1 : (k : Int) < (l.length : Int) := by omega
      have i2 : (0 : Int) ≤ (k : Int) := by omega
      have i3 : (l.length : Int) ≤ 1000000 := by omega
      obtain ⟨g, cap', e, g0, g1⟩ := ways_cells (HW.out wr HN.out.below) hlt
      cases e
      have hkt := Nm.keep_take (x := x) (y := y) hlt
      have hk5 := HKL.out k
      generalize l[k] = q at *
      obtain ⟨q1, q2⟩ := q
      simp only at *
      obtain ⟨W1, hW1⟩ : ∃ W1, wr.alloc (.cells #[.int .i64 q1, .int .i64 q2] 70) = W1 := ⟨_, rfl⟩
      obtain ⟨z, hz⟩ : ∃ z, wr.heap.size = z := ⟨_, rfl⟩
      have hB1 : Below wr.heap.size wr W1 := by rw [← hW1]; exact (Below.refl _ wr).alloc (Nat.le_refl _) _
      have hN1 := HN.out.same hB1
      obtain ⟨z0, z1, -⟩ := cells2 (show W1.heap[z]? = some (.cells #[.int .i64 q1, .int .i64 q2] 70 (0, 0)) from by rw [← hW1, ← hz]; exact heap_alloc_new wr _)
      obtain ⟨pv2, cv2, W2, hrun, hN2⟩ := hN1.push ((Below.refl _ W1).alloc (Nat.le_refl _) (.cells #[.int .i64 q1, .int .i64 q2] 70)) (z := W1.heap.size) (p := (q1, q2)) (heap_alloc_new W1 _) (by omega) 59
      have HN1 := Lib.hid hN1
      have HN2 := Lib.hid hN2
      have HKT := Lib.hid hkt
      clear HN hB1 hN1 hN2 hkt
      rcases Nm.seven (q1 == x) (q2 == y) (q1 == y) (q2 == x) with ⟨a1, a2, hv⟩ | ⟨a1, a2, a3, hv⟩ | ⟨a1, a2, a3, hv⟩ | ⟨a1, a2, hv⟩ | ⟨a1, a2, a3, hv⟩ | ⟨a1, a2, a3, a4, hv⟩ | ⟨a1, a2, a3, a4, hv⟩
      all_goals
        have hkt := HKT.out
        rw [hv] at hkt
        simp only [Bool.false_eq_true, if_true, if_false, List.append_nil] at hkt
        have HK2 := Lib.hid hkt
        clear hkt hv
        go_wp2_with (at_builtin; refine Lib.wpList_append_run _ rfl (.tmp 52) (.tmp 54) _ _ rfl _ _ rfl rfl _ _ hrun ?_)
        go_roundg (l.length - (k + 1))
        case measure => omega
        case rel => first
          | exact ⟨k + 1, _, _, rfl, by omega, by go_num, by rw [HK2.out, List.length_append]; rfl, Lib.hid (by rw [HK2.out]; exact HN2.out)⟩
          | exact ⟨k + 1, _, _, rfl, by omega, by go_num, by rw [HK2.out], Lib.hid (by rw [HK2.out]; exact HN1.out)⟩
    · obtain rfl : k = l.length := by omega
      have i0 : ¬ (l.length : Int) < (l.length : Int) := by omega
      rw [List.take_length] at HN ⊢
      have hkn := HKL.out l.length
      rw [List.take_length] at hkn
      cases on with
      | false =>
        have HQ := Lib.hid (HF.out wr _ (by rw [if_neg (by decide), List.append_nil]; exact HN.out))
        have q1 := HC.out wr HN.out.below
        have q2 := q1.2
        clear HN HF HC HW
        go_wp2_with fail
        go_returns
        exact ⟨rfl, HQ.out⟩
      | true =>
        obtain ⟨pv2, cv2, W2, hrun, hN2⟩ := HN.out.push ((Below.refl _ wr).alloc (Nat.le_refl _) (.cells #[.int .i64 x, .int .i64 y] 70)) (z := wr.heap.size) (p := (x, y)) (heap_alloc_new wr _) (by omega) 59
        have HQ := Lib.hid (HF.out W2 _ (by rw [if_pos rfl]; exact hN2))
        have q1 := HC.out W2 hN2.below
        have q2 := q1.2
        have q3 := q1.1
        clear HN HF HC HW hN2 q1
        go_wp2_with (at_builtin; refine Lib.wpList_append_run _ rfl (.tmp 57) (.tmp 61) _ _ rfl _ _ rfl rfl _ _ hrun ?_)
        go_returns
        exact ⟨rfl, by have h := HQ.out; simpa only [List.length_append, List.length_singleton] using h⟩
end Go.Proofs.Ytcfhfamdcdkgjaa
