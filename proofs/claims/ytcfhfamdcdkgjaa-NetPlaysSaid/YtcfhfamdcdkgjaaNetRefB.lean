/-
  Walks over the document's answer for nets: without, Lose, Come, Send, Dup. Conditions: those in the theorems.
-/
import Derived.Test.YtcfhfamdcdkgjaaNetRefA
namespace Go.Proofs.Ytcfhfamdcdkgjaa
open Go.RowKit Go.Maps

/-- Where a row is another one, and the net's first cell tells it. -/
theorem RRep.setRow {w w4 : World} {r : Nat} {N : Nm.Net} {rv cv v' : Value} {row' : List Nm.Pk} (h : RRep w r N rv cv) (hr : Nm.Right { N with row := row' }) (ht : Turned (fun k => k ∈ rowBlk rv) w w4)
    (ho : w4.ownsRow 0 23 3 v' row'.length (rowCells row')) (hb : ∀ k ∈ rowBlk v', k ∈ rowBlk rv ∨ w.heap.size ≤ k) : RRep (w4.setCell ⟨r, 0, none⟩ v') r { N with row := row' } v' cv := by
  have hlt := h.lt
  have hc4 : w4.heap[r]? = some (.cells #[rv, cv] 61 (0, 0)) := (ht.block r hlt.1 h.ar).trans h.cell
  have hna : ∀ k ∈ rowBlk v', k ≠ r := fun k hk e => by
    rcases hb k hk with h1 | h1
    · exact h.ar (e ▸ h1)
    · have := hlt.1; omega
  refine ⟨hr, by rw [set1 hc4]; rfl, row_of ho fun k hk => set_other _ _ _ _ _ (hna k hk), ?_, fun e => hna r e rfl, h.aw, fun k hk e => ?_⟩
  · exact (show WaysAt _ cv N from h.ways.of fun k hk => by
      rw [set_other _ _ _ _ _ (fun e : k = r => h.aw (e ▸ hk))]
      exact ht.block k (hlt.2.2 k hk) fun e => h.rc k e hk)
  · rcases hb k hk with h1 | h1
    · exact h.rc k h1 e
    · have := hlt.2.2 k e; omega
theorem RRep.fin {w w4 : World} {r : Nat} {N : Nm.Net} {rv cv v' : Value} {row' : List Nm.Pk} {S : Nat → Prop} (h : RRep w r N rv cv) (hS : RIn S r rv cv) (hr : Nm.Right { N with row := row' }) (ht : Turned (fun k => k ∈ rowBlk rv) w w4)
    (ho : w4.ownsRow 0 23 3 v' row'.length (rowCells row')) (hb : ∀ k ∈ rowBlk v', k ∈ rowBlk rv ∨ w.heap.size ≤ k) :
    RNet (w4.setCell ⟨r, 0, none⟩ v') r { N with row := row' } (Grow S w) ∧ Turned S w (w4.setCell ⟨r, 0, none⟩ v') :=
  ⟨⟨v', cv, h.setRow hr ht ho hb, ⟨grow_old _ hS.1, fun k hk => (hb k hk).elim (fun e => grow_old _ (hS.2.1 k e)) fun e => grow_new _ e, fun k hk => grow_old _ (hS.2.2 k hk)⟩⟩,
    (ht.mono hS.2.1).trans (turned_setCell (S := S) _ _ _ hS.1) fun _ e => .inl e⟩
/-- One packet is appended, that lies in a block. -/
theorem rpush {W : World} {v : Value} {xs : List Nm.Pk} (hv : W.ownsRow 0 23 3 v xs.length (rowCells xs)) {z : Nat} {p : Nm.Pk} (hz : W.heap[z]? = some (.cells #[.int .i64 p.f, .int .i64 p.t, .string p.d] 23 (0, 0))) (hl : xs.length ≤ 2000) (ty : TypeId) :
    ∃ (pv : Option Addr) (nl cv : Nat) (W' : World), (Builtin.append_ #[43, 43] ty #[v, .slice (some ⟨z, 0, none⟩) 1 1]).run Try.prog W = .ok (.slice pv nl cv) W' ∧
      W'.ownsRow 0 23 3 (.slice pv nl cv) (xs ++ [p]).length (rowCells (xs ++ [p])) ∧ Turned (fun k => k ∈ rowBlk v) W W' ∧ ∀ k ∈ rowBlk (.slice pv nl cv), k ∈ rowBlk v ∨ W.heap.size ≤ k := by
  have hsrc : W.ownsRow 0 23 3 (.slice (some ⟨z, 0, none⟩) (List.length [p]) 1) (List.length [p]) (rowCells [p]) :=
    ⟨rfl, .inr ⟨_, 1, _, rfl, Nat.zero_le _, hz, Nat.le_refl _, by unfold maxLen; omega, rfl, rfl⟩⟩
  obtain ⟨pv, cv, w4, hrun, ho, hT, hb⟩ := append_part hv hsrc 0 1 (by simp) ⟨z, 0, none⟩ (.inr (by simp)) 1 (by omega) (xs.length + 1) rfl ty
  have e1 : List.take 1 (List.drop 0 [p]) = [p] := rfl
  rw [e1] at ho
  exact ⟨pv, xs.length + 1, cv, w4, hrun, by rw [List.length_append]; exact ho, hT, hb⟩

set_option maxRecDepth 100000 in
set_option maxHeartbeats 4000000 in
theorem refWithout_net {w : World} {r : Nat} {N : Nm.Net} {S : Nat → Prop} (h : RNet w r N S) (k : Nat) (hk : k < N.row.length) :
    Calls Try.prog 36 #[.pointer (some ⟨r, 0, none⟩), .int .i64 (k : Nat)] w fun e w' => e = .returned (.tuple #[]) ∧ RNet w' r { N with row := N.row.eraseIdx k } (Grow S w) ∧ Turned S w w' := by
  obtain ⟨rv, cv, hR, hS⟩ := h
  have hright : Nm.Right { N with row := N.row.eraseIdx k } := ⟨Nat.le_trans (List.length_eraseIdx_le _ _) hR.right.few, fun p hp => hR.right.ok p (List.mem_of_mem_eraseIdx hp)⟩
  have hfew := hR.right.few
  obtain ⟨c0, -, -⟩ := cells2 hR.cell
  obtain ⟨g, cap, cur, rfl, hg, hnc, hcm, -, -⟩ := row_openG hR.row (by omega)
  unfold maxLen at hcm
  obtain ⟨j, hj⟩ : ∃ j, j = k + 1 := ⟨_, rfl⟩
  obtain ⟨A2, hA2, hA3⟩ : ∃ A2 : Addr, (if cap = j then some (⟨g, 0, none⟩ : Addr) else some ⟨g, j * 3, none⟩) = some A2 ∧ (N.row.length - j = 0 ∨ A2 = ⟨g, j * 3, none⟩) := by
    by_cases h : cap = j
    · exact ⟨_, if_pos h, .inl (by omega)⟩
    · exact ⟨_, if_neg h, .inr rfl⟩
  have hv0 : w.ownsRow 0 23 3 (.slice none 0 0) (List.length ([] : List Nm.Pk)) (rowCells []) := World.ownsRow_nil _ _ _ _
  obtain ⟨p8, c8, W8, hrun8, ho8, hT8, hb8⟩ := append_part hv0 hR.row 0 k (by omega) ⟨g, 0, none⟩ (.inr (by simp)) cap (by simp; omega) k (by simp) 43
  rw [List.nil_append, List.drop_zero] at ho8
  have hB8 : Below w.heap.size w W8 := hT8.below (Nat.le_refl _) fun k hk => nomatch hk
  have hrow8 := row_of hR.row fun k hk => hB8.block k (row_lt hR.row k hk)
  have hlt : (N.row.take k).length = k := by rw [List.length_take]; omega
  have hle : (N.row.eraseIdx k).length = k + (N.row.length - j) := by rw [List.length_eraseIdx, if_pos hk]; omega
  obtain ⟨p9, c9, W9, hrun9, ho9, hT9, hb9⟩ := append_part (xs := N.row.take k) (by rw [hlt]; exact ho8) hrow8 j (N.row.length - j) (by omega) A2 hA3 (cap - j) (by omega) (N.row.eraseIdx k).length (by omega) 43
  have e1 : N.row.take k ++ (N.row.drop j).take (N.row.length - j) = N.row.eraseIdx k := by
    have h0 : (N.row.drop j).take (N.row.length - j) = N.row.drop j := List.take_of_length_le (by rw [List.length_drop]; omega)
    rw [h0, List.eraseIdx_eq_take_drop_succ, hj]
  rw [e1] at ho9
  have hblk8 : ∀ k' ∈ rowBlk (.slice p8 k c8), w.heap.size ≤ k' := fun k' hk' => (hb8 k' hk').elim (fun e => nomatch e) id
  have hB9 : Below w.heap.size w W9 := hB8.trans (hT9.below hB8.size hblk8)
  have hnew9 : ∀ k' ∈ rowBlk (.slice p9 (N.row.eraseIdx k).length c9), w.heap.size ≤ k' := fun k' hk' => (hb9 k' hk').elim (hblk8 k') fun e => Nat.le_trans hB8.size e
  have hfin := hR.fin hS hright (turned_of_below hB9) ho9 fun k' hk' => .inr (hnew9 k' hk')
  have c8 := (cells2 (hR.below hB8).cell).1
  obtain ⟨c9, -, c9f⟩ := cells2 (hR.below hB9).cell
  have c9g := c9f 0
  have i0 : (0 : Int) ≤ (k : Int) := by omega
  have i1 : (k : Int) ≤ (cap : Int) := by omega
  have i2 : (k : Int) ≤ (N.row.length : Int) := by omega
  have i3 : (k : Int) + 1 = (j : Int) := by omega
  have i4 : IntKind.i64.wrap (j : Int) = (j : Int) := IntWalk.i64_in _ (by omega)
  have i5 : (0 : Int) ≤ (j : Int) := by omega
  have i6 : (j : Int) ≤ (N.row.length : Int) := by omega
  have i7 : (j : Int) ≤ (cap : Int) := by omega
  have i8 : j ≤ N.row.length := by omega
  have i9 : j ≤ cap := by omega
  have HF := Lib.hid hfin
  clear hfin hR hS hright hfew hg hv0 ho8 hT8 hb8 hB8 hrow8 hlt hle ho9 hT9 hb9 e1 hblk8 hB9 hnew9 hA3 hj c9f
  generalize (N.row.eraseIdx k).length = m at *
  generalize N.row.length = n at *
  go_enter Try.func36, Try.ntmps36
  go_wp2_with (at_builtin; first
    | refine Lib.wpList_append_run _ rfl (.tmp 5) (.tmp 11) _ _ rfl _ _ rfl rfl _ _ hrun8 ?_
    | refine Lib.wpList_append_run _ rfl (.tmp 14) (.tmp 21) _ _ rfl _ _ rfl rfl _ _ hrun9 ?_)
  go_returns
  exact ⟨rfl, HF.out⟩

set_option maxHeartbeats 400000 in
theorem refLose_none (i : Int) (w : World) : Calls Try.prog 32 #[.pointer none, .int .i64 i] w fun e w' => e = .returned (.bool false) ∧ w = w' := by
  go_enter Try.func32, Try.ntmps32
  go_wp2_with fail
  go_ret
  exact ⟨rfl, rfl⟩
set_option maxRecDepth 100000 in
set_option maxHeartbeats 1000000 in
theorem refLose_net {w : World} {r : Nat} {N : Nm.Net} {S : Nat → Prop} (h : RNet w r N S) (i : Int) (hi : Nm.Wf i) :
    Calls Try.prog 32 #[.pointer (some ⟨r, 0, none⟩), .int .i64 i] w fun e w' => e = .returned (.bool (Nm.lose N i).1) ∧ RNet w' r (Nm.lose N i).2 (Grow S w) ∧ Turned S w w' := by
  have HH := Lib.hid h
  obtain ⟨rv, cv, hR, hS⟩ := h
  have hfew := hR.right.few
  obtain ⟨c0, -, -⟩ := cells2 hR.cell
  obtain ⟨p, cap, rfl, -, -⟩ := row_shape hR.row
  unfold Nm.lose
  by_cases h0 : N.row.length = 0
  · rw [if_pos (List.length_eq_zero_iff.1 h0)]
    rw [h0] at c0
    clear hR hS
    go_enter Try.func32, Try.ntmps32
    go_wp2_with fail
    go_ret
    exact ⟨rfl, HH.out.mono grow_old, Turned.refl S w⟩
  · rw [if_neg fun e => h0 (by rw [e]; rfl)]
    have d1 : ((N.row.length : Int) == 0) = false := by rw [beq_eq_false_iff_ne]; omega
    have hpl := fun w => refPlace_any i N.row.length w hi (by omega) hfew
    have hwo := refWithout_net HH.out (Nm.place i N.row.length) (Nm.place_lt i (by omega))
    have HD := Lib.hid (show ({ N with row := N.row.eraseIdx (Nm.place i N.row.length) } : Nm.Net) = Nm.drop N i from rfl)
    clear hR hS hfew h0
    go_enter Try.func32, Try.ntmps32
    go_wp2_with fail
    refine (hpl _).mono ?_
    rintro e w' ⟨rfl, rfl⟩
    go_wp2_with fail
    refine hwo.mono ?_
    rintro e w' ⟨rfl, hq⟩
    have HQ := Lib.hid hq
    clear hq hpl hwo
    go_wp2_with fail
    go_ret
    exact ⟨rfl, HQ.out⟩
end Go.Proofs.Ytcfhfamdcdkgjaa
