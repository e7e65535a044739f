/-
  Walks over the document's answer for nets: Come, Send, Dup. Conditions: those in the theorems.
-/
import Derived.Test.YtcfhfamdcdkgjaaNetRefB
import Derived.Test.YtcfhfamdcdkgjaaNetLaw
namespace Go.Proofs.Ytcfhfamdcdkgjaa
open Go.RowKit Go.Maps

/-- The cells of a packet of a row. -/
theorem pk_cells {w : World} {v : Value} {l : List Nm.Pk} (h : w.ownsRow 0 23 3 v l.length (rowCells l)) {k : Nat} (hk : k < l.length) :
    ∃ g cap, v = .slice (some ⟨g, 0, none⟩) l.length cap ∧ l.length ≤ cap ∧ w.cell? ⟨g, k * 3, none⟩ = some (.int .i64 l[k].f) ∧ w.cell? ⟨g, k * 3 + 1, none⟩ = some (.int .i64 l[k].t) ∧ w.cell? ⟨g, k * 3 + 2, none⟩ = some (.string l[k].d) := by
  obtain ⟨g, cap, cur, rfl, hg, h1, h2, h3, h4⟩ := row_openG h (by omega)
  have key : ∀ j, j < 3 → w.cell? ⟨g, k * 3 + j, none⟩ = (pkCells l[k])[j]? := fun j hj => by
    rw [cell_of_row w g _ cur _ _ hg, ← rowCells_get hk hj, ← h4, List.getElem?_take, if_pos (by omega)]; simp
  exact ⟨g, cap, rfl, h1, key 0 (by omega), key 1 (by omega), key 2 (by omega)⟩

set_option maxHeartbeats 400000 in
theorem refCome_none (i : Int) (w : World) : Calls Try.prog 23 #[.pointer none, .int .i64 i] w fun e w' => e = .returned (.tuple #[pkV Nm.zero, .bool false]) ∧ Below w.heap.size w w' := by
  have HB := Lib.hid ((Below.refl _ w).alloc (Nat.le_refl _) (.cells #[.int .i64 0, .int .i64 0, .string ⟨#[]⟩] 23))
  go_enter Try.func23, Try.ntmps23
  go_wp2_with fail
  refine bodyPost_ret (v := .tuple #[pkV Nm.zero, .bool false]) (by simp [results, Try.results23, go_sem, pkV, Nm.zero]) rfl ⟨rfl, ?_⟩
  have hB := HB.out
  first | exact hB | exact ((hB.setCell (by simp) _).setCell (by simp) _).setCell (by simp) _

/-- A block of the call's own is written, where the net does not lie. -/
theorem RNet.set3 {w W : World} {r b : Nat} {N : Nm.Net} {S V : Nat → Prop} (h : RNet W r N V) (ht : Turned S w W) (hV : ∀ k, V k → S k ∨ w.heap.size ≤ k) (hb : ¬ V b) (hw : w.heap.size ≤ b) (v0 v1 v2 : Value) :
    RNet (((W.setCell ⟨b, 0, none⟩ v0).setCell ⟨b, 1, none⟩ v1).setCell ⟨b, 2, none⟩ v2) r N (Grow S w) ∧ Turned S w (((W.setCell ⟨b, 0, none⟩ v0).setCell ⟨b, 1, none⟩ v1).setCell ⟨b, 2, none⟩ v2) := by
  refine ⟨(h.kept fun k hk => ?_).mono hV, ?_⟩
  · have hne : k ≠ b := fun e => hb (e ▸ hk)
    rw [set_other _ _ _ _ _ hne, set_other _ _ _ _ _ hne, set_other _ _ _ _ _ hne]
  · have one : ∀ (W : World) (j : Nat) (v : Value), Turned (fun k => k = b) W (W.setCell ⟨b, j, none⟩ v) := fun W j v => turned_setCell _ _ _ rfl
    exact ((ht.trans (one _ 0 v0) fun k e => .inr (e ▸ hw)).trans (one _ 1 v1) fun k e => .inr (e ▸ hw)).trans (one _ 2 v2) fun k e => .inr (e ▸ hw)
set_option maxRecDepth 100000 in
set_option maxHeartbeats 4000000 in
theorem refCome_net {w : World} {r : Nat} {N : Nm.Net} {S : Nat → Prop} (h : RNet w r N S) (i : Int) (hi : Nm.Wf i) (hn : N.cuts ≤ 1000000) {f t : Int} {d : ByteArray} {c : Bool} {N' : Nm.Net} (e : Nm.come N i = (⟨f, t, d⟩, c, N')) :
    Calls Try.prog 23 #[.pointer (some ⟨r, 0, none⟩), .int .i64 i] w fun e w' => e = .returned (.tuple #[.agg #[.int .i64 f, .int .i64 t, .string d], .bool c]) ∧ RNet w' r N' (Grow S w) ∧ Turned S w w' := by
  obtain ⟨W1, hW1⟩ : ∃ W1, w.alloc (.cells #[.int .i64 0, .int .i64 0, .string ⟨#[]⟩] 23) = W1 := ⟨_, rfl⟩
  have hB1 : Below w.heap.size w W1 := by rw [← hW1]; exact (Below.refl _ w).alloc (Nat.le_refl _) _
  have hU := h.tight.below hB1
  have hT1 : Turned S w W1 := turned_of_below hB1
  have hlt := h.tight
  obtain ⟨b, hb⟩ : ∃ b, w.heap.size = b := ⟨_, rfl⟩
  have hq1 : W1.heap[b]? = some (.cells #[.int .i64 0, .int .i64 0, .string ⟨#[]⟩] 23 (0, 0)) := by rw [← hW1, ← hb]; exact heap_alloc_new w _
  have hsz : W1.heap.size = b + 1 := by rw [← hW1, ← hb]; simp
  have HT := Lib.hid hT1
  obtain ⟨rv, cv, hR, hS⟩ := h
  have hfew := hR.right.few
  obtain ⟨c0, -, -⟩ := cells2 (hR.below hB1).cell
  obtain ⟨p, cap, rfl, -, -⟩ := row_shape hR.row
  obtain ⟨z0, z1, z2, zf⟩ := cells3 hq1
  have zf0 := zf 0
  have zf1 := zf 1
  have zf2 := zf 2
  by_cases h0 : N.row.length = 0
  · unfold Nm.come at e
    rw [if_pos (List.length_eq_zero_iff.1 h0)] at e
    obtain ⟨e1, e2⟩ := Prod.mk.inj e
    obtain ⟨rfl, rfl⟩ := Prod.mk.inj e2
    obtain ⟨rfl, rfl, rfl⟩ := Nm.Pk.mk.inj e1
    rw [h0] at c0
    have HF := Lib.hid (fun v0 v1 v2 => hU.set3 hT1 (fun k hk => .inl hk.1) (b := b) (fun e => by have := e.2; omega) (by omega) v0 v1 v2)
    clear hR hS hB1 hq1 hT1 h0 hfew e e1 e2 zf hU hlt
    go_enter Try.func23, Try.ntmps23
    go_wp2_with fail
    refine bodyPost_ret (v := .tuple #[.agg #[.int .i64 0, .int .i64 0, .string ⟨#[]⟩], .bool false]) (by simp [results, Try.results23, go_sem, *]) rfl ⟨rfl, ?_⟩
    exact HF.out _ _ _
  · have hne : N.row ≠ [] := fun e => h0 (by rw [e]; rfl)
    have d1 : ((N.row.length : Int) == 0) = false := by rw [beq_eq_false_iff_ne]; omega
    have hpl := fun w => refPlace_any i N.row.length w hi (by omega) hfew
    have hk := Nm.place_lt i (Nm.pos_of_ne hne)
    obtain ⟨g, cap', e4, hnc, x0, x1, x2⟩ := pk_cells (row_of hR.row fun k hk => hB1.block k (row_lt hR.row k hk)) hk
    cases e4
    rw [← Nm.at_eq i hne] at x0 x1 x2
    have hcm : Nm.come N i = (if N.isCut (Nm.at_ N i) then (Nm.zero, false, Nm.drop N i) else (Nm.at_ N i, true, Nm.drop N i)) := by unfold Nm.come; rw [if_neg hne]
    have hcut : N.isCut (Nm.at_ N i) = N.cut (min (Nm.at_ N i).f (Nm.at_ N i).t) (max (Nm.at_ N i).f (Nm.at_ N i).t) := rfl
    have hk0 : (0 : Int) ≤ ((Nm.place i N.row.length : Nat) : Int) := by omega
    have hk1 : ((Nm.place i N.row.length : Nat) : Int) < (N.row.length : Int) := by omega
    have HD : ({ N with row := N.row.eraseIdx (Nm.place i N.row.length) } : Nm.Net) = Nm.drop N i := rfl
    rw [e] at hcm
    obtain ⟨q, hq⟩ : ∃ q, Nm.at_ N i = q := ⟨_, rfl⟩
    rw [hq] at hcm hcut x0 x1 x2
    clear hq e
    obtain ⟨qf, qt, qd⟩ := q
    simp only at hcut x0 x1 x2
    obtain ⟨W2, hW2⟩ : ∃ W2, W1.alloc (.cells #[.int .i64 qf, .int .i64 qt, .string qd] 23) = W2 := ⟨_, rfl⟩
    have hB2 : Below W1.heap.size W1 W2 := by rw [← hW2]; exact (Below.refl _ W1).alloc (Nat.le_refl _) _
    have hsz2 : W2.heap.size = b + 2 := by rw [← hW2]; simp; omega
    have hq2 : W2.heap[b + 1]? = some (.cells #[.int .i64 qf, .int .i64 qt, .string qd] 23 (0, 0)) := by rw [← hW2, ← hsz]; exact heap_alloc_new W1 _
    have hq3 : W2.heap[b]? = some (.cells #[.int .i64 0, .int .i64 0, .string ⟨#[]⟩] 23 (0, 0)) := (hB2.block b (by omega)).trans hq1
    have hU2 := hU.below hB2
    have hwo := refWithout_net hU2 (Nm.place i N.row.length) hk
    rw [HD] at hwo
    have HWO := Lib.hid hwo
    have HQ := Lib.hid (And.intro hq2 hq3)
    have HT2 := Lib.hid (hT1.trans (turned_of_below (S := S) hB2) fun _ e => .inl e)
    have hcuts : (Nm.drop N i).cuts ≤ 1000000 := hn
    have hcut2 : (Nm.drop N i).cut (min qf qt) (max qf qt) = N.isCut ⟨qf, qt, qd⟩ := hcut.symm
    clear hR hS hB1 hq1 hT1 h0 hfew zf hU hlt hU2 hwo hB2 hcut HT z0 z1 z2 zf0 zf1 zf2 HD hne hq2 hq3
    generalize Nm.drop N i = M at *
    generalize Nm.place i N.row.length = k at *
    go_enter Try.func23, Try.ntmps23
    go_wp2_with fail
    refine (hpl _).mono ?_
    rintro e w' ⟨rfl, rfl⟩
    go_wp2_with fail
    refine HWO.out.mono ?_
    rintro e W3 ⟨rfl, hn3, ht3⟩
    have hV : ¬ Grow (fun k => S k ∧ k < w.heap.size) W2 b := fun e => e.elim (fun e => by have := e.2; omega) fun e => by omega
    have hb1 := (ht3.block b (by omega) fun e => by omega).trans HQ.out.2
    have hb2 := (ht3.block (b + 1) (by omega) fun e => by omega).trans HQ.out.1
    have hT3 : Turned S w W3 := HT2.out.trans ht3 fun k e => .inl e.1
    have his := refIs_rep hn3 qf qt hcuts
    have HN3 := Lib.hid hn3
    have HB3 := Lib.hid (And.intro hb1 hb2)
    have HT3 := Lib.hid hT3
    obtain ⟨z0, z1, z2, -⟩ := cells3 hb2
    have HL := Lib.hid ht3.size
    clear hn3 hb1 hb2 hT3 ht3 HWO HQ HT2 hpl x0 x1 x2
    go_wp2_with fail
    refine his.mono ?_
    rintro e W4 ⟨rfl, hB4⟩
    rw [hcut2]
    have hL := HL.out
    have hF := fun v0 v1 v2 => (HN3.out.below hB4).set3 (HT3.out.trans (turned_of_below (S := S) hB4) fun _ e => .inl e) (b := b) (fun k hk => hk.elim (fun e => .inl e.1) fun e => .inr (by omega)) hV (by omega) v0 v1 v2
    have HF := Lib.hid hF
    obtain ⟨y0, y1, y2, -⟩ := cells3 ((hB4.block (b + 1) (by omega)).trans HB3.out.2)
    obtain ⟨z0, z1, z2, zf⟩ := cells3 ((hB4.block b (by omega)).trans HB3.out.1)
    have zf0 := zf 0
    have zf1 := zf 1
    have zf2 := zf 2
    clear hF his hV HN3 HB3 HT3 zf hB4 hcut2
    cases hc : N.isCut ⟨qf, qt, qd⟩ with
    | true =>
      rw [hc] at hcm
      obtain ⟨e1, e2⟩ := Prod.mk.inj hcm
      obtain ⟨rfl, rfl⟩ := Prod.mk.inj e2
      obtain ⟨rfl, rfl, rfl⟩ := Nm.Pk.mk.inj e1
      clear e1 e2 hcm hc
      go_wp2_with fail
      refine bodyPost_ret (v := .tuple #[.agg #[.int .i64 0, .int .i64 0, .string ⟨#[]⟩], .bool false]) (by simp [results, Try.results23, go_sem, *]) rfl ⟨rfl, ?_⟩
      exact HF.out _ _ _
    | false =>
      rw [hc] at hcm
      obtain ⟨e1, e2⟩ := Prod.mk.inj hcm
      obtain ⟨rfl, rfl⟩ := Prod.mk.inj e2
      obtain ⟨rfl, rfl, rfl⟩ := Nm.Pk.mk.inj e1
      clear e1 e2 hcm hc
      go_wp2_with fail
      refine bodyPost_ret (v := .tuple #[.agg #[.int .i64 f, .int .i64 t, .string d], .bool true]) (by simp [results, Try.results23, go_sem, *]) rfl ⟨rfl, ?_⟩
      exact HF.out _ _ _

set_option maxHeartbeats 400000 in
theorem refSend_none (p : Nm.Pk) (w : World) : Calls Try.prog 31 #[.pointer none, pkV p] w fun e w' => e = .returned (.bool false) ∧ Below w.heap.size w w' := by
  obtain ⟨f, t, d⟩ := p
  have hB := Lib.hid ((Below.refl _ w).alloc (Nat.le_refl _) (.cells #[.int .i64 f, .int .i64 t, .string d] 23))
  unfold pkV
  go_enter Try.func31, Try.ntmps31
  go_wp2_with fail
  go_ret
  exact ⟨rfl, hB.out⟩
set_option maxRecDepth 100000 in
set_option maxHeartbeats 4000000 in
theorem refSend_net {w : World} {r : Nat} {N : Nm.Net} {S : Nat → Prop} (h : RNet w r N S) (f t : Int) (d : ByteArray) (hf : Nm.Wf f) (ht : Nm.Wf t) (hd : d.size ≤ maxLen) (hn : N.cuts ≤ 1000000) {c : Bool} {N' : Nm.Net} (e : Nm.send N ⟨f, t, d⟩ = (c, N')) :
    Calls Try.prog 31 #[.pointer (some ⟨r, 0, none⟩), .agg #[.int .i64 f, .int .i64 t, .string d]] w fun e w' => e = .returned (.bool c) ∧ RNet w' r N' (Grow S w) ∧ Turned S w w' := by
  obtain ⟨W1, hW1⟩ : ∃ W1, w.alloc (.cells #[.int .i64 f, .int .i64 t, .string d] 23) = W1 := ⟨_, rfl⟩
  have hB1 : Below w.heap.size w W1 := by rw [← hW1]; exact (Below.refl _ w).alloc (Nat.le_refl _) _
  have hU := h.tight.below hB1
  have hT1 : Turned S w W1 := turned_of_below hB1
  obtain ⟨b, hb⟩ : ∃ b, w.heap.size = b := ⟨_, rfl⟩
  have hq1 : W1.heap[b]? = some (.cells #[.int .i64 f, .int .i64 t, .string d] 23 (0, 0)) := by rw [← hW1, ← hb]; exact heap_alloc_new w _
  have hsz : W1.heap.size = b + 1 := by rw [← hW1, ← hb]; simp
  obtain ⟨rv, cv, hR, hS⟩ := h
  have hfew := hR.right.few
  have hR1 := hR.below hB1
  obtain ⟨c0, -, -⟩ := cells2 hR1.cell
  obtain ⟨p, cap, rfl, -, -⟩ := row_shape hR.row
  obtain ⟨z0, z1, z2, -⟩ := cells3 hq1
  have hsame : RNet W1 r N (Grow S w) ∧ Turned S w W1 := ⟨hU.mono fun k hk => .inl hk.1, hT1⟩
  have HS := Lib.hid hsame
  unfold maxLen at hd
  by_cases hlong : 8192 < d.size
  · have d1 : decide ((8192 : Int) < (d.size : Int)) = true := decide_eq_true (by omega)
    unfold Nm.send at e
    rw [if_pos hlong] at e
    obtain ⟨rfl, rfl⟩ := Prod.mk.inj e
    clear hR hR1 hS hsame hU hT1 hB1 hq1 hlong e
    go_enter Try.func31, Try.ntmps31
    go_wp2_with fail
    go_ret
    exact ⟨rfl, HS.out⟩
  · have d1 : decide ((8192 : Int) < (d.size : Int)) = false := decide_eq_false (by omega)
    by_cases hmost : 1024 ≤ N.row.length
    · have d2 : decide ((1024 : Int) ≤ (N.row.length : Int)) = true := decide_eq_true (by omega)
      unfold Nm.send at e
      rw [if_neg hlong, if_pos hmost] at e
      obtain ⟨rfl, rfl⟩ := Prod.mk.inj e
      clear hR hR1 hS hsame hU hT1 hB1 hq1 hlong hmost e
      go_enter Try.func31, Try.ntmps31
      go_wp2_with fail
      go_ret
      exact ⟨rfl, HS.out⟩
    · have d2 : decide ((1024 : Int) ≤ (N.row.length : Int)) = false := decide_eq_false (by omega)
      have his := refIs_rep hU f t hn
      have hcut : N.cut (min f t) (max f t) = N.isCut ⟨f, t, d⟩ := rfl
      rw [hcut] at his
      unfold Nm.send at e
      rw [if_neg hlong, if_neg hmost] at e
      cases hc : N.isCut ⟨f, t, d⟩ with
      | true =>
        rw [hc] at his e
        obtain ⟨rfl, rfl⟩ := Prod.mk.inj e
        have hback : ∀ W, Below W1.heap.size W1 W → RNet W r N (Grow S w) ∧ Turned S w W := fun W hB => ⟨hsame.1.below hB, hT1.trans (turned_of_below (S := S) hB) fun _ e => .inl e⟩
        have HBK := Lib.hid hback
        clear hR hR1 hS hsame hU hT1 hB1 hq1 hlong hmost e hcut hc hback
        go_enter Try.func31, Try.ntmps31
        go_wp2_with fail
        refine his.mono ?_
        rintro e W2 ⟨rfl, hB2⟩
        have HQ := Lib.hid (HBK.out _ hB2)
        clear hB2
        go_wp2_with fail
        go_ret
        exact ⟨rfl, HQ.out⟩
      | false =>
        rw [hc] at his e
        obtain ⟨rfl, rfl⟩ := Prod.mk.inj e
        have hok : (⟨f, t, d⟩ : Nm.Pk).Ok := ⟨hf, ht, by show d.size ≤ 8192; omega⟩
        have hcell : ∀ W, Below W1.heap.size W1 W → W.cell? ⟨b, 0, none⟩ = some (.int .i64 f) ∧ W.cell? ⟨b, 1, none⟩ = some (.int .i64 t) ∧ W.cell? ⟨b, 2, none⟩ = some (.string d) ∧ W.cell? ⟨r, 0, none⟩ = some (.slice p N.row.length cap) := fun W hB => by
          obtain ⟨y0, y1, y2, -⟩ := cells3 ((hB.block b (by omega)).trans hq1)
          exact ⟨y0, y1, y2, (cells2 (hR1.below hB).cell).1⟩
        have hpush : ∀ W, Below W1.heap.size W1 W → ∃ (pv : Option Addr) (nl cv' : Nat) (w4 : World), (Builtin.append_ #[43, 43] 43 #[.slice p N.row.length cap, .slice (some ⟨W.heap.size, 0, none⟩) 1 1]).run Try.prog (W.alloc (.cells #[.int .i64 f, .int .i64 t, .string d] 23)).drew = .ok (.slice pv nl cv') w4 ∧
            w4.cell? ⟨r, 0, none⟩ = some (.slice p N.row.length cap) ∧ w4.frozen? ⟨r, 0, none⟩ = false ∧ RNet (w4.setCell ⟨r, 0, none⟩ (.slice pv nl cv')) r { N with row := N.row ++ [⟨f, t, d⟩] } (Grow S w) ∧ Turned S w (w4.setCell ⟨r, 0, none⟩ (.slice pv nl cv')) := fun W hB => by
          have hb5 : Below W1.heap.size W1 (W.alloc (.cells #[.int .i64 f, .int .i64 t, .string d] 23)).drew := (hB.alloc hB.size _).drew
          have hR5 := hR1.below hb5
          obtain ⟨pv, nl, cv', w4, hrun, ho, hT, hbk⟩ := rpush hR5.row (p := ⟨f, t, d⟩) (z := W.heap.size) (heap_alloc_new W _) (by omega) 43
          have h4 := (hT.block r hR5.lt.1 hR5.ar).trans hR5.cell
          obtain ⟨q0, -, qf⟩ := cells2 h4
          have hfin := hR5.fin hS (hR5.right.add hok hmost) hT ho hbk
          exact ⟨pv, nl, cv', w4, hrun, q0, qf 0, hfin.1.mono fun k hk => hk.imp id fun e => by have := hb5.size; omega, ((hT1.trans (turned_of_below (S := S) hb5) fun _ e => .inl e).trans hfin.2 fun _ e => .inl e)⟩
        have HC := Lib.hid hcell
        have HP := Lib.hid hpush
        clear hR hR1 hS hsame hU hT1 hB1 hq1 hlong hmost e hcut hc hok hcell hpush HS hfew
        generalize N.row.length = n at *
        go_enter Try.func31, Try.ntmps31
        go_wp2_with fail
        refine his.mono ?_
        rintro e W2 ⟨rfl, hB2⟩
        obtain ⟨x0, x1, x2, x3⟩ := HC.out _ hB2
        have x4 := fun o => (HC.out (W2.alloc o) (hB2.alloc hB2.size o)).2.2.2
        obtain ⟨pv, nl, cv', w4, hrun, q0, q1, hfin⟩ := HP.out _ hB2
        have HF := Lib.hid hfin
        clear hB2 hfin HC HP his z0 z1 z2 c0
        go_wp2_with fail
        go_region_law (refine step_append_run rfl (.tmp 32) (.tmp 34) 43 43 rfl _ _ (by simp [Act.eval, Act.put]) (by simp [Act.eval, Act.put]) _ _ hrun ?_)
        all_goals
          go_wp2_with fail
          go_ret
          exact ⟨rfl, HF.out⟩
end Go.Proofs.Ytcfhfamdcdkgjaa
