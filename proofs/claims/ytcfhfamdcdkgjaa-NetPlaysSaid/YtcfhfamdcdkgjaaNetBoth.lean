/-
  Walks over the laws of package net: both. Conditions: those in the theorems.
-/
import Derived.Test.YtcfhfamdcdkgjaaNetPair
namespace Go.Proofs.Ytcfhfamdcdkgjaa
open Go.RowKit Go.Maps

/-- An act as it is handed over. -/
def actV (x : NAct) : Value := .agg #[.int .i64 x.act, .int .i64 x.p.f, .int .i64 x.p.t, .string x.p.d, .int .i64 x.i, .bool x.on]
theorem Pair.cells {w0 w : World} {a r b : Nat} {N M : Nm.Net} {B : List (Nat × Obj)} {x : NAct} (h : Pair w0 w a N r M B) (hb : (b, boxN x) ∈ B) : w.cell? ⟨b, 0, none⟩ = some (.int .i64 x.act) ∧ w.cell? ⟨b, 1, none⟩ = some (.int .i64 x.p.f) ∧ w.cell? ⟨b, 2, none⟩ = some (.int .i64 x.p.t) ∧ w.cell? ⟨b, 3, none⟩ = some (.string x.p.d) ∧ w.cell? ⟨b, 4, none⟩ = some (.int .i64 x.i) ∧ w.cell? ⟨b, 5, none⟩ = some (.bool x.on) := by
  have hq := h.box _ hb
  refine ⟨?_, ?_, ?_, ?_, ?_, ?_⟩ <;> rw [cell_of_row w b _ _ _ _ hq] <;> rfl
theorem pk_eq_lit2 (f t : Int) (d : ByteArray) (w : World) : (Op.equalIn 10000 23 (.agg #[.int .i64 f, .int .i64 t, .string d]) (.agg #[.int .i64 f, .int .i64 t, .string d])).run Try.prog w = .ok true w := by
  have h := pk_eq ⟨f, t, d⟩ ⟨f, t, d⟩ w
  rw [Nm.same_self] at h; exact h
/-- What an act makes of a net. -/
def Nm.act (N : Nm.Net) (x : NAct) : Nm.Net :=
  if x.act = 0 then (Nm.send N x.p).2 else if x.act = 1 then (Nm.come N x.i).2.2 else if x.act = 2 then (Nm.lose N x.i).2 else if x.act = 3 then (Nm.dup N x.i).2 else if x.act = 4 then Nm.cutTo N x.p.f x.p.t x.on else N
theorem Nm.act_cuts (N : Nm.Net) (x : NAct) : (Nm.act N x).cuts ≤ N.cuts + 1 := by
  unfold Nm.act Nm.send Nm.come Nm.lose Nm.dup Nm.cutTo Nm.drop
  repeat' split
  all_goals first | exact Nat.le_succ _ | exact Nat.le_refl _

set_option maxRecDepth 100000 in
set_option maxHeartbeats 8000000 in
theorem both_any {w0 w : World} {a r : Nat} {N : Nm.Net} (h : Pair w0 w a N r N []) (x : NAct) (hx : x.Ok) (hn : N.cuts < 1000000) :
    Calls Try.prog 21 #[.pointer (some ⟨a, 0, none⟩), .pointer (some ⟨r, 0, none⟩), actV x] w fun e w' => e = .returned (.bool true) ∧ Pair w0 w' a (Nm.act N x) r (Nm.act N x) [] := by
  have hg := pkGuard
  have HX := Lib.hid hx
  obtain ⟨ac, p, i, on⟩ := x
  obtain ⟨W1, hW1⟩ : ∃ W1, w.alloc (boxN ⟨ac, p, i, on⟩) = W1 := ⟨_, rfl⟩
  obtain ⟨b, hb⟩ : ∃ b, w.heap.size = b := ⟨_, rfl⟩
  have h1 : Pair w0 W1 a N r N [(b, boxN ⟨ac, p, i, on⟩)] := by rw [← hW1, ← hb]; exact h.alloc _
  obtain ⟨x0, x1, x2, x3, x4, x5⟩ := h1.cells List.mem_cons_self
  have H1 := Lib.hid h1
  unfold boxN at hW1
  clear h h1
  have hcs : ac = 0 ∨ ac = 1 ∨ ac = 2 ∨ ac = 3 ∨ ac = 4 ∨ (ac ≠ 0 ∧ ac ≠ 1 ∧ ac ≠ 2 ∧ ac ≠ 3 ∧ ac ≠ 4) := by omega
  have hn' : N.cuts ≤ 1000000 := by omega
  unfold actV
  rcases hcs with rfl | rfl | rfl | rfl | rfl | ⟨n0, n1, n2, n3, n4⟩
  · have hA : Nm.act N ⟨0, p, i, on⟩ = (Nm.send N p).2 := by simp [Nm.act, *]
    rw [hA]
    obtain ⟨⟨c, N'⟩, hs⟩ : ∃ y, Nm.send N p = y := ⟨_, rfl⟩
    rw [hs]
    have HS := Lib.hid hs
    clear hA hs
    go_enter Try.func21, Try.ntmps21
    go_wp2_with fail
    refine (send_p H1.out p.f p.t p.d HX.out.p.f HX.out.p.t HX.out.p.d HS.out).mono ?_
    rintro e w2 ⟨rfl, h2⟩
    have H2 := Lib.hid h2
    clear h2 x0 x1 x2 x3 x4 x5
    obtain ⟨x0, x1, x2, x3, x4, x5⟩ := H2.out.cells List.mem_cons_self
    go_wp2_with fail
    refine (rsend_p H2.out p.f p.t p.d HX.out.p.f HX.out.p.t HX.out.p.d hn' HS.out).mono ?_
    rintro e w3 ⟨rfl, h3⟩
    have H3 := Lib.hid (h3.sub (B' := []) fun _ h => nomatch h)
    clear h3
    go_wp2_with fail
    go_ret
    exact ⟨by simp, H3.out⟩
  · have hA : Nm.act N ⟨1, p, i, on⟩ = (Nm.come N i).2.2 := by simp [Nm.act, *]
    rw [hA]
    obtain ⟨⟨⟨f, t, d⟩, c, N'⟩, hs⟩ : ∃ y, Nm.come N i = y := ⟨_, rfl⟩
    rw [hs]
    have HS := Lib.hid hs
    have hee := pk_eq_lit2 f t d
    clear hA hs
    go_enter Try.func21, Try.ntmps21
    go_wp2_with fail
    refine (come_p H1.out i HX.out.i HS.out).mono ?_
    rintro e w2 ⟨rfl, h2⟩
    obtain ⟨W2, hW2⟩ : ∃ W2, w2.alloc (.cells #[.int .i64 f, .int .i64 t, .string d] 23) = W2 := ⟨_, rfl⟩
    obtain ⟨b2, hb2⟩ : ∃ b2, w2.heap.size = b2 := ⟨_, rfl⟩
    have H2 := Lib.hid (show Pair w0 W2 a N' r N [(b2, .cells #[.int .i64 f, .int .i64 t, .string d] 23 (0, 0)), (b, boxN ⟨1, p, i, on⟩)] from by rw [← hW2, ← hb2]; exact h2.alloc _)
    clear h2 x0 x1 x2 x3 x4 x5
    obtain ⟨x0, x1, x2, x3, x4, x5⟩ := H2.out.cells (List.mem_cons_of_mem _ List.mem_cons_self)
    go_wp2_with fail
    refine (rcome_p H2.out i HX.out.i hn' HS.out).mono ?_
    rintro e w3 ⟨rfl, h3⟩
    obtain ⟨W3, hW3⟩ : ∃ W3, w3.alloc (.cells #[.int .i64 f, .int .i64 t, .string d] 23) = W3 := ⟨_, rfl⟩
    obtain ⟨b3, hb3⟩ : ∃ b3, w3.heap.size = b3 := ⟨_, rfl⟩
    have h4 : Pair w0 W3 a N' r N' [(b3, .cells #[.int .i64 f, .int .i64 t, .string d] 23 (0, 0)), (b2, .cells #[.int .i64 f, .int .i64 t, .string d] 23 (0, 0)), (b, boxN ⟨1, p, i, on⟩)] := by rw [← hW3, ← hb3]; exact h3.alloc _
    clear h3 x0 x1 x2 x3 x4 x5 hW2 hb2
    obtain ⟨y0, y1, y2, -⟩ := cells3 (h4.box _ List.mem_cons_self)
    obtain ⟨z0, z1, z2, -⟩ := cells3 (h4.box _ (List.mem_cons_of_mem _ List.mem_cons_self))
    simp only at y0 y1 y2 z0 z1 z2
    have H4 := Lib.hid (h4.sub (B' := []) fun _ h => nomatch h)
    clear h4
    go_wp2_with fail
    go_ret
    exact ⟨by simp, H4.out⟩
  · have hA : Nm.act N ⟨2, p, i, on⟩ = (Nm.lose N i).2 := by simp [Nm.act, *]
    rw [hA]
    obtain ⟨⟨c, N'⟩, hs⟩ : ∃ y, Nm.lose N i = y := ⟨_, rfl⟩
    rw [hs]
    have HS := Lib.hid hs
    clear hA hs
    go_enter Try.func21, Try.ntmps21
    go_wp2_with fail
    refine (lose_p H1.out i HX.out.i HS.out).mono ?_
    rintro e w2 ⟨rfl, h2⟩
    have H2 := Lib.hid h2
    clear h2 x0 x1 x2 x3 x4 x5
    obtain ⟨x0, x1, x2, x3, x4, x5⟩ := H2.out.cells List.mem_cons_self
    go_wp2_with fail
    refine (rlose_p H2.out i HX.out.i HS.out).mono ?_
    rintro e w3 ⟨rfl, h3⟩
    have H3 := Lib.hid (h3.sub (B' := []) fun _ h => nomatch h)
    clear h3
    go_wp2_with fail
    go_ret
    exact ⟨by simp, H3.out⟩
  · have hA : Nm.act N ⟨3, p, i, on⟩ = (Nm.dup N i).2 := by simp [Nm.act, *]
    rw [hA]
    obtain ⟨⟨c, N'⟩, hs⟩ : ∃ y, Nm.dup N i = y := ⟨_, rfl⟩
    rw [hs]
    have HS := Lib.hid hs
    clear hA hs
    go_enter Try.func21, Try.ntmps21
    go_wp2_with fail
    refine (dup_p H1.out i HX.out.i HS.out).mono ?_
    rintro e w2 ⟨rfl, h2⟩
    have H2 := Lib.hid h2
    clear h2 x0 x1 x2 x3 x4 x5
    obtain ⟨x0, x1, x2, x3, x4, x5⟩ := H2.out.cells List.mem_cons_self
    go_wp2_with fail
    refine (rdup_p H2.out i HX.out.i HS.out).mono ?_
    rintro e w3 ⟨rfl, h3⟩
    have H3 := Lib.hid (h3.sub (B' := []) fun _ h => nomatch h)
    clear h3
    go_wp2_with fail
    go_ret
    exact ⟨by simp, H3.out⟩
  · have hA : Nm.act N ⟨4, p, i, on⟩ = Nm.cutTo N p.f p.t on := by simp [Nm.act, *]
    rw [hA]
    clear hA
    go_enter Try.func21, Try.ntmps21
    go_wp2_with fail
    refine (cut_p H1.out p.f p.t on HX.out.p.f HX.out.p.t hn).mono ?_
    rintro e w2 ⟨rfl, h2⟩
    have H2 := Lib.hid h2
    clear h2 x0 x1 x2 x3 x4 x5
    obtain ⟨x0, x1, x2, x3, x4, x5⟩ := H2.out.cells List.mem_cons_self
    go_wp2_with fail
    refine (rcut_p H2.out p.f p.t on hn').mono ?_
    rintro e w3 ⟨rfl, h3⟩
    have H3 := Lib.hid (h3.sub (B' := []) fun _ h => nomatch h)
    clear h3
    go_wp2_with fail
    go_ret
    exact ⟨rfl, H3.out⟩
  · have hA : Nm.act N ⟨ac, p, i, on⟩ = N := by simp [Nm.act, *]
    rw [hA]
    clear hA
    have H3 := Lib.hid (H1.out.sub (B' := []) fun _ h => nomatch h)
    go_enter Try.func21, Try.ntmps21
    go_wp2_with fail
    go_ret
    exact ⟨rfl, H3.out⟩

theorem box_cells {W : World} {b : Nat} {x : NAct} (hq : W.heap[b]? = some (boxN x)) : W.cell? ⟨b, 0, none⟩ = some (.int .i64 x.act) ∧ W.cell? ⟨b, 1, none⟩ = some (.int .i64 x.p.f) ∧ W.cell? ⟨b, 2, none⟩ = some (.int .i64 x.p.t) ∧ W.cell? ⟨b, 3, none⟩ = some (.string x.p.d) ∧ W.cell? ⟨b, 4, none⟩ = some (.int .i64 x.i) ∧ W.cell? ⟨b, 5, none⟩ = some (.bool x.on) := by
  refine ⟨?_, ?_, ?_, ?_, ?_, ?_⟩ <;> rw [cell_of_row W b _ _ _ _ hq] <;> rfl
set_option maxRecDepth 100000 in
set_option maxHeartbeats 8000000 in
theorem both_none (w : World) (x : NAct) : Calls Try.prog 21 #[.pointer none, .pointer none, actV x] w fun e w' => e = .returned (.bool true) ∧ Below w.heap.size w w' := by
  have hg := pkGuard
  obtain ⟨ac, ⟨pf, pt, pd⟩, i, on⟩ := x
  obtain ⟨W1, hW1⟩ : ∃ W1, w.alloc (boxN ⟨ac, ⟨pf, pt, pd⟩, i, on⟩) = W1 := ⟨_, rfl⟩
  obtain ⟨b, hb⟩ : ∃ b, w.heap.size = b := ⟨_, rfl⟩
  have hB1 : Below b w W1 := by rw [← hW1, ← hb]; exact (Below.refl _ w).alloc (Nat.le_refl _) _
  have hq : W1.heap[b]? = some (boxN ⟨ac, ⟨pf, pt, pd⟩, i, on⟩) := by rw [← hW1, ← hb]; exact heap_alloc_new w _
  have hsz : b < W1.heap.size := (Array.getElem?_eq_some_iff.1 hq).1
  have hbox : ∀ W, Below W1.heap.size W1 W → W.heap[b]? = some (boxN ⟨ac, ⟨pf, pt, pd⟩, i, on⟩) := fun W hW => (hW.block b hsz).trans hq
  have hbel : ∀ W, Below W1.heap.size W1 W → Below b w W := fun W hW => hB1.trans (hW.mono (by omega))
  have HQ := Lib.hid hbox
  have HB := Lib.hid hbel
  obtain ⟨x0, x1, x2, x3, x4, x5⟩ := box_cells hq
  rw [hb]
  unfold boxN at hW1
  clear hB1 hq hsz hbox hbel
  have hcs : ac = 0 ∨ ac = 1 ∨ ac = 2 ∨ ac = 3 ∨ ac = 4 ∨ (ac ≠ 0 ∧ ac ≠ 1 ∧ ac ≠ 2 ∧ ac ≠ 3 ∧ ac ≠ 4) := by omega
  unfold actV
  rcases hcs with rfl | rfl | rfl | rfl | rfl | ⟨n0, n1, n2, n3, n4⟩
  · go_enter Try.func21, Try.ntmps21
    go_wp2_with fail
    refine (send_none ⟨pf, pt, pd⟩ _).mono ?_
    rintro e w2 ⟨rfl, h2⟩
    clear x0 x1 x2 x3 x4 x5
    obtain ⟨x0, x1, x2, x3, x4, x5⟩ := box_cells (HQ.out _ h2)
    have H2 := Lib.hid h2
    clear h2
    go_wp2_with fail
    refine (refSend_none ⟨pf, pt, pd⟩ _).mono ?_
    rintro e w3 ⟨rfl, h3⟩
    have H3 := Lib.hid (HB.out _ (H2.out.trans (h3.mono H2.out.size)))
    clear h3
    go_wp2_with fail
    go_ret
    exact ⟨rfl, H3.out⟩
  · have hcn := come_none i
    have hrn := refCome_none i
    obtain ⟨⟨f, t, d⟩, hz⟩ : ∃ p, Nm.zero = p := ⟨_, rfl⟩
    rw [hz] at hcn hrn
    unfold pkV at hcn hrn
    have hee := pk_eq_lit2 f t d
    clear hz
    go_enter Try.func21, Try.ntmps21
    go_wp2_with fail
    refine (hcn _).mono ?_
    rintro e w2 ⟨rfl, h2⟩
    obtain ⟨W2, hW2⟩ : ∃ W2, w2.alloc (.cells #[.int .i64 f, .int .i64 t, .string d] 23) = W2 := ⟨_, rfl⟩
    obtain ⟨b2, hb2⟩ : ∃ b2, w2.heap.size = b2 := ⟨_, rfl⟩
    have h2' : Below W1.heap.size W1 W2 := by rw [← hW2]; exact h2.alloc h2.size _
    have hq2 : W2.heap[b2]? = some (.cells #[.int .i64 f, .int .i64 t, .string d] 23 (0, 0)) := by rw [← hW2, ← hb2]; exact heap_alloc_new w2 _
    clear x0 x1 x2 x3 x4 x5
    obtain ⟨x0, x1, x2, x3, x4, x5⟩ := box_cells (HQ.out _ h2')
    have H2 := Lib.hid h2'
    have HQ2 := Lib.hid hq2
    clear h2 h2' hq2
    go_wp2_with fail
    refine (hrn _).mono ?_
    rintro e w3 ⟨rfl, h3⟩
    obtain ⟨W3, hW3⟩ : ∃ W3, w3.alloc (.cells #[.int .i64 f, .int .i64 t, .string d] 23) = W3 := ⟨_, rfl⟩
    obtain ⟨b3, hb3⟩ : ∃ b3, w3.heap.size = b3 := ⟨_, rfl⟩
    have h3' : Below W2.heap.size W2 W3 := by rw [← hW3]; exact h3.alloc h3.size _
    have hq3 : W3.heap[b3]? = some (.cells #[.int .i64 f, .int .i64 t, .string d] 23 (0, 0)) := by rw [← hW3, ← hb3]; exact heap_alloc_new w3 _
    obtain ⟨y0, y1, y2, -⟩ := cells3 ((h3'.block b2 (Array.getElem?_eq_some_iff.1 HQ2.out).1).trans HQ2.out)
    obtain ⟨z0, z1, z2, -⟩ := cells3 hq3
    have H3 := Lib.hid (HB.out _ (H2.out.trans (h3'.mono H2.out.size)))
    clear h3 h3' hq3 hW2 hb2 x0 x1 x2 x3 x4 x5
    go_wp2_with fail
    go_ret
    exact ⟨rfl, H3.out⟩
  · go_enter Try.func21, Try.ntmps21
    go_wp2_with fail
    refine (lose_none i _).mono ?_
    rintro e w2 ⟨rfl, h2⟩
    clear x0 x1 x2 x3 x4 x5
    obtain ⟨x0, x1, x2, x3, x4, x5⟩ := box_cells (HQ.out _ h2)
    have H2 := Lib.hid h2
    clear h2
    go_wp2_with fail
    refine (refLose_none i _).mono ?_
    rintro e w3 ⟨rfl, rfl⟩
    have H3 := Lib.hid (HB.out _ H2.out)
    go_wp2_with fail
    go_ret
    exact ⟨rfl, H3.out⟩
  · have H3 := Lib.hid (HB.out _ (Below.refl _ _))
    go_enter Try.func21, Try.ntmps21
    go_wp2_with fail
    refine (dup_none i _).mono ?_
    rintro e w2 ⟨rfl, rfl⟩
    go_wp2_with fail
    refine (refDup_none i _).mono ?_
    rintro e w3 ⟨rfl, rfl⟩
    go_wp2_with fail
    go_ret
    exact ⟨rfl, H3.out⟩
  · have H3 := Lib.hid (HB.out _ (Below.refl _ _))
    go_enter Try.func21, Try.ntmps21
    go_wp2_with fail
    refine (cut_none pf pt on _).mono ?_
    rintro e w2 ⟨rfl, rfl⟩
    go_wp2_with fail
    refine (refCut_none pf pt on _).mono ?_
    rintro e w3 ⟨rfl, rfl⟩
    go_wp2_with fail
    go_ret
    exact ⟨rfl, H3.out⟩
  · have H3 := Lib.hid (HB.out _ (Below.refl _ _))
    go_enter Try.func21, Try.ntmps21
    go_wp2_with fail
    go_ret
    exact ⟨rfl, H3.out⟩
end Go.Proofs.Ytcfhfamdcdkgjaa
