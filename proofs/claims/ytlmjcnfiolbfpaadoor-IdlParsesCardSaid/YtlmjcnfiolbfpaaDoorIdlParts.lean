/-
  Walks over package idl: argument, field, step, method. Conditions: those in the theorems (the keywords' variable holds what the row lists).
-/
import Derived.Test.YtlmjcnfiolbfpaaDoorIdlLoc
import Derived.Deep.Cut
set_option linter.unusedSimpArgs false
set_option linter.unusedVariables false
namespace Go.Proofs.YtlmjcnfiolbfpaaDoor
open Go.RowKit

set_option maxRecDepth 100000 in
set_option maxHeartbeats 4000000 in
theorem argument_any {w : World} {b q : Nat} {r : Ip.R} (h : Rd w b q r) : Calls Tryd.prog 75 #[.pointer (some ⟨b, 0, none⟩)] w (Text b q (Ip.argument r) w) := by
  obtain ⟨⟨n1, r1⟩, e1⟩ : ∃ y, Ip.one [Ip.sIn] r = y := ⟨_, rfl⟩
  have Q1 := fun (W : World) (h : Rd W b q r) => one_lit h [Ip.sIn] (by decide)
  rw [e1] at Q1
  have H1 := Lib.hid Q1
  obtain ⟨⟨n2, r2⟩, e2⟩ : ∃ y, Ip.name r1 = y := ⟨_, rfl⟩
  have Q2 := fun (W : World) (h : Rd W b q r1) => name_any h
  rw [e2] at Q2
  have H2 := Lib.hid Q2
  obtain ⟨⟨n3, r3⟩, e3⟩ : ∃ y, Ip.one [Ip.sOut] r2 = y := ⟨_, rfl⟩
  have Q3 := fun (W : World) (h : Rd W b q r2) => one_lit h [Ip.sOut] (by decide)
  rw [e3] at Q3
  have H3 := Lib.hid Q3
  have HE : Hid (Ip.argument r = (n2, r3)) := Lib.hid (by unfold Ip.argument; simp only [Ip.bind_eq, Ip.ret_eq, e1, e2, e3])
  have HH := Lib.hid h
  clear Q1 Q2 Q3 e1 e2 e3 h
  go_enter Tryd.func75, Tryd.ntmps75
  go_wp2_with fail
  refine (H1.out w HH.out).mono ?_
  rintro e w1 ⟨rfl, hr1, hT1⟩
  have G1 := Lib.hid (Gone.trans (Gone.refl HH.out) ⟨hr1, hT1⟩)
  clear hr1 hT1
  go_wp2_with fail
  refine (H2.out w1 G1.out.1).mono ?_
  rintro e w2 ⟨rfl, hr2, hT2⟩
  have G2 := Lib.hid (G1.out.trans ⟨hr2, hT2⟩)
  clear hr2 hT2
  go_wp2_with fail
  refine (H3.out w2 G2.out.1).mono ?_
  rintro e w3 ⟨rfl, hr3, hT3⟩
  have G3 := Lib.hid (G2.out.trans ⟨hr3, hT3⟩)
  clear hr3 hT3
  go_wp2_with fail
  go_ret
  unfold Text
  rw [HE.out]
  exact ⟨rfl, G3.out⟩
theorem field_res {W : World} {tmps : Array Value} {b : Nat} {x0 x1 : Value} (h2 : tmps[2]? = some (.pointer (some ⟨b, 0, none⟩))) (h : W.heap[b]? = some (.cells #[x0, x1] 62 (0, 0))) :
    (results Tryd.f72 tmps).run Tryd.prog W = .ok (.agg #[x0, x1]) W := by
  obtain ⟨c0, c1⟩ := cells2 h
  simp [results, Tryd.results72, h2, go_sem, c0, c1]
/-- What a reader answers with a struct. -/
def Elem {α : Type} (K : RowKind α) (b q : Nat) (x : α × Ip.R) (w : World) (e : Ending) (w' : World) : Prop := ∃ t, e = .returned (.agg (K.cells x.1 t).toArray) ∧ K.sub w' w.heap.size t x.1 ∧ Gone b q w x.2 w'
set_option maxRecDepth 100000 in
set_option maxHeartbeats 4000000 in
theorem field_any {w : World} {b q : Nat} {r : Ip.R} (h : Rd w b q r) : Calls Tryd.prog 72 #[.pointer (some ⟨b, 0, none⟩)] w (Elem kFld b q (Ip.field r) w) := by
  obtain ⟨⟨n1, r1⟩, e1⟩ : ∃ y, Ip.name r = y := ⟨_, rfl⟩
  have Q1 := fun (W : World) (h : Rd W b q r) => name_any h
  rw [e1] at Q1
  have H1 := Lib.hid Q1
  obtain ⟨⟨n2, r2⟩, e2⟩ : ∃ y, Ip.one [Ip.sColon] r1 = y := ⟨_, rfl⟩
  have Q2 := fun (W : World) (h : Rd W b q r1) => one_lit h [Ip.sColon] (by decide)
  rw [e2] at Q2
  have H2 := Lib.hid Q2
  obtain ⟨⟨n3, r3⟩, e3⟩ : ∃ y, Ip.sorts r2 = y := ⟨_, rfl⟩
  have Q3 := fun (W : World) (h : Rd W b q r2) => sorts_any h
  rw [e3] at Q3
  have H3 := Lib.hid Q3
  obtain ⟨⟨n4, r4⟩, e4⟩ : ∃ y, Ip.one [Ip.sSemi] r3 = y := ⟨_, rfl⟩
  have Q4 := fun (W : World) (h : Rd W b q r3) => one_lit h [Ip.sSemi] (by decide)
  rw [e4] at Q4
  have H4 := Lib.hid Q4
  have HE : Hid (Ip.field r = (⟨n1, n3⟩, r4)) := Lib.hid (by unfold Ip.field; simp only [Ip.bind_eq, Ip.ret_eq, e1, e2, e3, e4])
  have HH := Lib.hid h
  have hlt := h.lt
  clear Q1 Q2 Q3 Q4 e1 e2 e3 e4 h
  go_enter Tryd.func72, Tryd.ntmps72
  go_upto_region 2 with fail
  obtain ⟨W0, hW0⟩ : ∃ W0, W0 = (w.alloc (.cells #[.string ⟨#[]⟩, .slice none 0 0] 62)).alloc (.cells #[.string ⟨#[]⟩, .slice none 0 0] 62) := ⟨_, rfl⟩
  have M0 := Lib.hid (loc_start HH.out (T := 62) (zs := #[.string ⟨#[]⟩, .slice none 0 0]) (cs := #[.string ⟨#[]⟩, .slice none 0 0]) rfl rfl)
  rw [← hW0] at M0 ⊢
  clear hW0
  go_wp2_with fail
  refine (H1.out W0 M0.out.gone.1).mono ?_
  rintro e w1 ⟨rfl, hg⟩
  have L1 := Lib.hid (M0.out.call HH.out hg)
  clear hg
  have hl := L1.out.loc
  obtain ⟨c0, c1⟩ := cells2 hl
  have f0 := frozen2 hl 0
  clear hl
  go_upto_region 3 with fail
  obtain ⟨W1, hW1⟩ : ∃ W1, W1 = w1.setCell ⟨w.heap.size + 1, 0, none⟩ (.string n1) := ⟨_, rfl⟩
  have M1 := Lib.hid (L1.out.set HH.out 0 (.string n1))
  rw [← hW1] at M1 ⊢
  clear hW1 c0 c1 f0
  go_wp2_with fail
  refine (H2.out W1 M1.out.gone.1).mono ?_
  rintro e w2 ⟨rfl, hg⟩
  have M2 := Lib.hid (M1.out.call HH.out hg)
  clear hg
  go_wp2_with fail
  refine (H3.out w2 M2.out.gone.1).mono ?_
  rintro e w3 ⟨tv, rfl, hrow, hg⟩
  obtain ⟨p3, c3, rfl, -, -⟩ := hrow.shape
  have L3 := Lib.hid (M2.out.call HH.out hg)
  have R3 := Lib.hid (hrow.mono okSo M2.out.gone.2.size)
  clear hg hrow
  have hl := L3.out.loc
  obtain ⟨c0, c1⟩ := cells2 hl
  have f1 := frozen2 hl 1
  clear hl
  go_upto_region 5 with fail
  obtain ⟨W3, hW3⟩ : ∃ W3, W3 = w3.setCell ⟨w.heap.size + 1, 1, none⟩ (.slice p3 n3.length c3) := ⟨_, rfl⟩
  have M3 := Lib.hid (L3.out.set HH.out 1 (.slice p3 n3.length c3))
  have S3 := Lib.hid (row_set okSo R3.out L3.out.loc (by show ¬ ((62 : Nat) = 70 ∨ False); decide) (tn_set w3 (i := 1) (.slice p3 n3.length c3)))
  rw [← hW3] at M3 S3 ⊢
  clear hW3 c0 c1 f1
  go_wp2_with fail
  refine (H4.out W3 M3.out.gone.1).mono ?_
  rintro e w4 ⟨rfl, hg⟩
  have M4 := Lib.hid (M3.out.call HH.out hg)
  have S4 := Lib.hid (row_tn okSo S3.out hg.2 hlt)
  clear hg
  have hl := M4.out.loc
  have hz := M4.out.res
  obtain ⟨c0, c1⟩ := cells2 hl
  obtain ⟨z0, z1⟩ := cells2 hz
  have f0 := frozen2 hz 0
  have f1 := frozen2 hz 1
  clear hl hz
  go_wp2_with fail
  refine bodyPost_ret (field_res rfl (set_two _ _ M4.out.res)) rfl ?_
  unfold Elem
  rw [HE.out]
  exact ⟨_, rfl, row_set okSo S4.out M4.out.res (by show ¬ ((62 : Nat) = 70 ∨ False); decide) (tn_two w4 _ _), M4.out.gone.turn HH.out (Nat.le_refl _) (tn_two w4 _ _)⟩
end Go.Proofs.YtlmjcnfiolbfpaaDoor
