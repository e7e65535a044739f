/-
  Walks over package idl: record, service, saga. Conditions: those in the theorems (the keywords' variable holds what the row lists).
-/
import Derived.Test.YtlmjcnfiolbfpaaDoorIdlBraced
import Derived.Deep.Cut
set_option linter.unusedSimpArgs false
set_option linter.unusedVariables false
namespace Go.Proofs.YtlmjcnfiolbfpaaDoor
open Go.RowKit

theorem record_res {W : World} {tmps : Array Value} {b : Nat} {x0 x1 x2 : Value} (h2 : tmps[4]? = some (.pointer (some ⟨b, 0, none⟩))) (h : W.heap[b]? = some (.cells #[x0, x1, x2] 52 (0, 0))) :
    (results Tryd.f58 tmps).run Tryd.prog W = .ok (.agg #[x0, x1, x2]) W := by
  obtain ⟨c0, c1, c2⟩ := cells3 h
  simp [results, Tryd.results58, h2, go_sem, c0, c1, c2]
set_option maxRecDepth 100000 in
set_option maxHeartbeats 8000000 in
theorem record_any {w : World} {b q : Nat} {r : Ip.R} (ch : Bool) (h : Rd w b q r) : Calls Tryd.prog 58 #[.pointer (some ⟨b, 0, none⟩), .bool ch] w (Elem kRcd b q (Ip.record ch r) w) := by
  obtain ⟨⟨n1, r1⟩, e1⟩ : ∃ y, Ip.name r = y := ⟨_, rfl⟩
  have Q1 := fun (W : World) (h : Rd W b q r) => name_any h
  rw [e1] at Q1
  have H1 := Lib.hid Q1
  clear Q1
  obtain ⟨⟨n2, r2⟩, e2⟩ : ∃ y, Ip.braced Ip.field r1 = y := ⟨_, rfl⟩
  have Q2 := fun (W : World) (h : Rd W b q r1) => braced_field h
  rw [e2] at Q2
  have H2 := Lib.hid Q2
  clear Q2
  have HE : Hid (Ip.record ch r = (⟨n1, ch, n2⟩, r2)) := Lib.hid (by unfold Ip.record; simp only [Ip.bind_eq, Ip.ret_eq, e1, e2])
  have HH := Lib.hid h
  have hlt := h.lt
  clear e1 e2 h
  go_enter Tryd.func58, Tryd.ntmps58
  go_upto_region 2 with fail
  obtain ⟨W0, hW0⟩ : ∃ W0, W0 = (w.alloc (.cells #[.string ⟨#[]⟩, .bool false, .slice none 0 0] 52)).alloc (.cells #[.string ⟨#[]⟩, .bool ch, .slice none 0 0] 52) := ⟨_, rfl⟩
  have M0 := Lib.hid (loc_start HH.out (T := 52) (zs := #[.string ⟨#[]⟩, .bool false, .slice none 0 0]) (cs := #[.string ⟨#[]⟩, .bool ch, .slice none 0 0]) rfl rfl)
  rw [← hW0] at M0 ⊢
  clear hW0
  go_wp2_with fail
  refine (H1.out W0 M0.out.gone.1).mono ?_
  rintro e w1 ⟨rfl, hg⟩
  have L1 := Lib.hid (M0.out.call HH.out hg)
  clear hg
  have hl := L1.out.loc
  obtain ⟨c0, c1, c2⟩ := cells3 hl
  have f := frozen2 hl 0
  clear hl
  go_upto_region 3 with fail
  obtain ⟨W1, hW⟩ : ∃ W, W = w1.setCell ⟨w.heap.size + 1, 0, none⟩ (.string n1) := ⟨_, rfl⟩
  have M1 := Lib.hid (L1.out.set HH.out 0 (.string n1))
  rw [← hW] at M1 ⊢
  clear hW c0 c1 c2 f
  go_wp2_with fail
  refine (H2.out W1 M1.out.gone.1).mono ?_
  rintro e w2 ⟨tv, rfl, hrow, hg⟩
  obtain ⟨p3, c3, rfl, -, -⟩ := hrow.shape
  have R2 := Lib.hid (hrow.mono okFld M1.out.gone.2.size)
  clear hrow
  have L2 := Lib.hid (M1.out.call HH.out hg)
  clear hg
  have hl := L2.out.loc
  obtain ⟨c0, c1, c2⟩ := cells3 hl
  have f := frozen2 hl 2
  clear hl
  go_upto_region 4 with fail
  obtain ⟨W2, hW⟩ : ∃ W, W = w2.setCell ⟨w.heap.size + 1, 2, none⟩ (.slice p3 n2.length c3) := ⟨_, rfl⟩
  have M2 := Lib.hid (L2.out.set HH.out 2 (.slice p3 n2.length c3))
  have S2 := Lib.hid (row_set okFld R2.out L2.out.loc (by show ¬ ((52 : Nat) = 62 ∨ (52 : Nat) = 70); decide) (tn_set w2 (i := 2) (.slice p3 n2.length c3)))
  rw [← hW] at M2 S2 ⊢
  clear hW c0 c1 c2 f
  have hl := M2.out.loc
  have hz := M2.out.res
  obtain ⟨c0, c1, c2⟩ := cells3 hl
  obtain ⟨z0, z1, z2⟩ := cells3 hz
  have f0 := frozen2 hz 0
  have f1 := frozen2 hz 1
  have f2 := frozen2 hz 2
  clear hl hz
  go_wp2_with fail
  refine bodyPost_ret (record_res rfl (set_three _ _ _ M2.out.res)) rfl ?_
  unfold Elem
  rw [HE.out]
  exact ⟨_, rfl, row_set okFld S2.out M2.out.res (by show ¬ ((52 : Nat) = 62 ∨ (52 : Nat) = 70); decide) (tn_three W2 _ _ _), M2.out.gone.turn HH.out (Nat.le_refl _) (tn_three W2 _ _ _)⟩
theorem service_res {W : World} {tmps : Array Value} {b : Nat} {x0 x1 : Value} (h2 : tmps[2]? = some (.pointer (some ⟨b, 0, none⟩))) (h : W.heap[b]? = some (.cells #[x0, x1] 56 (0, 0))) :
    (results Tryd.f59 tmps).run Tryd.prog W = .ok (.agg #[x0, x1]) W := by
  obtain ⟨c0, c1⟩ := cells2 h
  simp [results, Tryd.results59, h2, go_sem, c0, c1]
set_option maxRecDepth 100000 in
set_option maxHeartbeats 8000000 in
theorem service_any {w : World} {b q : Nat} {r : Ip.R} (h : Rd w b q r) : Calls Tryd.prog 59 #[.pointer (some ⟨b, 0, none⟩)] w (Elem kSrv b q (Ip.service r) w) := by
  obtain ⟨⟨n1, r1⟩, e1⟩ : ∃ y, Ip.name r = y := ⟨_, rfl⟩
  have Q1 := fun (W : World) (h : Rd W b q r) => name_any h
  rw [e1] at Q1
  have H1 := Lib.hid Q1
  clear Q1
  obtain ⟨⟨n2, r2⟩, e2⟩ : ∃ y, Ip.braced Ip.method r1 = y := ⟨_, rfl⟩
  have Q2 := fun (W : World) (h : Rd W b q r1) => braced_method h
  rw [e2] at Q2
  have H2 := Lib.hid Q2
  clear Q2
  have HE : Hid (Ip.service r = (⟨n1, n2⟩, r2)) := Lib.hid (by unfold Ip.service; simp only [Ip.bind_eq, Ip.ret_eq, e1, e2])
  have HH := Lib.hid h
  have hlt := h.lt
  clear e1 e2 h
  go_enter Tryd.func59, Tryd.ntmps59
  go_upto_region 2 with fail
  obtain ⟨W0, hW0⟩ : ∃ W0, W0 = (w.alloc (.cells #[.string ⟨#[]⟩, .slice none 0 0] 56)).alloc (.cells #[.string ⟨#[]⟩, .slice none 0 0] 56) := ⟨_, rfl⟩
  have M0 := Lib.hid (loc_start HH.out (T := 56) (zs := #[.string ⟨#[]⟩, .slice none 0 0]) (cs := #[.string ⟨#[]⟩, .slice none 0 0]) rfl rfl)
  rw [← hW0] at M0 ⊢
  clear hW0
  go_wp2_with fail
  refine (H1.out W0 M0.out.gone.1).mono ?_
  rintro e w1 ⟨rfl, hg⟩
  have L1 := Lib.hid (M0.out.call HH.out hg)
  clear hg
  have hl := L1.out.loc
  obtain ⟨c0, c1⟩ := cells2 hl
  have f := frozen2 hl 0
  clear hl
  go_upto_region 3 with fail
  obtain ⟨W1, hW⟩ : ∃ W, W = w1.setCell ⟨w.heap.size + 1, 0, none⟩ (.string n1) := ⟨_, rfl⟩
  have M1 := Lib.hid (L1.out.set HH.out 0 (.string n1))
  rw [← hW] at M1 ⊢
  clear hW c0 c1 f
  go_wp2_with fail
  refine (H2.out W1 M1.out.gone.1).mono ?_
  rintro e w2 ⟨tv, rfl, hrow, hg⟩
  obtain ⟨p3, c3, rfl, -, -⟩ := hrow.shape
  have R2 := Lib.hid (hrow.mono okMth M1.out.gone.2.size)
  clear hrow
  have L2 := Lib.hid (M1.out.call HH.out hg)
  clear hg
  have hl := L2.out.loc
  obtain ⟨c0, c1⟩ := cells2 hl
  have f := frozen2 hl 1
  clear hl
  go_upto_region 4 with fail
  obtain ⟨W2, hW⟩ : ∃ W, W = w2.setCell ⟨w.heap.size + 1, 1, none⟩ (.slice p3 n2.length c3) := ⟨_, rfl⟩
  have M2 := Lib.hid (L2.out.set HH.out 1 (.slice p3 n2.length c3))
  have S2 := Lib.hid (row_set okMth R2.out L2.out.loc (by show ¬ ((56 : Nat) = 94 ∨ False); decide) (tn_set w2 (i := 1) (.slice p3 n2.length c3)))
  rw [← hW] at M2 S2 ⊢
  clear hW c0 c1 f
  have hl := M2.out.loc
  have hz := M2.out.res
  obtain ⟨c0, c1⟩ := cells2 hl
  obtain ⟨z0, z1⟩ := cells2 hz
  have f0 := frozen2 hz 0
  have f1 := frozen2 hz 1
  clear hl hz
  go_wp2_with fail
  refine bodyPost_ret (service_res rfl (set_two _ _ M2.out.res)) rfl ?_
  unfold Elem
  rw [HE.out]
  exact ⟨_, rfl, row_set okMth S2.out M2.out.res (by show ¬ ((56 : Nat) = 94 ∨ False); decide) (tn_two W2 _ _), M2.out.gone.turn HH.out (Nat.le_refl _) (tn_two W2 _ _)⟩
theorem saga_res {W : World} {tmps : Array Value} {b : Nat} {x0 x1 x2 : Value} (h2 : tmps[2]? = some (.pointer (some ⟨b, 0, none⟩))) (h : W.heap[b]? = some (.cells #[x0, x1, x2] 60 (0, 0))) :
    (results Tryd.f60 tmps).run Tryd.prog W = .ok (.agg #[x0, x1, x2]) W := by
  obtain ⟨c0, c1, c2⟩ := cells3 h
  simp [results, Tryd.results60, h2, go_sem, c0, c1, c2]
set_option maxRecDepth 100000 in
set_option maxHeartbeats 8000000 in
theorem saga_any {w : World} {b q : Nat} {r : Ip.R} (h : Rd w b q r) : Calls Tryd.prog 60 #[.pointer (some ⟨b, 0, none⟩)] w (Elem kSga b q (Ip.saga r) w) := by
  obtain ⟨⟨n1, r1⟩, e1⟩ : ∃ y, Ip.name r = y := ⟨_, rfl⟩
  have Q1 := fun (W : World) (h : Rd W b q r) => name_any h
  rw [e1] at Q1
  have H1 := Lib.hid Q1
  clear Q1
  obtain ⟨⟨n2, r2⟩, e2⟩ : ∃ y, Ip.argument r1 = y := ⟨_, rfl⟩
  have Q2 := fun (W : World) (h : Rd W b q r1) => argument_any h
  rw [e2] at Q2
  have H2 := Lib.hid Q2
  clear Q2
  obtain ⟨⟨n3, r3⟩, e3⟩ : ∃ y, Ip.braced Ip.step r2 = y := ⟨_, rfl⟩
  have Q3 := fun (W : World) (h : Rd W b q r2) => braced_step h
  rw [e3] at Q3
  have H3 := Lib.hid Q3
  clear Q3
  have HE : Hid (Ip.saga r = (⟨n1, n2, n3⟩, r3)) := Lib.hid (by unfold Ip.saga; simp only [Ip.bind_eq, Ip.ret_eq, e1, e2, e3])
  have HH := Lib.hid h
  have hlt := h.lt
  clear e1 e2 e3 h
  go_enter Tryd.func60, Tryd.ntmps60
  go_upto_region 2 with fail
  obtain ⟨W0, hW0⟩ : ∃ W0, W0 = (w.alloc (.cells #[.string ⟨#[]⟩, .string ⟨#[]⟩, .slice none 0 0] 60)).alloc (.cells #[.string ⟨#[]⟩, .string ⟨#[]⟩, .slice none 0 0] 60) := ⟨_, rfl⟩
  have M0 := Lib.hid (loc_start HH.out (T := 60) (zs := #[.string ⟨#[]⟩, .string ⟨#[]⟩, .slice none 0 0]) (cs := #[.string ⟨#[]⟩, .string ⟨#[]⟩, .slice none 0 0]) rfl rfl)
  rw [← hW0] at M0 ⊢
  clear hW0
  go_wp2_with fail
  refine (H1.out W0 M0.out.gone.1).mono ?_
  rintro e w1 ⟨rfl, hg⟩
  have L1 := Lib.hid (M0.out.call HH.out hg)
  clear hg
  have hl := L1.out.loc
  obtain ⟨c0, c1, c2⟩ := cells3 hl
  have f := frozen2 hl 0
  clear hl
  go_upto_region 3 with fail
  obtain ⟨W1, hW⟩ : ∃ W, W = w1.setCell ⟨w.heap.size + 1, 0, none⟩ (.string n1) := ⟨_, rfl⟩
  have M1 := Lib.hid (L1.out.set HH.out 0 (.string n1))
  rw [← hW] at M1 ⊢
  clear hW c0 c1 c2 f
  go_wp2_with fail
  refine (H2.out W1 M1.out.gone.1).mono ?_
  rintro e w2 ⟨rfl, hg⟩
  have L2 := Lib.hid (M1.out.call HH.out hg)
  clear hg
  have hl := L2.out.loc
  obtain ⟨c0, c1, c2⟩ := cells3 hl
  have f := frozen2 hl 1
  clear hl
  go_upto_region 4 with fail
  obtain ⟨W2, hW⟩ : ∃ W, W = w2.setCell ⟨w.heap.size + 1, 1, none⟩ (.string n2) := ⟨_, rfl⟩
  have M2 := Lib.hid (L2.out.set HH.out 1 (.string n2))
  rw [← hW] at M2 ⊢
  clear hW c0 c1 c2 f
  go_wp2_with fail
  refine (H3.out W2 M2.out.gone.1).mono ?_
  rintro e w3 ⟨tv, rfl, hrow, hg⟩
  obtain ⟨p3, c3, rfl, -, -⟩ := hrow.shape
  have R3 := Lib.hid (hrow.mono okStp M2.out.gone.2.size)
  clear hrow
  have L3 := Lib.hid (M2.out.call HH.out hg)
  clear hg
  have hl := L3.out.loc
  obtain ⟨c0, c1, c2⟩ := cells3 hl
  have f := frozen2 hl 2
  clear hl
  go_upto_region 5 with fail
  obtain ⟨W3, hW⟩ : ∃ W, W = w3.setCell ⟨w.heap.size + 1, 2, none⟩ (.slice p3 n3.length c3) := ⟨_, rfl⟩
  have M3 := Lib.hid (L3.out.set HH.out 2 (.slice p3 n3.length c3))
  have S3 := Lib.hid (row_set okStp R3.out L3.out.loc (by show ¬ ((60 : Nat) = 64 ∨ False); decide) (tn_set w3 (i := 2) (.slice p3 n3.length c3)))
  rw [← hW] at M3 S3 ⊢
  clear hW c0 c1 c2 f
  have hl := M3.out.loc
  have hz := M3.out.res
  obtain ⟨c0, c1, c2⟩ := cells3 hl
  obtain ⟨z0, z1, z2⟩ := cells3 hz
  have f0 := frozen2 hz 0
  have f1 := frozen2 hz 1
  have f2 := frozen2 hz 2
  clear hl hz
  go_wp2_with fail
  refine bodyPost_ret (saga_res rfl (set_three _ _ _ M3.out.res)) rfl ?_
  unfold Elem
  rw [HE.out]
  exact ⟨_, rfl, row_set okStp S3.out M3.out.res (by show ¬ ((60 : Nat) = 64 ∨ False); decide) (tn_three W3 _ _ _), M3.out.gone.turn HH.out (Nat.le_refl _) (tn_three W3 _ _ _)⟩
end Go.Proofs.YtlmjcnfiolbfpaaDoor
