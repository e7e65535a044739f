/-
  Walks over package idl: step, method. Conditions: those in the theorems (the keywords' variable holds what the row lists).
-/
import Derived.Test.YtlmjcnfiolbfpaaDoorIdlParts
import Derived.Deep.Cut
set_option linter.unusedSimpArgs false
set_option linter.unusedVariables false
namespace Go.Proofs.YtlmjcnfiolbfpaaDoor
open Go.RowKit

theorem step_res {W : World} {tmps : Array Value} {b : Nat} {x0 x1 x2 : Value} (h2 : tmps[2]? = some (.pointer (some ⟨b, 0, none⟩))) (h : W.heap[b]? = some (.cells #[x0, x1, x2] 64 (0, 0))) :
    (results Tryd.f77 tmps).run Tryd.prog W = .ok (.agg #[x0, x1, x2]) W := by
  obtain ⟨c0, c1, c2⟩ := cells3 h
  simp [results, Tryd.results77, h2, go_sem, c0, c1, c2]
set_option maxRecDepth 100000 in
set_option maxHeartbeats 8000000 in
theorem step_any {w : World} {b q : Nat} {r : Ip.R} (h : Rd w b q r) : Calls Tryd.prog 77 #[.pointer (some ⟨b, 0, none⟩)] w (Elem kStp b q (Ip.step r) w) := by
  obtain ⟨⟨n1, r1⟩, e1⟩ : ∃ y, Ip.one [Ip.kDo] r = y := ⟨_, rfl⟩
  have Q1 := fun (W : World) (h : Rd W b q r) => one_lit h [Ip.kDo] (by decide)
  rw [e1] at Q1
  have H1 := Lib.hid Q1
  clear Q1
  obtain ⟨⟨n2, r2⟩, e2⟩ : ∃ y, Ip.name r1 = y := ⟨_, rfl⟩
  have Q2 := fun (W : World) (h : Rd W b q r1) => name_any h
  rw [e2] at Q2
  have H2 := Lib.hid Q2
  clear Q2
  obtain ⟨⟨n3, r3⟩, e3⟩ : ∃ y, Ip.one [Ip.sDot] r2 = y := ⟨_, rfl⟩
  have Q3 := fun (W : World) (h : Rd W b q r2) => one_lit h [Ip.sDot] (by decide)
  rw [e3] at Q3
  have H3 := Lib.hid Q3
  clear Q3
  obtain ⟨⟨n4, r4⟩, e4⟩ : ∃ y, Ip.name r3 = y := ⟨_, rfl⟩
  have Q4 := fun (W : World) (h : Rd W b q r3) => name_any h
  rw [e4] at Q4
  have H4 := Lib.hid Q4
  clear Q4
  obtain ⟨⟨n5, r5⟩, e5⟩ : ∃ y, Ip.one [Ip.kAt] r4 = y := ⟨_, rfl⟩
  have Q5 := fun (W : World) (h : Rd W b q r4) => one_lit h [Ip.kAt] (by decide)
  rw [e5] at Q5
  have H5 := Lib.hid Q5
  clear Q5
  obtain ⟨⟨n6, r6⟩, e6⟩ : ∃ y, Ip.number r5 = y := ⟨_, rfl⟩
  have Q6 := fun (W : World) (h : Rd W b q r5) => number_any_idl h
  rw [e6] at Q6
  have H6 := Lib.hid Q6
  clear Q6
  obtain ⟨⟨n7, r7⟩, e7⟩ : ∃ y, Ip.one [Ip.sSemi] r6 = y := ⟨_, rfl⟩
  have Q7 := fun (W : World) (h : Rd W b q r6) => one_lit h [Ip.sSemi] (by decide)
  rw [e7] at Q7
  have H7 := Lib.hid Q7
  clear Q7
  have HE : Hid (Ip.step r = (⟨n2, n4, n6⟩, r7)) := Lib.hid (by unfold Ip.step; simp only [Ip.bind_eq, Ip.ret_eq, e1, e2, e3, e4, e5, e6, e7])
  have HH := Lib.hid h
  have hlt := h.lt
  clear e1 e2 e3 e4 e5 e6 e7 h
  go_enter Tryd.func77, Tryd.ntmps77
  go_upto_region 2 with fail
  obtain ⟨W0, hW0⟩ : ∃ W0, W0 = (w.alloc (.cells #[.string ⟨#[]⟩, .string ⟨#[]⟩, .int .i64 0] 64)).alloc (.cells #[.string ⟨#[]⟩, .string ⟨#[]⟩, .int .i64 0] 64) := ⟨_, rfl⟩
  have M0 := Lib.hid (loc_start HH.out (T := 64) (zs := #[.string ⟨#[]⟩, .string ⟨#[]⟩, .int .i64 0]) (cs := #[.string ⟨#[]⟩, .string ⟨#[]⟩, .int .i64 0]) rfl rfl)
  rw [← hW0] at M0 ⊢
  clear hW0
  go_wp2_with fail
  refine (H1.out W0 M0.out.gone.1).mono ?_
  rintro e w1 ⟨rfl, hg⟩
  have L1 := Lib.hid (M0.out.call HH.out hg)
  clear hg
  go_wp2_with fail
  refine (H2.out w1 L1.out.gone.1).mono ?_
  rintro e w2 ⟨rfl, hg⟩
  have L2 := Lib.hid (L1.out.call HH.out hg)
  clear hg
  have hl := L2.out.loc
  obtain ⟨c0, c1, c2⟩ := cells3 hl
  have f := frozen2 hl 0
  clear hl
  go_upto_region 4 with fail
  obtain ⟨W2, hW⟩ : ∃ W, W = w2.setCell ⟨w.heap.size + 1, 0, none⟩ (.string n2) := ⟨_, rfl⟩
  have M2 := Lib.hid (L2.out.set HH.out 0 (.string n2))
  rw [← hW] at M2 ⊢
  clear hW c0 c1 c2 f
  go_wp2_with fail
  refine (H3.out W2 M2.out.gone.1).mono ?_
  rintro e w3 ⟨rfl, hg⟩
  have L3 := Lib.hid (M2.out.call HH.out hg)
  clear hg
  go_wp2_with fail
  refine (H4.out w3 L3.out.gone.1).mono ?_
  rintro e w4 ⟨rfl, hg⟩
  have L4 := Lib.hid (L3.out.call HH.out hg)
  clear hg
  have hl := L4.out.loc
  obtain ⟨c0, c1, c2⟩ := cells3 hl
  have f := frozen2 hl 1
  clear hl
  go_upto_region 6 with fail
  obtain ⟨W4, hW⟩ : ∃ W, W = w4.setCell ⟨w.heap.size + 1, 1, none⟩ (.string n4) := ⟨_, rfl⟩
  have M4 := Lib.hid (L4.out.set HH.out 1 (.string n4))
  rw [← hW] at M4 ⊢
  clear hW c0 c1 c2 f
  go_wp2_with fail
  refine (H5.out W4 M4.out.gone.1).mono ?_
  rintro e w5 ⟨rfl, hg⟩
  have L5 := Lib.hid (M4.out.call HH.out hg)
  clear hg
  go_wp2_with fail
  refine (H6.out w5 L5.out.gone.1).mono ?_
  rintro e w6 ⟨rfl, hg⟩
  have L6 := Lib.hid (L5.out.call HH.out hg)
  clear hg
  have hl := L6.out.loc
  obtain ⟨c0, c1, c2⟩ := cells3 hl
  have f := frozen2 hl 2
  clear hl
  go_upto_region 8 with fail
  obtain ⟨W6, hW⟩ : ∃ W, W = w6.setCell ⟨w.heap.size + 1, 2, none⟩ (.int .i64 n6) := ⟨_, rfl⟩
  have M6 := Lib.hid (L6.out.set HH.out 2 (.int .i64 n6))
  rw [← hW] at M6 ⊢
  clear hW c0 c1 c2 f
  go_wp2_with fail
  refine (H7.out W6 M6.out.gone.1).mono ?_
  rintro e w7 ⟨rfl, hg⟩
  have L7 := Lib.hid (M6.out.call HH.out hg)
  clear hg
  have hl := L7.out.loc
  have hz := L7.out.res
  obtain ⟨c0, c1, c2⟩ := cells3 hl
  obtain ⟨z0, z1, z2⟩ := cells3 hz
  have f0 := frozen2 hz 0
  have f1 := frozen2 hz 1
  have f2 := frozen2 hz 2
  clear hl hz
  go_wp2_with fail
  refine bodyPost_ret (step_res rfl (set_three _ _ _ L7.out.res)) rfl ?_
  unfold Elem
  rw [HE.out]
  exact ⟨.bool false, rfl, trivial, L7.out.gone.turn HH.out (Nat.le_refl _) (tn_three w7 _ _ _)⟩
theorem Ip.undo_yes {r : Ip.R} (h : Ip.eqB (Ip.ahead r) Ip.kUndo = true) : Ip.undo r = ((Ip.name (Ip.one [Ip.kUndo] r).2).1, (Ip.one [Ip.sSemi] (Ip.name (Ip.one [Ip.kUndo] r).2).2).2) := by
  have hk := Ip.eqB_iff.1 h
  obtain ⟨t, l, rfl, ha⟩ := Ip.ahead_take (r := r) (by rw [hk]; decide)
  have ht : t.text = Ip.kUndo := by rw [← ha]; exact hk
  have h1 : Ip.one [Ip.kUndo, Ip.sSemi] ⟨t :: l, false⟩ = (Ip.kUndo, ⟨l, false⟩) := by
    unfold Ip.one Ip.bind Ip.ret Ip.take; simp [ht, show Ip.among [Ip.kUndo, Ip.sSemi] Ip.kUndo = true by decide]
  have h2 : Ip.one [Ip.kUndo] ⟨t :: l, false⟩ = (Ip.kUndo, ⟨l, false⟩) := by
    unfold Ip.one Ip.bind Ip.ret Ip.take; simp [ht, show Ip.among [Ip.kUndo] Ip.kUndo = true by decide]
  unfold Ip.undo
  rw [Ip.bind_eq, h1, h2]
  simp only [show Ip.eqB Ip.kUndo Ip.kUndo = true by decide, if_true, Ip.bind_eq, Ip.ret_eq]
theorem Ip.undo_no {r : Ip.R} (h : Ip.eqB (Ip.ahead r) Ip.kUndo = false) : Ip.undo r = (⟨#[]⟩, (Ip.one [Ip.sSemi] r).2) := by
  obtain ⟨l, s⟩ := r
  cases s with
  | true => rfl
  | false =>
    cases l with
    | nil => rfl
    | cons t l =>
      have hu : Ip.eqB t.text Ip.kUndo = false := h
      have hne : t.text ≠ Ip.kUndo := fun e => by rw [e] at hu; exact absurd hu (by decide)
      by_cases hs : t.text = Ip.sSemi
      · have h1 : Ip.one [Ip.kUndo, Ip.sSemi] ⟨t :: l, false⟩ = (Ip.sSemi, ⟨l, false⟩) := by
          unfold Ip.one Ip.bind Ip.ret Ip.take; simp [hs, show Ip.among [Ip.kUndo, Ip.sSemi] Ip.sSemi = true by decide]
        have h2 : Ip.one [Ip.sSemi] ⟨t :: l, false⟩ = (Ip.sSemi, ⟨l, false⟩) := by
          unfold Ip.one Ip.bind Ip.ret Ip.take; simp [hs, show Ip.among [Ip.sSemi] Ip.sSemi = true by decide]
        unfold Ip.undo
        rw [Ip.bind_eq, h1, h2]; rfl
      · have a1 : Ip.among [Ip.kUndo, Ip.sSemi] t.text = false := by
          cases ha : Ip.among [Ip.kUndo, Ip.sSemi] t.text with
          | false => rfl
          | true => have := Ip.among_iff.1 ha; simp [hne, hs] at this
        have a2 : Ip.among [Ip.sSemi] t.text = false := by
          cases ha : Ip.among [Ip.sSemi] t.text with
          | false => rfl
          | true => have := Ip.among_iff.1 ha; simp [hs] at this
        have h1 : Ip.one [Ip.kUndo, Ip.sSemi] ⟨t :: l, false⟩ = (⟨#[]⟩, ⟨t :: l, true⟩) := by
          unfold Ip.one Ip.bind Ip.ret Ip.take; simp [a1]
        have h2 : Ip.one [Ip.sSemi] ⟨t :: l, false⟩ = (⟨#[]⟩, ⟨t :: l, true⟩) := by
          unfold Ip.one Ip.bind Ip.ret Ip.take; simp [a2]
        unfold Ip.undo
        rw [Ip.bind_eq, h1, h2]; rfl
theorem method_res {W : World} {tmps : Array Value} {b : Nat} {x0 x1 x2 x3 x4 : Value} (h2 : tmps[2]? = some (.pointer (some ⟨b, 0, none⟩))) (h : W.heap[b]? = some (.cells #[x0, x1, x2, x3, x4] 94 (0, 0))) :
    (results Tryd.f74 tmps).run Tryd.prog W = .ok (.agg #[x0, x1, x2, x3, x4]) W := by
  obtain ⟨c0, c1, c2, c3, c4⟩ := cells5 h
  simp [results, Tryd.results74, h2, go_sem, c0, c1, c2, c3, c4]
set_option maxRecDepth 100000 in
set_option maxHeartbeats 8000000 in
theorem method_any_yes {w : World} {b q : Nat} {r : Ip.R} (h : Rd w b q r) (hg0 : Ip.eqB (Ip.ahead (Ip.one [Ip.kInt, Ip.kNone] (Ip.one [Ip.sArrow] (Ip.argument (Ip.name (Ip.one [Ip.kGive, Ip.kTake, Ip.kNote] r).2).2).2).2).2) Ip.kUndo = true) : Calls Tryd.prog 74 #[.pointer (some ⟨b, 0, none⟩)] w (Elem kMth b q (Ip.method r) w) := by
  obtain ⟨⟨n1, r1⟩, e1⟩ : ∃ y, Ip.one [Ip.kGive, Ip.kTake, Ip.kNote] r = y := ⟨_, rfl⟩
  have Q1 := fun (W : World) (h : Rd W b q r) => one_lit h [Ip.kGive, Ip.kTake, Ip.kNote] (by decide)
  rw [e1] at Q1
  have H1 := Lib.hid Q1
  clear Q1
  obtain ⟨⟨n2, r2⟩, e2⟩ : ∃ y, Ip.name r1 = y := ⟨_, rfl⟩
  have Q2 := fun (W : World) (h : Rd W b q r1) => name_any h
  rw [e2] at Q2
  have H2 := Lib.hid Q2
  clear Q2
  obtain ⟨⟨n3, r3⟩, e3⟩ : ∃ y, Ip.argument r2 = y := ⟨_, rfl⟩
  have Q3 := fun (W : World) (h : Rd W b q r2) => argument_any h
  rw [e3] at Q3
  have H3 := Lib.hid Q3
  clear Q3
  obtain ⟨⟨n4, r4⟩, e4⟩ : ∃ y, Ip.one [Ip.sArrow] r3 = y := ⟨_, rfl⟩
  have Q4 := fun (W : World) (h : Rd W b q r3) => one_lit h [Ip.sArrow] (by decide)
  rw [e4] at Q4
  have H4 := Lib.hid Q4
  clear Q4
  obtain ⟨⟨n5, r5⟩, e5⟩ : ∃ y, Ip.one [Ip.kInt, Ip.kNone] r4 = y := ⟨_, rfl⟩
  have Q5 := fun (W : World) (h : Rd W b q r4) => one_lit h [Ip.kInt, Ip.kNone] (by decide)
  rw [e5] at Q5
  have H5 := Lib.hid Q5
  clear Q5
  obtain ⟨⟨n6, r6⟩, e6⟩ : ∃ y, Ip.one [Ip.kUndo] r5 = y := ⟨_, rfl⟩
  have Q6 := fun (W : World) (h : Rd W b q r5) => got_yes h Ip.kUndo (by rw [← hg0]; simp only [e1, e2, e3, e4, e5])
  rw [e6] at Q6
  have H6 := Lib.hid Q6
  clear Q6
  obtain ⟨⟨n7, r7⟩, e7⟩ : ∃ y, Ip.name r6 = y := ⟨_, rfl⟩
  have Q7 := fun (W : World) (h : Rd W b q r6) => name_any h
  rw [e7] at Q7
  have H7 := Lib.hid Q7
  clear Q7
  obtain ⟨⟨n8, r8⟩, e8⟩ : ∃ y, Ip.one [Ip.sSemi] r7 = y := ⟨_, rfl⟩
  have Q8 := fun (W : World) (h : Rd W b q r7) => one_lit h [Ip.sSemi] (by decide)
  rw [e8] at Q8
  have H8 := Lib.hid Q8
  clear Q8
  have HE : Hid (Ip.method r = (⟨n2, n3, Ip.meant n5, n1, n7⟩, r8)) := Lib.hid (by unfold Ip.method; simp only [Ip.bind_eq, Ip.ret_eq]; rw [Ip.undo_yes hg0]; simp only [e1, e2, e3, e4, e5, e6, e7, e8])
  have HH := Lib.hid h
  have hlt := h.lt
  clear e1 e2 e3 e4 e5 e6 e7 e8 h
  clear hg0
  go_enter Tryd.func74, Tryd.ntmps74
  go_upto_region 2 with fail
  obtain ⟨W0, hW0⟩ : ∃ W0, W0 = (w.alloc (.cells #[.string ⟨#[]⟩, .string ⟨#[]⟩, .int .u8 0, .string ⟨#[]⟩, .string ⟨#[]⟩] 94)).alloc (.cells #[.string ⟨#[]⟩, .string ⟨#[]⟩, .int .u8 0, .string ⟨#[]⟩, .string ⟨#[]⟩] 94) := ⟨_, rfl⟩
  have M0 := Lib.hid (loc_start HH.out (T := 94) (zs := #[.string ⟨#[]⟩, .string ⟨#[]⟩, .int .u8 0, .string ⟨#[]⟩, .string ⟨#[]⟩]) (cs := #[.string ⟨#[]⟩, .string ⟨#[]⟩, .int .u8 0, .string ⟨#[]⟩, .string ⟨#[]⟩]) rfl rfl)
  rw [← hW0] at M0 ⊢
  clear hW0
  go_wp2_with fail
  refine (H1.out W0 M0.out.gone.1).mono ?_
  rintro e w1 ⟨rfl, hg⟩
  have L1 := Lib.hid (M0.out.call HH.out hg)
  clear hg
  have hl := L1.out.loc
  obtain ⟨c0, c1, c2, c3, c4⟩ := cells5 hl
  have f := frozen2 hl 3
  clear hl
  go_upto_region 3 with fail
  obtain ⟨W1, hW⟩ : ∃ W, W = w1.setCell ⟨w.heap.size + 1, 3, none⟩ (.string n1) := ⟨_, rfl⟩
  have M1 := Lib.hid (L1.out.set HH.out 3 (.string n1))
  rw [← hW] at M1 ⊢
  clear hW c0 c1 c2 c3 c4 f
  go_wp2_with fail
  refine (H2.out W1 M1.out.gone.1).mono ?_
  rintro e w2 ⟨rfl, hg⟩
  have L2 := Lib.hid (M1.out.call HH.out hg)
  clear hg
  have hl := L2.out.loc
  obtain ⟨c0, c1, c2, c3, c4⟩ := cells5 hl
  have f := frozen2 hl 0
  clear hl
  go_upto_region 4 with fail
  obtain ⟨W2, hW⟩ : ∃ W, W = w2.setCell ⟨w.heap.size + 1, 0, none⟩ (.string n2) := ⟨_, rfl⟩
  have M2 := Lib.hid (L2.out.set HH.out 0 (.string n2))
  rw [← hW] at M2 ⊢
  clear hW c0 c1 c2 c3 c4 f
  go_wp2_with fail
  refine (H3.out W2 M2.out.gone.1).mono ?_
  rintro e w3 ⟨rfl, hg⟩
  have L3 := Lib.hid (M2.out.call HH.out hg)
  clear hg
  have hl := L3.out.loc
  obtain ⟨c0, c1, c2, c3, c4⟩ := cells5 hl
  have f := frozen2 hl 1
  clear hl
  go_upto_region 5 with fail
  obtain ⟨W3, hW⟩ : ∃ W, W = w3.setCell ⟨w.heap.size + 1, 1, none⟩ (.string n3) := ⟨_, rfl⟩
  have M3 := Lib.hid (L3.out.set HH.out 1 (.string n3))
  rw [← hW] at M3 ⊢
  clear hW c0 c1 c2 c3 c4 f
  go_wp2_with fail
  refine (H4.out W3 M3.out.gone.1).mono ?_
  rintro e w4 ⟨rfl, hg⟩
  have L4 := Lib.hid (M3.out.call HH.out hg)
  clear hg
  go_wp2_with fail
  refine (H5.out w4 L4.out.gone.1).mono ?_
  rintro e w5 ⟨rfl, hg⟩
  have L5 := Lib.hid (L4.out.call HH.out hg)
  clear hg
  go_wp2_with fail
  refine (meant_any n5 _).mono ?_
  rintro e w' ⟨rfl, hw⟩
  obtain rfl := hw
  have hl := L5.out.loc
  obtain ⟨c0, c1, c2, c3, c4⟩ := cells5 hl
  have f := frozen2 hl 2
  clear hl
  go_upto_region 7 with fail
  obtain ⟨W5, hW⟩ : ∃ W, W = w5.setCell ⟨w.heap.size + 1, 2, none⟩ (.int .u8 (Ip.meant n5 : Nat)) := ⟨_, rfl⟩
  have M5 := Lib.hid (L5.out.set HH.out 2 (.int .u8 (Ip.meant n5 : Nat)))
  rw [← hW] at M5 ⊢
  clear hW c0 c1 c2 c3 c4 f
  go_wp2_with fail
  refine (H6.out W5 M5.out.gone.1).mono ?_
  rintro e w6 ⟨rfl, hg⟩
  have L6 := Lib.hid (M5.out.call HH.out hg)
  clear hg
  go_wp2_with fail
  refine (H7.out w6 L6.out.gone.1).mono ?_
  rintro e w7 ⟨rfl, hg⟩
  have L7 := Lib.hid (L6.out.call HH.out hg)
  clear hg
  have hl := L7.out.loc
  obtain ⟨c0, c1, c2, c3, c4⟩ := cells5 hl
  have f := frozen2 hl 4
  clear hl
  go_upto_region 9 with fail
  obtain ⟨W7, hW⟩ : ∃ W, W = w7.setCell ⟨w.heap.size + 1, 4, none⟩ (.string n7) := ⟨_, rfl⟩
  have M7 := Lib.hid (L7.out.set HH.out 4 (.string n7))
  rw [← hW] at M7 ⊢
  clear hW c0 c1 c2 c3 c4 f
  go_wp2_with fail
  refine (H8.out W7 M7.out.gone.1).mono ?_
  rintro e w8 ⟨rfl, hg⟩
  have L8 := Lib.hid (M7.out.call HH.out hg)
  clear hg
  have hl := L8.out.loc
  have hz := L8.out.res
  obtain ⟨c0, c1, c2, c3, c4⟩ := cells5 hl
  obtain ⟨z0, z1, z2, z3, z4⟩ := cells5 hz
  have f0 := frozen2 hz 0
  have f1 := frozen2 hz 1
  have f2 := frozen2 hz 2
  have f3 := frozen2 hz 3
  have f4 := frozen2 hz 4
  clear hl hz
  go_wp2_with fail
  refine bodyPost_ret (method_res rfl (set_five _ _ _ _ _ L8.out.res)) rfl ?_
  unfold Elem
  rw [HE.out]
  exact ⟨.bool false, rfl, trivial, L8.out.gone.turn HH.out (Nat.le_refl _) (tn_five w8 _ _ _ _ _)⟩
set_option maxRecDepth 100000 in
set_option maxHeartbeats 8000000 in
theorem method_any_no {w : World} {b q : Nat} {r : Ip.R} (h : Rd w b q r) (hg0 : Ip.eqB (Ip.ahead (Ip.one [Ip.kInt, Ip.kNone] (Ip.one [Ip.sArrow] (Ip.argument (Ip.name (Ip.one [Ip.kGive, Ip.kTake, Ip.kNote] r).2).2).2).2).2) Ip.kUndo = false) : Calls Tryd.prog 74 #[.pointer (some ⟨b, 0, none⟩)] w (Elem kMth b q (Ip.method r) w) := by
  obtain ⟨⟨n1, r1⟩, e1⟩ : ∃ y, Ip.one [Ip.kGive, Ip.kTake, Ip.kNote] r = y := ⟨_, rfl⟩
  have Q1 := fun (W : World) (h : Rd W b q r) => one_lit h [Ip.kGive, Ip.kTake, Ip.kNote] (by decide)
  rw [e1] at Q1
  have H1 := Lib.hid Q1
  clear Q1
  obtain ⟨⟨n2, r2⟩, e2⟩ : ∃ y, Ip.name r1 = y := ⟨_, rfl⟩
  have Q2 := fun (W : World) (h : Rd W b q r1) => name_any h
  rw [e2] at Q2
  have H2 := Lib.hid Q2
  clear Q2
  obtain ⟨⟨n3, r3⟩, e3⟩ : ∃ y, Ip.argument r2 = y := ⟨_, rfl⟩
  have Q3 := fun (W : World) (h : Rd W b q r2) => argument_any h
  rw [e3] at Q3
  have H3 := Lib.hid Q3
  clear Q3
  obtain ⟨⟨n4, r4⟩, e4⟩ : ∃ y, Ip.one [Ip.sArrow] r3 = y := ⟨_, rfl⟩
  have Q4 := fun (W : World) (h : Rd W b q r3) => one_lit h [Ip.sArrow] (by decide)
  rw [e4] at Q4
  have H4 := Lib.hid Q4
  clear Q4
  obtain ⟨⟨n5, r5⟩, e5⟩ : ∃ y, Ip.one [Ip.kInt, Ip.kNone] r4 = y := ⟨_, rfl⟩
  have Q5 := fun (W : World) (h : Rd W b q r4) => one_lit h [Ip.kInt, Ip.kNone] (by decide)
  rw [e5] at Q5
  have H5 := Lib.hid Q5
  clear Q5
  have Q6 := fun (W : World) (h : Rd W b q r5) => got_no h Ip.kUndo (by rw [← hg0]; simp only [e1, e2, e3, e4, e5])
  have H6 := Lib.hid Q6
  clear Q6
  have e6 : True := trivial
  obtain ⟨⟨n7, r7⟩, e7⟩ : ∃ y, Ip.one [Ip.sSemi] r5 = y := ⟨_, rfl⟩
  have Q7 := fun (W : World) (h : Rd W b q r5) => one_lit h [Ip.sSemi] (by decide)
  rw [e7] at Q7
  have H7 := Lib.hid Q7
  clear Q7
  have HE : Hid (Ip.method r = (⟨n2, n3, Ip.meant n5, n1, ⟨#[]⟩⟩, r7)) := Lib.hid (by unfold Ip.method; simp only [Ip.bind_eq, Ip.ret_eq]; rw [Ip.undo_no hg0]; simp only [e1, e2, e3, e4, e5, e7])
  have HH := Lib.hid h
  have hlt := h.lt
  clear e1 e2 e3 e4 e5 e7 h
  clear hg0
  go_enter Tryd.func74, Tryd.ntmps74
  go_upto_region 2 with fail
  obtain ⟨W0, hW0⟩ : ∃ W0, W0 = (w.alloc (.cells #[.string ⟨#[]⟩, .string ⟨#[]⟩, .int .u8 0, .string ⟨#[]⟩, .string ⟨#[]⟩] 94)).alloc (.cells #[.string ⟨#[]⟩, .string ⟨#[]⟩, .int .u8 0, .string ⟨#[]⟩, .string ⟨#[]⟩] 94) := ⟨_, rfl⟩
  have M0 := Lib.hid (loc_start HH.out (T := 94) (zs := #[.string ⟨#[]⟩, .string ⟨#[]⟩, .int .u8 0, .string ⟨#[]⟩, .string ⟨#[]⟩]) (cs := #[.string ⟨#[]⟩, .string ⟨#[]⟩, .int .u8 0, .string ⟨#[]⟩, .string ⟨#[]⟩]) rfl rfl)
  rw [← hW0] at M0 ⊢
  clear hW0
  go_wp2_with fail
  refine (H1.out W0 M0.out.gone.1).mono ?_
  rintro e w1 ⟨rfl, hg⟩
  have L1 := Lib.hid (M0.out.call HH.out hg)
  clear hg
  have hl := L1.out.loc
  obtain ⟨c0, c1, c2, c3, c4⟩ := cells5 hl
  have f := frozen2 hl 3
  clear hl
  go_upto_region 3 with fail
  obtain ⟨W1, hW⟩ : ∃ W, W = w1.setCell ⟨w.heap.size + 1, 3, none⟩ (.string n1) := ⟨_, rfl⟩
  have M1 := Lib.hid (L1.out.set HH.out 3 (.string n1))
  rw [← hW] at M1 ⊢
  clear hW c0 c1 c2 c3 c4 f
  go_wp2_with fail
  refine (H2.out W1 M1.out.gone.1).mono ?_
  rintro e w2 ⟨rfl, hg⟩
  have L2 := Lib.hid (M1.out.call HH.out hg)
  clear hg
  have hl := L2.out.loc
  obtain ⟨c0, c1, c2, c3, c4⟩ := cells5 hl
  have f := frozen2 hl 0
  clear hl
  go_upto_region 4 with fail
  obtain ⟨W2, hW⟩ : ∃ W, W = w2.setCell ⟨w.heap.size + 1, 0, none⟩ (.string n2) := ⟨_, rfl⟩
  have M2 := Lib.hid (L2.out.set HH.out 0 (.string n2))
  rw [← hW] at M2 ⊢
  clear hW c0 c1 c2 c3 c4 f
  go_wp2_with fail
  refine (H3.out W2 M2.out.gone.1).mono ?_
  rintro e w3 ⟨rfl, hg⟩
  have L3 := Lib.hid (M2.out.call HH.out hg)
  clear hg
  have hl := L3.out.loc
  obtain ⟨c0, c1, c2, c3, c4⟩ := cells5 hl
  have f := frozen2 hl 1
  clear hl
  go_upto_region 5 with fail
  obtain ⟨W3, hW⟩ : ∃ W, W = w3.setCell ⟨w.heap.size + 1, 1, none⟩ (.string n3) := ⟨_, rfl⟩
  have M3 := Lib.hid (L3.out.set HH.out 1 (.string n3))
  rw [← hW] at M3 ⊢
  clear hW c0 c1 c2 c3 c4 f
  go_wp2_with fail
  refine (H4.out W3 M3.out.gone.1).mono ?_
  rintro e w4 ⟨rfl, hg⟩
  have L4 := Lib.hid (M3.out.call HH.out hg)
  clear hg
  go_wp2_with fail
  refine (H5.out w4 L4.out.gone.1).mono ?_
  rintro e w5 ⟨rfl, hg⟩
  have L5 := Lib.hid (L4.out.call HH.out hg)
  clear hg
  go_wp2_with fail
  refine (meant_any n5 _).mono ?_
  rintro e w' ⟨rfl, hw⟩
  obtain rfl := hw
  have hl := L5.out.loc
  obtain ⟨c0, c1, c2, c3, c4⟩ := cells5 hl
  have f := frozen2 hl 2
  clear hl
  go_upto_region 7 with fail
  obtain ⟨W5, hW⟩ : ∃ W, W = w5.setCell ⟨w.heap.size + 1, 2, none⟩ (.int .u8 (Ip.meant n5 : Nat)) := ⟨_, rfl⟩
  have M5 := Lib.hid (L5.out.set HH.out 2 (.int .u8 (Ip.meant n5 : Nat)))
  rw [← hW] at M5 ⊢
  clear hW c0 c1 c2 c3 c4 f
  go_wp2_with fail
  refine (H6.out W5 M5.out.gone.1).mono ?_
  rintro e w6 ⟨rfl, rfl⟩
  go_wp2_with fail
  refine (H7.out W5 M5.out.gone.1).mono ?_
  rintro e w7 ⟨rfl, hg⟩
  have L7 := Lib.hid (M5.out.call HH.out hg)
  clear hg
  have hl := L7.out.loc
  have hz := L7.out.res
  obtain ⟨c0, c1, c2, c3, c4⟩ := cells5 hl
  obtain ⟨z0, z1, z2, z3, z4⟩ := cells5 hz
  have f0 := frozen2 hz 0
  have f1 := frozen2 hz 1
  have f2 := frozen2 hz 2
  have f3 := frozen2 hz 3
  have f4 := frozen2 hz 4
  clear hl hz
  go_wp2_with fail
  refine bodyPost_ret (method_res rfl (set_five _ _ _ _ _ L7.out.res)) rfl ?_
  unfold Elem
  rw [HE.out]
  exact ⟨.bool false, rfl, trivial, L7.out.gone.turn HH.out (Nat.le_refl _) (tn_five w7 _ _ _ _ _)⟩
theorem method_any {w : World} {b q : Nat} {r : Ip.R} (h : Rd w b q r) : Calls Tryd.prog 74 #[.pointer (some ⟨b, 0, none⟩)] w (Elem kMth b q (Ip.method r) w) := by
  cases hg : Ip.eqB (Ip.ahead (Ip.one [Ip.kInt, Ip.kNone] (Ip.one [Ip.sArrow] (Ip.argument (Ip.name (Ip.one [Ip.kGive, Ip.kTake, Ip.kNote] r).2).2).2).2).2) Ip.kUndo with
  | true => exact method_any_yes h hg
  | false => exact method_any_no h hg
end Go.Proofs.YtlmjcnfiolbfpaaDoor
