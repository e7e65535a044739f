/-
  Walks over the laws of package check: what is not right in a schema, and where, is the document's. Conditions: those in the theorems (the keywords' variable holds what the row lists).
-/
import Derived.Test.YtnkdhmoocomjfaaGreatDoorRcCheck
import Derived.Test.YtnkdhmoocomjfaaGreatDoorCkWakes
set_option linter.unusedSimpArgs false
set_option linter.unusedVariables false
namespace Go.Proofs.YtnkdhmoocomjfaaGreatDoor
open Go.RowKit
set_option maxRecDepth 100000 in
set_option maxHeartbeats 8000000 in
theorem checkTells_any {w : World} {sv : Value} {s : Ip.Sch} (h : RoSch w sv s) (hk : KwIs w) : Calls Tryz.prog 3 #[sv] w fun e w' => e = .returned (.bool true) ∧ Below w.heap.size w w' := by
  obtain ⟨p1, c1, p2, c2, p3, c3, rfl, -, -, -, -, l1, l2, l3⟩ := sch_parts h
  obtain ⟨W0, hW0⟩ : ∃ W0, W0 = allocs w [schO s p1 c1 p2 c2 p3 c3] := ⟨_, rfl⟩
  have HX : Hid (∀ W, Below W0.heap.size W0 W → W.heap[w.heap.size]? = some (schO s p1 c1 p2 c2 p3 c3) ∧ Below w.heap.size w W) := Lib.hid (by subst hW0; exact fun W hW => ⟨allocs_box (i := 0) rfl hW, allocs_on hW⟩)
  obtain ⟨b0, B0⟩ := HX.out W0 (Below.refl _ _)
  obtain ⟨x0, x1, x2, x3⟩ := cells4' b0
  have HB0 := Lib.hid B0
  have H := Lib.hid h
  have HWK : Hid (∀ W, Below w.heap.size w W → Calls Tryz.prog 15 #[] W fun e w' => e = .returned (.bool true) ∧ Below W.heap.size W w') := Lib.hid fun W hW => wakes_any W (kw_kp hk (Kp.of_below hW))
  have HK := Lib.hid hk
  clear h hk b0 B0
  simp only [allocs, schO] at hW0
  go_enter Tryz.func3, Tryz.ntmps3
  go_upto_region 1 with fail
  rw [← hW0]
  clear hW0
  go_wp2_with fail
  clear x0 x1 x2 x3
  refine Calls.mono (Great_any H.out (Kp.of_below HB0.out)) ?_
  rintro e w1 ⟨gb, rfl, hsm, hb1⟩
  have HB1 := Lib.hid hb1
  clear hb1
  cases gb with
  | true =>
    clear hsm
    go_wp2_with fail
    refine Calls.mono (HWK.out _ (HX.out _ HB1.out).2) ?_
    rintro e w2 ⟨rfl, hb2⟩
    have HB2 := Lib.hid ((HX.out _ HB1.out).2.trans (hb2.mono (HX.out _ HB1.out).2.size))
    clear hb2
    go_wp2_with fail
    go_ret
    exact ⟨rfl, HB2.out⟩
  | false =>
    have HSM := Lib.hid (hsm rfl)
    clear hsm
    obtain ⟨x0, x1, x2, x3⟩ := cells4' (HX.out _ HB1.out).1
    go_wp2_with fail
    refine Calls.mono (Check_any H.out (Kp.of_below (HX.out _ HB1.out).2) HK.out HSM.out) ?_
    rintro e w2 ⟨rfl, hb2⟩
    have HB2 := Lib.hid (HB1.out.trans (hb2.mono HB1.out.size))
    clear hb2 x0 x1 x2 x3
    obtain ⟨x0, x1, x2, x3⟩ := cells4' (HX.out _ HB2.out).1
    go_wp2_with fail
    refine Calls.mono (RefCheck_any H.out (Kp.of_below (HX.out _ HB2.out).2) HSM.out) ?_
    rintro e w3 ⟨rfl, hb3⟩
    have HB3 := Lib.hid (HB2.out.trans (hb3.mono HB2.out.size))
    clear hb3 x0 x1 x2 x3
    generalize Ck.check s = pc
    go_wp2_with fail
    refine Calls.mono (HWK.out _ (HX.out _ HB3.out).2) ?_
    rintro e w4 ⟨rfl, hb4⟩
    have HB4 := Lib.hid ((HX.out _ HB3.out).2.trans (hb4.mono (HX.out _ HB3.out).2.size))
    clear hb4
    go_wp2_with fail
    go_ret
    exact ⟨rfl, HB4.out⟩
end Go.Proofs.YtnkdhmoocomjfaaGreatDoor
