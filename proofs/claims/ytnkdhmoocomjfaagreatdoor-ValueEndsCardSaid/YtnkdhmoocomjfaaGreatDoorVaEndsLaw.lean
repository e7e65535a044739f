/-
  Walks over the laws of package value: where a whole ends is the document's. Conditions: those in the theorems (the keywords' variable holds what the row lists).
-/
import Derived.Test.YtnkdhmoocomjfaaGreatDoorVaWakes
set_option linter.unusedSimpArgs false
set_option linter.unusedVariables false
namespace Go.Proofs.YtnkdhmoocomjfaaGreatDoor
open Go.RowKit
set_option maxRecDepth 100000 in
theorem open_value {H : Type} {enc : TypeId × Value → H} {W : World} {v : Value} {base : Nat} {d : DataW H} {ps : List MemPlace} (hval : Value.okWide Tryz.prog W .any base 54 v) (h : DataW.Trod enc Tryz.prog W 0 (fun _ => true) true 54 v d ps) : ∃ t, RoNd W v t := by
  obtain ⟨fuel, hf⟩ := h
  obtain ⟨p, n, c, rfl⟩ := Go.WideShapes.okWide_slice Tryz.underlying54 hval
  exact open_rows (K := kNd) (inn := NdIn) (sub := fun _ _ _ => True) Tryz.underlying54 (by kernel_rfl) (by decide) (fun _ _ => rfl) (fun _ _ _ h => open_nd h) hf
set_option maxRecDepth 100000 in
set_option maxHeartbeats 8000000 in
theorem valueEnds_any {w : World} {vv : Value} {v : List Vl.Nd} (h : RoNd w vv v) (hk : KwIs w) (i : Int) (hi : I64 i) : Calls Tryz.prog 7 #[vv, .int .i64 i] w fun e w' => e = .returned (.bool true) ∧ Below w.heap.size w w' := by
  obtain ⟨p, c, rfl, hc1, hc2⟩ := RoIs.shape h
  have HWK : Hid (∀ W, Below w.heap.size w W → Calls Tryz.prog 27 #[] W fun e w' => e = .returned (.bool true) ∧ Below W.heap.size W w') := Lib.hid fun W hW => wakes15_any W (kw_kp hk (Kp.of_below hW))
  have H := Lib.hid h
  clear h hk
  by_cases hl : 6000 < v.length
  · have i1 : (6000 : Int) < (v.length : Int) := by omega
    clear hl
    go_enter Tryz.func7, Tryz.ntmps7
    go_wp2_with fail
    refine Calls.mono (HWK.out _ (Below.refl _ _)) ?_
    rintro e w2 ⟨rfl, hb2⟩
    have HB2 := Lib.hid hb2
    clear hb2
    go_wp2_with fail
    go_ret
    exact ⟨rfl, HB2.out⟩
  · have i1 : ¬ (6000 : Int) < (v.length : Int) := by omega
    have HE := Lib.hid (End_any H.out (by omega) i hi)
    have HR := Lib.hid (RefEnd_any H.out (by omega) i hi)
    clear hl hi
    generalize Vl.endOf v i = en at *
    go_enter Tryz.func7, Tryz.ntmps7
    go_wp2_with fail
    refine Calls.mono HE.out ?_
    rintro e w2 ⟨rfl, hw2⟩
    rw [hw2]
    clear hw2 w2
    go_wp2_with fail
    refine Calls.mono HR.out ?_
    rintro e w2 ⟨rfl, hw2⟩
    rw [hw2]
    clear hw2 w2
    go_wp2_with fail
    refine Calls.mono (HWK.out _ (Below.refl _ _)) ?_
    rintro e w2 ⟨rfl, hb2⟩
    have HB2 := Lib.hid hb2
    clear hb2
    go_wp2_with fail
    go_ret
    exact ⟨rfl, HB2.out⟩
end Go.Proofs.YtnkdhmoocomjfaaGreatDoor
