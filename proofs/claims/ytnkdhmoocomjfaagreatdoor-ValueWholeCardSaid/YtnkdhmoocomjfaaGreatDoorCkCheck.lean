/-
  Walks over package check: its rules, and Check. Conditions: those in the theorems.
-/
import Derived.Test.YtnkdhmoocomjfaaGreatDoorCkTwice
import Derived.Test.YtnkdhmoocomjfaaGreatDoorCkBound
import Derived.Laws.EntriesVeiled
set_option linter.unusedSimpArgs false
set_option linter.unusedVariables false
namespace Go.Proofs.YtnkdhmoocomjfaaGreatDoor
open Go.RowKit
def rulesV : Value := .agg #[.func (.func 81) #[] #[], .func (.func 82) #[] #[], .func (.func 83) #[] #[], .func (.func 84) #[] #[], .func (.func 85) #[] #[], .func (.func 86) #[] #[], .func (.func 87) #[] #[], .func (.func 88) #[] #[], .func (.func 89) #[] #[], .func (.func 90) #[] #[]]
theorem cells10 {W : World} {b : Nat} {x0 x1 x2 x3 x4 x5 x6 x7 x8 x9 : Value} {T : TypeId} (h : W.heap[b]? = some (.cells #[x0, x1, x2, x3, x4, x5, x6, x7, x8, x9] T (0, 0))) : W.cell? ⟨b, 0, none⟩ = some x0 ∧ W.cell? ⟨b, 1, none⟩ = some x1 ∧ W.cell? ⟨b, 2, none⟩ = some x2 ∧ W.cell? ⟨b, 3, none⟩ = some x3 ∧ W.cell? ⟨b, 4, none⟩ = some x4 ∧ W.cell? ⟨b, 5, none⟩ = some x5 ∧ W.cell? ⟨b, 6, none⟩ = some x6 ∧ W.cell? ⟨b, 7, none⟩ = some x7 ∧ W.cell? ⟨b, 8, none⟩ = some x8 ∧ W.cell? ⟨b, 9, none⟩ = some x9 := by
  refine ⟨?_, ?_, ?_, ?_, ?_, ?_, ?_, ?_, ?_, ?_⟩ <;> rw [cell_of_row _ b _ _ _ _ h] <;> rfl
theorem set_ten {W : World} {b : Nat} {x0 x1 x2 x3 x4 x5 x6 x7 x8 x9 : Value} (y0 y1 y2 y3 y4 y5 y6 y7 y8 y9 : Value) {T : TypeId} (h : W.heap[b]? = some (.cells #[x0, x1, x2, x3, x4, x5, x6, x7, x8, x9] T (0, 0))) : ((((((((((W.setCell ⟨b, 0, none⟩ y0).setCell ⟨b, 1, none⟩ y1).setCell ⟨b, 2, none⟩ y2).setCell ⟨b, 3, none⟩ y3).setCell ⟨b, 4, none⟩ y4).setCell ⟨b, 5, none⟩ y5).setCell ⟨b, 6, none⟩ y6).setCell ⟨b, 7, none⟩ y7).setCell ⟨b, 8, none⟩ y8).setCell ⟨b, 9, none⟩ y9).heap[b]? = some (.cells #[y0, y1, y2, y3, y4, y5, y6, y7, y8, y9] T (0, 0)) := by
  have h0 : (W.setCell ⟨b, 0, none⟩ y0).heap[b]? = some (.cells #[y0, x1, x2, x3, x4, x5, x6, x7, x8, x9] T (0, 0)) := tk_set h y0
  have h1 : ((W.setCell ⟨b, 0, none⟩ y0).setCell ⟨b, 1, none⟩ y1).heap[b]? = some (.cells #[y0, y1, x2, x3, x4, x5, x6, x7, x8, x9] T (0, 0)) := tk_set h0 y1
  have h2 : (((W.setCell ⟨b, 0, none⟩ y0).setCell ⟨b, 1, none⟩ y1).setCell ⟨b, 2, none⟩ y2).heap[b]? = some (.cells #[y0, y1, y2, x3, x4, x5, x6, x7, x8, x9] T (0, 0)) := tk_set h1 y2
  have h3 : ((((W.setCell ⟨b, 0, none⟩ y0).setCell ⟨b, 1, none⟩ y1).setCell ⟨b, 2, none⟩ y2).setCell ⟨b, 3, none⟩ y3).heap[b]? = some (.cells #[y0, y1, y2, y3, x4, x5, x6, x7, x8, x9] T (0, 0)) := tk_set h2 y3
  have h4 : (((((W.setCell ⟨b, 0, none⟩ y0).setCell ⟨b, 1, none⟩ y1).setCell ⟨b, 2, none⟩ y2).setCell ⟨b, 3, none⟩ y3).setCell ⟨b, 4, none⟩ y4).heap[b]? = some (.cells #[y0, y1, y2, y3, y4, x5, x6, x7, x8, x9] T (0, 0)) := tk_set h3 y4
  have h5 : ((((((W.setCell ⟨b, 0, none⟩ y0).setCell ⟨b, 1, none⟩ y1).setCell ⟨b, 2, none⟩ y2).setCell ⟨b, 3, none⟩ y3).setCell ⟨b, 4, none⟩ y4).setCell ⟨b, 5, none⟩ y5).heap[b]? = some (.cells #[y0, y1, y2, y3, y4, y5, x6, x7, x8, x9] T (0, 0)) := tk_set h4 y5
  have h6 : (((((((W.setCell ⟨b, 0, none⟩ y0).setCell ⟨b, 1, none⟩ y1).setCell ⟨b, 2, none⟩ y2).setCell ⟨b, 3, none⟩ y3).setCell ⟨b, 4, none⟩ y4).setCell ⟨b, 5, none⟩ y5).setCell ⟨b, 6, none⟩ y6).heap[b]? = some (.cells #[y0, y1, y2, y3, y4, y5, y6, x7, x8, x9] T (0, 0)) := tk_set h5 y6
  have h7 : ((((((((W.setCell ⟨b, 0, none⟩ y0).setCell ⟨b, 1, none⟩ y1).setCell ⟨b, 2, none⟩ y2).setCell ⟨b, 3, none⟩ y3).setCell ⟨b, 4, none⟩ y4).setCell ⟨b, 5, none⟩ y5).setCell ⟨b, 6, none⟩ y6).setCell ⟨b, 7, none⟩ y7).heap[b]? = some (.cells #[y0, y1, y2, y3, y4, y5, y6, y7, x8, x9] T (0, 0)) := tk_set h6 y7
  have h8 : (((((((((W.setCell ⟨b, 0, none⟩ y0).setCell ⟨b, 1, none⟩ y1).setCell ⟨b, 2, none⟩ y2).setCell ⟨b, 3, none⟩ y3).setCell ⟨b, 4, none⟩ y4).setCell ⟨b, 5, none⟩ y5).setCell ⟨b, 6, none⟩ y6).setCell ⟨b, 7, none⟩ y7).setCell ⟨b, 8, none⟩ y8).heap[b]? = some (.cells #[y0, y1, y2, y3, y4, y5, y6, y7, y8, x9] T (0, 0)) := tk_set h7 y8
  have h9 : ((((((((((W.setCell ⟨b, 0, none⟩ y0).setCell ⟨b, 1, none⟩ y1).setCell ⟨b, 2, none⟩ y2).setCell ⟨b, 3, none⟩ y3).setCell ⟨b, 4, none⟩ y4).setCell ⟨b, 5, none⟩ y5).setCell ⟨b, 6, none⟩ y6).setCell ⟨b, 7, none⟩ y7).setCell ⟨b, 8, none⟩ y8).setCell ⟨b, 9, none⟩ y9).heap[b]? = some (.cells #[y0, y1, y2, y3, y4, y5, y6, y7, y8, y9] T (0, 0)) := tk_set h8 y9
  exact h9
theorem rule_i0 (w : World) : (Instr.index 75 (.agg #[.func (.func 81) #[] #[], .func (.func 82) #[] #[], .func (.func 83) #[] #[], .func (.func 84) #[] #[], .func (.func 85) #[] #[], .func (.func 86) #[] #[], .func (.func 87) #[] #[], .func (.func 88) #[] #[], .func (.func 89) #[] #[], .func (.func 90) #[] #[]]) (.int .i64 0)).run Tryz.prog w = .ok (.func (.func 81) #[] #[]) w := by kernel_rfl
theorem rule_i1 (w : World) : (Instr.index 75 (.agg #[.func (.func 81) #[] #[], .func (.func 82) #[] #[], .func (.func 83) #[] #[], .func (.func 84) #[] #[], .func (.func 85) #[] #[], .func (.func 86) #[] #[], .func (.func 87) #[] #[], .func (.func 88) #[] #[], .func (.func 89) #[] #[], .func (.func 90) #[] #[]]) (.int .i64 1)).run Tryz.prog w = .ok (.func (.func 82) #[] #[]) w := by kernel_rfl
theorem rule_i2 (w : World) : (Instr.index 75 (.agg #[.func (.func 81) #[] #[], .func (.func 82) #[] #[], .func (.func 83) #[] #[], .func (.func 84) #[] #[], .func (.func 85) #[] #[], .func (.func 86) #[] #[], .func (.func 87) #[] #[], .func (.func 88) #[] #[], .func (.func 89) #[] #[], .func (.func 90) #[] #[]]) (.int .i64 2)).run Tryz.prog w = .ok (.func (.func 83) #[] #[]) w := by kernel_rfl
theorem rule_i3 (w : World) : (Instr.index 75 (.agg #[.func (.func 81) #[] #[], .func (.func 82) #[] #[], .func (.func 83) #[] #[], .func (.func 84) #[] #[], .func (.func 85) #[] #[], .func (.func 86) #[] #[], .func (.func 87) #[] #[], .func (.func 88) #[] #[], .func (.func 89) #[] #[], .func (.func 90) #[] #[]]) (.int .i64 3)).run Tryz.prog w = .ok (.func (.func 84) #[] #[]) w := by kernel_rfl
theorem rule_i4 (w : World) : (Instr.index 75 (.agg #[.func (.func 81) #[] #[], .func (.func 82) #[] #[], .func (.func 83) #[] #[], .func (.func 84) #[] #[], .func (.func 85) #[] #[], .func (.func 86) #[] #[], .func (.func 87) #[] #[], .func (.func 88) #[] #[], .func (.func 89) #[] #[], .func (.func 90) #[] #[]]) (.int .i64 4)).run Tryz.prog w = .ok (.func (.func 85) #[] #[]) w := by kernel_rfl
theorem rule_i5 (w : World) : (Instr.index 75 (.agg #[.func (.func 81) #[] #[], .func (.func 82) #[] #[], .func (.func 83) #[] #[], .func (.func 84) #[] #[], .func (.func 85) #[] #[], .func (.func 86) #[] #[], .func (.func 87) #[] #[], .func (.func 88) #[] #[], .func (.func 89) #[] #[], .func (.func 90) #[] #[]]) (.int .i64 5)).run Tryz.prog w = .ok (.func (.func 86) #[] #[]) w := by kernel_rfl
theorem rule_i6 (w : World) : (Instr.index 75 (.agg #[.func (.func 81) #[] #[], .func (.func 82) #[] #[], .func (.func 83) #[] #[], .func (.func 84) #[] #[], .func (.func 85) #[] #[], .func (.func 86) #[] #[], .func (.func 87) #[] #[], .func (.func 88) #[] #[], .func (.func 89) #[] #[], .func (.func 90) #[] #[]]) (.int .i64 6)).run Tryz.prog w = .ok (.func (.func 87) #[] #[]) w := by kernel_rfl
theorem rule_i7 (w : World) : (Instr.index 75 (.agg #[.func (.func 81) #[] #[], .func (.func 82) #[] #[], .func (.func 83) #[] #[], .func (.func 84) #[] #[], .func (.func 85) #[] #[], .func (.func 86) #[] #[], .func (.func 87) #[] #[], .func (.func 88) #[] #[], .func (.func 89) #[] #[], .func (.func 90) #[] #[]]) (.int .i64 7)).run Tryz.prog w = .ok (.func (.func 88) #[] #[]) w := by kernel_rfl
theorem rule_i8 (w : World) : (Instr.index 75 (.agg #[.func (.func 81) #[] #[], .func (.func 82) #[] #[], .func (.func 83) #[] #[], .func (.func 84) #[] #[], .func (.func 85) #[] #[], .func (.func 86) #[] #[], .func (.func 87) #[] #[], .func (.func 88) #[] #[], .func (.func 89) #[] #[], .func (.func 90) #[] #[]]) (.int .i64 8)).run Tryz.prog w = .ok (.func (.func 89) #[] #[]) w := by kernel_rfl
theorem rule_i9 (w : World) : (Instr.index 75 (.agg #[.func (.func 81) #[] #[], .func (.func 82) #[] #[], .func (.func 83) #[] #[], .func (.func 84) #[] #[], .func (.func 85) #[] #[], .func (.func 86) #[] #[], .func (.func 87) #[] #[], .func (.func 88) #[] #[], .func (.func 89) #[] #[], .func (.func 90) #[] #[]]) (.int .i64 9)).run Tryz.prog w = .ok (.func (.func 90) #[] #[]) w := by kernel_rfl
theorem rules_res {W : World} {tmps : Array Value} {b : Nat} {x0 x1 x2 x3 x4 x5 x6 x7 x8 x9 : Value} (h0 : tmps[0]? = some (.pointer (some ⟨b, 0, none⟩))) (h : W.heap[b]? = some (.cells #[x0, x1, x2, x3, x4, x5, x6, x7, x8, x9] 75 (0, 0))) :
    (results Tryz.f43 tmps).run Tryz.prog W = .ok (.agg #[x0, x1, x2, x3, x4, x5, x6, x7, x8, x9]) W := by
  obtain ⟨c0, c1, c2, c3, c4, c5, c6, c7, c8, c9⟩ := cells10 h
  simp [results, Tryz.results43, h0, go_sem, c0, c1, c2, c3, c4, c5, c6, c7, c8, c9]
set_option maxRecDepth 100000 in
set_option maxHeartbeats 4000000 in
theorem rules_any (w : World) : Calls Tryz.prog 43 #[] w fun e w' => e = .returned rulesV ∧ Below w.heap.size w w' := by
  obtain ⟨W0, hW0⟩ : ∃ W0, W0 = w.alloc (.cells #[.nilFunc, .nilFunc, .nilFunc, .nilFunc, .nilFunc, .nilFunc, .nilFunc, .nilFunc, .nilFunc, .nilFunc] 75) := ⟨_, rfl⟩
  have hz : W0.heap[w.heap.size]? = some (.cells #[.nilFunc, .nilFunc, .nilFunc, .nilFunc, .nilFunc, .nilFunc, .nilFunc, .nilFunc, .nilFunc, .nilFunc] 75 (0, 0)) := by rw [hW0]; exact heap_alloc_new w _
  have hb : Below w.heap.size w W0 := by rw [hW0]; exact tk_alloc w _
  obtain ⟨z0, z1, z2, z3, z4, z5, z6, z7, z8, z9⟩ := cells10 hz
  have f0 := frozen2 hz 0
  have f1 := frozen2 hz 1
  have f2 := frozen2 hz 2
  have f3 := frozen2 hz 3
  have f4 := frozen2 hz 4
  have f5 := frozen2 hz 5
  have f6 := frozen2 hz 6
  have f7 := frozen2 hz 7
  have f8 := frozen2 hz 8
  have f9 := frozen2 hz 9
  have HZ := Lib.hid hz
  have HB := Lib.hid hb
  have HT := Lib.hid (set_ten (.func (.func 81) #[] #[]) (.func (.func 82) #[] #[]) (.func (.func 83) #[] #[]) (.func (.func 84) #[] #[]) (.func (.func 85) #[] #[]) (.func (.func 86) #[] #[]) (.func (.func 87) #[] #[]) (.func (.func 88) #[] #[]) (.func (.func 89) #[] #[]) (.func (.func 90) #[] #[]) hz)
  clear hz hb
  go_enter Tryz.func43, Tryz.ntmps43
  go_upto_region 1 with fail
  rw [← hW0]
  clear hW0
  go_wp2_with fail
  refine bodyPost_ret (rules_res rfl HT.out) rfl ?_
  exact ⟨rfl, ((((((((((HB.out).setCell (by exact Nat.le_refl w.heap.size) _).setCell (by exact Nat.le_refl w.heap.size) _).setCell (by exact Nat.le_refl w.heap.size) _).setCell (by exact Nat.le_refl w.heap.size) _).setCell (by exact Nat.le_refl w.heap.size) _).setCell (by exact Nat.le_refl w.heap.size) _).setCell (by exact Nat.le_refl w.heap.size) _).setCell (by exact Nat.le_refl w.heap.size) _).setCell (by exact Nat.le_refl w.heap.size) _).setCell (by exact Nat.le_refl w.heap.size) _⟩

/-- What Check tells. -/
def Checked (s : Ip.Sch) (w : World) (e : Ending) (w' : World) : Prop := e = .returned (.tuple #[.string (Ck.check s).1, .int .i64 ((Ck.check s).2 : Nat)]) ∧ Below w.heap.size w w'
set_option maxRecDepth 100000 in
set_option maxHeartbeats 16000000 in
theorem Check_any {u w : World} {sv : Value} {s : Ip.Sch} (h : RoSch u sv s) (hu : Kp u w) (hkw : KwIs u) (hS : Ck.Small s) : Calls Tryz.prog 16 #[sv] w (Checked s w) := by
  obtain ⟨p1, c1, p2, c2, p3, c3, rfl, -, -, -, -, l1, l2, l3⟩ := sch_parts h
  obtain ⟨W0, hW0⟩ : ∃ W0, W0 = allocs w [schO s p1 c1 p2 c2 p3 c3] := ⟨_, rfl⟩
  have HX : Hid (∀ W, Below W0.heap.size W0 W → W.heap[w.heap.size]? = some (schO s p1 c1 p2 c2 p3 c3) ∧ Below w.heap.size w W) := Lib.hid (by subst hW0; exact fun W hW => ⟨allocs_box (i := 0) rfl hW, allocs_on hW⟩)
  have H := Lib.hid h
  have HU0 := Lib.hid (hu.below (HX.out W0 (Below.refl _ _)).2)
  have HKW := Lib.hid hkw
  have HSM := Lib.hid hS
  clear h hu hkw hS
  simp only [allocs, schO] at hW0
  go_enter Tryz.func16, Tryz.ntmps16
  go_upto_region 1 with fail
  rw [← hW0]
  clear hW0
  go_wp2_with fail
  refine (rules_any W0).mono ?_
  rintro e w1 ⟨rfl, hb1⟩
  have HB1 := Lib.hid hb1
  clear hb1
  unfold rulesV
  go_wp2_with fail
  go_loopw [7] (fun kv wr => ∃ k : Nat, k ≤ 10 ∧ kv = .int .i64 (k : Nat) ∧ Hid (Below W0.heap.size W0 wr ∧ ∀ j, j < k → Ck.ruleAt s j = none)) (fun kv _ => 10 - (intOf kv).toNat)
  case atStart => exact ⟨0, Nat.zero_le _, rfl, Lib.hid ⟨HB1.out, fun j hj => absurd hj (Nat.not_lt_zero _)⟩⟩
  case round =>
    obtain ⟨k, hk, rfl, HR⟩ := hrel
    obtain ⟨b0, -⟩ := HX.out wr HR.out.1
    obtain ⟨x0, x1, x2, x3⟩ := cells4' b0
    clear b0
    have hk2 : k = 0 ∨ k = 1 ∨ k = 2 ∨ k = 3 ∨ k = 4 ∨ k = 5 ∨ k = 6 ∨ k = 7 ∨ k = 8 ∨ k = 9 ∨ k = 10 := by omega
    clear hk
    have HNO := Lib.hid HR.out.2
    rcases hk2 with rfl | rfl | rfl | rfl | rfl | rfl | rfl | rfl | rfl | rfl | rfl
    · have hix := rule_i0 wr
      go_wp2_with fail
      clear hix
      refine (misnamed_any H.out (HU0.out.below HR.out.1) HKW.out HSM.out).mono ?_
      rintro e w2 ⟨rfl, hb2⟩
      have HB2 := Lib.hid (HR.out.1.trans (hb2.mono HR.out.1.size))
      clear hb2 x0 x1 x2 x3
      cases hq : Ck.names s with
      | none =>
        have HN2 : Hid (∀ j, j < 0 + 1 → Ck.ruleAt s j = none) := Lib.hid fun j hj => by
          by_cases e : j < 0
          · exact HNO.out j e
          · obtain rfl : j = 0 := by omega
            exact hq
        clear hq
        simp only [Option.getD_none, Option.isSome_none]
        go_wp2_with fail
        go_roundw
        case rel => exact ⟨0 + 1, by omega, rfl, Lib.hid ⟨HB2.out, HN2.out⟩⟩
        case measure => simp [intOf]
      | some p =>
        have HC : Hid (Ck.check s = (p, 120)) := Lib.hid (Ck.check_at (k := 0) (by omega) HNO.out hq)
        have HP := Lib.hid (Ck.names_bd HSM.out p hq)
        clear hq
        simp only [Option.getD_some, Option.isSome_some]
        go_wp2_with fail
        refine (clone_any p w2 (by have := HP.out; omega)).mono ?_
        rintro e w3 ⟨rfl, hb3⟩
        have HB3 := Lib.hid (HB2.out.trans (hb3.mono HB2.out.size))
        clear hb3
        go_wp2_with fail
        go_ret2
        exact ⟨by rw [HC.out]; rfl, (HX.out _ HB3.out).2⟩
    · have hix := rule_i1 wr
      go_wp2_with fail
      clear hix
      refine (tooMany_any H.out (HU0.out.below HR.out.1) HSM.out).mono ?_
      rintro e w2 ⟨rfl, hb2⟩
      have HB2 := Lib.hid (HR.out.1.trans (hb2.mono HR.out.1.size))
      clear hb2 x0 x1 x2 x3
      cases hq : Ck.counts s with
      | none =>
        have HN2 : Hid (∀ j, j < 1 + 1 → Ck.ruleAt s j = none) := Lib.hid fun j hj => by
          by_cases e : j < 1
          · exact HNO.out j e
          · obtain rfl : j = 1 := by omega
            exact hq
        clear hq
        simp only [Option.getD_none, Option.isSome_none]
        go_wp2_with fail
        go_roundw
        case rel => exact ⟨1 + 1, by omega, rfl, Lib.hid ⟨HB2.out, HN2.out⟩⟩
        case measure => simp [intOf]
      | some p =>
        have HC : Hid (Ck.check s = (p, 135)) := Lib.hid (Ck.check_at (k := 1) (by omega) HNO.out hq)
        have HP := Lib.hid (Ck.counts_bd HSM.out p hq)
        clear hq
        simp only [Option.getD_some, Option.isSome_some]
        go_wp2_with fail
        refine (clone_any p w2 (by have := HP.out; omega)).mono ?_
        rintro e w3 ⟨rfl, hb3⟩
        have HB3 := Lib.hid (HB2.out.trans (hb3.mono HB2.out.size))
        clear hb3
        go_wp2_with fail
        go_ret2
        exact ⟨by rw [HC.out]; rfl, (HX.out _ HB3.out).2⟩
    · have hix := rule_i2 wr
      go_wp2_with fail
      clear hix
      refine (twice_any H.out (HU0.out.below HR.out.1) HSM.out).mono ?_
      rintro e w2 ⟨rfl, hb2⟩
      have HB2 := Lib.hid (HR.out.1.trans (hb2.mono HR.out.1.size))
      clear hb2 x0 x1 x2 x3
      cases hq : Ck.doubles s with
      | none =>
        have HN2 : Hid (∀ j, j < 2 + 1 → Ck.ruleAt s j = none) := Lib.hid fun j hj => by
          by_cases e : j < 2
          · exact HNO.out j e
          · obtain rfl : j = 2 := by omega
            exact hq
        clear hq
        simp only [Option.getD_none, Option.isSome_none]
        go_wp2_with fail
        go_roundw
        case rel => exact ⟨2 + 1, by omega, rfl, Lib.hid ⟨HB2.out, HN2.out⟩⟩
        case measure => simp [intOf]
      | some p =>
        have HC : Hid (Ck.check s = (p, 130)) := Lib.hid (Ck.check_at (k := 2) (by omega) HNO.out hq)
        have HP := Lib.hid (Ck.doubles_bd HSM.out p hq)
        clear hq
        simp only [Option.getD_some, Option.isSome_some]
        go_wp2_with fail
        refine (clone_any p w2 (by have := HP.out; omega)).mono ?_
        rintro e w3 ⟨rfl, hb3⟩
        have HB3 := Lib.hid (HB2.out.trans (hb3.mono HB2.out.size))
        clear hb3
        go_wp2_with fail
        go_ret2
        exact ⟨by rw [HC.out]; rfl, (HX.out _ HB3.out).2⟩
    · have hix := rule_i3 wr
      go_wp2_with fail
      clear hix
      refine (mistyped_any H.out (HU0.out.below HR.out.1) HSM.out).mono ?_
      rintro e w2 ⟨rfl, hb2⟩
      have HB2 := Lib.hid (HR.out.1.trans (hb2.mono HR.out.1.size))
      clear hb2 x0 x1 x2 x3
      cases hq : Ck.types s with
      | none =>
        have HN2 : Hid (∀ j, j < 3 + 1 → Ck.ruleAt s j = none) := Lib.hid fun j hj => by
          by_cases e : j < 3
          · exact HNO.out j e
          · obtain rfl : j = 3 := by omega
            exact hq
        clear hq
        simp only [Option.getD_none, Option.isSome_none]
        go_wp2_with fail
        go_roundw
        case rel => exact ⟨3 + 1, by omega, rfl, Lib.hid ⟨HB2.out, HN2.out⟩⟩
        case measure => simp [intOf]
      | some p =>
        have HC : Hid (Ck.check s = (p, 131)) := Lib.hid (Ck.check_at (k := 3) (by omega) HNO.out hq)
        have HP := Lib.hid (Ck.types_bd HSM.out p hq)
        clear hq
        simp only [Option.getD_some, Option.isSome_some]
        go_wp2_with fail
        refine (clone_any p w2 (by have := HP.out; omega)).mono ?_
        rintro e w3 ⟨rfl, hb3⟩
        have HB3 := Lib.hid (HB2.out.trans (hb3.mono HB2.out.size))
        clear hb3
        go_wp2_with fail
        go_ret2
        exact ⟨by rw [HC.out]; rfl, (HX.out _ HB3.out).2⟩
    · have hix := rule_i4 wr
      go_wp2_with fail
      clear hix
      refine (bottomless_any H.out (HU0.out.below HR.out.1) ⟨HNO.out 2 (by omega), HNO.out 3 (by omega)⟩ HSM.out).mono ?_
      rintro e w2 ⟨rfl, hb2⟩
      have HB2 := Lib.hid (HR.out.1.trans (hb2.mono HR.out.1.size))
      clear hb2 x0 x1 x2 x3
      cases hq : Ck.bottoms s with
      | none =>
        have HN2 : Hid (∀ j, j < 4 + 1 → Ck.ruleAt s j = none) := Lib.hid fun j hj => by
          by_cases e : j < 4
          · exact HNO.out j e
          · obtain rfl : j = 4 := by omega
            exact hq
        clear hq
        simp only [Option.getD_none, Option.isSome_none]
        go_wp2_with fail
        go_roundw
        case rel => exact ⟨4 + 1, by omega, rfl, Lib.hid ⟨HB2.out, HN2.out⟩⟩
        case measure => simp [intOf]
      | some p =>
        have HC : Hid (Ck.check s = (p, 132)) := Lib.hid (Ck.check_at (k := 4) (by omega) HNO.out hq)
        have HP := Lib.hid (Ck.bottoms_bd HSM.out p hq)
        clear hq
        simp only [Option.getD_some, Option.isSome_some]
        go_wp2_with fail
        refine (clone_any p w2 (by have := HP.out; omega)).mono ?_
        rintro e w3 ⟨rfl, hb3⟩
        have HB3 := Lib.hid (HB2.out.trans (hb3.mono HB2.out.size))
        clear hb3
        go_wp2_with fail
        go_ret2
        exact ⟨by rw [HC.out]; rfl, (HX.out _ HB3.out).2⟩
    · have hix := rule_i5 wr
      go_wp2_with fail
      clear hix
      refine (wrongEffects_any H.out (HU0.out.below HR.out.1) ⟨HNO.out 2 (by omega), HNO.out 3 (by omega)⟩ HSM.out).mono ?_
      rintro e w2 ⟨rfl, hb2⟩
      have HB2 := Lib.hid (HR.out.1.trans (hb2.mono HR.out.1.size))
      clear hb2 x0 x1 x2 x3
      cases hq : Ck.effects s with
      | none =>
        have HN2 : Hid (∀ j, j < 5 + 1 → Ck.ruleAt s j = none) := Lib.hid fun j hj => by
          by_cases e : j < 5
          · exact HNO.out j e
          · obtain rfl : j = 5 := by omega
            exact hq
        clear hq
        simp only [Option.getD_none, Option.isSome_none]
        go_wp2_with fail
        go_roundw
        case rel => exact ⟨5 + 1, by omega, rfl, Lib.hid ⟨HB2.out, HN2.out⟩⟩
        case measure => simp [intOf]
      | some p =>
        have HC : Hid (Ck.check s = (p, 134)) := Lib.hid (Ck.check_at (k := 5) (by omega) HNO.out hq)
        have HP := Lib.hid (Ck.effects_bd HSM.out p hq)
        clear hq
        simp only [Option.getD_some, Option.isSome_some]
        go_wp2_with fail
        refine (clone_any p w2 (by have := HP.out; omega)).mono ?_
        rintro e w3 ⟨rfl, hb3⟩
        have HB3 := Lib.hid (HB2.out.trans (hb3.mono HB2.out.size))
        clear hb3
        go_wp2_with fail
        go_ret2
        exact ⟨by rw [HC.out]; rfl, (HX.out _ HB3.out).2⟩
    · have hix := rule_i6 wr
      go_wp2_with fail
      clear hix
      refine (wrongUndos_any H.out (HU0.out.below HR.out.1) ⟨HNO.out 2 (by omega), HNO.out 3 (by omega)⟩ (HNO.out 5 (by omega)) HSM.out).mono ?_
      rintro e w2 ⟨rfl, hb2⟩
      have HB2 := Lib.hid (HR.out.1.trans (hb2.mono HR.out.1.size))
      clear hb2 x0 x1 x2 x3
      cases hq : Ck.undos s with
      | none =>
        have HN2 : Hid (∀ j, j < 6 + 1 → Ck.ruleAt s j = none) := Lib.hid fun j hj => by
          by_cases e : j < 6
          · exact HNO.out j e
          · obtain rfl : j = 6 := by omega
            exact hq
        clear hq
        simp only [Option.getD_none, Option.isSome_none]
        go_wp2_with fail
        go_roundw
        case rel => exact ⟨6 + 1, by omega, rfl, Lib.hid ⟨HB2.out, HN2.out⟩⟩
        case measure => simp [intOf]
      | some p =>
        have HC : Hid (Ck.check s = (p, 133)) := Lib.hid (Ck.check_at (k := 6) (by omega) HNO.out hq)
        have HP := Lib.hid (Ck.undos_bd HSM.out p hq)
        clear hq
        simp only [Option.getD_some, Option.isSome_some]
        go_wp2_with fail
        refine (clone_any p w2 (by have := HP.out; omega)).mono ?_
        rintro e w3 ⟨rfl, hb3⟩
        have HB3 := Lib.hid (HB2.out.trans (hb3.mono HB2.out.size))
        clear hb3
        go_wp2_with fail
        go_ret2
        exact ⟨by rw [HC.out]; rfl, (HX.out _ HB3.out).2⟩
    · have hix := rule_i7 wr
      go_wp2_with fail
      clear hix
      refine (wrongSagas_any H.out (HU0.out.below HR.out.1) ⟨HNO.out 2 (by omega), HNO.out 3 (by omega)⟩).mono ?_
      rintro e w2 ⟨rfl, hb2⟩
      have HB2 := Lib.hid (HR.out.1.trans (hb2.mono HR.out.1.size))
      clear hb2 x0 x1 x2 x3
      cases hq : Ck.sagas s with
      | none =>
        have HN2 : Hid (∀ j, j < 7 + 1 → Ck.ruleAt s j = none) := Lib.hid fun j hj => by
          by_cases e : j < 7
          · exact HNO.out j e
          · obtain rfl : j = 7 := by omega
            exact hq
        clear hq
        simp only [Option.getD_none, Option.isSome_none]
        go_wp2_with fail
        go_roundw
        case rel => exact ⟨7 + 1, by omega, rfl, Lib.hid ⟨HB2.out, HN2.out⟩⟩
        case measure => simp [intOf]
      | some p =>
        have HC : Hid (Ck.check s = (p, 240)) := Lib.hid (Ck.check_at (k := 7) (by omega) HNO.out hq)
        have HP := Lib.hid (Ck.sagas_bd HSM.out p hq)
        clear hq
        simp only [Option.getD_some, Option.isSome_some]
        go_wp2_with fail
        refine (clone_any p w2 (by have := HP.out; omega)).mono ?_
        rintro e w3 ⟨rfl, hb3⟩
        have HB3 := Lib.hid (HB2.out.trans (hb3.mono HB2.out.size))
        clear hb3
        go_wp2_with fail
        go_ret2
        exact ⟨by rw [HC.out]; rfl, (HX.out _ HB3.out).2⟩
    · have hix := rule_i8 wr
      go_wp2_with fail
      clear hix
      refine (wrongSteps_any H.out (HU0.out.below HR.out.1) (Ck.few_steps (HNO.out 1 (by omega))) HSM.out).mono ?_
      rintro e w2 ⟨rfl, hb2⟩
      have HB2 := Lib.hid (HR.out.1.trans (hb2.mono HR.out.1.size))
      clear hb2 x0 x1 x2 x3
      cases hq : Ck.steps9 s with
      | none =>
        have HN2 : Hid (∀ j, j < 8 + 1 → Ck.ruleAt s j = none) := Lib.hid fun j hj => by
          by_cases e : j < 8
          · exact HNO.out j e
          · obtain rfl : j = 8 := by omega
            exact hq
        clear hq
        simp only [Option.getD_none, Option.isSome_none]
        go_wp2_with fail
        go_roundw
        case rel => exact ⟨8 + 1, by omega, rfl, Lib.hid ⟨HB2.out, HN2.out⟩⟩
        case measure => simp [intOf]
      | some p =>
        have HC : Hid (Ck.check s = (p, 241)) := Lib.hid (Ck.check_at (k := 8) (by omega) HNO.out hq)
        have HP := Lib.hid (Ck.steps9_bd HSM.out p hq)
        clear hq
        simp only [Option.getD_some, Option.isSome_some]
        go_wp2_with fail
        refine (clone_any p w2 (by have := HP.out; omega)).mono ?_
        rintro e w3 ⟨rfl, hb3⟩
        have HB3 := Lib.hid (HB2.out.trans (hb3.mono HB2.out.size))
        clear hb3
        go_wp2_with fail
        go_ret2
        exact ⟨by rw [HC.out]; rfl, (HX.out _ HB3.out).2⟩
    · have hix := rule_i9 wr
      go_wp2_with fail
      clear hix
      refine (noWayBack_any H.out (HU0.out.below HR.out.1) (HNO.out 8 (by omega)) (Ck.few_steps (HNO.out 1 (by omega))) HSM.out).mono ?_
      rintro e w2 ⟨rfl, hb2⟩
      have HB2 := Lib.hid (HR.out.1.trans (hb2.mono HR.out.1.size))
      clear hb2 x0 x1 x2 x3
      cases hq : Ck.steps10 s with
      | none =>
        have HN2 : Hid (∀ j, j < 9 + 1 → Ck.ruleAt s j = none) := Lib.hid fun j hj => by
          by_cases e : j < 9
          · exact HNO.out j e
          · obtain rfl : j = 9 := by omega
            exact hq
        clear hq
        simp only [Option.getD_none, Option.isSome_none]
        go_wp2_with fail
        go_roundw
        case rel => exact ⟨9 + 1, by omega, rfl, Lib.hid ⟨HB2.out, HN2.out⟩⟩
        case measure => simp [intOf]
      | some p =>
        have HC : Hid (Ck.check s = (p, 133)) := Lib.hid (Ck.check_at (k := 9) (by omega) HNO.out hq)
        have HP := Lib.hid (Ck.steps10_bd HSM.out p hq)
        clear hq
        simp only [Option.getD_some, Option.isSome_some]
        go_wp2_with fail
        refine (clone_any p w2 (by have := HP.out; omega)).mono ?_
        rintro e w3 ⟨rfl, hb3⟩
        have HB3 := Lib.hid (HB2.out.trans (hb3.mono HB2.out.size))
        clear hb3
        go_wp2_with fail
        go_ret2
        exact ⟨by rw [HC.out]; rfl, (HX.out _ HB3.out).2⟩
    · have HC := Lib.hid (Ck.check_all HNO.out)
      clear x0 x1 x2 x3
      go_wp2_with fail
      go_ret2
      exact ⟨by rw [HC.out]; rfl, (HX.out _ HR.out.1).2⟩
end Go.Proofs.YtnkdhmoocomjfaaGreatDoor
