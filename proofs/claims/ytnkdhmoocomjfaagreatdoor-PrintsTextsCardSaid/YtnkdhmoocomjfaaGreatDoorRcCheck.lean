/-
  Walks over the document's check: Check. Conditions: those in the theorems.
-/
import Derived.Test.YtnkdhmoocomjfaaGreatDoorRcSteps10
import Derived.Test.YtnkdhmoocomjfaaGreatDoorRcBottoms
import Derived.Test.YtnkdhmoocomjfaaGreatDoorRcCounts
import Derived.Test.YtnkdhmoocomjfaaGreatDoorCkCheck
set_option linter.unusedSimpArgs false
set_option linter.unusedVariables false
namespace Go.Proofs.YtnkdhmoocomjfaaGreatDoor
open Go.RowKit
theorem findSome_congr {α β : Type} {f g : α → Option β} : ∀ {l : List α}, (∀ x ∈ l, f x = g x) → l.findSome? f = l.findSome? g
  | [], _ => rfl
  | a :: l, h => by rw [List.findSome?_cons, List.findSome?_cons, h a List.mem_cons_self, findSome_congr fun x hx => h x (List.mem_cons_of_mem _ hx)]
theorem types_is (s : Ip.Sch) : Ck.types s = (s.records.findSome? (tR s)).or (s.services.findSome? (mV m4 s)) := by
  have h : (s.services.findSome? (mV m4 s)) = s.services.findSome? fun v => v.methods.findSome? fun m => if m.result = 1 ∨ m.result = 3 then none else some (Ck.dot v.name m.name) :=
    findSome_congr fun v _ => findSome_congr fun m _ => by
      unfold mF m4
      by_cases h : m.result = 1 ∨ m.result = 3
      · rw [if_pos h, if_pos (by simpa using h)]
      · rw [if_neg h, if_neg (by simpa using h)]
  rw [h]; rfl
def gF (s : Ip.Sch) (g : Ip.Sga) : Option ByteArray := if Ck.order s g.arg then none else some g.name
theorem gF_yes {s : Ip.Sch} {g : Ip.Sga} (h : Ck.order s g.arg = true) : gF s g = none := by unfold gF; rw [if_pos h]
theorem gF_no {s : Ip.Sch} {g : Ip.Sga} (h : Ck.order s g.arg = false) : gF s g = some g.name := by unfold gF; rw [if_neg (by rw [h]; decide)]
theorem upto_step {s : Ip.Sch} {k : Nat} (h : ∀ j, j < k → Ck.ruleAt s j = none) (hk : Ck.ruleAt s k = none) : ∀ j, j < k + 1 → Ck.ruleAt s j = none := fun j hj => by
  by_cases e : j < k
  · exact h j e
  · obtain rfl : j = k := by omega
    exact hk
set_option maxRecDepth 100000 in
set_option maxHeartbeats 16000000 in
theorem RefCheck_any {u w : World} {sv : Value} {s : Ip.Sch} (h : RoSch u sv s) (hu : Kp u w) (hS : Ck.Small s) : Calls Tryz.prog 17 #[sv] w (Checked s w) := by
  obtain ⟨p1, c1, p2, c2, p3, c3, rfl, -, -, -, hg, l1, l2, l3⟩ := sch_parts h
  obtain ⟨W0, hW0⟩ : ∃ W0, W0 = allocs w [schO s p1 c1 p2 c2 p3 c3] := ⟨_, rfl⟩
  have HX : Hid (∀ W, Below W0.heap.size W0 W → W.heap[w.heap.size]? = some (schO s p1 c1 p2 c2 p3 c3) ∧ Below w.heap.size w W) := Lib.hid (by subst hW0; exact fun W hW => ⟨allocs_box (i := 0) rfl hW, allocs_on hW⟩)
  obtain ⟨b0, B0⟩ := HX.out W0 (Below.refl _ _)
  have H := Lib.hid h
  have HU := Lib.hid (hu.below B0)
  have HG := Lib.hid hg
  have HSM := Lib.hid hS
  have m1 : s.sagas.length ≤ 100 := hS.ng
  obtain ⟨x0, x1, x2, x3⟩ := cells4' b0
  have HB := Lib.hid (Below.refl W0.heap.size W0)
  have HP0 : Hid (∀ j, j < 0 → Ck.ruleAt s j = none) := Lib.hid fun j hj => absurd hj (Nat.not_lt_zero _)
  clear h hu hS hg b0 B0 l1 l2 l3
  simp only [allocs, schO] at hW0
  go_enter Tryz.func17, Tryz.ntmps17
  go_upto_region 1 with fail
  rw [← hW0]
  clear hW0
  go_wp2_with fail
  refine Calls.mono (refNames_any H.out HU.out HSM.out) ?_
  rintro e w1 ⟨rfl, hb⟩
  have HB := Lib.hid (HB.out.trans (hb.mono HB.out.size))
  clear hb x0 x1 x2 x3
  cases hq : Ck.names s with
  | some p =>
    have HC : Hid (Ck.check s = (p, 120)) := Lib.hid (Ck.check_at (k := 0) (by omega) HP0.out (by exact hq))
    clear hq
    simp only [Option.getD_some, Option.isNone_some]
    go_wp2_with fail
    go_ret2
    exact ⟨by rw [HC.out]; rfl, (HX.out _ HB.out).2⟩
  | none =>
  have HN0 : Hid (Ck.ruleAt s 0 = none) := Lib.hid hq
  clear hq
  have HP1 := Lib.hid (upto_step HP0.out HN0.out)
  simp only [Option.getD_none, Option.isNone_none]
  obtain ⟨x0, x1, x2, x3⟩ := cells4' (HX.out _ HB.out).1
  go_wp2_with fail
  refine Calls.mono (refCounts_any H.out (HU.out.below HB.out) HSM.out) ?_
  rintro e w2 ⟨rfl, hb⟩
  have HB := Lib.hid (HB.out.trans (hb.mono HB.out.size))
  clear hb x0 x1 x2 x3
  cases hq : Ck.counts s with
  | some p =>
    have HC : Hid (Ck.check s = (p, 135)) := Lib.hid (Ck.check_at (k := 1) (by omega) HP1.out (by exact hq))
    clear hq
    simp only [Option.getD_some, Option.isNone_some]
    go_wp2_with fail
    go_ret2
    exact ⟨by rw [HC.out]; rfl, (HX.out _ HB.out).2⟩
  | none =>
  have HN1 : Hid (Ck.ruleAt s 1 = none) := Lib.hid hq
  clear hq
  have HP2 := Lib.hid (upto_step HP1.out HN1.out)
  simp only [Option.getD_none, Option.isNone_none]
  obtain ⟨x0, x1, x2, x3⟩ := cells4' (HX.out _ HB.out).1
  go_wp2_with fail
  refine Calls.mono (refDoubles_any H.out (HU.out.below HB.out) HSM.out) ?_
  rintro e w3 ⟨rfl, hb⟩
  have HB := Lib.hid (HB.out.trans (hb.mono HB.out.size))
  clear hb x0 x1 x2 x3
  cases hq : Ck.doubles s with
  | some p =>
    have HC : Hid (Ck.check s = (p, 130)) := Lib.hid (Ck.check_at (k := 2) (by omega) HP2.out (by exact hq))
    clear hq
    simp only [Option.getD_some, Option.isNone_some]
    go_wp2_with fail
    go_ret2
    exact ⟨by rw [HC.out]; rfl, (HX.out _ HB.out).2⟩
  | none =>
  have HN2 : Hid (Ck.ruleAt s 2 = none) := Lib.hid hq
  clear hq
  have HP3 := Lib.hid (upto_step HP2.out HN2.out)
  simp only [Option.getD_none, Option.isNone_none]
  obtain ⟨x0, x1, x2, x3⟩ := cells4' (HX.out _ HB.out).1
  go_wp2_with fail
  refine Calls.mono (refRecords4_any H.out (HU.out.below HB.out) HSM.out) ?_
  rintro e w4 ⟨rfl, hb⟩
  have HB := Lib.hid (HB.out.trans (hb.mono HB.out.size))
  clear hb x0 x1 x2 x3
  cases hq : s.records.findSome? (tR s) with
  | some p =>
    have HC : Hid (Ck.check s = (p, 131)) := Lib.hid (Ck.check_at (k := 3) (by omega) HP3.out (by show Ck.types s = some p; rw [types_is, hq]; rfl))
    clear hq
    simp only [Option.getD_some, Option.isNone_some]
    go_wp2_with fail
    go_ret2
    exact ⟨by rw [HC.out]; rfl, (HX.out _ HB.out).2⟩
  | none =>
  have HT := Lib.hid hq
  clear hq
  simp only [Option.getD_none, Option.isNone_none]
  obtain ⟨x0, x1, x2, x3⟩ := cells4' (HX.out _ HB.out).1
  go_wp2_with fail
  refine Calls.mono (refMethods4_any H.out (HU.out.below HB.out) HSM.out) ?_
  rintro e w5 ⟨rfl, hb⟩
  have HB := Lib.hid (HB.out.trans (hb.mono HB.out.size))
  clear hb x0 x1 x2 x3
  cases hq : s.services.findSome? (mV m4 s) with
  | some p =>
    have HC : Hid (Ck.check s = (p, 131)) := Lib.hid (Ck.check_at (k := 3) (by omega) HP3.out (by show Ck.types s = some p; rw [types_is, HT.out, hq]; rfl))
    clear hq
    simp only [Option.getD_some, Option.isNone_some]
    go_wp2_with fail
    go_ret2
    exact ⟨by rw [HC.out]; rfl, (HX.out _ HB.out).2⟩
  | none =>
  have HN3 : Hid (Ck.ruleAt s 3 = none) := Lib.hid (by show Ck.types s = none; rw [types_is, HT.out, hq]; rfl)
  clear hq
  have HP4 := Lib.hid (upto_step HP3.out HN3.out)
  simp only [Option.getD_none, Option.isNone_none]
  obtain ⟨x0, x1, x2, x3⟩ := cells4' (HX.out _ HB.out).1
  go_wp2_with fail
  refine Calls.mono (refRecords5_any H.out (HU.out.below HB.out) HSM.out) ?_
  rintro e w6 ⟨rfl, hb⟩
  have HB := Lib.hid (HB.out.trans (hb.mono HB.out.size))
  clear hb x0 x1 x2 x3
  cases hq : s.records.findSome? (Ck.bR s) with
  | some p =>
    have HC : Hid (Ck.check s = (p, 132)) := Lib.hid (Ck.check_at (k := 4) (by omega) HP4.out (by exact (Ck.bottoms_is HN2.out).symm.trans hq))
    clear hq
    simp only [Option.getD_some, Option.isNone_some]
    go_wp2_with fail
    go_ret2
    exact ⟨by rw [HC.out]; rfl, (HX.out _ HB.out).2⟩
  | none =>
  have HN4 : Hid (Ck.ruleAt s 4 = none) := Lib.hid ((Ck.bottoms_is HN2.out).symm.trans hq)
  clear hq
  have HP5 := Lib.hid (upto_step HP4.out HN4.out)
  simp only [Option.getD_none, Option.isNone_none]
  obtain ⟨x0, x1, x2, x3⟩ := cells4' (HX.out _ HB.out).1
  go_wp2_with fail
  refine Calls.mono (refMethods6_any H.out (HU.out.below HB.out) HSM.out) ?_
  rintro e w7 ⟨rfl, hb⟩
  have HB := Lib.hid (HB.out.trans (hb.mono HB.out.size))
  clear hb x0 x1 x2 x3
  cases hq : s.services.findSome? (mV m6 s) with
  | some p =>
    have HC : Hid (Ck.check s = (p, 134)) := Lib.hid (Ck.check_at (k := 5) (by omega) HP5.out (by exact hq))
    clear hq
    simp only [Option.getD_some, Option.isNone_some]
    go_wp2_with fail
    go_ret2
    exact ⟨by rw [HC.out]; rfl, (HX.out _ HB.out).2⟩
  | none =>
  have HN5 : Hid (Ck.ruleAt s 5 = none) := Lib.hid hq
  clear hq
  have HP6 := Lib.hid (upto_step HP5.out HN5.out)
  simp only [Option.getD_none, Option.isNone_none]
  obtain ⟨x0, x1, x2, x3⟩ := cells4' (HX.out _ HB.out).1
  go_wp2_with fail
  refine Calls.mono (refMethods7_any H.out (HU.out.below HB.out) HSM.out) ?_
  rintro e w8 ⟨rfl, hb⟩
  have HB := Lib.hid (HB.out.trans (hb.mono HB.out.size))
  clear hb x0 x1 x2 x3
  cases hq : s.services.findSome? (mV m7 s) with
  | some p =>
    have HC : Hid (Ck.check s = (p, 133)) := Lib.hid (Ck.check_at (k := 6) (by omega) HP6.out (by exact hq))
    clear hq
    simp only [Option.getD_some, Option.isNone_some]
    go_wp2_with fail
    go_ret2
    exact ⟨by rw [HC.out]; rfl, (HX.out _ HB.out).2⟩
  | none =>
  have HN6 : Hid (Ck.ruleAt s 6 = none) := Lib.hid hq
  clear hq
  have HP7 := Lib.hid (upto_step HP6.out HN6.out)
  simp only [Option.getD_none, Option.isNone_none]
  obtain ⟨x0, x1, x2, x3⟩ := cells4' (HX.out _ HB.out).1
  go_wp2_with fail
  go_loopw [6] (fun iv wr => ∃ i : Nat, i ≤ s.sagas.length ∧ iv = .int .i64 (i : Nat) ∧ Hid (Below W0.heap.size W0 wr ∧ s.sagas.findSome? (gF s) = (s.sagas.drop i).findSome? (gF s))) (fun iv _ => s.sagas.length - (intOf iv).toNat)
  case atStart => exact ⟨0, Nat.zero_le _, rfl, Lib.hid ⟨HB.out, by rw [List.drop_zero]⟩⟩
  case round =>
  obtain ⟨i, hi, rfl, HQ⟩ := hrel
  clear x0 x1 x2 x3
  obtain ⟨x0, x1, x2, x3⟩ := cells4' (HX.out _ HQ.out.1).1
  by_cases hlt : i < s.sagas.length
  · have i1 : (i : Int) < (s.sagas.length : Int) := by omega
    have i2 : (0 : Int) ≤ (i : Int) := by omega
    have HDR : Hid (Below W0.heap.size W0 wr.drew) := Lib.hid (HQ.out.1.drew)
    obtain ⟨A, cc, p, kq, e3, hA, d0, d1, d2, hin, hsub⟩ := sga_at2 HG.out (HU.out.below HQ.out.1) hlt
    cases e3
    have HY : Hid (∀ y, gF s s.sagas[i] = some y → s.sagas.findSome? (gF s) = some y) := Lib.hid fun y hy => HQ.out.2.trans (Ck.some_at hlt hy)
    have HN : Hid (gF s s.sagas[i] = none → s.sagas.findSome? (gF s) = (s.sagas.drop (i + 1)).findSome? (gF s)) := Lib.hid fun hy => HQ.out.2.trans (Ck.none_at hlt hy)
    clear hsub hin hA
    generalize s.sagas[i] = r at *
    have HD0 := Lib.hid d0
    go_wp2_with fail
    go_still_tail 7, (by kernel_rfl)
    change wpList _ _ _ _ _ wr.drew
    have hd0 : wr.drew.cell? (A.add (i * 3)) = some (.string r.name) := HD0.out
    generalize wr.drew = w5 at *
    clear x0 x1 x2 x3 d0 d1 d2
    go_wp2_with fail
    refine Calls.mono (refOrder_any H.out (HU.out.below HDR.out) r.arg) ?_
    rintro e w6 ⟨rfl, hb6⟩
    have HB6 := Lib.hid (HDR.out.trans (hb6.mono HDR.out.size))
    have hd6 := (hb6.cell (tcell_block hd0)).trans hd0
    clear hb6 hd0
    obtain ⟨x0, x1, x2, x3⟩ := cells4' (HX.out _ HB6.out).1
    cases hb : Ck.order s r.arg with
    | true =>
      have HO := Lib.hid (HN.out (gF_yes hb))
      clear hb
      go_wp2_with fail
      go_roundw
      case rel => exact ⟨i + 1, by omega, by go_num, Lib.hid ⟨HB6.out, HO.out⟩⟩
      case measure => simp [intOf]; omega
    | false =>
      have HO := Lib.hid (HY.out _ (gF_no hb))
      have HC : Hid (Ck.check s = (r.name, 240)) := Lib.hid (Ck.check_at (k := 7) (by omega) HP7.out HO.out)
      clear hb
      go_wp2_with fail
      go_ret2
      exact ⟨by rw [HC.out]; rfl, (HX.out _ HB6.out).2⟩
  · obtain rfl : i = s.sagas.length := by omega
    have i1 : ¬ (s.sagas.length : Int) < (s.sagas.length : Int) := by omega
    have HN7 : Hid (Ck.ruleAt s 7 = none) := Lib.hid (HQ.out.2.trans (Ck.none_end (Nat.le_refl _)))
    have HP8 := Lib.hid (upto_step HP7.out HN7.out)
    have HB := Lib.hid HQ.out.1
    have HF8 := Lib.hid (Ck.few_steps HN1.out)
    clear hlt hi
    go_wp2_with fail
    refine Calls.mono (refSteps9_any H.out (HU.out.below HB.out) HSM.out HF8.out) ?_
    rintro e w21 ⟨rfl, hb⟩
    have HB := Lib.hid (HB.out.trans (hb.mono HB.out.size))
    clear hb x0 x1 x2 x3
    cases hq : s.sagas.findSome? (s9G s) with
    | some p =>
      have HC : Hid (Ck.check s = (p, 241)) := Lib.hid (Ck.check_at (k := 8) (by omega) HP8.out (by exact hq))
      clear hq
      simp only [Option.getD_some, Option.isNone_some]
      go_wp2_with fail
      go_ret2
      exact ⟨by rw [HC.out]; rfl, (HX.out _ HB.out).2⟩
    | none =>
    have HN8 : Hid (Ck.ruleAt s 8 = none) := Lib.hid hq
    clear hq
    have HP9 := Lib.hid (upto_step HP8.out HN8.out)
    simp only [Option.getD_none, Option.isNone_none]
    obtain ⟨x0, x1, x2, x3⟩ := cells4' (HX.out _ HB.out).1
    go_wp2_with fail
    refine Calls.mono (refSteps10_any H.out (HU.out.below HB.out) HSM.out HF8.out) ?_
    rintro e w22 ⟨rfl, hb⟩
    have HB := Lib.hid (HB.out.trans (hb.mono HB.out.size))
    clear hb x0 x1 x2 x3
    cases hq : s.sagas.findSome? (s10G s) with
    | some p =>
      have HC : Hid (Ck.check s = (p, 133)) := Lib.hid (Ck.check_at (k := 9) (by omega) HP9.out (by exact hq))
      clear hq
      simp only [Option.getD_some, Option.isNone_some]
      go_wp2_with fail
      go_ret2
      exact ⟨by rw [HC.out]; rfl, (HX.out _ HB.out).2⟩
    | none =>
    have HN9 : Hid (Ck.ruleAt s 9 = none) := Lib.hid hq
    clear hq
    have HP10 := Lib.hid (upto_step HP9.out HN9.out)
    simp only [Option.getD_none, Option.isNone_none]
    have HC : Hid (Ck.check s = (⟨#[]⟩, 0)) := Lib.hid (Ck.check_all HP10.out)
    go_wp2_with fail
    go_ret2
    exact ⟨by rw [HC.out]; rfl, (HX.out _ HB.out).2⟩
end Go.Proofs.YtnkdhmoocomjfaaGreatDoor
