/-
  Walks over the document's check: the methods' rule about effects. Conditions: those in the theorems.
  Walks over the document's check: the methods' rule about what takes back. Conditions: those in the theorems.
-/
import Derived.Test.YtnkdhmoocomjfaaGreatDoorRcMethods
set_option linter.unusedSimpArgs false
set_option linter.unusedVariables false
namespace Go.Proofs.YtnkdhmoocomjfaaGreatDoor
open Go.RowKit
set_option maxRecDepth 100000 in
set_option maxHeartbeats 16000000 in
theorem refMethods6_any {u w : World} {sv : Value} {s : Ip.Sch} (h : RoSch u sv s) (hu : Kp u w) (hS : Ck.Small s) : Calls Tryz.prog 49 #[sv, .int .i64 6] w (RuleR (s.services.findSome? (mV m6 s)) w) := by
  obtain ⟨p1, c1, p2, c2, p3, c3, rfl, -, -, hs, -, l1, l2, l3⟩ := sch_parts h
  obtain ⟨W0, hW0⟩ : ∃ W0, W0 = allocs w [schO s p1 c1 p2 c2 p3 c3] := ⟨_, rfl⟩
  have HX : Hid (∀ W, Below W0.heap.size W0 W → W.heap[w.heap.size]? = some (schO s p1 c1 p2 c2 p3 c3) ∧ Below w.heap.size w W) := Lib.hid (by subst hW0; exact fun W hW => ⟨allocs_box (i := 0) rfl hW, allocs_on hW⟩)
  obtain ⟨b0, B0⟩ := HX.out W0 (Below.refl _ _)
  have H := Lib.hid h
  have HU := Lib.hid (hu.below B0)
  have HV := Lib.hid hs
  have HSM := Lib.hid hS
  have m1 : s.services.length ≤ 100 := hS.ns
  have HOR : Hid (∀ W, Below W0.heap.size W0 W → ∀ n : ByteArray, Calls Tryz.prog 50 #[.agg #[.string s.name, .slice p1 s.records.length c1, .slice p2 s.services.length c2, .slice p3 s.sagas.length c3], .string n] W fun e w' => e = .returned (.bool (Ck.order s n)) ∧ Below W.heap.size W w') := Lib.hid fun W hW n => refOrder_any H.out (HU.out.below hW) n
  clear h hu hS hs b0 B0 l1 l2 l3
  simp only [allocs, schO] at hW0
  go_enter Tryz.func49, Tryz.ntmps49
  go_upto_region 1 with fail
  rw [← hW0]
  clear hW0
  go_wp2_with fail
  go_loopw [6, 7, 8, 9, 10, 11, 12] (fun iv _ _ _ _ _ _ wr => ∃ i : Nat, i ≤ s.services.length ∧ iv = .int .i64 (i : Nat) ∧ Hid (Below W0.heap.size W0 wr ∧ s.services.findSome? (mV m6 s) = (s.services.drop i).findSome? (mV m6 s))) (fun iv _ _ _ _ _ _ _ => s.services.length - (intOf iv).toNat)
  case atStart => exact ⟨0, Nat.zero_le _, rfl, Lib.hid ⟨Below.refl _ _, by rw [List.drop_zero]⟩⟩
  case round =>
  obtain ⟨i, hi, rfl, HQ⟩ := hrel
  obtain ⟨x0, x1, x2, x3⟩ := cells4' (HX.out _ HQ.out.1).1
  by_cases hlt : i < s.services.length
  · have i1 : (i : Int) < (s.services.length : Int) := by omega
    have i2 : (0 : Int) ≤ (i : Int) := by omega
    obtain ⟨A, cc, p, kq, e3, hA, d0, d1, hin, hsub⟩ := srv_at2 HV.out (HU.out.below HQ.out.1) hlt
    cases e3
    obtain ⟨_, _, e9, hsl⟩ := ro_len hsub
    cases e9
    have HSUB := Lib.hid hsub
    have HZ := Lib.hid (HSM.out.v _ (List.getElem_mem hlt))
    have HY : Hid (∀ y, mV m6 s s.services[i] = some y → s.services.findSome? (mV m6 s) = some y) := Lib.hid fun y hy => HQ.out.2.trans (Ck.some_at hlt hy)
    have HN : Hid (mV m6 s s.services[i] = none → s.services.findSome? (mV m6 s) = (s.services.drop (i + 1)).findSome? (mV m6 s)) := Lib.hid fun hy => HQ.out.2.trans (Ck.none_at hlt hy)
    clear hsub hin hA
    generalize s.services[i] = r at *
    obtain ⟨W1, hW1⟩ : ∃ W1, W1 = wr.alloc (.cells #[.string r.name, .slice p r.methods.length kq] 98) := ⟨_, rfl⟩
    have HN1 : Hid (W1.heap[wr.heap.size]? = some (.cells #[.string r.name, .slice p r.methods.length kq] 98 (0, 0))) := Lib.hid (by rw [hW1]; exact heap_alloc_new wr _)
    have HB1 : Hid (Below W0.heap.size W0 W1) := Lib.hid (by rw [hW1]; exact HQ.out.1.trans ((tk_alloc wr _).mono HQ.out.1.size))
    have HL1 : Hid (wr.heap.size < W1.heap.size) := Lib.hid (Array.getElem?_eq_some_iff.1 HN1.out).1
    go_upto_region 5 with fail
    rw [← hW1]
    clear hW1 x0 x1 x2 x3 d0 d1
    go_wp2_with fail
    go_loopw [8, 9, 10, 11, 12] (fun kv _ _ _ _ wq => ∃ k : Nat, k ≤ r.methods.length ∧ kv = .int .i64 (k : Nat) ∧ Hid (Below W1.heap.size W1 wq ∧ mV m6 s r = (r.methods.drop k).findSome? (mF m6 s r))) (fun kv _ _ _ _ _ => r.methods.length - (intOf kv).toNat)
    case atStart => exact ⟨0, Nat.zero_le _, rfl, Lib.hid ⟨Below.refl _ _, by rw [List.drop_zero]; rfl⟩⟩
    case round =>
    obtain ⟨k, hk, rfl, HJ⟩ := hrel
    have HBQ : Hid (Below W0.heap.size W0 wr) := Lib.hid (HB1.out.trans (HJ.out.1.mono HB1.out.size))
    obtain ⟨y0, y1⟩ := cells2 ((HJ.out.1.block _ HL1.out).trans HN1.out)
    by_cases hlk : k < r.methods.length
    · have j1 : (k : Int) < (r.methods.length : Int) := by omega
      have j2 : (0 : Int) ≤ (k : Int) := by omega
      have HKQ := Lib.hid (HU.out.below HBQ.out)
      obtain ⟨B, cb, e5, hB, g0, g1, g2, g3, g4, hpin⟩ := mth_at (HSUB.out.kp HKQ.out) hlk
      cases e5
      have HY2 : Hid (∀ y, mF m6 s r r.methods[k] = some y → mV m6 s r = some y) := Lib.hid fun y hy => HJ.out.2.trans (Ck.some_at hlk hy)
      have HN2 : Hid (mF m6 s r r.methods[k] = none → mV m6 s r = (r.methods.drop (k + 1)).findSome? (mF m6 s r)) := Lib.hid fun hy => HJ.out.2.trans (Ck.none_at hlk hy)
      have HZ1 : Hid (r.name.size ≤ 200) := Lib.hid HZ.out.1
      have HZ2 : Hid (r.methods[k].name.size ≤ 200) := Lib.hid (HZ.out.2.2 _ (List.getElem_mem hlk)).1
      clear hB hpin
      generalize r.methods[k] = f at *
      obtain ⟨W2, hW2⟩ : ∃ W2, W2 = wr.alloc (.cells #[.string f.name, .string f.arg, .int .u8 (f.result : Nat), .string f.effect, .string f.undo] 100) := ⟨_, rfl⟩
      have HN3 : Hid (W2.heap[wr.heap.size]? = some (.cells #[.string f.name, .string f.arg, .int .u8 (f.result : Nat), .string f.effect, .string f.undo] 100 (0, 0))) := Lib.hid (by rw [hW2]; exact heap_alloc_new wr _)
      have HB3 : Hid (Below wr.heap.size wr W2) := Lib.hid (by rw [hW2]; exact tk_alloc wr _)
      have HL3 : Hid (wr.heap.size < W2.heap.size) := Lib.hid (Array.getElem?_eq_some_iff.1 HN3.out).1
      have HJ2 : Hid (Below W1.heap.size W1 W2) := Lib.hid (HJ.out.1.trans (HB3.out.mono HJ.out.1.size))
      have HQ2 : Hid (Below W0.heap.size W0 W2) := Lib.hid (HBQ.out.trans (HB3.out.mono HBQ.out.size))
      go_upto_region 9 with fail
      rw [← hW2]
      clear hW2 g0 g1 g2 g3 g4 y0 y1
      have hz1 := HZ1.out
      have hz2 := HZ2.out
      have k4 : ¬ 9223372036854775807 < r.name.size + 1 := by omega
      have k5 : ¬ 9223372036854775807 < r.name.size + 1 + f.name.size := by omega
      have k7 : ¬ 9223372036854775807 < (r.name ++ ⟨#[46]⟩).size + f.name.size := by rw [ByteArray.size_append]; show ¬ 9223372036854775807 < r.name.size + 1 + f.name.size; omega
      clear hz1 hz2
      obtain ⟨y0, y1⟩ := cells2 ((HJ2.out.block _ HL1.out).trans HN1.out)
      obtain ⟨z0, z1, z2, z3, z4⟩ := cells5 HN3.out
      have eg := is_kGive f.effect
      have et := is_kTake f.effect
      have en := is_kNote f.effect
      obtain ⟨x0, x1, x2, x3⟩ := cells4' (HX.out _ HQ2.out).1
      rcases four_words f.effect with ⟨a1, a2, a3⟩ | ⟨a1, a2, a3⟩ | ⟨a1, a2, a3⟩ | ⟨a1, a2, a3⟩
      · rw [a1] at eg
        rw [a2] at et
        rw [a3] at en
        have HM : Hid (m6 s r f = Ck.order s f.arg) := Lib.hid (by simp [m6, a1, a2, a3])
        clear a1 a2 a3
        go_wp2_with fail
        refine Calls.mono (HOR.out _ HQ2.out f.arg) ?_
        rintro e w6 ⟨rfl, hb6⟩
        have HQ6 := Lib.hid (HQ2.out.trans (hb6.mono HQ2.out.size))
        have HJ6 := Lib.hid (HJ2.out.trans (hb6.mono HJ2.out.size))
        have HN6 := Lib.hid ((hb6.block _ HL3.out).trans HN3.out)
        clear hb6 x0 x1 x2 x3 y0 y1 z0 z1 z2 z3 z4
        cases hb : Ck.order s f.arg with
        | true =>
          have HM2 := Lib.hid (HM.out.trans hb)
          clear hb
          have HO := Lib.hid (HN2.out (mF_yes (HM2.out)))
          go_wp2_with fail
          go_roundw
          case rel => exact ⟨k + 1, by omega, by go_num, Lib.hid ⟨HJ6.out, HO.out⟩⟩
          case measure => simp [intOf]; omega
        | false =>
          have HM2 := Lib.hid (HM.out.trans hb)
          clear hb
          obtain ⟨y0, y1⟩ := cells2 ((HJ6.out.block _ HL1.out).trans HN1.out)
          obtain ⟨z0, z1, z2, z3, z4⟩ := cells5 HN6.out
          have HO := Lib.hid (HY.out _ (HY2.out _ (mF_no (HM2.out))))
          go_wp2_with fail
          go_ret2
          exact ruleR_some HO.out (HX.out _ HQ6.out).2
      · rw [a1] at eg
        rw [a2] at et
        rw [a3] at en
        have HM : Hid (m6 s r f = Ck.order s f.arg) := Lib.hid (by simp [m6, a1, a2, a3])
        clear a1 a2 a3
        go_wp2_with fail
        refine Calls.mono (HOR.out _ HQ2.out f.arg) ?_
        rintro e w6 ⟨rfl, hb6⟩
        have HQ6 := Lib.hid (HQ2.out.trans (hb6.mono HQ2.out.size))
        have HJ6 := Lib.hid (HJ2.out.trans (hb6.mono HJ2.out.size))
        have HN6 := Lib.hid ((hb6.block _ HL3.out).trans HN3.out)
        clear hb6 x0 x1 x2 x3 y0 y1 z0 z1 z2 z3 z4
        cases hb : Ck.order s f.arg with
        | true =>
          have HM2 := Lib.hid (HM.out.trans hb)
          clear hb
          have HO := Lib.hid (HN2.out (mF_yes (HM2.out)))
          go_wp2_with fail
          go_roundw
          case rel => exact ⟨k + 1, by omega, by go_num, Lib.hid ⟨HJ6.out, HO.out⟩⟩
          case measure => simp [intOf]; omega
        | false =>
          have HM2 := Lib.hid (HM.out.trans hb)
          clear hb
          obtain ⟨y0, y1⟩ := cells2 ((HJ6.out.block _ HL1.out).trans HN1.out)
          obtain ⟨z0, z1, z2, z3, z4⟩ := cells5 HN6.out
          have HO := Lib.hid (HY.out _ (HY2.out _ (mF_no (HM2.out))))
          go_wp2_with fail
          go_ret2
          exact ruleR_some HO.out (HX.out _ HQ6.out).2
      · rw [a1] at eg
        rw [a2] at et
        rw [a3] at en
        have HM : Hid (m6 s r f = Ck.order s f.arg) := Lib.hid (by simp [m6, a1, a2, a3])
        clear a1 a2 a3
        go_wp2_with fail
        refine Calls.mono (HOR.out _ HQ2.out f.arg) ?_
        rintro e w6 ⟨rfl, hb6⟩
        have HQ6 := Lib.hid (HQ2.out.trans (hb6.mono HQ2.out.size))
        have HJ6 := Lib.hid (HJ2.out.trans (hb6.mono HJ2.out.size))
        have HN6 := Lib.hid ((hb6.block _ HL3.out).trans HN3.out)
        clear hb6 x0 x1 x2 x3 y0 y1 z0 z1 z2 z3 z4
        cases hb : Ck.order s f.arg with
        | true =>
          have HM2 := Lib.hid (HM.out.trans hb)
          clear hb
          have HO := Lib.hid (HN2.out (mF_yes (HM2.out)))
          go_wp2_with fail
          go_roundw
          case rel => exact ⟨k + 1, by omega, by go_num, Lib.hid ⟨HJ6.out, HO.out⟩⟩
          case measure => simp [intOf]; omega
        | false =>
          have HM2 := Lib.hid (HM.out.trans hb)
          clear hb
          obtain ⟨y0, y1⟩ := cells2 ((HJ6.out.block _ HL1.out).trans HN1.out)
          obtain ⟨z0, z1, z2, z3, z4⟩ := cells5 HN6.out
          have HO := Lib.hid (HY.out _ (HY2.out _ (mF_no (HM2.out))))
          go_wp2_with fail
          go_ret2
          exact ruleR_some HO.out (HX.out _ HQ6.out).2
      · rw [a1] at eg
        rw [a2] at et
        rw [a3] at en
        have HM2 : Hid (m6 s r f = false) := Lib.hid (by simp [m6, a1, a2, a3])
        clear a1 a2 a3
        have HO := Lib.hid (HY.out _ (HY2.out _ (mF_no (HM2.out))))
        go_wp2_with fail
        go_ret2
        exact ruleR_some HO.out (HX.out _ HQ2.out).2
    · obtain rfl : k = r.methods.length := by omega
      have j1 : ¬ (r.methods.length : Int) < (r.methods.length : Int) := by omega
      have HO := Lib.hid (HN.out (HJ.out.2.trans (Ck.none_end (Nat.le_refl _))))
      clear hlk
      go_wp2_with fail
      go_roundw
      case rel => exact ⟨i + 1, by omega, by go_num, Lib.hid ⟨HBQ.out, HO.out⟩⟩
      case measure => simp [intOf]; omega
  · obtain rfl : i = s.services.length := by omega
    have i1 : ¬ (s.services.length : Int) < (s.services.length : Int) := by omega
    have HO := Lib.hid (HQ.out.2.trans (Ck.none_end (Nat.le_refl _)))
    clear hlt hi
    go_wp2_with fail
    go_ret2
    exact ruleR_none HO.out (HX.out _ HQ.out.1).2
end Go.Proofs.YtnkdhmoocomjfaaGreatDoor
set_option linter.unusedSimpArgs false
set_option linter.unusedVariables false
namespace Go.Proofs.YtnkdhmoocomjfaaGreatDoor
open Go.RowKit
def m7 (s : Ip.Sch) (v : Ip.Srv) (m : Ip.Mth) : Bool := Ck.empty m.undo || Ck.undoOk s v m
theorem m7_empty {s : Ip.Sch} {v : Ip.Srv} {m : Ip.Mth} (h : Ck.empty m.undo = true) : m7 s v m = true := by unfold m7; rw [h]; rfl
theorem m7_none {s : Ip.Sch} {v : Ip.Srv} {m : Ip.Mth} (h : Ck.empty m.undo = false) (hm : Ck.method s v.name m.undo = none) : m7 s v m = false := by unfold m7 Ck.undoOk; rw [h, hm]; rfl
theorem m7_some {s : Ip.Sch} {v : Ip.Srv} {m z : Ip.Mth} (h : Ck.empty m.undo = false) (hm : Ck.method s v.name m.undo = some z) : m7 s v m = (Ip.eqB z.arg m.arg && Ck.empty z.undo && decide (z.result = 1) && Ck.contrary m.effect z.effect) := by unfold m7 Ck.undoOk; rw [h, hm]; rfl
set_option maxRecDepth 100000 in
set_option maxHeartbeats 16000000 in
theorem refMethods7_any {u w : World} {sv : Value} {s : Ip.Sch} (h : RoSch u sv s) (hu : Kp u w) (hS : Ck.Small s) : Calls Tryz.prog 49 #[sv, .int .i64 7] w (RuleR (s.services.findSome? (mV m7 s)) w) := by
  obtain ⟨p1, c1, p2, c2, p3, c3, rfl, -, -, hs, -, l1, l2, l3⟩ := sch_parts h
  obtain ⟨W0, hW0⟩ : ∃ W0, W0 = allocs w [schO s p1 c1 p2 c2 p3 c3] := ⟨_, rfl⟩
  have HX : Hid (∀ W, Below W0.heap.size W0 W → W.heap[w.heap.size]? = some (schO s p1 c1 p2 c2 p3 c3) ∧ Below w.heap.size w W) := Lib.hid (by subst hW0; exact fun W hW => ⟨allocs_box (i := 0) rfl hW, allocs_on hW⟩)
  obtain ⟨b0, B0⟩ := HX.out W0 (Below.refl _ _)
  have H := Lib.hid h
  have HU := Lib.hid (hu.below B0)
  have HV := Lib.hid hs
  have HSM := Lib.hid hS
  have m1 : s.services.length ≤ 100 := hS.ns
  have HMT : Hid (∀ W, Below W0.heap.size W0 W → ∀ n m : ByteArray, Calls Tryz.prog 98 #[.agg #[.string s.name, .slice p1 s.records.length c1, .slice p2 s.services.length c2, .slice p3 s.sagas.length c3], .string n, .string m] W (Fnd MthV noMth u (Ck.method s n m) W)) := Lib.hid fun W hW n m => RefMethod_any H.out (HU.out.below hW) n m
  clear h hu hS hs b0 B0 l1 l2 l3
  simp only [allocs, schO] at hW0
  go_enter Tryz.func49, Tryz.ntmps49
  go_upto_region 1 with fail
  rw [← hW0]
  clear hW0
  go_wp2_with fail
  go_loopw [6, 7, 8, 9, 10, 11, 12] (fun iv _ _ _ _ _ _ wr => ∃ i : Nat, i ≤ s.services.length ∧ iv = .int .i64 (i : Nat) ∧ Hid (Below W0.heap.size W0 wr ∧ s.services.findSome? (mV m7 s) = (s.services.drop i).findSome? (mV m7 s))) (fun iv _ _ _ _ _ _ _ => s.services.length - (intOf iv).toNat)
  case atStart => exact ⟨0, Nat.zero_le _, rfl, Lib.hid ⟨Below.refl _ _, by rw [List.drop_zero]⟩⟩
  case round =>
  obtain ⟨i, hi, rfl, HQ⟩ := hrel
  obtain ⟨x0, x1, x2, x3⟩ := cells4' (HX.out _ HQ.out.1).1
  by_cases hlt : i < s.services.length
  · have i1 : (i : Int) < (s.services.length : Int) := by omega
    have i2 : (0 : Int) ≤ (i : Int) := by omega
    obtain ⟨A, cc, p, kq, e3, hA, d0, d1, hin, hsub⟩ := srv_at2 HV.out (HU.out.below HQ.out.1) hlt
    cases e3
    obtain ⟨_, _, e9, hsl⟩ := ro_len hsub
    cases e9
    have HSUB := Lib.hid hsub
    have HZ := Lib.hid (HSM.out.v _ (List.getElem_mem hlt))
    have HY : Hid (∀ y, mV m7 s s.services[i] = some y → s.services.findSome? (mV m7 s) = some y) := Lib.hid fun y hy => HQ.out.2.trans (Ck.some_at hlt hy)
    have HN : Hid (mV m7 s s.services[i] = none → s.services.findSome? (mV m7 s) = (s.services.drop (i + 1)).findSome? (mV m7 s)) := Lib.hid fun hy => HQ.out.2.trans (Ck.none_at hlt hy)
    clear hsub hin hA
    generalize s.services[i] = r at *
    obtain ⟨W1, hW1⟩ : ∃ W1, W1 = wr.alloc (.cells #[.string r.name, .slice p r.methods.length kq] 98) := ⟨_, rfl⟩
    have HN1 : Hid (W1.heap[wr.heap.size]? = some (.cells #[.string r.name, .slice p r.methods.length kq] 98 (0, 0))) := Lib.hid (by rw [hW1]; exact heap_alloc_new wr _)
    have HB1 : Hid (Below W0.heap.size W0 W1) := Lib.hid (by rw [hW1]; exact HQ.out.1.trans ((tk_alloc wr _).mono HQ.out.1.size))
    have HL1 : Hid (wr.heap.size < W1.heap.size) := Lib.hid (Array.getElem?_eq_some_iff.1 HN1.out).1
    go_upto_region 5 with fail
    rw [← hW1]
    clear hW1 x0 x1 x2 x3 d0 d1
    go_wp2_with fail
    go_loopw [8, 9, 10, 11, 12] (fun kv _ _ _ _ wq => ∃ k : Nat, k ≤ r.methods.length ∧ kv = .int .i64 (k : Nat) ∧ Hid (Below W1.heap.size W1 wq ∧ mV m7 s r = (r.methods.drop k).findSome? (mF m7 s r))) (fun kv _ _ _ _ _ => r.methods.length - (intOf kv).toNat)
    case atStart => exact ⟨0, Nat.zero_le _, rfl, Lib.hid ⟨Below.refl _ _, by rw [List.drop_zero]; rfl⟩⟩
    case round =>
    obtain ⟨k, hk, rfl, HJ⟩ := hrel
    have HBQ : Hid (Below W0.heap.size W0 wr) := Lib.hid (HB1.out.trans (HJ.out.1.mono HB1.out.size))
    obtain ⟨y0, y1⟩ := cells2 ((HJ.out.1.block _ HL1.out).trans HN1.out)
    by_cases hlk : k < r.methods.length
    · have j1 : (k : Int) < (r.methods.length : Int) := by omega
      have j2 : (0 : Int) ≤ (k : Int) := by omega
      have HKQ := Lib.hid (HU.out.below HBQ.out)
      obtain ⟨B, cb, e5, hB, g0, g1, g2, g3, g4, hpin⟩ := mth_at (HSUB.out.kp HKQ.out) hlk
      cases e5
      have HY2 : Hid (∀ y, mF m7 s r r.methods[k] = some y → mV m7 s r = some y) := Lib.hid fun y hy => HJ.out.2.trans (Ck.some_at hlk hy)
      have HN2 : Hid (mF m7 s r r.methods[k] = none → mV m7 s r = (r.methods.drop (k + 1)).findSome? (mF m7 s r)) := Lib.hid fun hy => HJ.out.2.trans (Ck.none_at hlk hy)
      have HZ1 : Hid (r.name.size ≤ 200) := Lib.hid HZ.out.1
      have HZ2 : Hid (r.methods[k].name.size ≤ 200) := Lib.hid (HZ.out.2.2 _ (List.getElem_mem hlk)).1
      clear hB hpin
      generalize r.methods[k] = f at *
      obtain ⟨W2, hW2⟩ : ∃ W2, W2 = wr.alloc (.cells #[.string f.name, .string f.arg, .int .u8 (f.result : Nat), .string f.effect, .string f.undo] 100) := ⟨_, rfl⟩
      have HN3 : Hid (W2.heap[wr.heap.size]? = some (.cells #[.string f.name, .string f.arg, .int .u8 (f.result : Nat), .string f.effect, .string f.undo] 100 (0, 0))) := Lib.hid (by rw [hW2]; exact heap_alloc_new wr _)
      have HB3 : Hid (Below wr.heap.size wr W2) := Lib.hid (by rw [hW2]; exact tk_alloc wr _)
      have HL3 : Hid (wr.heap.size < W2.heap.size) := Lib.hid (Array.getElem?_eq_some_iff.1 HN3.out).1
      have HJ2 : Hid (Below W1.heap.size W1 W2) := Lib.hid (HJ.out.1.trans (HB3.out.mono HJ.out.1.size))
      have HQ2 : Hid (Below W0.heap.size W0 W2) := Lib.hid (HBQ.out.trans (HB3.out.mono HBQ.out.size))
      go_upto_region 9 with fail
      rw [← hW2]
      clear hW2 g0 g1 g2 g3 g4 y0 y1
      have hz1 := HZ1.out
      have hz2 := HZ2.out
      have k4 : ¬ 9223372036854775807 < r.name.size + 1 := by omega
      have k5 : ¬ 9223372036854775807 < r.name.size + 1 + f.name.size := by omega
      have k7 : ¬ 9223372036854775807 < (r.name ++ ⟨#[46]⟩).size + f.name.size := by rw [ByteArray.size_append]; show ¬ 9223372036854775807 < r.name.size + 1 + f.name.size; omega
      clear hz1 hz2
      obtain ⟨y0, y1⟩ := cells2 ((HJ2.out.block _ HL1.out).trans HN1.out)
      obtain ⟨z0, z1, z2, z3, z4⟩ := cells5 HN3.out
      have he := empty_is f.undo
      obtain ⟨x0, x1, x2, x3⟩ := cells4' (HX.out _ HQ2.out).1
      cases hq : Ck.empty f.undo with
      | true =>
        rw [hq] at he
        have HM2 := Lib.hid (m7_empty (s := s) (v := r) (m := f) hq)
        clear hq x0 x1 x2 x3
        have HO := Lib.hid (HN2.out (mF_yes (HM2.out)))
        go_wp2_with fail
        go_roundw
        case rel => exact ⟨k + 1, by omega, by go_num, Lib.hid ⟨HJ2.out, HO.out⟩⟩
        case measure => simp [intOf]; omega
      | false =>
        rw [hq] at he
        have HEM := Lib.hid hq
        clear hq
        go_wp2_with fail
        refine Calls.mono (HMT.out _ HQ2.out r.name f.undo) ?_
        rintro e w6 ⟨mv, rfl, ⟨rfl, -⟩, hb6⟩
        have HQ6 := Lib.hid (HQ2.out.trans (hb6.mono HQ2.out.size))
        have HJ6 := Lib.hid (HJ2.out.trans (hb6.mono HJ2.out.size))
        have HN6 := Lib.hid ((hb6.block _ HL3.out).trans HN3.out)
        have HS6 : Hid (W2.heap.size ≤ w6.heap.size) := Lib.hid hb6.size
        clear hb6 x0 x1 x2 x3 y0 y1 z0 z1 z2 z3 z4
        cases hm : Ck.method s r.name f.undo with
        | none =>
          have HM2 := Lib.hid (m7_none HEM.out hm)
          simp only [mthV, Option.getD_none, Option.isSome_none]
          generalize noMth = z
          obtain ⟨W7, hW7⟩ : ∃ W7, W7 = w6.alloc (.cells #[.string z.name, .string z.arg, .int .u8 (z.result : Nat), .string z.effect, .string z.undo] 100) := ⟨_, rfl⟩
          have HB7 : Hid (Below w6.heap.size w6 W7) := Lib.hid (by rw [hW7]; exact tk_alloc w6 _)
          have HQ7 := Lib.hid (HQ6.out.trans (HB7.out.mono HQ6.out.size))
          have HJ7 := Lib.hid (HJ6.out.trans (HB7.out.mono HJ6.out.size))
          obtain ⟨y0, y1⟩ := cells2 ((HJ7.out.block _ HL1.out).trans HN1.out)
          obtain ⟨z0, z1, z2, z3, z4⟩ := cells5 ((HB7.out.block _ (by have := HL3.out; have := HS6.out; omega)).trans HN6.out)
          go_upto_region 18 with fail
          rw [← hW7]
          clear hW7 hm
          have HO := Lib.hid (HY.out _ (HY2.out _ (mF_no (HM2.out))))
          go_wp2_with fail
          go_ret2
          exact ruleR_some HO.out (HX.out _ HQ7.out).2
        | some z =>
          have HM := Lib.hid (m7_some HEM.out hm)
          simp only [mthV, Option.getD_some, Option.isSome_some]
          clear hm
          obtain ⟨W7, hW7⟩ : ∃ W7, W7 = w6.alloc (.cells #[.string z.name, .string z.arg, .int .u8 (z.result : Nat), .string z.effect, .string z.undo] 100) := ⟨_, rfl⟩
          have HN7 : Hid (W7.heap[w6.heap.size]? = some (.cells #[.string z.name, .string z.arg, .int .u8 (z.result : Nat), .string z.effect, .string z.undo] 100 (0, 0))) := Lib.hid (by rw [hW7]; exact heap_alloc_new w6 _)
          have HB7 : Hid (Below w6.heap.size w6 W7) := Lib.hid (by rw [hW7]; exact tk_alloc w6 _)
          have HQ7 := Lib.hid (HQ6.out.trans (HB7.out.mono HQ6.out.size))
          have HJ7 := Lib.hid (HJ6.out.trans (HB7.out.mono HJ6.out.size))
          obtain ⟨y0, y1⟩ := cells2 ((HJ7.out.block _ HL1.out).trans HN1.out)
          obtain ⟨z0, z1, z2, z3, z4⟩ := cells5 ((HB7.out.block _ (by have := HL3.out; have := HS6.out; omega)).trans HN6.out)
          obtain ⟨t0, t1, t2, t3, t4⟩ := cells5 HN7.out
          go_upto_region 18 with fail
          rw [← hW7]
          clear hW7
          have ha := eqB_list z.arg f.arg
          have hu := empty_is z.undo
          cases qa : Ip.eqB z.arg f.arg with
          | false =>
            rw [qa] at ha
            have HO := Lib.hid (HY.out _ (HY2.out _ (mF_no (HM.out.trans (by simp [qa])))))
            clear qa
            go_wp2_with fail
            go_ret2
            exact ruleR_some HO.out (HX.out _ HQ7.out).2
          | true =>
          rw [qa] at ha
          cases qu : Ck.empty z.undo with
          | false =>
            rw [qu] at hu
            have HO := Lib.hid (HY.out _ (HY2.out _ (mF_no (HM.out.trans (by simp [qu])))))
            clear qu
            go_wp2_with fail
            go_ret2
            exact ruleR_some HO.out (HX.out _ HQ7.out).2
          | true =>
          rw [qu] at hu
          by_cases qr : z.result = 1
          · have i5 : ((z.result : Int) == 1) = true := by rw [beq_iff_eq]; omega
            have HMC : Hid (m7 s r f = Ck.contrary f.effect z.effect) := Lib.hid (HM.out.trans (by simp [qa, qu, qr]))
            clear qa qu qr
            go_wp2_with fail
            refine Calls.mono (refContrary_any f.effect z.effect _) ?_
            rintro e w8 ⟨rfl, hw8⟩
            rw [hw8]
            clear hw8 w8
            cases qc : Ck.contrary f.effect z.effect with
            | true =>
              have HM2 := Lib.hid (HMC.out.trans qc)
              clear qc
              have HO := Lib.hid (HN2.out (mF_yes (HM2.out)))
              go_wp2_with fail
              go_roundw
              case rel => exact ⟨k + 1, by omega, by go_num, Lib.hid ⟨HJ7.out, HO.out⟩⟩
              case measure => simp [intOf]; omega
            | false =>
              have HM2 := Lib.hid (HMC.out.trans qc)
              clear qc
              have HO := Lib.hid (HY.out _ (HY2.out _ (mF_no (HM2.out))))
              go_wp2_with fail
              go_ret2
              exact ruleR_some HO.out (HX.out _ HQ7.out).2
          · have i5 : ((z.result : Int) == 1) = false := by rw [beq_eq_false_iff_ne]; omega
            have HO := Lib.hid (HY.out _ (HY2.out _ (mF_no (HM.out.trans (by simp [qr])))))
            clear qa qu qr
            go_wp2_with fail
            go_ret2
            exact ruleR_some HO.out (HX.out _ HQ7.out).2
    · obtain rfl : k = r.methods.length := by omega
      have j1 : ¬ (r.methods.length : Int) < (r.methods.length : Int) := by omega
      have HO := Lib.hid (HN.out (HJ.out.2.trans (Ck.none_end (Nat.le_refl _))))
      clear hlk
      go_wp2_with fail
      go_roundw
      case rel => exact ⟨i + 1, by omega, by go_num, Lib.hid ⟨HBQ.out, HO.out⟩⟩
      case measure => simp [intOf]; omega
  · obtain rfl : i = s.services.length := by omega
    have i1 : ¬ (s.services.length : Int) < (s.services.length : Int) := by omega
    have HO := Lib.hid (HQ.out.2.trans (Ck.none_end (Nat.le_refl _)))
    clear hlt hi
    go_wp2_with fail
    go_ret2
    exact ruleR_none HO.out (HX.out _ HQ.out.1).2
end Go.Proofs.YtnkdhmoocomjfaaGreatDoor
