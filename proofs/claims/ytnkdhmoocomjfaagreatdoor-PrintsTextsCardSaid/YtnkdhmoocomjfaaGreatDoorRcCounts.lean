/-
  Walks over the document's check: what is too many (its second rule). Conditions: those in the theorems.
-/
import Derived.Test.YtnkdhmoocomjfaaGreatDoorRcNames
set_option linter.unusedSimpArgs false
set_option linter.unusedVariables false
namespace Go.Proofs.YtnkdhmoocomjfaaGreatDoor
open Go.RowKit
def kR (r : Ip.Rcd) : Option ByteArray := if r.fields.length > 16 then some r.name else none
def kV (v : Ip.Srv) : Option ByteArray := if v.methods.length > 16 then some v.name else none
def kG (g : Ip.Sga) : Option ByteArray := if g.steps.length < 1 ∨ g.steps.length > 8 then some g.name else none
theorem counts_is {s : Ip.Sch} (h : ¬ s.records.length + s.services.length + s.sagas.length > 64) : Ck.counts s = (s.records.findSome? kR).or ((s.services.findSome? kV).or (s.sagas.findSome? kG)) := by unfold Ck.counts; rw [if_neg h]; rfl
theorem counts_all {s : Ip.Sch} (h : s.records.length + s.services.length + s.sagas.length > 64) : Ck.counts s = some ⟨#[]⟩ := by unfold Ck.counts; rw [if_pos h]
set_option maxRecDepth 100000 in
set_option maxHeartbeats 16000000 in
theorem refCounts_any {u w : World} {sv : Value} {s : Ip.Sch} (h : RoSch u sv s) (hu : Kp u w) (hS : Ck.Small s) : Calls Tryz.prog 46 #[sv] w (RuleR (Ck.counts s) w) := by
  obtain ⟨p1, c1, p2, c2, p3, c3, rfl, hsn, hr, hs, hg, l1, l2, l3⟩ := sch_parts h
  obtain ⟨W0, hW0⟩ : ∃ W0, W0 = allocs w [schO s p1 c1 p2 c2 p3 c3] := ⟨_, rfl⟩
  have HX : Hid (W0.heap[w.heap.size]? = some (schO s p1 c1 p2 c2 p3 c3)) := Lib.hid (by rw [hW0]; exact allocs_box (i := 0) rfl (Below.refl _ _))
  have HB0 : Hid (Below w.heap.size w W0) := Lib.hid (by rw [hW0]; exact allocs_on (Below.refl _ _))
  obtain ⟨x0, x1, x2, x3⟩ := cells4' HX.out
  have HU := Lib.hid (hu.below HB0.out)
  have HR := Lib.hid hr
  have HV := Lib.hid hs
  have HG := Lib.hid hg
  have HSM := Lib.hid hS
  have m1 : s.records.length ≤ 100 := hS.nr
  have m2 : s.services.length ≤ 100 := hS.ns
  have m3 : s.sagas.length ≤ 100 := hS.ng
  clear h hu hr hs hg hS l1 l2 l3
  simp only [allocs, schO] at hW0
  go_enter Tryz.func46, Tryz.ntmps46
  go_upto_region 1 with fail
  rw [← hW0]
  clear hW0
  by_cases q1 : 64 < s.records.length
  · have j1 : (64 : Int) < ((s.records.length : Nat) : Int) := by omega
    have HE := Lib.hid (counts_all (s := s) (by omega))
    go_wp2_with fail
    go_ret2
    exact ruleR_some HE.out HB0.out
  have jq1 : ¬ (64 : Int) < ((s.records.length : Nat) : Int) := by omega
  by_cases q2 : 64 < s.services.length
  · have j1 : (64 : Int) < ((s.services.length : Nat) : Int) := by omega
    have HE := Lib.hid (counts_all (s := s) (by omega))
    go_wp2_with fail
    go_ret2
    exact ruleR_some HE.out HB0.out
  have jq2 : ¬ (64 : Int) < ((s.services.length : Nat) : Int) := by omega
  by_cases q3 : 64 < s.sagas.length
  · have j1 : (64 : Int) < ((s.sagas.length : Nat) : Int) := by omega
    have HE := Lib.hid (counts_all (s := s) (by omega))
    go_wp2_with fail
    go_ret2
    exact ruleR_some HE.out HB0.out
  have jq3 : ¬ (64 : Int) < ((s.sagas.length : Nat) : Int) := by omega
  by_cases q4 : 64 < s.records.length + s.services.length + s.sagas.length
  · have j1 : (64 : Int) < ((s.records.length : Nat) : Int) + ((s.services.length : Nat) : Int) + ((s.sagas.length : Nat) : Int) := by omega
    have HE := Lib.hid (counts_all (s := s) (by omega))
    go_wp2_with fail
    go_ret2
    exact ruleR_some HE.out HB0.out
  have jq4 : ¬ (64 : Int) < ((s.records.length : Nat) : Int) + ((s.services.length : Nat) : Int) + ((s.sagas.length : Nat) : Int) := by omega
  have HE := Lib.hid (counts_is (s := s) q4)
  clear q1 q2 q3 q4
  go_wp2_with fail
  go_loopw [4] (fun iv wr => ∃ i : Nat, i ≤ s.records.length ∧ iv = .int .i64 (i : Nat) ∧ wr = W0 ∧ Hid (s.records.findSome? kR = (s.records.drop i).findSome? kR)) (fun iv _ => s.records.length - (intOf iv).toNat)
  case atStart => exact ⟨0, Nat.zero_le _, rfl, (by first | rfl | trivial), Lib.hid (by rw [List.drop_zero])⟩
  case round =>
  obtain ⟨i, hi, rfl, hwr, H⟩ := hrel
  rw [hwr]
  clear hwr
  by_cases hlt : i < s.records.length
  · have i1 : (i : Int) < (s.records.length : Int) := by omega
    have i2 : (0 : Int) ≤ (i : Int) := by omega
    obtain ⟨A, cc, p, kq, e3, hA, d0, d1, d2, hin, hsub⟩ := rcd_at2 HR.out HU.out hlt
    cases e3
    obtain ⟨_, _, e9, hsl⟩ := ro_len hsub
    cases e9
    have HZ := Lib.hid (HSM.out.r _ (List.getElem_mem hlt))
    have HY : Hid (∀ y, kR s.records[i] = some y → s.records.findSome? kR = some y) := Lib.hid fun y hy => H.out.trans (Ck.some_at hlt hy)
    have HN : Hid (kR s.records[i] = none → s.records.findSome? kR = (s.records.drop (i + 1)).findSome? kR) := Lib.hid fun hy => H.out.trans (Ck.none_at hlt hy)
    clear hsub hin hA H
    generalize s.records[i] = r at *
    by_cases q : 16 < r.fields.length
    · have j1 : (16 : Int) < ((r.fields.length : Nat) : Int) := by omega
      have HO := Lib.hid (HE.out.trans (or1 (HY.out _ (by unfold kR; rw [if_pos (by omega)]))))
      clear q
      go_wp2_with fail
      go_ret2
      exact ruleR_some HO.out HB0.out
    have jn1 : ¬ (16 : Int) < ((r.fields.length : Nat) : Int) := by omega
    have HO := Lib.hid (HN.out (by unfold kR; rw [if_neg (by omega)]))
    go_wp2_with fail
    go_roundw
    case rel => exact ⟨i + 1, by omega, by go_num, (by first | rfl | trivial), HO⟩
    case measure => simp [intOf]; omega
  · obtain rfl : i = s.records.length := by omega
    have i1 : ¬ (s.records.length : Int) < (s.records.length : Int) := by omega
    have HArecords := Lib.hid (H.out.trans (Ck.none_end (Nat.le_refl _)))
    clear H hi hlt
    go_wp2_with fail
    go_loopw [5] (fun iv wr => ∃ i : Nat, i ≤ s.services.length ∧ iv = .int .i64 (i : Nat) ∧ wr = W0 ∧ Hid (s.services.findSome? kV = (s.services.drop i).findSome? kV)) (fun iv _ => s.services.length - (intOf iv).toNat)
    case atStart => exact ⟨0, Nat.zero_le _, rfl, (by first | rfl | trivial), Lib.hid (by rw [List.drop_zero])⟩
    case round =>
    obtain ⟨i, hi, rfl, hwr, H⟩ := hrel
    rw [hwr]
    clear hwr
    by_cases hlt : i < s.services.length
    · have i1 : (i : Int) < (s.services.length : Int) := by omega
      have i2 : (0 : Int) ≤ (i : Int) := by omega
      obtain ⟨A, cc, p, kq, e3, hA, d0, d1, hin, hsub⟩ := srv_at2 HV.out HU.out hlt
      cases e3
      obtain ⟨_, _, e9, hsl⟩ := ro_len hsub
      cases e9
      have HZ := Lib.hid (HSM.out.v _ (List.getElem_mem hlt))
      have HY : Hid (∀ y, kV s.services[i] = some y → s.services.findSome? kV = some y) := Lib.hid fun y hy => H.out.trans (Ck.some_at hlt hy)
      have HN : Hid (kV s.services[i] = none → s.services.findSome? kV = (s.services.drop (i + 1)).findSome? kV) := Lib.hid fun hy => H.out.trans (Ck.none_at hlt hy)
      clear hsub hin hA H
      generalize s.services[i] = r at *
      by_cases q : 16 < r.methods.length
      · have j1 : (16 : Int) < ((r.methods.length : Nat) : Int) := by omega
        have HO := Lib.hid (HE.out.trans (or2 HArecords.out (HY.out _ (by unfold kV; rw [if_pos (by omega)]))))
        clear q
        go_wp2_with fail
        go_ret2
        exact ruleR_some HO.out HB0.out
      have jn1 : ¬ (16 : Int) < ((r.methods.length : Nat) : Int) := by omega
      have HO := Lib.hid (HN.out (by unfold kV; rw [if_neg (by omega)]))
      go_wp2_with fail
      go_roundw
      case rel => exact ⟨i + 1, by omega, by go_num, (by first | rfl | trivial), HO⟩
      case measure => simp [intOf]; omega
    · obtain rfl : i = s.services.length := by omega
      have i1 : ¬ (s.services.length : Int) < (s.services.length : Int) := by omega
      have HAservices := Lib.hid (H.out.trans (Ck.none_end (Nat.le_refl _)))
      clear H hi hlt
      go_wp2_with fail
      go_loopw [6] (fun iv wr => ∃ i : Nat, i ≤ s.sagas.length ∧ iv = .int .i64 (i : Nat) ∧ wr = W0 ∧ Hid (s.sagas.findSome? kG = (s.sagas.drop i).findSome? kG)) (fun iv _ => s.sagas.length - (intOf iv).toNat)
      case atStart => exact ⟨0, Nat.zero_le _, rfl, (by first | rfl | trivial), Lib.hid (by rw [List.drop_zero])⟩
      case round =>
      obtain ⟨i, hi, rfl, hwr, H⟩ := hrel
      rw [hwr]
      clear hwr
      by_cases hlt : i < s.sagas.length
      · have i1 : (i : Int) < (s.sagas.length : Int) := by omega
        have i2 : (0 : Int) ≤ (i : Int) := by omega
        obtain ⟨A, cc, p, kq, e3, hA, d0, d1, d2, hin, hsub⟩ := sga_at2 HG.out HU.out hlt
        cases e3
        obtain ⟨_, _, e9, hsl⟩ := ro_len hsub
        cases e9
        have HZ := Lib.hid (HSM.out.g _ (List.getElem_mem hlt))
        have HY : Hid (∀ y, kG s.sagas[i] = some y → s.sagas.findSome? kG = some y) := Lib.hid fun y hy => H.out.trans (Ck.some_at hlt hy)
        have HN : Hid (kG s.sagas[i] = none → s.sagas.findSome? kG = (s.sagas.drop (i + 1)).findSome? kG) := Lib.hid fun hy => H.out.trans (Ck.none_at hlt hy)
        clear hsub hin hA H
        generalize s.sagas[i] = r at *
        by_cases q : r.steps.length < 1
        · have j1 : ((r.steps.length : Nat) : Int) < 1 := by omega
          have HO := Lib.hid (HE.out.trans (or3 HArecords.out HAservices.out (HY.out _ (by unfold kG; rw [if_pos (by omega)]))))
          clear q
          go_wp2_with fail
          go_ret2
          exact ruleR_some HO.out HB0.out
        have jn1 : ¬ ((r.steps.length : Nat) : Int) < 1 := by omega
        by_cases q : 8 < r.steps.length
        · have j1 : (8 : Int) < ((r.steps.length : Nat) : Int) := by omega
          have HO := Lib.hid (HE.out.trans (or3 HArecords.out HAservices.out (HY.out _ (by unfold kG; rw [if_pos (by omega)]))))
          clear q
          go_wp2_with fail
          go_ret2
          exact ruleR_some HO.out HB0.out
        have jn2 : ¬ (8 : Int) < ((r.steps.length : Nat) : Int) := by omega
        have HO := Lib.hid (HN.out (by unfold kG; rw [if_neg (by omega)]))
        go_wp2_with fail
        go_roundw
        case rel => exact ⟨i + 1, by omega, by go_num, (by first | rfl | trivial), HO⟩
        case measure => simp [intOf]; omega
      · obtain rfl : i = s.sagas.length := by omega
        have i1 : ¬ (s.sagas.length : Int) < (s.sagas.length : Int) := by omega
        have HAsagas := Lib.hid (H.out.trans (Ck.none_end (Nat.le_refl _)))
        clear H hi hlt
        have HO := Lib.hid (HE.out.trans (or0 HArecords.out HAservices.out HAsagas.out))
        go_wp2_with fail
        go_ret2
        exact ruleR_none HO.out HB0.out
end Go.Proofs.YtnkdhmoocomjfaaGreatDoor
