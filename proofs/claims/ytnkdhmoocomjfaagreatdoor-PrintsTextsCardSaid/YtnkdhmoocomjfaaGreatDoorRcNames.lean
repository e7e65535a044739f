/-
  Walks over the document's check: which names are none (its first rule). Conditions: those in the theorems.
-/
import Derived.Test.YtnkdhmoocomjfaaGreatDoorCkDecl
import Derived.Test.YtnkdhmoocomjfaaGreatDoorBIdlRefB
set_option linter.unusedSimpArgs false
set_option linter.unusedVariables false
namespace Go.Proofs.YtnkdhmoocomjfaaGreatDoor
open Go.RowKit
/-- What a rule of the document tells: the first place where it is broken, and whether there is none. -/
def RuleR (o : Option ByteArray) (w : World) (e : Ending) (w' : World) : Prop := e = .returned (.tuple #[.string (o.getD ⟨#[]⟩), .bool o.isNone]) ∧ Below w.heap.size w w'
theorem ruleR_some {o : Option ByteArray} {x : ByteArray} {w w' : World} (h : o = some x) (hb : Below w.heap.size w w') : RuleR o w (.returned (.tuple #[.string x, .bool false])) w' := by subst h; exact ⟨rfl, hb⟩
theorem ruleR_none {o : Option ByteArray} {w w' : World} (h : o = none) (hb : Below w.heap.size w w') : RuleR o w (.returned (.tuple #[.string ⟨#[]⟩, .bool true])) w' := by subst h; exact ⟨rfl, hb⟩
theorem nm_yes {n : ByteArray} (h : Tk.name n = true) : Ck.nm n = none := by unfold Ck.nm; rw [h]; rfl
theorem nm_no {n : ByteArray} (h : Tk.name n = false) : Ck.nm n = some n := by unfold Ck.nm; rw [h]; rfl
def fR (r : Ip.Rcd) : Option ByteArray := (Ck.nm r.name).or (r.fields.findSome? fun f => Ck.nm f.name)
def fV (v : Ip.Srv) : Option ByteArray := (Ck.nm v.name).or (v.methods.findSome? fun m => Ck.nm m.name)
def fG (g : Ip.Sga) : Option ByteArray := Ck.nm g.name
theorem names_is {s : Ip.Sch} (h : Tk.name s.name = true) : Ck.names s = (s.records.findSome? fR).or ((s.services.findSome? fV).or (s.sagas.findSome? fG)) := by unfold Ck.names; rw [if_pos h]; rfl
theorem or1 {a b c : Option ByteArray} {y : ByteArray} (h : a = some y) : a.or (b.or c) = some y := by rw [h]; rfl
theorem or2 {a b c : Option ByteArray} {y : ByteArray} (h0 : a = none) (h : b = some y) : a.or (b.or c) = some y := by rw [h0, h]; rfl
theorem or3 {a b c : Option ByteArray} {y : ByteArray} (h0 : a = none) (h1 : b = none) (h : c = some y) : a.or (b.or c) = some y := by rw [h0, h1, h]; rfl
theorem or0 {a b c : Option ByteArray} (h0 : a = none) (h1 : b = none) (h : c = none) : a.or (b.or c) = none := by rw [h0, h1, h]; rfl
set_option maxRecDepth 100000 in
set_option maxHeartbeats 16000000 in
theorem refNames_any {u w : World} {sv : Value} {s : Ip.Sch} (h : RoSch u sv s) (hu : Kp u w) (hS : Ck.Small s) : Calls Tryz.prog 45 #[sv] w (RuleR (Ck.names s) w) := by
  obtain ⟨p1, c1, p2, c2, p3, c3, rfl, hsn, hr, hs, hg, l1, l2, l3⟩ := sch_parts h
  obtain ⟨W0, hW0⟩ : ∃ W0, W0 = allocs w [schO s p1 c1 p2 c2 p3 c3] := ⟨_, rfl⟩
  have HX : Hid (W0.heap[w.heap.size]? = some (schO s p1 c1 p2 c2 p3 c3)) := Lib.hid (by rw [hW0]; exact allocs_box (i := 0) rfl (Below.refl _ _))
  have HB0 : Hid (Below w.heap.size w W0) := Lib.hid (by rw [hW0]; exact allocs_on (Below.refl _ _))
  obtain ⟨x0, x1, x2, x3⟩ := cells4' HX.out
  have HU := Lib.hid (hu.below HB0.out)
  have HR := Lib.hid hr
  have HV := Lib.hid hs
  have HG := Lib.hid hg
  have HSM := Lib.hid hS
  have HN0 := Lib.hid (names_is (s := s))
  have QN : ∀ n : ByteArray, n.size ≤ 200 → ∀ W, Calls Tryz.prog 92 #[.string n] W fun e w' => e = .returned (.bool (Tk.name n)) ∧ w' = W := fun n hn W => RefName_any n W (by unfold maxLen; omega)
  have HQ := Lib.hid QN
  clear QN h hu hr hs hg hS
  simp only [allocs, schO] at hW0
  go_enter Tryz.func45, Tryz.ntmps45
  go_upto_region 1 with fail
  rw [← hW0]
  clear hW0
  go_wp2_with fail
  refine (HQ.out _ HSM.out.name _).mono ?_
  rintro e w1 ⟨rfl, hw1⟩
  rw [hw1]
  clear hw1 w1
  cases hb : Tk.name s.name with
  | false =>
    have HE : Hid (Ck.names s = some ⟨#[]⟩) := Lib.hid (by unfold Ck.names; rw [if_neg (by rw [hb]; decide)])
    go_wp2_with fail
    go_ret2
    exact ruleR_some HE.out HB0.out
  | true =>
  have HE := Lib.hid (HN0.out hb)
  clear hb HN0
  go_wp2_with fail
  go_loopw [4, 5] (fun iv _ wr => ∃ i : Nat, i ≤ s.records.length ∧ iv = .int .i64 (i : Nat) ∧ wr = W0 ∧ Hid (s.records.findSome? fR = (s.records.drop i).findSome? fR)) (fun iv _ _ => s.records.length - (intOf iv).toNat)
  case atStart => exact ⟨0, Nat.zero_le _, rfl, (by first | rfl | trivial), Lib.hid (by rw [List.drop_zero])⟩
  case round =>
  obtain ⟨i, hi, rfl, hwr, H⟩ := hrel
  rw [hwr]
  clear hwr
  by_cases hlt : i < s.records.length
  · have i1 : (i : Int) < (s.records.length : Int) := by omega
    have i2 : (0 : Int) ≤ (i : Int) := by omega
    obtain ⟨A, cc, p, kq, e3, hA, d0, d1, d2, hin, hsub⟩ := rcd_at2 HR.out HU.out hlt
    cases e3
    obtain ⟨_, _, e9, hsl⟩ := ro_len hsub
    cases e9
    have HSUB := Lib.hid hsub
    have HZ := Lib.hid (HSM.out.r _ (List.getElem_mem hlt))
    have HY : Hid (∀ y, fR s.records[i] = some y → s.records.findSome? fR = some y) := Lib.hid fun y hy => H.out.trans (Ck.some_at hlt hy)
    have HN : Hid (fR s.records[i] = none → s.records.findSome? fR = (s.records.drop (i + 1)).findSome? fR) := Lib.hid fun hy => H.out.trans (Ck.none_at hlt hy)
    clear hsub hin hA H
    generalize s.records[i] = r at *
    go_wp2_with fail
    refine (HQ.out _ HZ.out.1 _).mono ?_
    rintro e w1 ⟨rfl, hw1⟩
    rw [hw1]
    clear hw1 w1
    cases hb : Tk.name r.name with
    | false =>
      have HO := Lib.hid (HE.out.trans (or1 (HY.out _ (by unfold fR; rw [nm_no hb]; rfl))))
      clear hb
      go_wp2_with fail
      go_ret2
      exact ruleR_some HO.out HB0.out
    | true =>
    have HF : Hid (fR r = r.fields.findSome? fun f => Ck.nm f.name) := Lib.hid (by unfold fR; rw [nm_yes hb]; rfl)
    clear hb
    go_wp2_with fail
    go_loopw [5] (fun kv wr => ∃ k : Nat, k ≤ r.fields.length ∧ kv = .int .i64 (k : Nat) ∧ wr = W0 ∧ Hid ((r.fields.findSome? fun f => Ck.nm f.name) = (r.fields.drop k).findSome? fun f => Ck.nm f.name)) (fun kv _ => r.fields.length - (intOf kv).toNat)
    case atStart => exact ⟨0, Nat.zero_le _, rfl, (by first | rfl | trivial), Lib.hid (by rw [List.drop_zero])⟩
    case round =>
    obtain ⟨k, hk, rfl, hwr, H⟩ := hrel
    rw [hwr]
    clear hwr
    by_cases hlk : k < r.fields.length
    · have i3 : (k : Int) < (r.fields.length : Int) := by omega
      have i4 : (0 : Int) ≤ (k : Int) := by omega
      obtain ⟨B, cb, pp, kp, e5, hB, g0, g1, hpin, hss, hss2⟩ := fld_at HSUB.out hlk
      cases e5
      replace g0 := (HU.out.cell (tcell_block g0)).trans g0
      have HZ2 := Lib.hid ((HZ.out.2.2 _ (List.getElem_mem hlk)).1)
      have HY2 : Hid (∀ y, Ck.nm r.fields[k].name = some y → (r.fields.findSome? fun f => Ck.nm f.name) = some y) := Lib.hid fun y hy => H.out.trans (Ck.some_at hlk hy)
      have HN2 : Hid (Ck.nm r.fields[k].name = none → (r.fields.findSome? fun f => Ck.nm f.name) = (r.fields.drop (k + 1)).findSome? fun f => Ck.nm f.name) := Lib.hid fun hy => H.out.trans (Ck.none_at hlk hy)
      clear H
      generalize r.fields[k] = q at *
      go_wp2_with fail
      refine (HQ.out _ HZ2.out _).mono ?_
      rintro e w1 ⟨rfl, hw1⟩
      rw [hw1]
      clear hw1 w1
      cases hb : Tk.name q.name with
      | false =>
        have HO := Lib.hid (HE.out.trans (or1 (HY.out _ (HF.out.trans (HY2.out _ (nm_no hb))))))
        clear hb
        go_wp2_with fail
        go_ret2
        exact ruleR_some HO.out HB0.out
      | true =>
      have HO := Lib.hid (HN2.out (nm_yes hb))
      clear hb
      go_wp2_with fail
      go_roundw
      case rel => exact ⟨k + 1, by omega, by go_num, (by first | rfl | trivial), HO⟩
      case measure => simp [intOf]; omega
    · obtain rfl : k = r.fields.length := by omega
      have i3 : ¬ (r.fields.length : Int) < (r.fields.length : Int) := by omega
      have HO := Lib.hid (HN.out (HF.out.trans (H.out.trans (Ck.none_end (Nat.le_refl _)))))
      go_wp2_with fail
      go_roundw
      case rel => exact ⟨i + 1, by omega, by go_num, (by first | rfl | trivial), HO⟩
      case measure => simp [intOf]; omega
  · obtain rfl : i = s.records.length := by omega
    have i1 : ¬ (s.records.length : Int) < (s.records.length : Int) := by omega
    have HArecords := Lib.hid (H.out.trans (Ck.none_end (Nat.le_refl _)))
    clear H hi hlt
    go_wp2_with fail
    go_loopw [6, 7] (fun iv _ wr => ∃ i : Nat, i ≤ s.services.length ∧ iv = .int .i64 (i : Nat) ∧ wr = W0 ∧ Hid (s.services.findSome? fV = (s.services.drop i).findSome? fV)) (fun iv _ _ => s.services.length - (intOf iv).toNat)
    case atStart => exact ⟨0, Nat.zero_le _, rfl, (by first | rfl | trivial), Lib.hid (by rw [List.drop_zero])⟩
    case round =>
    obtain ⟨i, hi, rfl, hwr, H⟩ := hrel
    rw [hwr]
    clear hwr
    by_cases hlt : i < s.services.length
    · have i1 : (i : Int) < (s.services.length : Int) := by omega
      have i2 : (0 : Int) ≤ (i : Int) := by omega
      obtain ⟨A, cc, p, kq, e3, hA, d0, d1, hin, hsub⟩ := srv_at2 HV.out HU.out hlt
      cases e3
      obtain ⟨_, _, e9, hsl⟩ := ro_len hsub
      cases e9
      have HSUB := Lib.hid hsub
      have HZ := Lib.hid (HSM.out.v _ (List.getElem_mem hlt))
      have HY : Hid (∀ y, fV s.services[i] = some y → s.services.findSome? fV = some y) := Lib.hid fun y hy => H.out.trans (Ck.some_at hlt hy)
      have HN : Hid (fV s.services[i] = none → s.services.findSome? fV = (s.services.drop (i + 1)).findSome? fV) := Lib.hid fun hy => H.out.trans (Ck.none_at hlt hy)
      clear hsub hin hA H
      generalize s.services[i] = r at *
      go_wp2_with fail
      refine (HQ.out _ HZ.out.1 _).mono ?_
      rintro e w1 ⟨rfl, hw1⟩
      rw [hw1]
      clear hw1 w1
      cases hb : Tk.name r.name with
      | false =>
        have HO := Lib.hid (HE.out.trans (or2 HArecords.out (HY.out _ (by unfold fV; rw [nm_no hb]; rfl))))
        clear hb
        go_wp2_with fail
        go_ret2
        exact ruleR_some HO.out HB0.out
      | true =>
      have HF : Hid (fV r = r.methods.findSome? fun f => Ck.nm f.name) := Lib.hid (by unfold fV; rw [nm_yes hb]; rfl)
      clear hb
      go_wp2_with fail
      go_loopw [7] (fun kv wr => ∃ k : Nat, k ≤ r.methods.length ∧ kv = .int .i64 (k : Nat) ∧ wr = W0 ∧ Hid ((r.methods.findSome? fun f => Ck.nm f.name) = (r.methods.drop k).findSome? fun f => Ck.nm f.name)) (fun kv _ => r.methods.length - (intOf kv).toNat)
      case atStart => exact ⟨0, Nat.zero_le _, rfl, (by first | rfl | trivial), Lib.hid (by rw [List.drop_zero])⟩
      case round =>
      obtain ⟨k, hk, rfl, hwr, H⟩ := hrel
      rw [hwr]
      clear hwr
      by_cases hlk : k < r.methods.length
      · have i3 : (k : Int) < (r.methods.length : Int) := by omega
        have i4 : (0 : Int) ≤ (k : Int) := by omega
        obtain ⟨B, cb, e5, hB, g0, g1, g2, g3, g4, hpin⟩ := mth_at HSUB.out hlk
        cases e5
        replace g0 := (HU.out.cell (tcell_block g0)).trans g0
        have HZ2 := Lib.hid ((HZ.out.2.2 _ (List.getElem_mem hlk)).1)
        have HY2 : Hid (∀ y, Ck.nm r.methods[k].name = some y → (r.methods.findSome? fun f => Ck.nm f.name) = some y) := Lib.hid fun y hy => H.out.trans (Ck.some_at hlk hy)
        have HN2 : Hid (Ck.nm r.methods[k].name = none → (r.methods.findSome? fun f => Ck.nm f.name) = (r.methods.drop (k + 1)).findSome? fun f => Ck.nm f.name) := Lib.hid fun hy => H.out.trans (Ck.none_at hlk hy)
        clear H
        generalize r.methods[k] = q at *
        go_wp2_with fail
        refine (HQ.out _ HZ2.out _).mono ?_
        rintro e w1 ⟨rfl, hw1⟩
        rw [hw1]
        clear hw1 w1
        cases hb : Tk.name q.name with
        | false =>
          have HO := Lib.hid (HE.out.trans (or2 HArecords.out (HY.out _ (HF.out.trans (HY2.out _ (nm_no hb))))))
          clear hb
          go_wp2_with fail
          go_ret2
          exact ruleR_some HO.out HB0.out
        | true =>
        have HO := Lib.hid (HN2.out (nm_yes hb))
        clear hb
        go_wp2_with fail
        go_roundw
        case rel => exact ⟨k + 1, by omega, by go_num, (by first | rfl | trivial), HO⟩
        case measure => simp [intOf]; omega
      · obtain rfl : k = r.methods.length := by omega
        have i3 : ¬ (r.methods.length : Int) < (r.methods.length : Int) := by omega
        have HO := Lib.hid (HN.out (HF.out.trans (H.out.trans (Ck.none_end (Nat.le_refl _)))))
        go_wp2_with fail
        go_roundw
        case rel => exact ⟨i + 1, by omega, by go_num, (by first | rfl | trivial), HO⟩
        case measure => simp [intOf]; omega
    · obtain rfl : i = s.services.length := by omega
      have i1 : ¬ (s.services.length : Int) < (s.services.length : Int) := by omega
      have HAservices := Lib.hid (H.out.trans (Ck.none_end (Nat.le_refl _)))
      clear H hi hlt
      go_wp2_with fail
      go_loopw [8] (fun iv wr => ∃ i : Nat, i ≤ s.sagas.length ∧ iv = .int .i64 (i : Nat) ∧ wr = W0 ∧ Hid (s.sagas.findSome? fG = (s.sagas.drop i).findSome? fG)) (fun iv _ => s.sagas.length - (intOf iv).toNat)
      case atStart => exact ⟨0, Nat.zero_le _, rfl, (by first | rfl | trivial), Lib.hid (by rw [List.drop_zero])⟩
      case round =>
      obtain ⟨i, hi, rfl, hwr, H⟩ := hrel
      rw [hwr]
      clear hwr
      by_cases hlt : i < s.sagas.length
      · have i1 : (i : Int) < (s.sagas.length : Int) := by omega
        have i2 : (0 : Int) ≤ (i : Int) := by omega
        obtain ⟨A, cc, p, kq, e3, hA, d0, d1, d2, hin, hsub⟩ := sga_at2 HG.out HU.out hlt
        cases e3
        have HZ := Lib.hid (HSM.out.g _ (List.getElem_mem hlt))
        have HY : Hid (∀ y, fG s.sagas[i] = some y → s.sagas.findSome? fG = some y) := Lib.hid fun y hy => H.out.trans (Ck.some_at hlt hy)
        have HN : Hid (fG s.sagas[i] = none → s.sagas.findSome? fG = (s.sagas.drop (i + 1)).findSome? fG) := Lib.hid fun hy => H.out.trans (Ck.none_at hlt hy)
        clear hsub hin hA H
        generalize s.sagas[i] = r at *
        go_wp2_with fail
        refine (HQ.out _ HZ.out.1 _).mono ?_
        rintro e w1 ⟨rfl, hw1⟩
        rw [hw1]
        clear hw1 w1
        cases hb : Tk.name r.name with
        | false =>
          have HO := Lib.hid (HE.out.trans (or3 HArecords.out HAservices.out (HY.out _ (nm_no hb))))
          clear hb
          go_wp2_with fail
          go_ret2
          exact ruleR_some HO.out HB0.out
        | true =>
        have HO := Lib.hid (HN.out (nm_yes hb))
        clear hb
        go_wp2_with fail
        go_roundw
        case rel => exact ⟨i + 1, by omega, by go_num, (by first | rfl | trivial), HO⟩
        case measure => simp [intOf]; omega
      · obtain rfl : i = s.sagas.length := by omega
        have i1 : ¬ (s.sagas.length : Int) < (s.sagas.length : Int) := by omega
        have HO := Lib.hid (HE.out.trans (or0 HArecords.out HAservices.out (H.out.trans (Ck.none_end (Nat.le_refl _)))))
        go_wp2_with fail
        go_ret2
        exact ruleR_none HO.out HB0.out
end Go.Proofs.YtnkdhmoocomjfaaGreatDoor
