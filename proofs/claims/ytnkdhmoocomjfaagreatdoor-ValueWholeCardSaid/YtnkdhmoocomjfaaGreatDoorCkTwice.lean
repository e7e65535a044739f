/-
  Walks over package check: rules 2, 5 and 8. Conditions: those in the theorems.
  Walks over package check: rule 4: types of fields and results. Conditions: those in the theorems.
  Walks over package check: rule 1: names. Conditions: those in the theorems.
  Walks over package check: rule 3: what stands twice. Conditions: those in the theorems.
-/
import Derived.Test.YtnkdhmoocomjfaaGreatDoorCkSteps10
set_option linter.unusedSimpArgs false
set_option linter.unusedVariables false
namespace Go.Proofs.YtnkdhmoocomjfaaGreatDoor
open Go.RowKit

set_option maxRecDepth 100000 in
set_option maxHeartbeats 8000000 in
theorem wrongSagas_any {u w : World} {sv : Value} {s : Ip.Sch} (h : RoSch u sv s) (hu : Kp u w) (hF : Ck.Four s) : Calls Tryz.prog 88 #[sv] w (Told (Ck.sagas s) 240 w) := by
  obtain ⟨p1, c1, p2, c2, p3, c3, rfl, -, hr, hs, hg, l1, l2, l3⟩ := sch_parts h
  obtain ⟨W0, hW0⟩ : ∃ W0, W0 = allocs w [schO s p1 c1 p2 c2 p3 c3] := ⟨_, rfl⟩
  have HX : Hid (∀ W, Below W0.heap.size W0 W → W.heap[w.heap.size]? = some (schO s p1 c1 p2 c2 p3 c3) ∧ Below w.heap.size w W) := Lib.hid (by subst hW0; exact fun W hW => ⟨allocs_box (i := 0) rfl hW, allocs_on hW⟩)
  obtain ⟨b0, B0⟩ := HX.out W0 (Below.refl _ _)
  obtain ⟨x0, x1, x2, x3⟩ := cells4' b0
  have H := Lib.hid h
  have H1 := Lib.hid hr
  have H2 := Lib.hid hs
  have H3 := Lib.hid hg
  have HU0 := Lib.hid (hu.below B0)
  have HE : Hid (Ck.sagas s = s.sagas.findSome? (fun g : Ip.Sga => if Ck.isOrder s g.arg then Option.none else some g.name)) := Lib.hid (find_congr fun g _ => by simp only [hF.order])
  clear h hr hs hg hu b0 B0 hF
  simp only [allocs, schO] at hW0
  go_enter Tryz.func88, Tryz.ntmps88
  go_upto_region 1 with fail
  rw [← hW0]
  clear hW0
  go_wp2_with fail
  clear x0 x1 x2 x3
  go_loopw [9] (fun iv wr => ∃ i : Nat, i ≤ s.sagas.length ∧ iv = .int .i64 (i : Nat) ∧ Hid (Below W0.heap.size W0 wr ∧ ∀ j x, s.sagas[j]? = some x → j < i → (fun g : Ip.Sga => if Ck.isOrder s g.arg then Option.none else some g.name) x = none)) (fun iv _ => s.sagas.length - (intOf iv).toNat)
  case atStart => exact ⟨0, Nat.zero_le _, rfl, Lib.hid ⟨Below.refl _ _, fun j _ _ hj => absurd hj (Nat.not_lt_zero _)⟩⟩
  case round =>
    obtain ⟨i, hi, rfl, HR⟩ := hrel
    by_cases hlt : i < s.sagas.length
    · have i1 : (i : Int) < (s.sagas.length : Int) := by omega
      have i2 : (0 : Int) ≤ (i : Int) := by omega
      obtain ⟨A, cc, q, kq, e3, hA, d0, d1, d2, hin, hms⟩ := sga_at2 H3.out (HU0.out.below HR.out.1) hlt
      cases e3
      have HXI := Lib.hid (List.getElem?_eq_getElem hlt)
      have HME := Lib.hid (List.getElem_mem hlt)
      generalize s.sagas[i] = x at *
      obtain ⟨W1, hW1⟩ : ∃ W1, W1 = wr.alloc (.cells #[.string x.name, .string x.arg, .slice q x.steps.length kq] 44) := ⟨_, rfl⟩
      have hn1 : W1.heap[wr.heap.size]? = some (.cells #[.string x.name, .string x.arg, .slice q x.steps.length kq] 44 (0, 0)) := by rw [hW1]; exact heap_alloc_new wr _
      have hb1 : Below W0.heap.size W0 W1 := by rw [hW1]; exact HR.out.1.trans ((tk_alloc wr _).mono HR.out.1.size)
      obtain ⟨y0, y1, y2⟩ := cells3 hn1
      obtain ⟨b0, B1⟩ := HX.out W1 hb1
      obtain ⟨x0, x1, x2, x3⟩ := cells4' b0
      have HN1 := Lib.hid hn1
      have HB1 := Lib.hid hb1
      have HBW := Lib.hid B1
      clear hn1 hb1 b0 B1 hA hin hms
      go_upto_region 4 with fail
      rw [← hW1]
      clear hW1 d0 d1 d2
      go_wp2_with fail
      refine (isOrder_any H.out (HU0.out.below HB1.out) x.arg).mono ?_
      rintro e w2 ⟨rfl, hb2⟩
      have HB2 := Lib.hid (HB1.out.trans (hb2.mono HB1.out.size))
      have HN2 := Lib.hid (box_keep hb2 HN1.out)
      clear hb2 x0 x1 x2 x3 y0 y1 y2
      obtain ⟨y0, y1, y2⟩ := cells3 HN2.out
      cases ho : Ck.isOrder s x.arg with
      | true =>
        have HQ : Hid ((fun g : Ip.Sga => if Ck.isOrder s g.arg then Option.none else some g.name) x = none) := Lib.hid (by simp only [ho]; rfl)
        clear ho
        go_wp2_with fail
        go_roundw
        case rel => exact ⟨i + 1, by omega, by go_num, Lib.hid ⟨HB2.out, goes_next HR.out.2 HXI.out HQ.out⟩⟩
        case measure => simp [intOf]; omega
      | false =>
        have HQ : Hid ((fun g : Ip.Sga => if Ck.isOrder s g.arg then Option.none else some g.name) x = some x.name) := Lib.hid (by simp only [ho]; rfl)
        clear ho
        go_wp2_with fail
        go_ret2
        exact ⟨by rw [HE.out, found_at HR.out.2 HXI.out HQ.out]; rfl, (HX.out _ HB2.out).2⟩
    · obtain rfl : i = s.sagas.length := by omega
      have i1 : ¬ (s.sagas.length : Int) < (s.sagas.length : Int) := by omega
      have HNO := Lib.hid (found_none HR.out.2)
      go_wp2_with fail
      go_ret2
      exact ⟨by rw [HE.out, HNO.out]; rfl, (HX.out _ HR.out.1).2⟩

set_option maxRecDepth 100000 in
set_option maxHeartbeats 8000000 in
theorem bottomless_any {u w : World} {sv : Value} {s : Ip.Sch} (h : RoSch u sv s) (hu : Kp u w) (hF : Ck.Four s) (hS : Ck.Small s) : Calls Tryz.prog 85 #[sv] w (Told (Ck.bottoms s) 132 w) := by
  obtain ⟨p1, c1, p2, c2, p3, c3, rfl, -, hr, hs, hg, l1, l2, l3⟩ := sch_parts h
  obtain ⟨W0, hW0⟩ : ∃ W0, W0 = allocs w [schO s p1 c1 p2 c2 p3 c3] := ⟨_, rfl⟩
  have HX : Hid (∀ W, Below W0.heap.size W0 W → W.heap[w.heap.size]? = some (schO s p1 c1 p2 c2 p3 c3) ∧ Below w.heap.size w W) := Lib.hid (by subst hW0; exact fun W hW => ⟨allocs_box (i := 0) rfl hW, allocs_on hW⟩)
  obtain ⟨b0, B0⟩ := HX.out W0 (Below.refl _ _)
  obtain ⟨x0, x1, x2, x3⟩ := cells4' b0
  have H := Lib.hid h
  have H1 := Lib.hid hr
  have H2 := Lib.hid hs
  have H3 := Lib.hid hg
  have HU0 := Lib.hid (hu.below B0)
  have HE : Hid (Ck.bottoms s = s.records.findSome? (fun r : Ip.Rcd => if Ck.fin s r.name then Option.none else some r.name)) := Lib.hid rfl
  have HF := Lib.hid hF
  have HSM := Lib.hid hS
  have HNM : Hid (∀ r ∈ s.records, r.name.size ≤ maxLen) := Lib.hid fun r hr => by have := (hS.r r hr).1; unfold maxLen; omega
  clear h hr hs hg hu b0 B0 hF hS
  simp only [allocs, schO] at hW0
  go_enter Tryz.func85, Tryz.ntmps85
  go_upto_region 1 with fail
  rw [← hW0]
  clear hW0
  go_wp2_with fail
  refine (finite_any H.out HU0.out HF.out HSM.out).mono ?_
  rintro e w1 ⟨b, L, rfl, hst, hfi, hb1⟩
  have HST0 := Lib.hid hst
  have HFI := Lib.hid hfi
  obtain ⟨b0, B0⟩ := HX.out w1 hb1
  have HX0 : Hid (∀ W, Below w1.heap.size w1 W → W.heap[w.heap.size]? = some (schO s p1 c1 p2 c2 p3 c3) ∧ Below w.heap.size w W) := Lib.hid fun W hW => HX.out W (hb1.trans (hW.mono hb1.size))
  have HU1 := Lib.hid (HU0.out.below hb1)
  clear hst hfi HX HU0 x0 x1 x2 x3 hb1
  obtain ⟨x0, x1, x2, x3⟩ := cells4' b0
  clear b0 B0
  have HX := HX0
  have HU0 := HU1
  have HST := HST0
  clear HX0 HU1 HST0
  clear W0
  generalize w1 = W0 at *
  go_wp2_with fail
  clear x0 x1 x2 x3
  go_loopw [12] (fun iv wr => ∃ i : Nat, i ≤ s.records.length ∧ iv = .int .i64 (i : Nat) ∧ Hid (Below W0.heap.size W0 wr ∧ ∀ j x, s.records[j]? = some x → j < i → (fun r : Ip.Rcd => if Ck.fin s r.name then Option.none else some r.name) x = none)) (fun iv _ => s.records.length - (intOf iv).toNat)
  case atStart => exact ⟨0, Nat.zero_le _, rfl, Lib.hid ⟨Below.refl _ _, fun j _ _ hj => absurd hj (Nat.not_lt_zero _)⟩⟩
  case round =>
    obtain ⟨i, hi, rfl, HR⟩ := hrel
    by_cases hlt : i < s.records.length
    · have i1 : (i : Int) < (s.records.length : Int) := by omega
      have i2 : (0 : Int) ≤ (i : Int) := by omega
      obtain ⟨A, cc, q, kq, e3, hA, d0, d1, d2, hin, hms⟩ := rcd_at2 H1.out (HU0.out.below HR.out.1) hlt
      cases e3
      have HXI := Lib.hid (List.getElem?_eq_getElem hlt)
      have HME := Lib.hid (List.getElem_mem hlt)
      generalize s.records[i] = x at *
      obtain ⟨W1, hW1⟩ : ∃ W1, W1 = wr.alloc (.cells #[.string x.name, .bool x.choice, .slice q x.fields.length kq] 34) := ⟨_, rfl⟩
      have hn1 : W1.heap[wr.heap.size]? = some (.cells #[.string x.name, .bool x.choice, .slice q x.fields.length kq] 34 (0, 0)) := by rw [hW1]; exact heap_alloc_new wr _
      have hb1 : Below W0.heap.size W0 W1 := by rw [hW1]; exact HR.out.1.trans ((tk_alloc wr _).mono HR.out.1.size)
      obtain ⟨y0, y1, y2⟩ := cells3 hn1
      obtain ⟨b0, B1⟩ := HX.out W1 hb1
      obtain ⟨x0, x1, x2, x3⟩ := cells4' b0
      have HN1 := Lib.hid hn1
      have HB1 := Lib.hid hb1
      have HBW := Lib.hid B1
      clear hn1 hb1 b0 B1 hA hin hms
      go_upto_region 5 with fail
      rw [← hW1]
      clear hW1 d0 d1 d2
      go_wp2_with fail
      refine (has_any (HST.out.below HB1.out) (HNM.out x HME.out)).mono ?_
      rintro e w2 ⟨rfl, hb2⟩
      have HB2 := Lib.hid (HB1.out.trans (hb2.mono HB1.out.size))
      have HN2 := Lib.hid (box_keep hb2 HN1.out)
      clear hb2 x0 x1 x2 x3 y0 y1 y2
      obtain ⟨y0, y1, y2⟩ := cells3 HN2.out
      rw [HFI.out]
      cases ho : Ck.fin s x.name with
      | true =>
        have HQ : Hid ((fun r : Ip.Rcd => if Ck.fin s r.name then Option.none else some r.name) x = none) := Lib.hid (by simp only [ho]; rfl)
        clear ho
        go_wp2_with fail
        go_roundw
        case rel => exact ⟨i + 1, by omega, by go_num, Lib.hid ⟨HB2.out, goes_next HR.out.2 HXI.out HQ.out⟩⟩
        case measure => simp [intOf]; omega
      | false =>
        have HQ : Hid ((fun r : Ip.Rcd => if Ck.fin s r.name then Option.none else some r.name) x = some x.name) := Lib.hid (by simp only [ho]; rfl)
        clear ho
        go_wp2_with fail
        go_ret2
        exact ⟨by rw [HE.out, found_at HR.out.2 HXI.out HQ.out]; rfl, (HX.out _ HB2.out).2⟩
    · obtain rfl : i = s.records.length := by omega
      have i1 : ¬ (s.records.length : Int) < (s.records.length : Int) := by omega
      have HNO := Lib.hid (found_none HR.out.2)
      go_wp2_with fail
      go_ret2
      exact ⟨by rw [HE.out, HNO.out]; rfl, (HX.out _ HR.out.1).2⟩

set_option maxRecDepth 100000 in
set_option maxHeartbeats 8000000 in
theorem tooMany_any {u w : World} {sv : Value} {s : Ip.Sch} (h : RoSch u sv s) (hu : Kp u w) (hS : Ck.Small s) : Calls Tryz.prog 82 #[sv] w (Told (Ck.counts s) 135 w) := by
  obtain ⟨p1, c1, p2, c2, p3, c3, rfl, -, hr, hs, hg, l1, l2, l3⟩ := sch_parts h
  obtain ⟨W0, hW0⟩ : ∃ W0, W0 = allocs w [schO s p1 c1 p2 c2 p3 c3] := ⟨_, rfl⟩
  have HX : Hid (∀ W, Below W0.heap.size W0 W → W.heap[w.heap.size]? = some (schO s p1 c1 p2 c2 p3 c3) ∧ Below w.heap.size w W) := Lib.hid (by subst hW0; exact fun W hW => ⟨allocs_box (i := 0) rfl hW, allocs_on hW⟩)
  obtain ⟨b0, B0⟩ := HX.out W0 (Below.refl _ _)
  obtain ⟨x0, x1, x2, x3⟩ := cells4' b0
  have H := Lib.hid h
  have H1 := Lib.hid hr
  have H2 := Lib.hid hs
  have H3 := Lib.hid hg
  have HU0 := Lib.hid (hu.below B0)
  have HE0 : Hid (Ck.counts s = if s.records.length + s.services.length + s.sagas.length > 64 then some ⟨#[]⟩ else (s.records.findSome? (fun r : Ip.Rcd => if r.fields.length > 16 then some r.name else Option.none)).or ((s.services.findSome? (fun v : Ip.Srv => if v.methods.length > 16 then some v.name else Option.none)).or (s.sagas.findSome? (fun g : Ip.Sga => if g.steps.length < 1 ∨ g.steps.length > 8 then some g.name else Option.none)))) := Lib.hid rfl
  have k1 : (s.records.length : Int) ≤ 100 := by have := hS.nr; omega
  have k2 : (s.services.length : Int) ≤ 100 := by have := hS.ns; omega
  have k3 : (s.sagas.length : Int) ≤ 100 := by have := hS.ng; omega
  clear h hr hs hg hu b0 B0 hS
  simp only [allocs, schO] at hW0
  by_cases hc : s.records.length + s.services.length + s.sagas.length > 64
  · have j1 : (64 : Int) < (s.records.length : Int) + (s.services.length : Int) + (s.sagas.length : Int) := by omega
    have HE : Hid (Ck.counts s = some ⟨#[]⟩) := Lib.hid (by rw [HE0.out, if_pos hc])
    clear hc
    go_enter Tryz.func82, Tryz.ntmps82
    go_upto_region 1 with fail
    rw [← hW0]
    clear hW0
    go_wp2_with fail
    go_ret2
    exact ⟨by rw [HE.out]; rfl, (HX.out _ (Below.refl _ _)).2⟩
  have j1 : ¬ (64 : Int) < (s.records.length : Int) + (s.services.length : Int) + (s.sagas.length : Int) := by omega
  have HE := Lib.hid (HE0.out.trans (if_neg hc))
  clear hc
  go_enter Tryz.func82, Tryz.ntmps82
  go_upto_region 1 with fail
  rw [← hW0]
  clear hW0
  go_wp2_with fail
  clear x0 x1 x2 x3
  go_loopw [25] (fun iv wr => ∃ i : Nat, i ≤ s.records.length ∧ iv = .int .i64 (i : Nat) ∧ Hid (Below W0.heap.size W0 wr ∧ ∀ j x, s.records[j]? = some x → j < i → (fun r : Ip.Rcd => if r.fields.length > 16 then some r.name else Option.none) x = none)) (fun iv _ => s.records.length - (intOf iv).toNat)
  case atStart => exact ⟨0, Nat.zero_le _, rfl, Lib.hid ⟨Below.refl _ _, fun j _ _ hj => absurd hj (Nat.not_lt_zero _)⟩⟩
  case round =>
    obtain ⟨i, hi, rfl, HR⟩ := hrel
    by_cases hlt : i < s.records.length
    · have i1 : (i : Int) < (s.records.length : Int) := by omega
      have i2 : (0 : Int) ≤ (i : Int) := by omega
      obtain ⟨A, cc, q, kq, e3, hA, d0, d1, d2, hin, hms⟩ := rcd_at2 H1.out (HU0.out.below HR.out.1) hlt
      cases e3
      have HXI := Lib.hid (List.getElem?_eq_getElem hlt)
      have HME := Lib.hid (List.getElem_mem hlt)
      generalize s.records[i] = x at *
      obtain ⟨W1, hW1⟩ : ∃ W1, W1 = wr.alloc (.cells #[.string x.name, .bool x.choice, .slice q x.fields.length kq] 34) := ⟨_, rfl⟩
      have hn1 : W1.heap[wr.heap.size]? = some (.cells #[.string x.name, .bool x.choice, .slice q x.fields.length kq] 34 (0, 0)) := by rw [hW1]; exact heap_alloc_new wr _
      have hb1 : Below W0.heap.size W0 W1 := by rw [hW1]; exact HR.out.1.trans ((tk_alloc wr _).mono HR.out.1.size)
      obtain ⟨y0, y1, y2⟩ := cells3 hn1
      obtain ⟨b0, B1⟩ := HX.out W1 hb1
      obtain ⟨x0, x1, x2, x3⟩ := cells4' b0
      have HN1 := Lib.hid hn1
      have HB1 := Lib.hid hb1
      have HBW := Lib.hid B1
      clear hn1 hb1 b0 B1 hA hin hms
      go_upto_region 6 with fail
      rw [← hW1]
      clear hW1 d0 d1 d2
      clear x0 x1 x2 x3
      by_cases hc : 16 < x.fields.length
      · have j1 : (16 : Int) < (x.fields.length : Int) := by omega
        have HQ : Hid ((fun r : Ip.Rcd => if r.fields.length > 16 then some r.name else Option.none) x = some x.name) := Lib.hid (if_pos hc)
        clear hc
        go_wp2_with fail
        go_ret2
        exact ⟨by rw [HE.out, found_at HR.out.2 HXI.out HQ.out, Option.some_or]; rfl, (HX.out _ HB1.out).2⟩
      · have j1 : ¬ (16 : Int) < (x.fields.length : Int) := by omega
        have HQ : Hid ((fun r : Ip.Rcd => if r.fields.length > 16 then some r.name else Option.none) x = none) := Lib.hid (if_neg hc)
        clear hc
        go_wp2_with fail
        go_roundw
        case rel => exact ⟨i + 1, by omega, by go_num, Lib.hid ⟨HB1.out, goes_next HR.out.2 HXI.out HQ.out⟩⟩
        case measure => simp [intOf]; omega
    · obtain rfl : i = s.records.length := by omega
      have i1 : ¬ (s.records.length : Int) < (s.records.length : Int) := by omega
      have HNO := Lib.hid (found_none HR.out.2)
      have HNO1 := HNO
      clear HNO
      have HRB := Lib.hid HR.out.1
      obtain ⟨b0, -⟩ := HX.out _ HR.out.1
      obtain ⟨x0, x1, x2, x3⟩ := cells4' b0
      clear b0
      go_wp2_with fail
      clear x0 x1 x2 x3
      go_loopw [39] (fun iv wr => ∃ i : Nat, i ≤ s.services.length ∧ iv = .int .i64 (i : Nat) ∧ Hid (Below W0.heap.size W0 wr ∧ ∀ j x, s.services[j]? = some x → j < i → (fun v : Ip.Srv => if v.methods.length > 16 then some v.name else Option.none) x = none)) (fun iv _ => s.services.length - (intOf iv).toNat)
      case atStart => exact ⟨0, Nat.zero_le _, rfl, Lib.hid ⟨HRB.out, fun j _ _ hj => absurd hj (Nat.not_lt_zero _)⟩⟩
      case round =>
        obtain ⟨i, hi, rfl, HR⟩ := hrel
        by_cases hlt : i < s.services.length
        · have i1 : (i : Int) < (s.services.length : Int) := by omega
          have i2 : (0 : Int) ≤ (i : Int) := by omega
          obtain ⟨A, cc, q, kq, e3, hA, d0, d1, hin, hms⟩ := srv_at2 H2.out (HU0.out.below HR.out.1) hlt
          cases e3
          have HXI := Lib.hid (List.getElem?_eq_getElem hlt)
          have HME := Lib.hid (List.getElem_mem hlt)
          generalize s.services[i] = x at *
          obtain ⟨W1, hW1⟩ : ∃ W1, W1 = wr.alloc (.cells #[.string x.name, .slice q x.methods.length kq] 98) := ⟨_, rfl⟩
          have hn1 : W1.heap[wr.heap.size]? = some (.cells #[.string x.name, .slice q x.methods.length kq] 98 (0, 0)) := by rw [hW1]; exact heap_alloc_new wr _
          have hb1 : Below W0.heap.size W0 W1 := by rw [hW1]; exact HR.out.1.trans ((tk_alloc wr _).mono HR.out.1.size)
          obtain ⟨y0, y1⟩ := cells2 hn1
          obtain ⟨b0, B1⟩ := HX.out W1 hb1
          obtain ⟨x0, x1, x2, x3⟩ := cells4' b0
          have HN1 := Lib.hid hn1
          have HB1 := Lib.hid hb1
          have HBW := Lib.hid B1
          clear hn1 hb1 b0 B1 hA hin hms
          go_upto_region 12 with fail
          rw [← hW1]
          clear hW1 d0 d1
          clear x0 x1 x2 x3
          by_cases hc : 16 < x.methods.length
          · have j1 : (16 : Int) < (x.methods.length : Int) := by omega
            have HQ : Hid ((fun v : Ip.Srv => if v.methods.length > 16 then some v.name else Option.none) x = some x.name) := Lib.hid (if_pos hc)
            clear hc
            go_wp2_with fail
            go_ret2
            exact ⟨by rw [HE.out, HNO1.out, Option.none_or, found_at HR.out.2 HXI.out HQ.out, Option.some_or]; rfl, (HX.out _ HB1.out).2⟩
          · have j1 : ¬ (16 : Int) < (x.methods.length : Int) := by omega
            have HQ : Hid ((fun v : Ip.Srv => if v.methods.length > 16 then some v.name else Option.none) x = none) := Lib.hid (if_neg hc)
            clear hc
            go_wp2_with fail
            go_roundw
            case rel => exact ⟨i + 1, by omega, by go_num, Lib.hid ⟨HB1.out, goes_next HR.out.2 HXI.out HQ.out⟩⟩
            case measure => simp [intOf]; omega
        · obtain rfl : i = s.services.length := by omega
          have i1 : ¬ (s.services.length : Int) < (s.services.length : Int) := by omega
          have HNO := Lib.hid (found_none HR.out.2)
          have HNO2 := HNO
          clear HNO HRB
          have HRB := Lib.hid HR.out.1
          obtain ⟨b0, -⟩ := HX.out _ HR.out.1
          obtain ⟨x0, x1, x2, x3⟩ := cells4' b0
          clear b0
          go_wp2_with fail
          clear x0 x1 x2 x3
          go_loopw [53] (fun iv wr => ∃ i : Nat, i ≤ s.sagas.length ∧ iv = .int .i64 (i : Nat) ∧ Hid (Below W0.heap.size W0 wr ∧ ∀ j x, s.sagas[j]? = some x → j < i → (fun g : Ip.Sga => if g.steps.length < 1 ∨ g.steps.length > 8 then some g.name else Option.none) x = none)) (fun iv _ => s.sagas.length - (intOf iv).toNat)
          case atStart => exact ⟨0, Nat.zero_le _, rfl, Lib.hid ⟨HRB.out, fun j _ _ hj => absurd hj (Nat.not_lt_zero _)⟩⟩
          case round =>
            obtain ⟨i, hi, rfl, HR⟩ := hrel
            by_cases hlt : i < s.sagas.length
            · have i1 : (i : Int) < (s.sagas.length : Int) := by omega
              have i2 : (0 : Int) ≤ (i : Int) := by omega
              obtain ⟨A, cc, q, kq, e3, hA, d0, d1, d2, hin, hms⟩ := sga_at2 H3.out (HU0.out.below HR.out.1) hlt
              cases e3
              have HXI := Lib.hid (List.getElem?_eq_getElem hlt)
              have HME := Lib.hid (List.getElem_mem hlt)
              generalize s.sagas[i] = x at *
              obtain ⟨W1, hW1⟩ : ∃ W1, W1 = wr.alloc (.cells #[.string x.name, .string x.arg, .slice q x.steps.length kq] 44) := ⟨_, rfl⟩
              have hn1 : W1.heap[wr.heap.size]? = some (.cells #[.string x.name, .string x.arg, .slice q x.steps.length kq] 44 (0, 0)) := by rw [hW1]; exact heap_alloc_new wr _
              have hb1 : Below W0.heap.size W0 W1 := by rw [hW1]; exact HR.out.1.trans ((tk_alloc wr _).mono HR.out.1.size)
              obtain ⟨y0, y1, y2⟩ := cells3 hn1
              obtain ⟨b0, B1⟩ := HX.out W1 hb1
              obtain ⟨x0, x1, x2, x3⟩ := cells4' b0
              have HN1 := Lib.hid hn1
              have HB1 := Lib.hid hb1
              have HBW := Lib.hid B1
              clear hn1 hb1 b0 B1 hA hin hms
              go_upto_region 18 with fail
              rw [← hW1]
              clear hW1 d0 d1 d2
              clear x0 x1 x2 x3
              by_cases hz : x.steps.length < 1
              · have j1 : ((x.steps.length : Int) == 0) = true := by rw [beq_iff_eq]; omega
                have HQ : Hid ((fun g : Ip.Sga => if g.steps.length < 1 ∨ g.steps.length > 8 then some g.name else Option.none) x = some x.name) := Lib.hid (if_pos (.inl hz))
                clear hz
                go_wp2_with fail
                go_ret2
                exact ⟨by rw [HE.out, HNO1.out, HNO2.out, Option.none_or, Option.none_or, found_at HR.out.2 HXI.out HQ.out]; rfl, (HX.out _ HB1.out).2⟩
              have j0 : ((x.steps.length : Int) == 0) = false := by rw [beq_eq_false_iff_ne]; omega
              by_cases hc : 8 < x.steps.length
              · have j1 : (8 : Int) < (x.steps.length : Int) := by omega
                have HQ : Hid ((fun g : Ip.Sga => if g.steps.length < 1 ∨ g.steps.length > 8 then some g.name else Option.none) x = some x.name) := Lib.hid (if_pos (.inr hc))
                clear hc hz
                go_wp2_with fail
                go_ret2
                exact ⟨by rw [HE.out, HNO1.out, HNO2.out, Option.none_or, Option.none_or, found_at HR.out.2 HXI.out HQ.out]; rfl, (HX.out _ HB1.out).2⟩
              · have j1 : ¬ (8 : Int) < (x.steps.length : Int) := by omega
                have HQ : Hid ((fun g : Ip.Sga => if g.steps.length < 1 ∨ g.steps.length > 8 then some g.name else Option.none) x = none) := Lib.hid (if_neg (by omega))
                clear hc hz
                go_wp2_with fail
                go_roundw
                case rel => exact ⟨i + 1, by omega, by go_num, Lib.hid ⟨HB1.out, goes_next HR.out.2 HXI.out HQ.out⟩⟩
                case measure => simp [intOf]; omega
            · obtain rfl : i = s.sagas.length := by omega
              have i1 : ¬ (s.sagas.length : Int) < (s.sagas.length : Int) := by omega
              have HNO := Lib.hid (found_none HR.out.2)
              go_wp2_with fail
              go_ret2
              exact ⟨by rw [HE.out, HNO1.out, HNO2.out, HNO.out]; rfl, (HX.out _ HR.out.1).2⟩
end Go.Proofs.YtnkdhmoocomjfaaGreatDoor
set_option linter.unusedSimpArgs false
set_option linter.unusedVariables false
namespace Go.Proofs.YtnkdhmoocomjfaaGreatDoor
open Go.RowKit
attribute [local go_sem] Oper.semAt_some

def gResult (x : Ip.Srv × Ip.Mth) : Option ByteArray := if x.2.result = 1 ∨ x.2.result = 3 then none else some (Ck.dot x.1.name x.2.name)
def gField (s : Ip.Sch) (r : Ip.Rcd) (f : Ip.Fld) : Option ByteArray := if Ck.right s f.type then none else some (Ck.dot r.name f.name)
theorem types_flat (s : Ip.Sch) : Ck.types s = (s.records.findSome? fun r => r.fields.findSome? (gField s r)).or ((allM s).findSome? gResult) := by
  unfold allM
  rw [some_flat]
  simp only [List.findSome?_map]
  rfl
theorem rule_ends {F : Fence} {n : Nat} {P : Program} {fn : Func} {tmps : Array Value} {R : Ending → World → Prop} {v : Value} {W : World} (hres : (results fn tmps).run P W = .ok v W) (hR : R (.returned v) W) :
    LeavesInM F n P fn tmps R [] .returning W := ⟨v, hres, hR⟩
/-- Both results are stored, no range about. -/
theorem told_cells {X : World} {r0 r1 : Nat} (h0 : X.heap[r0]? = some (strO ⟨#[]⟩)) (h1 : X.heap[r1]? = some (errO 0)) (hne : r0 ≠ r1) (x : ByteArray) (e : Nat) :
    ((X.setCell ⟨r0, 0, none⟩ (.string x)).setCell ⟨r1, 0, none⟩ (.int .i64 (e : Nat))).heap[r0]? = some (strO x) ∧ ((X.setCell ⟨r0, 0, none⟩ (.string x)).setCell ⟨r1, 0, none⟩ (.int .i64 (e : Nat))).heap[r1]? = some (errO e) :=
  ⟨(Below.heap_setCell _ _ _ _ (by dsimp only; exact hne)).trans (tk_set h0 _), tk_set ((Below.heap_setCell _ _ _ _ (by dsimp only; exact hne.symm)).trans h1) _⟩
theorem mistyped_res {W : World} {tmps : Array Value} {r0 r1 : Nat} {x : ByteArray} {e : Nat} (h2 : tmps[2]? = some (.pointer (some ⟨r0, 0, none⟩))) (h3 : tmps[3]? = some (.pointer (some ⟨r1, 0, none⟩))) (h0 : W.heap[r0]? = some (strO x)) (h1 : W.heap[r1]? = some (errO e)) :
    (results Tryz.f84 tmps).run Tryz.prog W = .ok (.tuple #[.string x, .int .i64 (e : Nat)]) W := by
  have c0 := cells1' h0
  have c1 := cells1' h1
  simp [results, Tryz.results84, h2, h3, go_sem, c0, c1]
set_option maxRecDepth 100000 in
set_option maxHeartbeats 8000000 in
theorem mistyped_any {u w : World} {sv : Value} {s : Ip.Sch} (h : RoSch u sv s) (hu : Kp u w) (hS : Ck.Small s) : Calls Tryz.prog 84 #[sv] w (Told (Ck.types s) 131 w) := by
  obtain ⟨p1, c1, p2, c2, p3, c3, rfl, -, hr, hs, hg, l1, l2, l3⟩ := sch_parts h
  refine (callsIn_wide (n := 9)).1 ?_
  refine callsIn_of_wp_marks Tryz.func84 rfl trivial ?_ rfl
  simp only [Tryz.ntmps84, List.size_toArray, List.length_cons, List.length_nil, Nat.reduceAdd, Nat.reduceSub, Array.replicate_succ, Array.replicate_zero, List.push_toArray, List.append_toArray, List.nil_append, List.cons_append]
  obtain ⟨W0, hW0⟩ : ∃ W0, W0 = allocs w [schO s p1 c1 p2 c2 p3 c3, strO ⟨#[]⟩, errO 0] := ⟨_, rfl⟩
  have hz0 : w.heap.size + 3 ≤ W0.heap.size := by rw [hW0, allocs_size]; exact Nat.le_refl _
  have HX : Hid (∀ W, Below W0.heap.size W0 W → W.heap[w.heap.size]? = some (schO s p1 c1 p2 c2 p3 c3) ∧ W.heap[w.heap.size + 1]? = some (strO ⟨#[]⟩) ∧ W.heap[w.heap.size + 2]? = some (errO 0) ∧ Below w.heap.size w W) := Lib.hid (by subst hW0; exact fun W hW => ⟨allocs_box (i := 0) rfl hW, allocs_box (i := 1) rfl hW, allocs_box (i := 2) rfl hW, allocs_on hW⟩)
  obtain ⟨b0, -, -, B0⟩ := HX.out W0 (Below.refl _ _)
  obtain ⟨x0, x1, x2, x3⟩ := cells4' b0
  have HU := Lib.hid hu
  have H := Lib.hid h
  have HSV := Lib.hid hs
  have HRC := Lib.hid hr
  have HSM := Lib.hid hS
  clear h hr hs hg hu hS b0 B0
  simp only [allocs, schO, strO, errO] at hW0
  rw [show (((0 : Nat) : Int)) = 0 from rfl] at hW0
  gi_upto_region 1 with fail
  rw [← hW0]
  clear hW0
  have HU0 := Lib.hid (HU.out.below (HX.out W0 (Below.refl _ _)).2.2.2)
  gi_wp2_with fail
  clear x0 x1 x2 x3
  gi_loopw [13] (fun iv wr => ∃ i : Nat, i ≤ s.records.length ∧ iv = .int .i64 (i : Nat) ∧ Hid (Below W0.heap.size W0 wr ∧ ∀ j x, s.records[j]? = some x → j < i → (fun r : Ip.Rcd => r.fields.findSome? (gField s r)) x = none)) (fun iv _ => s.records.length - (intOf iv).toNat)
  case atStart => exact ⟨0, Nat.zero_le _, rfl, Lib.hid ⟨Below.refl _ _, fun j _ _ hj => absurd hj (Nat.not_lt_zero _)⟩⟩
  case round =>
    obtain ⟨i, hi, rfl, HR⟩ := hrel
    by_cases hlt : i < s.records.length
    · have i1 : (i : Int) < (s.records.length : Int) := by omega
      have i2 : (0 : Int) ≤ (i : Int) := by omega
      obtain ⟨A, cc, q, kq, e3, hA, d0, d1, d2, hin, hms⟩ := rcd_at2 HRC.out (HU0.out.below HR.out.1) hlt
      cases e3
      have HXI := Lib.hid (List.getElem?_eq_getElem hlt)
      have HSR := Lib.hid (HSM.out.r _ (List.getElem_mem hlt))
      generalize s.records[i] = x at *
      obtain ⟨W1, hW1⟩ : ∃ W1, W1 = wr.alloc (.cells #[.string x.name, .bool x.choice, .slice q x.fields.length kq] 34) := ⟨_, rfl⟩
      have hn1 : W1.heap[wr.heap.size]? = some (.cells #[.string x.name, .bool x.choice, .slice q x.fields.length kq] 34 (0, 0)) := by rw [hW1]; exact heap_alloc_new wr _
      have hb1 : Below W0.heap.size W0 W1 := by rw [hW1]; exact HR.out.1.trans ((tk_alloc wr _).mono HR.out.1.size)
      obtain ⟨y0, y1, y2⟩ := cells3 hn1
      have HN1 : Hid (∀ X, Below W1.heap.size W1 X → X.heap[wr.heap.size]? = some (.cells #[.string x.name, .bool x.choice, .slice q x.fields.length kq] 34 (0, 0))) := Lib.hid fun X hX => box_keep hX hn1
      have HB1 := Lib.hid hb1
      have HFS := Lib.hid hms
      have HNX := Lib.hid HR.out.2
      have hfl : x.fields.length ≤ 40 := HSR.out.2.1
      clear hn1 hb1 hA hin hms HR
      gi_upto_region 4 with fail
      rw [← hW1]
      clear hW1 d0 d1 d2
      generalize wr.heap.size = g at *
      gi_wp2_with fail
      clear y0 y1 y2
      gi_loopw [20] (fun kv wx => ∃ k : Nat, k ≤ x.fields.length ∧ kv = .int .i64 (k : Nat) ∧ Hid (Below W1.heap.size W1 wx ∧ ∀ j f, x.fields[j]? = some f → j < k → gField s x f = none)) (fun kv _ => x.fields.length - (intOf kv).toNat)
      case atStart => exact ⟨0, Nat.zero_le _, rfl, Lib.hid ⟨Below.refl _ _, fun j _ _ hj => absurd hj (Nat.not_lt_zero _)⟩⟩
      case round =>
        obtain ⟨k, hk, rfl, HR⟩ := hrel
        by_cases hlk : k < x.fields.length
        · have j1 : (k : Int) < (x.fields.length : Int) := by omega
          have j2 : (0 : Int) ≤ (k : Int) := by omega
          have hbr : Below W0.heap.size W0 wr := HB1.out.trans (HR.out.1.mono HB1.out.size)
          obtain ⟨B, cb, q5, k5, e5, hB, d0, d1, hfin, hts⟩ := fld_at2 HFS.out (HU0.out.below hbr) hlk
          cases e5
          have HXK := Lib.hid (List.getElem?_eq_getElem hlk)
          have HSF := Lib.hid (HSR.out.2.2 _ (List.getElem_mem hlk)).1
          generalize x.fields[k] = f at *
          obtain ⟨W2, hW2⟩ : ∃ W2, W2 = wr.alloc (.cells #[.string f.name, .slice q5 f.type.length k5] 39) := ⟨_, rfl⟩
          have hn2 : W2.heap[wr.heap.size]? = some (.cells #[.string f.name, .slice q5 f.type.length k5] 39 (0, 0)) := by rw [hW2]; exact heap_alloc_new wr _
          have hb2 : Below W1.heap.size W1 W2 := by rw [hW2]; exact HR.out.1.trans ((tk_alloc wr _).mono HR.out.1.size)
          have hb02 : Below W0.heap.size W0 W2 := HB1.out.trans (hb2.mono HB1.out.size)
          have HN2 : Hid (∀ X, Below W2.heap.size W2 X → X.heap[wr.heap.size]? = some (.cells #[.string f.name, .slice q5 f.type.length k5] 39 (0, 0))) := Lib.hid fun X hX => box_keep hX hn2
          obtain ⟨y0, y1⟩ := cells2 hn2
          obtain ⟨b0, -, -, -⟩ := HX.out W2 hb02
          obtain ⟨x0, x1, x2, x3⟩ := cells4' b0
          have HB2 := Lib.hid hb2
          have HB02 := Lib.hid hb02
          have HTS := Lib.hid (hts.kp (HU0.out.below hb02))
          have HTU := Lib.hid hts
          clear hn2 hb2 hb02 hbr hB hfin hts b0
          gi_upto_region 7 with fail
          rw [← hW2]
          clear hW2 d0 d1
          gi_wp2_with fail
          refine ⟨trivial, ?_⟩
          refine (callsIn_wide.2 (isType_any H.out HTU.out (HU0.out.below HB02.out))).mono ?_
          rintro e w3 ⟨rfl, hb3⟩
          have HB3 := Lib.hid (HB2.out.trans (hb3.mono HB2.out.size))
          have HB03 := Lib.hid (HB02.out.trans (hb3.mono HB02.out.size))
          have HN3 := Lib.hid (HN2.out w3 hb3)
          clear hb3 x0 x1 x2 x3 y0 y1
          cases ho : Ck.right s f.type with
          | true =>
            have HQ : Hid (gField s x f = none) := Lib.hid (by unfold gField; rw [ho]; rfl)
            clear ho
            gi_wp2_with fail
            go_roundw
            case rel => exact ⟨k + 1, by omega, by go_num, Lib.hid ⟨HB3.out, goes_next HR.out.2 HXK.out HQ.out⟩⟩
            case measure => simp [intOf]; omega
          | false =>
            have HQ : Hid (gField s x f = some (Ck.dot x.name f.name)) := Lib.hid (by unfold gField; rw [ho]; rfl)
            have HT9 : Hid (Ck.types s = some (Ck.dot x.name f.name)) := Lib.hid (by
              rw [types_flat, found_at HNX.out HXI.out (g := fun r : Ip.Rcd => r.fields.findSome? (gField s r)) (found_at HR.out.2 HXK.out HQ.out), Option.some_or])
            obtain ⟨y0, y1⟩ := cells2 HN3.out
            obtain ⟨z0, z1, z2⟩ := cells3 (HN1.out w3 HB3.out)
            obtain ⟨-, b1, b2, B3⟩ := HX.out w3 HB03.out
            have c0 := cells1' b1
            have c1' := cells1' b2
            have f0 := frozen2 b1 0
            have f1 := frozen2 b2 0
            have HTC := Lib.hid (told_cells b1 b2 (by omega) (Ck.dot x.name f.name) 131)
            have HBF : Hid (Below w.heap.size w ((w3.setCell ⟨w.heap.size + 1, 0, none⟩ (.string (Ck.dot x.name f.name))).setCell ⟨w.heap.size + 1 + 1, 0, none⟩ (.int .i64 ((131 : Nat) : Int)))) := Lib.hid ((B3.setCell (by dsimp only; omega) _).setCell (by dsimp only; omega) _)
            have HM1 : Hid (x.name.size ≤ 1000000) := Lib.hid (by have := HSR.out.1; omega)
            have HM2 : Hid (f.name.size ≤ 1000000) := Lib.hid (by have := HSF.out; omega)
            clear ho b1 b2 B3
            gi_wp2_with fail
            refine ⟨trivial, ?_⟩
            refine (callsIn_wide.2 (place_any x.name f.name w3 HM1.out HM2.out)).mono ?_
            rintro e w9 ⟨rfl, hw9⟩
            obtain rfl := hw9.symm
            gi_wp2_with fail
            refine rule_ends (fn := Tryz.f84) (mistyped_res rfl rfl HTC.out.1 HTC.out.2) ?_
            exact ⟨by rw [HT9.out]; rfl, HBF.out⟩
        · obtain rfl : k = x.fields.length := by omega
          have j1 : ¬ (x.fields.length : Int) < (x.fields.length : Int) := by omega
          have HQ : Hid ((fun r : Ip.Rcd => r.fields.findSome? (gField s r)) x = none) := Lib.hid (found_none HR.out.2)
          have HB3 := Lib.hid (HB1.out.trans (HR.out.1.mono HB1.out.size))
          gi_wp2_with fail
          go_roundw
          case rel => exact ⟨i + 1, by omega, by go_num, Lib.hid ⟨HB3.out, goes_next HNX.out HXI.out HQ.out⟩⟩
          case measure => simp [intOf]; omega
    · obtain rfl : i = s.records.length := by omega
      have i1 : ¬ (s.records.length : Int) < (s.records.length : Int) := by omega
      have HNO := Lib.hid (found_none HR.out.2)
      have HX0 : Hid (∀ W, Below wr.heap.size wr W → W.heap[w.heap.size]? = some (schO s p1 c1 p2 c2 p3 c3) ∧ W.heap[w.heap.size + 1]? = some (strO ⟨#[]⟩) ∧ W.heap[w.heap.size + 1 + 1]? = some (errO 0) ∧ Below w.heap.size w W) := Lib.hid fun W hW => HX.out W (HR.out.1.trans (hW.mono HR.out.1.size))
      have hz1 : w.heap.size + 3 ≤ wr.heap.size := Nat.le_trans hz0 HR.out.1.size
      have HU9 := HU
      clear HR HU0 HX hz0
      have HX := HX0
      have hz0 := hz1
      clear HX0 hz1
      generalize wr = V0 at *
      obtain ⟨b0, -, -, B0⟩ := HX.out V0 (Below.refl _ _)
      obtain ⟨x0, x1, x2, x3⟩ := cells4' b0
      clear b0 B0
      gi_wp2_with fail
      refine ⟨trivial, ?_⟩
      refine (callsIn_wide.2 (methods_any V0 rfl)).mono ?_
      rintro e w1 ⟨rfl, rfl⟩
      obtain ⟨W3, hW3⟩ : ∃ W3, W3 = V0.alloc (schO s p1 c1 p2 c2 p3 c3) := ⟨_, rfl⟩
      have hb3 : Below V0.heap.size V0 W3 := by rw [hW3]; exact tk_alloc V0 _
      have hn3 : W3.heap[V0.heap.size]? = some (schO s p1 c1 p2 c2 p3 c3) := by rw [hW3]; exact heap_alloc_new V0 _
      have hz3 : V0.heap.size + 1 ≤ W3.heap.size := by rw [hW3, World.size_alloc]; exact Nat.le_refl _
      obtain ⟨q0, q1, q2, q3⟩ := HX.out W3 hb3
      have hku : Kp u W3 := HU.out.below (q3.mono (Nat.le_refl _))
      have hus := HU.out.size
      have hsq := methods1_seq 8 HSV.out hku hn3
      have hI0 : GoesI (gResult) (allM s) u w W3.heap.size [(w.heap.size + 1, strO ⟨#[]⟩), (w.heap.size + 1 + 1, errO 0), (w.heap.size, schO s p1 c1 p2 c2 p3 c3)] (fun _ => False) 0 W3 :=
        ⟨⟨fun k hk => hk.elim, Nat.le_refl _, q3.size, hku, by omega, q3, fun q hq => by
          simp only [List.mem_cons, List.not_mem_nil, or_false] at hq
          rcases hq with rfl | rfl | rfl
          · exact ⟨q1, by dsimp only; omega⟩
          · exact ⟨q2, by dsimp only; omega⟩
          · exact ⟨q0, by dsimp only; omega⟩⟩, fun j x _ hj => absurd hj (Nat.not_lt_zero _)⟩
      rw [← hW3]
      clear hW3 q0 q1 q2 q3 hn3 hb3 x0 x1 x2 x3
      gi_wp2_with fail
      apply wpIn_rangeV rfl (by omega) (gf := 171) (lb := #[.pointer (some ⟨V0.heap.size, 0, none⟩)]) rfl trivial (enters_of Tryz.func171 (by kernel_rfl) rfl)
        (encs := encM) (rel := relM u) (xs := allM s) (cap := fun k => k < u.heap.size ∨ k = V0.heap.size) hsq (fun k hk => by rcases hk with hk | hk <;> omega) (fun _ _ => rfl) (fun _ _ _ _ _ _ h _ _ => h)
        (fun S i A => GoesI (gResult) (allM s) u w W3.heap.size [(w.heap.size + 1, strO ⟨#[]⟩), (w.heap.size + 1 + 1, errO 0), (w.heap.size, schO s p1 c1 p2 c2 p3 c3)] S i A)
        (fun c S i A => StopsI (gResult) (allM s) 131 (w.heap.size + 1) (w.heap.size + 1 + 1) u w W3.heap.size c S i A)
        (fun S S' i A C hs st => hs.steps st) (fun c S S' i A C hs st => hs.steps st) hI0
        (w₁ := fun x b A => (A.alloc (.cells #[.string x.1.name, .slice b.1 x.1.methods.length b.2] 98)).alloc (.cells #[.string x.2.name, .string x.2.arg, .int .u8 (x.2.result : Nat), .string x.2.effect, .string x.2.undo] 100))
        (hw₁ := fun x b A => (tk_alloc A _).trans ((tk_alloc _ _).mono (by rw [World.size_alloc]; omega)))
      case hassign =>
        intro l x b W K hK
        simp only [encM, srvA, mthV]
        gi_wp2
        exact hK
      case hstop =>
        rintro D S c i A hD hSD hS hi ⟨rfl, x, hf, hr⟩ hK
        have HF9 := Lib.hid hf
        obtain ⟨hb9, hq9⟩ := hr.mark hD (.deferred none)
        have HR0 := Lib.hid (hq9 (w.heap.size + 1, strO x) (by simp))
        have HR1 := Lib.hid (hq9 (w.heap.size + 1 + 1, errO 131) (by simp))
        have HB9 := Lib.hid hb9
        clear hf hr hb9 hq9 hsq hI0
        gi_wp2_with fail
        refine rule_leaves (fn := Tryz.f84) hK (mistyped_res rfl rfl HR0.out HR1.out) ?_
        exact ⟨by rw [types_flat, HNO.out, Option.none_or, HF9.out]; rfl, HB9.out⟩
      case hdone =>
        rintro D S A hD hSD hS ⟨hr, hk⟩ hK
        have HF9 := Lib.hid (found_none hk)
        have f0 := frozen2 (hr.at (b := w.heap.size + 1) (o := strO ⟨#[]⟩) (by simp)) 0
        have f1 := frozen2 (hr.at (b := w.heap.size + 1 + 1) (o := errO 0) (by simp)) 0
        have z0 := cells1' (hr.at (b := w.heap.size + 1) (o := strO ⟨#[]⟩) (by simp))
        have z1 := cells1' (hr.at (b := w.heap.size + 1 + 1) (o := errO 0) (by simp))
        have hrt := hr.tell (by omega) ⟨by omega, by omega⟩ ⟨by omega, by omega⟩ ⟨#[]⟩ 0
        obtain ⟨hb9, hq9⟩ := hrt.mark hD (.deferred none)
        have HR0 := Lib.hid (hq9 (w.heap.size + 1, strO ⟨#[]⟩) (by simp))
        have HR1 := Lib.hid (hq9 (w.heap.size + 1 + 1, errO 0) (by simp))
        have HB9 := Lib.hid hb9
        have HK9 : Hid (((A.setCell ⟨w.heap.size + 1, 0, none⟩ (.string ⟨#[]⟩)).setCell ⟨w.heap.size + 1 + 1, 0, none⟩ (.int .i64 ((0 : Nat) : Int))).heap[D]? = some (.deferred (some []))) := Lib.hid (((Below.heap_setCell _ _ _ _ (by dsimp only; omega)).trans (Below.heap_setCell _ _ _ _ (by dsimp only; omega))).trans hK)
        clear hr hk hsq hI0 hrt hb9 hq9 hK
        gi_wp2_with fail
        refine rule_leaves (fn := Tryz.f84) HK9.out (mistyped_res rfl rfl HR0.out HR1.out) ?_
        exact ⟨by rw [types_flat, HNO.out, Option.none_or, HF9.out]; rfl, HB9.out⟩
      case hbody =>
        rintro l S i hi b A0 A hz0' hSA hzA hnew ⟨hsv, hmin⟩ ⟨hr, hk⟩
        have hxi : (allM s)[i]? = some (allM s)[i] := List.getElem?_eq_getElem hi
        generalize (allM s)[i] = x at *
        obtain ⟨hm1, hm2⟩ := mem_allM hxi
        obtain ⟨sv, m⟩ := x
        obtain ⟨bp, bc⟩ := b
        have hsg : A.heap[A0.heap.size]? = some (.cells #[.string sv.name, .slice bp sv.methods.length bc] 98 (0, 0)) := (hnew _ (Nat.le_refl _)).trans ((tk_alloc _ _).block _ (by rw [World.size_alloc]; omega) |>.trans (heap_alloc_new A0 _))
        have hmg : A.heap[A0.heap.size + 1]? = some (.cells #[.string m.name, .string m.arg, .int .u8 (m.result : Nat), .string m.effect, .string m.undo] 100 (0, 0)) := (hnew _ (by omega)).trans (by
          have := heap_alloc_new (A0.alloc (.cells #[.string sv.name, .slice bp sv.methods.length bc] 98)) (.cells #[.string m.name, .string m.arg, .int .u8 (m.result : Nat), .string m.effect, .string m.undo] 100)
          rw [World.size_alloc] at this; exact this)
        obtain ⟨s0, s1⟩ := cells2 hsg
        obtain ⟨m0, m1, m2', m3, m4⟩ := cells5 hmg
        obtain ⟨x0, x1, x2, x3⟩ := cells4' (hr.at (b := w.heap.size) (o := schO s p1 c1 p2 c2 p3 c3) (by simp))
        have HG : Hid (GoesI (gResult) (allM s) u w W3.heap.size [(w.heap.size + 1, strO ⟨#[]⟩), (w.heap.size + 1 + 1, errO 0), (w.heap.size, schO s p1 c1 p2 c2 p3 c3)] S i A) := Lib.hid ⟨hr, hk⟩
        have HXI := Lib.hid hxi
        have HSG := Lib.hid hsg
        have HMG := Lib.hid hmg
        have HKP := Lib.hid hr.kp
        have HN1 : Hid (sv.name.size ≤ 1000000) := Lib.hid (by have := (HSM.out.v _ hm1).1; simp only at this; omega)
        have HN2 : Hid (m.name.size ≤ 1000000) := Lib.hid (by have := ((HSM.out.v _ hm1).2.2 _ hm2).1; simp only at this; omega)
        have HGX : Hid (gResult (sv, m) = if m.result = 1 ∨ m.result = 3 then none else some (Ck.dot sv.name m.name)) := Lib.hid rfl
        clear hr hk hxi hnew hzA hsg hmg hsq hI0 hsv hmin hm1 hm2
        by_cases h3 : m.result = 3
        · have i3 : ((m.result : Int) != 3) = false := by rw [bne_eq_false_iff_eq]; omega
          have HGS : Hid (gResult (sv, m) = none) := Lib.hid (by rw [HGX.out, if_pos (.inr h3)])
          have HON := Lib.hid (HG.out.goOn HXI.out HGS.out (Below.refl _ _) (b := V0.heap.size))
          clear h3
          gi_wp2_with fail
          exact HON.out
        have i3 : ((m.result : Int) != 3) = true := by rw [bne_iff_ne]; omega
        by_cases h1 : m.result = 1
        · have i4 : ((m.result : Int) != 1) = false := by rw [bne_eq_false_iff_eq]; omega
          have HGS : Hid (gResult (sv, m) = none) := Lib.hid (by rw [HGX.out, if_pos (.inl h1)])
          have HON := Lib.hid (HG.out.goOn HXI.out HGS.out (Below.refl _ _) (b := V0.heap.size))
          clear h3 h1
          gi_wp2_with fail
          exact HON.out
        · have i4 : ((m.result : Int) != 1) = true := by rw [bne_iff_ne]; omega
          have HGS : Hid (gResult (sv, m) = some (Ck.dot sv.name m.name)) := Lib.hid (by rw [HGX.out, if_neg (by rintro (e | e); exact h1 e; exact h3 e)])
          clear h3 h1
          obtain ⟨z0, z1, f0, f1⟩ := HG.out.cells (X := A) (Below.refl _ _)
          have HSTOP := Lib.hid (HG.out.stop (e := 131) HXI.out HGS.out (Below.refl _ _) (by omega) ⟨by omega, by omega⟩ hus ⟨by omega, by omega⟩ (b := V0.heap.size) rfl)
          gi_wp2_with fail
          refine ⟨trivial, ?_⟩
          refine (CallsIn.inRound l (callsIn_wide.2 (place_any sv.name m.name A HN1.out HN2.out))).mono ?_
          rintro e w9 ⟨rfl, hw9⟩
          obtain rfl := hw9.symm
          gi_wp2_with fail
          exact HSTOP.out
end Go.Proofs.YtnkdhmoocomjfaaGreatDoor
set_option linter.unusedSimpArgs false
set_option linter.unusedVariables false
namespace Go.Proofs.YtnkdhmoocomjfaaGreatDoor
open Go.RowKit
attribute [local go_sem] Oper.semAt_some

def gName (x : ByteArray × List ByteArray) : Option ByteArray := (Ck.nm x.1).or (x.2.findSome? Ck.nm)
theorem names_flat {s : Ip.Sch} (h : Tk.name s.name = true) : Ck.names s = (Ck.decls s).findSome? gName := by
  unfold Ck.names Ck.decls
  rw [if_pos h, List.findSome?_append, List.findSome?_append]
  simp only [List.findSome?_map]
  have e : ∀ g : Ip.Sga, (Ck.nm g.name).or (List.findSome? Ck.nm []) = Ck.nm g.name := fun g => by simp
  congr 1
  · exact find_congr fun r _ => by simp [gName, List.findSome?_map, Function.comp_def]
  · congr 1
    · exact find_congr fun r _ => by simp [gName, List.findSome?_map, Function.comp_def]
    · exact find_congr fun r _ => by simp [gName]
theorem cell_nt {W W' : World} (hn : NoTurn W W') {a : Addr} {v : Value} (h : W.cell? a = some v) : W'.cell? a = some v := by
  have hb : ¬ NoCells W a.block := fun hc => by
    unfold World.cell? at h
    split at h
    · rename_i cs T f hq
      exact hc _ _ _ hq
    · cases h
  have hlt : a.block < W.heap.size := tcell_block h
  rw [World.cell?_of_block (w := W) (hn.block a.block hlt hb)]
  exact h
theorem relD_nt {S S' : Nat → Prop} {W W' : World} {x : ByteArray × List ByteArray} {b : Option Addr × Nat} (h : relD S W x b) (hs : ∀ k, S k → S' k) (hn : NoTurn W W') : relD S' W' x b :=
  ⟨fun i hi => by
    obtain ⟨a, h1, h2, h3⟩ := h.1 i hi
    exact ⟨a, h1, Nat.lt_of_lt_of_le h2 hn.size, cell_nt hn h3⟩, h.2.1, h.2.2.1, fun a ha => hs _ (h.2.2.2 a ha)⟩
/-- Names of few letters. -/
def Short (x : ByteArray × List ByteArray) : Prop := x.1.size ≤ 200 ∧ x.2.length ≤ 40 ∧ ∀ n ∈ x.2, n.size ≤ 200
theorem decls_short {s : Ip.Sch} (h : Ck.Small s) {x : ByteArray × List ByteArray} (hx : x ∈ Ck.decls s) : Short x := by
  unfold Ck.decls at hx
  simp only [List.mem_append, List.mem_map] at hx
  rcases hx with ⟨r, hr, rfl⟩ | ⟨v, hv, rfl⟩ | ⟨g, hg, rfl⟩
  · exact ⟨(h.r r hr).1, by simpa using (h.r r hr).2.1, fun n hn => by
      obtain ⟨f, hf, rfl⟩ := List.mem_map.1 hn
      exact ((h.r r hr).2.2 f hf).1⟩
  · exact ⟨(h.v v hv).1, by simpa using (h.v v hv).2.1, fun n hn => by
      obtain ⟨f, hf, rfl⟩ := List.mem_map.1 hn
      exact ((h.v v hv).2.2 f hf).1⟩
  · exact ⟨(h.g g hg).1, by simp, fun n hn => by cases hn⟩
theorem kw_kp {u W : World} (h : KwIs u) (hk : Kp u W) : KwIs W := by
  obtain ⟨t, fr, h⟩ := h
  exact ⟨t, fr, hk.box h⟩
theorem nm_no {n : ByteArray} (h : Tk.name n = false) : Ck.nm n = some n := by unfold Ck.nm; rw [h]; rfl
theorem nm_yes {n : ByteArray} (h : Tk.name n = true) : Ck.nm n = none := by unfold Ck.nm; rw [h]; rfl
theorem misnamed_res {W : World} {tmps : Array Value} {r0 r1 : Nat} {x : ByteArray} {e : Nat} (h2 : tmps[2]? = some (.pointer (some ⟨r0, 0, none⟩))) (h3 : tmps[3]? = some (.pointer (some ⟨r1, 0, none⟩))) (h0 : W.heap[r0]? = some (strO x)) (h1 : W.heap[r1]? = some (errO e)) :
    (results Tryz.f81 tmps).run Tryz.prog W = .ok (.tuple #[.string x, .int .i64 (e : Nat)]) W := by
  have c0 := cells1' h0
  have c1 := cells1' h1
  simp [results, Tryz.results81, h2, h3, go_sem, c0, c1]
set_option maxRecDepth 100000 in
set_option maxHeartbeats 8000000 in
theorem misnamed_any {u w : World} {sv : Value} {s : Ip.Sch} (h : RoSch u sv s) (hu : Kp u w) (hkw : KwIs u) (hS : Ck.Small s) : Calls Tryz.prog 81 #[sv] w (Told (Ck.names s) 120 w) := by
  obtain ⟨p1, c1, p2, c2, p3, c3, rfl, -, hr, hs, hg, l1, l2, l3⟩ := sch_parts h
  refine (callsIn_wide (n := 9)).1 ?_
  refine callsIn_of_wp_marks Tryz.func81 rfl trivial ?_ rfl
  simp only [Tryz.ntmps81, List.size_toArray, List.length_cons, List.length_nil, Nat.reduceAdd, Nat.reduceSub, Array.replicate_succ, Array.replicate_zero, List.push_toArray, List.append_toArray, List.nil_append, List.cons_append]
  obtain ⟨W0, hW0⟩ : ∃ W0, W0 = allocs w [schO s p1 c1 p2 c2 p3 c3, strO ⟨#[]⟩, errO 0] := ⟨_, rfl⟩
  have hz0 : w.heap.size + 3 ≤ W0.heap.size := by rw [hW0, allocs_size]; exact Nat.le_refl _
  have HX : Hid (∀ W, Below W0.heap.size W0 W → W.heap[w.heap.size]? = some (schO s p1 c1 p2 c2 p3 c3) ∧ W.heap[w.heap.size + 1]? = some (strO ⟨#[]⟩) ∧ W.heap[w.heap.size + 2]? = some (errO 0) ∧ Below w.heap.size w W) := Lib.hid (by subst hW0; exact fun W hW => ⟨allocs_box (i := 0) rfl hW, allocs_box (i := 1) rfl hW, allocs_box (i := 2) rfl hW, allocs_on hW⟩)
  obtain ⟨b0, -, -, B0⟩ := HX.out W0 (Below.refl _ _)
  obtain ⟨x0, x1, x2, x3⟩ := cells4' b0
  have HU := Lib.hid hu
  have H := Lib.hid h
  have HSV := Lib.hid hs
  have HRC := Lib.hid hr
  have HSG3 := Lib.hid hg
  have HU0 := Lib.hid (hu.below B0)
  have HKW := Lib.hid hkw
  have HSM := Lib.hid hS
  clear h hr hs hg hu hkw hS b0 B0
  simp only [allocs, schO, strO, errO] at hW0
  rw [show (((0 : Nat) : Int)) = 0 from rfl] at hW0
  gi_upto_region 1 with fail
  rw [← hW0]
  clear hW0
  gi_wp2_with fail
  refine ⟨trivial, ?_⟩
  refine (callsIn_wide.2 (Name_any s.name W0 (by have := HSM.out.name; unfold maxLen; omega) (kw_kp HKW.out HU0.out))).mono ?_
  rintro e w9 ⟨rfl, hw9⟩
  obtain rfl := hw9.symm
  cases hnm : Tk.name s.name with
  | false =>
    have HT9 : Hid (Ck.names s = some ⟨#[]⟩) := Lib.hid (by unfold Ck.names; rw [if_neg (by rw [hnm]; decide)])
    obtain ⟨-, b1, b2, B3⟩ := HX.out W0 (Below.refl _ _)
    have c0 := cells1' b1
    have c1' := cells1' b2
    have f0 := frozen2 b1 0
    have f1 := frozen2 b2 0
    have HTC := Lib.hid (told_cells b1 b2 (by omega) ⟨#[]⟩ 120)
    have HBF : Hid (Below w.heap.size w ((W0.setCell ⟨w.heap.size + 1, 0, none⟩ (.string ⟨#[]⟩)).setCell ⟨w.heap.size + 1 + 1, 0, none⟩ (.int .i64 ((120 : Nat) : Int)))) := Lib.hid ((B3.setCell (by dsimp only; omega) _).setCell (by dsimp only; omega) _)
    clear hnm b1 b2 B3 x0 x1 x2 x3
    gi_wp2_with fail
    refine rule_ends (fn := Tryz.f81) (misnamed_res rfl rfl HTC.out.1 HTC.out.2) ?_
    exact ⟨by rw [HT9.out]; rfl, HBF.out⟩
  | true =>
    have HNM := Lib.hid hnm
    clear hnm
    gi_wp2_with fail
    refine ⟨trivial, ?_⟩
    refine (callsIn_wide.2 (declared_any W0 rfl)).mono ?_
    rintro e w1 ⟨rfl, rfl⟩
    obtain ⟨W3, hW3⟩ : ∃ W3, W3 = W0.alloc (schO s p1 c1 p2 c2 p3 c3) := ⟨_, rfl⟩
    have hb3 : Below W0.heap.size W0 W3 := by rw [hW3]; exact tk_alloc W0 _
    have hn3 : W3.heap[W0.heap.size]? = some (schO s p1 c1 p2 c2 p3 c3) := by rw [hW3]; exact heap_alloc_new W0 _
    have hz3 : W0.heap.size + 1 ≤ W3.heap.size := by rw [hW3, World.size_alloc]; exact Nat.le_refl _
    obtain ⟨q0, q1, q2, q3⟩ := HX.out W3 hb3
    have hku : Kp u W3 := HU.out.below (q3.mono (Nat.le_refl _))
    have hus := HU.out.size
    have hsq := declared1_seq 8 HRC.out HSV.out HSG3.out HSM.out hku hn3
    have hI0 : GoesI (gName) (Ck.decls s) u w W3.heap.size [(w.heap.size + 1, strO ⟨#[]⟩), (w.heap.size + 1 + 1, errO 0), (w.heap.size, schO s p1 c1 p2 c2 p3 c3)] (fun _ => False) 0 W3 :=
      ⟨⟨fun k hk => hk.elim, Nat.le_refl _, q3.size, hku, by omega, q3, fun q hq => by
        simp only [List.mem_cons, List.not_mem_nil, or_false] at hq
        rcases hq with rfl | rfl | rfl
        · exact ⟨q1, by dsimp only; omega⟩
        · exact ⟨q2, by dsimp only; omega⟩
        · exact ⟨q0, by dsimp only; omega⟩⟩, fun j x _ hj => absurd hj (Nat.not_lt_zero _)⟩
    rw [← hW3]
    clear hW3 q0 q1 q2 q3 hn3 hb3 x0 x1 x2 x3
    gi_wp2_with fail
    apply wpIn_rangeV rfl (by omega) (gf := 164) (lb := #[.pointer (some ⟨W0.heap.size, 0, none⟩)]) rfl trivial (enters_of Tryz.func164 (by kernel_rfl) rfl)
      (encs := encD) (rel := relD) (xs := Ck.decls s) (cap := fun k => k < u.heap.size ∨ k = W0.heap.size) hsq (fun k hk => by rcases hk with hk | hk <;> omega) (fun _ _ => rfl) (fun _ _ _ _ _ _ h hs hn => relD_nt h hs hn)
      (fun S i A => GoesI (gName) (Ck.decls s) u w W3.heap.size [(w.heap.size + 1, strO ⟨#[]⟩), (w.heap.size + 1 + 1, errO 0), (w.heap.size, schO s p1 c1 p2 c2 p3 c3)] S i A)
      (fun c S i A => StopsI (gName) (Ck.decls s) 120 (w.heap.size + 1) (w.heap.size + 1 + 1) u w W3.heap.size c S i A)
      (fun S S' i A C hs st => hs.steps st) (fun c S S' i A C hs st => hs.steps st) hI0
      (w₁ := fun x b A => A)
      (hw₁ := fun x b A => Below.refl _ _)
    case hassign =>
      intro l x b W K hK
      simp only [encD]
      gi_wp2
      exact hK
    case hstop =>
      rintro D S c i A hD hSD hS hi ⟨rfl, x, hf, hr⟩ hK
      have HF9 := Lib.hid hf
      obtain ⟨hb9, hq9⟩ := hr.mark hD (.deferred none)
      have HR0 := Lib.hid (hq9 (w.heap.size + 1, strO x) (by simp))
      have HR1 := Lib.hid (hq9 (w.heap.size + 1 + 1, errO 120) (by simp))
      have HB9 := Lib.hid hb9
      clear hf hr hb9 hq9 hsq hI0
      gi_wp2_with fail
      refine rule_leaves (fn := Tryz.f81) hK (misnamed_res rfl rfl HR0.out HR1.out) ?_
      exact ⟨by rw [names_flat HNM.out, HF9.out]; rfl, HB9.out⟩
    case hdone =>
      rintro D S A hD hSD hS ⟨hr, hk⟩ hK
      have HF9 := Lib.hid (found_none hk)
      have f0 := frozen2 (hr.at (b := w.heap.size + 1) (o := strO ⟨#[]⟩) (by simp)) 0
      have f1 := frozen2 (hr.at (b := w.heap.size + 1 + 1) (o := errO 0) (by simp)) 0
      have z0 := cells1' (hr.at (b := w.heap.size + 1) (o := strO ⟨#[]⟩) (by simp))
      have z1 := cells1' (hr.at (b := w.heap.size + 1 + 1) (o := errO 0) (by simp))
      have hrt := hr.tell (by omega) ⟨by omega, by omega⟩ ⟨by omega, by omega⟩ ⟨#[]⟩ 0
      obtain ⟨hb9, hq9⟩ := hrt.mark hD (.deferred none)
      have HR0 := Lib.hid (hq9 (w.heap.size + 1, strO ⟨#[]⟩) (by simp))
      have HR1 := Lib.hid (hq9 (w.heap.size + 1 + 1, errO 0) (by simp))
      have HB9 := Lib.hid hb9
      have HK9 : Hid (((A.setCell ⟨w.heap.size + 1, 0, none⟩ (.string ⟨#[]⟩)).setCell ⟨w.heap.size + 1 + 1, 0, none⟩ (.int .i64 ((0 : Nat) : Int))).heap[D]? = some (.deferred (some []))) := Lib.hid (((Below.heap_setCell _ _ _ _ (by dsimp only; omega)).trans (Below.heap_setCell _ _ _ _ (by dsimp only; omega))).trans hK)
      clear hr hk hsq hI0 hrt hb9 hq9 hK
      gi_wp2_with fail
      refine rule_leaves (fn := Tryz.f81) HK9.out (misnamed_res rfl rfl HR0.out HR1.out) ?_
      exact ⟨by rw [names_flat HNM.out, HF9.out]; rfl, HB9.out⟩
    case hbody =>
      rintro l S i hi b A0 A hz0' hSA hzA hnew hrel ⟨hr, hk⟩
      have hxi : (Ck.decls s)[i]? = some (Ck.decls s)[i] := List.getElem?_eq_getElem hi
      have hshort := decls_short HSM.out (List.getElem_mem hi)
      generalize (Ck.decls s)[i] = x at *
      obtain ⟨nm, ps⟩ := x
      obtain ⟨bp, bc⟩ := b
      obtain ⟨htx, hbc, hbm, -⟩ := hrel
      simp only at htx hbc hbm
      obtain ⟨hs1, hs2, hs3⟩ := hshort
      simp only at hs1 hs2 hs3
      have hgI : GoesI gName (Ck.decls s) u w W3.heap.size [(w.heap.size + 1, strO ⟨#[]⟩), (w.heap.size + 1 + 1, errO 0), (w.heap.size, schO s p1 c1 p2 c2 p3 c3)] S i A := ⟨hr, hk⟩
      have HG := Lib.hid hgI
      have HXI := Lib.hid hxi
      have HKP := Lib.hid hr.kp
      have HTX := Lib.hid htx
      have HS3 := Lib.hid hs3
      have HS1 : Hid (nm.size ≤ maxLen) := Lib.hid (by unfold maxLen; omega)
      clear hr hk hxi hnew hzA hsq hI0 hgI htx hs3 hs1
      gi_wp2_with fail
      refine ⟨trivial, ?_⟩
      refine (CallsIn.inRound l (callsIn_wide.2 (Name_any nm A HS1.out (kw_kp HKW.out HKP.out)))).mono ?_
      rintro e w9 ⟨rfl, hw9⟩
      obtain rfl := hw9.symm
      cases hq : Tk.name nm with
      | false =>
        have HGS : Hid (gName (nm, ps) = some nm) := Lib.hid (by unfold gName; rw [nm_no hq]; rfl)
        obtain ⟨z0, z1, f0, f1⟩ := HG.out.cells (X := A) (Below.refl _ _)
        have HSTOP := Lib.hid (HG.out.stop (e := 120) HXI.out HGS.out (Below.refl _ _) (by omega) ⟨by omega, by omega⟩ hus ⟨by omega, by omega⟩ (b := W0.heap.size) rfl)
        clear hq
        gi_wp2_with fail
        exact HSTOP.out
      | true =>
        have HGP : Hid (gName (nm, ps) = ps.findSome? Ck.nm) := Lib.hid (by unfold gName; rw [nm_yes hq]; rfl)
        clear hq
        gi_wp2_with fail
        gi_loopw [22] (fun kv wx => ∃ k : Nat, k ≤ ps.length ∧ kv = .int .i64 (k : Nat) ∧ wx = A ∧ Hid (∀ j n, ps[j]? = some n → j < k → Ck.nm n = none)) (fun kv _ => ps.length - (intOf kv).toNat)
        case atStart => exact ⟨0, Nat.zero_le _, rfl, rfl, Lib.hid fun j _ _ hj => absurd hj (Nat.not_lt_zero _)⟩
        case round =>
          obtain ⟨k, hk, rfl, hwx, HR⟩ := hrel
          obtain rfl := hwx.symm
          by_cases hlk : k < ps.length
          · have j1 : (k : Int) < (ps.length : Int) := by omega
            have j2 : (0 : Int) ≤ (k : Int) := by omega
            obtain ⟨B, e5, hB, d0⟩ := HTX.out k hlk
            cases e5
            have HXK := Lib.hid (List.getElem?_eq_getElem hlk)
            have HPS : Hid (ps[k].size ≤ maxLen) := Lib.hid (by have := HS3.out _ (List.getElem_mem hlk); unfold maxLen; omega)
            generalize ps[k] = pn at *
            gi_wp2_with fail
            refine ⟨trivial, ?_⟩
            refine (CallsIn.inRound l (callsIn_wide.2 (Name_any pn A HPS.out (kw_kp HKW.out HKP.out)))).mono ?_
            rintro e w9 ⟨rfl, hw9⟩
            obtain rfl := hw9.symm
            cases hq : Tk.name pn with
            | false =>
              have HGS : Hid (gName (nm, ps) = some pn) := Lib.hid (by rw [HGP.out]; exact found_at HR.out HXK.out (nm_no hq))
              obtain ⟨z0, z1, f0, f1⟩ := HG.out.cells (X := A) (Below.refl _ _)
              have HSTOP := Lib.hid (HG.out.stop (e := 120) HXI.out HGS.out (Below.refl _ _) (by omega) ⟨by omega, by omega⟩ hus ⟨by omega, by omega⟩ (b := W0.heap.size) rfl)
              clear hq
              gi_wp2_with fail
              exact HSTOP.out
            | true =>
              have HQ := Lib.hid (nm_yes hq)
              clear hq
              gi_wp2_with fail
              go_roundw
              case rel => exact ⟨k + 1, by omega, by go_num, trivial, Lib.hid (goes_next HR.out HXK.out HQ.out)⟩
              case measure => simp [intOf]; omega
          · obtain rfl : k = ps.length := by omega
            have j1 : ¬ (ps.length : Int) < (ps.length : Int) := by omega
            have HGS : Hid (gName (nm, ps) = none) := Lib.hid (by rw [HGP.out]; exact found_none HR.out)
            have HON := Lib.hid (HG.out.goOn HXI.out HGS.out (Below.refl _ _) (b := W0.heap.size))
            gi_wp2_with fail
            exact HON.out
end Go.Proofs.YtnkdhmoocomjfaaGreatDoor
set_option linter.unusedSimpArgs false
set_option linter.unusedVariables false
namespace Go.Proofs.YtnkdhmoocomjfaaGreatDoor
open Go.RowKit
attribute [local go_sem] Oper.semAt_some

/-- append, its run known, in a fenced walk. -/
theorem wpListIn_append_run {F : Fence} {n : Nat} {P : Program} (w : World) {ops : Array Oper} {rest : List Oper} {o : Oper} {a : Act} {Q : Exit → Act → World → Prop}
    (hg : o.guard = none) (s x : Operand) (t : TypeId) (hop : o.op = Op.call { callee := Callee.builtin Builtin.append, args := #[s, x], argTypes := #[t, t] })
    (vs vx : Value) (hs : a.eval s = vs) (hx : a.eval x = vx) (v' : Value) (w' : World) (hr : (Builtin.append_ #[t, t] o.type #[vs, vx]).run P w = .ok v' w') (hK : wpListIn F n P ops Q rest (a.put o.dst v') w') :
    wpListIn F n P ops Q (o :: rest) a w := by
  refine wpListIn_plain hg fun K hK' => ?_
  unfold Oper.wpIn
  refine ⟨?_, ?_⟩
  · simp [Oper.about, hop, resolve, Target.leads, Sem.run_pure]
  · rw [Oper.semAt_plain F _ _ (by rw [hop]; intro c hc'; cases hc')]
    simp [execOp, hop, resolve, invoke, builtin, hs, hx, hr, Result.andThen]
    exact hK' _ _ hK
theorem OwnTx.keepRow {A C : World} {T : Nat} {v : Value} {ss : List ByteArray} (h : OwnTx A T v ss) (hb : ∀ k, v.ownBlock = some k → C.heap[k]? = A.heap[k]?) : OwnTx C T v ss := by
  refine ⟨h.1, ?_⟩
  rcases h.2 with hn | ⟨g, cap, cur, rfl, h1, h2, h3⟩
  · exact .inl hn
  · exact .inr ⟨g, cap, cur, rfl, h1, (hb g rfl).trans h2, h3⟩
theorem TextsAt.take {W : World} {p : Option Addr} {ss : List ByteArray} (h : TextsAt W p ss) (k : Nat) : TextsAt W p (ss.take k) := fun i hi => by
  have hi2 : i < ss.length := by rw [List.length_take] at hi; omega
  obtain ⟨a, h1, h2, h3⟩ := h i hi2
  exact ⟨a, h1, h2, by rw [h3, List.getElem_take]⟩
def rowO (v : Value) : Obj := .cells #[v] 129 (0, 0)
/-- The names ahead, in their row; the rule so far. -/
def TwI (s : Ip.Sch) (p1 : Option Addr) (c1 : Nat) (p2 : Option Addr) (c2 : Nat) (p3 : Option Addr) (c3 : Nat) (u w : World) (base r3 : Nat) (S : Nat → Prop) (i : Nat) (W : World) : Prop := ∃ v seen, RuleI u w base [(w.heap.size + 1, strO ⟨#[]⟩), (w.heap.size + 1 + 1, errO 0), (w.heap.size, schO s p1 c1 p2 c2 p3 c3), (r3, rowO v)] S W ∧
  OwnTx W base v seen ∧ seen.length = i ∧ (∀ k, v.ownBlock = some k → ¬ S k) ∧ Ck.doubles s = Ck.doublesF seen ((Ck.decls s).drop i)
theorem TwI.steps {s : Ip.Sch} {p1 p2 p3 : Option Addr} {c1 c2 c3 : Nat} {u w : World} {base r3 : Nat} {S S' : Nat → Prop} {i : Nat} {W W' : World} (h : TwI s p1 c1 p2 c2 p3 c3 u w base r3 S i W) (st : StepsZ S S' W W') : TwI s p1 c1 p2 c2 p3 c3 u w base r3 S' i W' := by
  obtain ⟨v, seen, h1, h2, h3, h4, h5⟩ := h
  refine ⟨v, seen, h1.steps st, h2.keepRow fun k hk => st.block k (h2.lt k hk).2 (h4 k hk), h3, fun k hk hs => ?_, h5⟩
  rcases st.new k hs with e | e
  · exact h4 k hk e
  · have := (h2.lt k hk).2; omega
def TwStop (s : Ip.Sch) (u w : World) (base : Nat) (c : Code) (S : Nat → Prop) (_i : Nat) (W : World) : Prop := c = .ret ∧ ∃ x, Ck.doubles s = some x ∧ RuleI u w base [(w.heap.size + 1, strO x), (w.heap.size + 1 + 1, errO 130)] S W
theorem TwStop.steps {s : Ip.Sch} {u w : World} {base i : Nat} {c : Code} {S S' : Nat → Prop} {W W' : World} (h : TwStop s u w base c S i W) (st : StepsZ S S' W W') : TwStop s u w base c S' i W' := by
  obtain ⟨a, x, b, d⟩ := h; exact ⟨a, x, b, d.steps st⟩
/-- The body tells, from whatever world it has made of the round's. -/
theorem tw_stop {s : Ip.Sch} {u w A X : World} {base b i : Nat} {C : List (Nat × Obj)} {S : Nat → Prop} {pl : ByteArray} (hr : RuleI u w base ((w.heap.size + 1, strO ⟨#[]⟩) :: (w.heap.size + 1 + 1, errO 0) :: C) S X) (hA : BodyZ (fun k => k < u.heap.size ∨ k = b) S A X) (hu : u.heap.size ≤ w.heap.size) (hb : w.heap.size + 3 ≤ b) (hd : Ck.doubles s = some pl) :
    BodyZ (fun k => k < u.heap.size ∨ k = b) S A ((X.setCell ⟨w.heap.size + 1, 0, none⟩ (.string pl)).setCell ⟨w.heap.size + 1 + 1, 0, none⟩ (.int .i64 130)) ∧ TwStop s u w base .ret S (i + 1) ((X.setCell ⟨w.heap.size + 1, 0, none⟩ (.string pl)).setCell ⟨w.heap.size + 1 + 1, 0, none⟩ (.int .i64 130)) := by
  have l0 := (hr.box (w.heap.size + 1, strO ⟨#[]⟩) (by simp)).2
  have l1 := (hr.box (w.heap.size + 1 + 1, errO 0) (by simp)).2
  simp only at l0 l1
  refine ⟨hA.trans (body_tell (Below.refl _ _) ⟨by omega, by omega, fun e => by have := hr.set _ e; omega⟩ ⟨by omega, by omega, fun e => by have := hr.set _ e; omega⟩ _ _), rfl, pl, hd, ?_⟩
  exact hr.tell (by omega) ⟨by omega, by omega⟩ ⟨by omega, by omega⟩ pl 130
/-- A name more. -/
theorem tw_more {s : Ip.Sch} {p1 p2 p3 : Option Addr} {c1 c2 c3 : Nat} {u w A V : World} {base b r3 : Nat} {S : Nat → Prop} {v v' : Value} {seen : List ByteArray} {x : ByteArray}
    (hr : RuleI u w base [(w.heap.size + 1, strO ⟨#[]⟩), (w.heap.size + 1 + 1, errO 0), (w.heap.size, schO s p1 c1 p2 c2 p3 c3), (r3, rowO v)] S A) (ho : OwnTx A base v seen) (hS : ∀ k, v.ownBlock = some k → ¬ S k) (hSz : ∀ k, S k → k < A.heap.size)
    (hg : GrewT v v' A V) (hn : OwnTx V base v' (seen ++ [x])) (hu : u.heap.size ≤ w.heap.size) (h3 : r3 = w.heap.size + 3) (hb : r3 < b ∧ b < base) :
    RuleI u w base [(w.heap.size + 1, strO ⟨#[]⟩), (w.heap.size + 1 + 1, errO 0), (w.heap.size, schO s p1 c1 p2 c2 p3 c3), (r3, rowO v')] S (V.setCell ⟨r3, 0, none⟩ v') ∧ OwnTx (V.setCell ⟨r3, 0, none⟩ v') base v' (seen ++ [x]) ∧ (∀ k, v'.ownBlock = some k → ¬ S k) ∧ BodyZ (fun k => k < u.heap.size ∨ k = b) S A (V.setCell ⟨r3, 0, none⟩ v') := by
  have hlt := ho.lt
  have hbl : ∀ k, k < A.heap.size → v.ownBlock ≠ some k → k ≠ r3 → (V.setCell ⟨r3, 0, none⟩ v').heap[k]? = A.heap[k]? := fun k hk h1 h2 => (Below.heap_setCell _ _ _ _ h2).trans (hg.block k hk h1)
  have hlo : ∀ k, k < base → k ≠ r3 → (V.setCell ⟨r3, 0, none⟩ v').heap[k]? = A.heap[k]? := fun k hk h2 => hbl k (Nat.lt_of_lt_of_le hk hr.size) (fun e => by have := (hlt k e).1; omega) h2
  have hkn := hr.kp.size
  have hown : ∀ k, v'.ownBlock = some k → ¬ S k := fun k hk hs => by
    rcases hg.own k hk with e | e
    · exact hS k e hs
    · have := hSz k hs; omega
  have hne : ∀ k, v'.ownBlock = some k → k ≠ r3 := fun k hk e => by have := (hn.lt k hk).1; omega
  refine ⟨⟨hr.set, by simp [World.setCell]; exact Nat.le_trans hr.size hg.size, hr.low, ⟨by simp [World.setCell]; exact Nat.le_trans hkn hg.size, fun k hk => (hlo k (by have := hr.ku; omega) (by omega)).trans (hr.kp.block k hk)⟩, hr.ku, ?_, fun q hq => ?_⟩, hn.keepRow fun k hk => Below.heap_setCell _ _ _ _ (hne k hk), hown, ⟨by simp [World.setCell]; exact hg.size, fun k hk hc => hbl k hk (fun e => ?_) fun e => ?_⟩⟩
  · exact ⟨hg.os.trans hr.below.os, hg.tape.trans hr.below.tape, hg.output.trans hr.below.output, by simp [World.setCell]; exact Nat.le_trans hr.below.size hg.size, fun k hk => (hlo k (by have := hr.low; omega) (by omega)).trans (hr.below.block k hk)⟩
  · simp only [List.mem_cons, List.not_mem_nil, or_false] at hq
    have q0 := hr.box (w.heap.size + 1, strO ⟨#[]⟩) (by simp)
    have q1 := hr.box (w.heap.size + 1 + 1, errO 0) (by simp)
    have q2 := hr.box (w.heap.size, schO s p1 c1 p2 c2 p3 c3) (by simp)
    have q3 := hr.box (r3, rowO v) (by simp)
    rcases hq with rfl | rfl | rfl | rfl
    · exact ⟨(hlo _ q0.2 (by dsimp only; omega)).trans q0.1, q0.2⟩
    · exact ⟨(hlo _ q1.2 (by dsimp only; omega)).trans q1.1, q1.2⟩
    · exact ⟨(hlo _ q2.2 (by dsimp only; omega)).trans q2.1, q2.2⟩
    · exact ⟨tk_set ((hg.block r3 (Nat.lt_of_lt_of_le q3.2 hr.size) fun e => by have := (hlt _ e).1; have := q3.2; simp only at this; omega).trans q3.1) _, q3.2⟩
  · have h1 := hlt k e
    rcases hc with (hc | hc) | hc
    · omega
    · omega
    · exact hS k e hc
  · rcases hc with (hc | hc) | hc
    · omega
    · omega
    · have := hr.set k hc; omega
theorem twice_res {W : World} {tmps : Array Value} {r0 r1 : Nat} {x : ByteArray} {e : Nat} (h2 : tmps[2]? = some (.pointer (some ⟨r0, 0, none⟩))) (h3 : tmps[3]? = some (.pointer (some ⟨r1, 0, none⟩))) (h0 : W.heap[r0]? = some (strO x)) (h1 : W.heap[r1]? = some (errO e)) :
    (results Tryz.f83 tmps).run Tryz.prog W = .ok (.tuple #[.string x, .int .i64 (e : Nat)]) W := by
  have c0 := cells1' h0
  have c1 := cells1' h1
  simp [results, Tryz.results83, h2, h3, go_sem, c0, c1]
set_option maxRecDepth 100000 in
set_option maxHeartbeats 8000000 in
theorem twice_any {u w : World} {sv : Value} {s : Ip.Sch} (h : RoSch u sv s) (hu : Kp u w) (hS : Ck.Small s) : Calls Tryz.prog 83 #[sv] w (Told (Ck.doubles s) 130 w) := by
  obtain ⟨p1, c1, p2, c2, p3, c3, rfl, -, hr, hs, hg, l1, l2, l3⟩ := sch_parts h
  refine (callsIn_wide (n := 9)).1 ?_
  refine callsIn_of_wp_marks Tryz.func83 rfl trivial ?_ rfl
  simp only [Tryz.ntmps83, List.size_toArray, List.length_cons, List.length_nil, Nat.reduceAdd, Nat.reduceSub, Array.replicate_succ, Array.replicate_zero, List.push_toArray, List.append_toArray, List.nil_append, List.cons_append]
  obtain ⟨W0, hW0⟩ : ∃ W0, W0 = allocs w [schO s p1 c1 p2 c2 p3 c3, strO ⟨#[]⟩, errO 0, rowO (.slice none 0 0)] := ⟨_, rfl⟩
  have hz0 : w.heap.size + 4 ≤ W0.heap.size := by rw [hW0, allocs_size]; exact Nat.le_refl _
  have HX : Hid (∀ W, Below W0.heap.size W0 W → W.heap[w.heap.size]? = some (schO s p1 c1 p2 c2 p3 c3) ∧ W.heap[w.heap.size + 1]? = some (strO ⟨#[]⟩) ∧ W.heap[w.heap.size + 2]? = some (errO 0) ∧ W.heap[w.heap.size + 3]? = some (rowO (.slice none 0 0)) ∧ Below w.heap.size w W) := Lib.hid (by subst hW0; exact fun W hW => ⟨allocs_box (i := 0) rfl hW, allocs_box (i := 1) rfl hW, allocs_box (i := 2) rfl hW, allocs_box (i := 3) rfl hW, allocs_on hW⟩)
  obtain ⟨b0, -, -, -, B0⟩ := HX.out W0 (Below.refl _ _)
  obtain ⟨x0, x1, x2, x3⟩ := cells4' b0
  have HU := Lib.hid hu
  have H := Lib.hid h
  have HSV := Lib.hid hs
  have HRC := Lib.hid hr
  have HSG3 := Lib.hid hg
  have HSM := Lib.hid hS
  clear h hr hs hg hu hS b0 B0
  simp only [allocs, schO, strO, errO, rowO] at hW0
  rw [show (((0 : Nat) : Int)) = 0 from rfl] at hW0
  gi_wp2_with fail
  rw [← hW0]
  clear hW0
  refine ⟨trivial, ?_⟩
  refine (callsIn_wide.2 (declared_any W0 rfl)).mono ?_
  rintro e w1 ⟨rfl, rfl⟩
  obtain ⟨W3, hW3⟩ : ∃ W3, W3 = W0.alloc (schO s p1 c1 p2 c2 p3 c3) := ⟨_, rfl⟩
  have hb3 : Below W0.heap.size W0 W3 := by rw [hW3]; exact tk_alloc W0 _
  have hn3 : W3.heap[W0.heap.size]? = some (schO s p1 c1 p2 c2 p3 c3) := by rw [hW3]; exact heap_alloc_new W0 _
  have hz3 : W0.heap.size + 1 ≤ W3.heap.size := by rw [hW3, World.size_alloc]; exact Nat.le_refl _
  obtain ⟨q0, q1, q2, q4, q3⟩ := HX.out W3 hb3
  have hku : Kp u W3 := HU.out.below (q3.mono (Nat.le_refl _))
  have hus := HU.out.size
  have hsq := declared1_seq 8 HRC.out HSV.out HSG3.out HSM.out hku hn3
  have hI0 : TwI s p1 c1 p2 c2 p3 c3 u w W3.heap.size (w.heap.size + 1 + 1 + 1) (fun _ => False) 0 W3 :=
    ⟨.slice none 0 0, [], ⟨fun k hk => hk.elim, Nat.le_refl _, q3.size, hku, by omega, q3, fun q hq => by
      simp only [List.mem_cons, List.not_mem_nil, or_false] at hq
      rcases hq with rfl | rfl | rfl | rfl
      · exact ⟨q1, by dsimp only; omega⟩
      · exact ⟨q2, by dsimp only; omega⟩
      · exact ⟨q0, by dsimp only; omega⟩
      · exact ⟨q4, by dsimp only; omega⟩⟩, OwnTx.nil _ _, rfl, fun k hk => by simp [Value.ownBlock] at hk, rfl⟩
  rw [← hW3]
  clear hW3 q0 q1 q2 q3 q4 hn3 hb3 x0 x1 x2 x3
  gi_wp2_with fail
  apply wpIn_rangeV rfl (by omega) (gf := 164) (lb := #[.pointer (some ⟨W0.heap.size, 0, none⟩)]) rfl trivial (enters_of Tryz.func164 (by kernel_rfl) rfl)
    (encs := encD) (rel := relD) (xs := Ck.decls s) (cap := fun k => k < u.heap.size ∨ k = W0.heap.size) hsq (fun k hk => by rcases hk with hk | hk <;> omega) (fun _ _ => rfl) (fun _ _ _ _ _ _ h hs hn => relD_nt h hs hn)
    (fun S i A => TwI s p1 c1 p2 c2 p3 c3 u w W3.heap.size (w.heap.size + 1 + 1 + 1) S i A)
    (fun c S i A => TwStop s u w W3.heap.size c S i A)
    (fun S S' i A C hs st => hs.steps st) (fun c S S' i A C hs st => hs.steps st) hI0
    (w₁ := fun x b A => A)
    (hw₁ := fun x b A => Below.refl _ _)
  case hassign =>
    intro l x b W K hK
    simp only [encD]
    gi_wp2
    exact hK
  case hstop =>
    rintro D S c i A hD hSD hS hi ⟨rfl, x, hf, hr⟩ hK
    have HF9 := Lib.hid hf
    obtain ⟨hb9, hq9⟩ := hr.mark hD (.deferred none)
    have HR0 := Lib.hid (hq9 (w.heap.size + 1, strO x) (by simp))
    have HR1 := Lib.hid (hq9 (w.heap.size + 1 + 1, errO 130) (by simp))
    have HB9 := Lib.hid hb9
    clear hf hr hb9 hq9 hsq hI0
    gi_wp2_with fail
    refine rule_leaves (fn := Tryz.f83) hK (twice_res rfl rfl HR0.out HR1.out) ?_
    exact ⟨by rw [HF9.out]; rfl, HB9.out⟩
  case hdone =>
    rintro D S A hD hSD hS ⟨v, seen, hr, ho, hsl, hvS, hdb⟩ hK
    have HF9 : Hid (Ck.doubles s = none) := Lib.hid (by rw [hdb, List.drop_length]; rfl)
    clear ho hsl hvS hdb
    have f0 := frozen2 (hr.at (b := w.heap.size + 1) (o := strO ⟨#[]⟩) (by simp)) 0
    have f1 := frozen2 (hr.at (b := w.heap.size + 1 + 1) (o := errO 0) (by simp)) 0
    have z0 := cells1' (hr.at (b := w.heap.size + 1) (o := strO ⟨#[]⟩) (by simp))
    have z1 := cells1' (hr.at (b := w.heap.size + 1 + 1) (o := errO 0) (by simp))
    have hrt := hr.tell (by omega) ⟨by omega, by omega⟩ ⟨by omega, by omega⟩ ⟨#[]⟩ 0
    obtain ⟨hb9, hq9⟩ := hrt.mark hD (.deferred none)
    have HR0 := Lib.hid (hq9 (w.heap.size + 1, strO ⟨#[]⟩) (by simp))
    have HR1 := Lib.hid (hq9 (w.heap.size + 1 + 1, errO 0) (by simp))
    have HB9 := Lib.hid hb9
    have HK9 : Hid (((A.setCell ⟨w.heap.size + 1, 0, none⟩ (.string ⟨#[]⟩)).setCell ⟨w.heap.size + 1 + 1, 0, none⟩ (.int .i64 ((0 : Nat) : Int))).heap[D]? = some (.deferred (some []))) := Lib.hid (((Below.heap_setCell _ _ _ _ (by dsimp only; omega)).trans (Below.heap_setCell _ _ _ _ (by dsimp only; omega))).trans hK)
    clear hr hsq hI0 hrt hb9 hq9 hK
    gi_wp2_with fail
    refine rule_leaves (fn := Tryz.f83) HK9.out (twice_res rfl rfl HR0.out HR1.out) ?_
    exact ⟨by rw [HF9.out]; rfl, HB9.out⟩
  case hbody =>
    rintro l S i hi b A0 A hz0' hSA hzA hnew hrel ⟨v, seen, hr, ho, hsl, hvS, hdb⟩
    have hshort := decls_short HSM.out (List.getElem_mem hi)
    have hdl : (Ck.decls s).drop i = (Ck.decls s)[i] :: (Ck.decls s).drop (i + 1) := List.drop_eq_getElem_cons hi
    have hdc : (Ck.decls s).length ≤ 300 := by rw [decl_len]; have := HSM.out.nr; have := HSM.out.ns; have := HSM.out.ng; omega
    generalize (Ck.decls s)[i] = x at *
    obtain ⟨nm, ps⟩ := x
    obtain ⟨bp, bc⟩ := b
    obtain ⟨htx, hbc, hbm, hbS⟩ := hrel
    simp only at htx hbc hbm hbS
    obtain ⟨hs1, hs2, hs3⟩ := hshort
    simp only at hs1 hs2 hs3
    rw [hdl, Ck.doublesF_cons] at hdb
    simp only at hdb
    have hSz : ∀ k, S k → k < A.heap.size := fun k hk => by rw [hzA]; exact (hSA k hk).2
    obtain ⟨pv, cv, rfl, hsc, hsm, hst⟩ := ho.texts
    have hsl3 : seen.length ≤ 1000 := by omega
    have HR := Lib.hid hr
    have HO := Lib.hid ho
    have HST := Lib.hid hst
    have HVS := Lib.hid hvS
    have HSZ := Lib.hid hSz
    have HTX := Lib.hid htx
    have HBS := Lib.hid hbS
    have HS3 := Lib.hid hs3
    have HDB := Lib.hid hdb
    have HSL := Lib.hid hsl
    have HN1 : Hid (nm.size ≤ 1000000) := Lib.hid (by omega)
    have HBC : Hid (ps.length ≤ bc ∧ bc ≤ maxLen) := Lib.hid ⟨hbc, hbm⟩
    have g3 := cells1' (hr.at (b := w.heap.size + 1 + 1 + 1) (o := rowO (.slice pv seen.length cv)) (by simp))
    have f3 := frozen2 (hr.at (b := w.heap.size + 1 + 1 + 1) (o := rowO (.slice pv seen.length cv)) (by simp)) 0
    clear hr ho hst hvS hSz htx hbS hs3 hdb hdl hnew hzA hsq hI0 hs1 hsc hsm hsl hSA hdc
    gi_wp2_with fail
    refine ⟨trivial, ?_⟩
    refine (CallsIn.inRound l (callsIn_wide.2 (contains_any (c := cv) HST.out (by omega) nm))).mono ?_
    rintro e w9 ⟨rfl, hw9⟩
    obtain rfl := hw9.symm
    cases hq : Ck.inB seen nm with
    | true =>
      have HD : Hid (Ck.doubles s = some nm) := Lib.hid (by rw [HDB.out, hq]; rfl)
      have z0 := cells1' (HR.out.at (b := w.heap.size + 1) (o := strO ⟨#[]⟩) (by simp))
      have z1 := cells1' (HR.out.at (b := w.heap.size + 1 + 1) (o := errO 0) (by simp))
      have f0 := frozen2 (HR.out.at (b := w.heap.size + 1) (o := strO ⟨#[]⟩) (by simp)) 0
      have f1 := frozen2 (HR.out.at (b := w.heap.size + 1 + 1) (o := errO 0) (by simp)) 0
      have HSTOP := Lib.hid (tw_stop (i := i) (b := W0.heap.size) HR.out (BodyZ.refl _ _ _) hus (by omega) HD.out)
      clear hq
      gi_wp2_with fail
      exact HSTOP.out
    | false =>
      have HDB2 : Hid (Ck.doubles s = match Ck.twice [] ps with
        | some p => some (Ck.dot nm p)
        | none => Ck.doublesF (seen ++ [nm]) ((Ck.decls s).drop (i + 1))) := Lib.hid (by rw [HDB.out, hq]; rfl)
      clear hq
      obtain ⟨pw, cw, V, hrun, hov, hgr⟩ := tx_append HO.out nm (by omega) HR.out.size 129
      have hmore := tw_more HR.out HO.out HVS.out HSZ.out hgr hov hus rfl ⟨by omega, by omega⟩ (b := W0.heap.size)
      have g4 : V.cell? ⟨w.heap.size + 1 + 1 + 1, 0, none⟩ = some (.slice pv seen.length cv) := by
        have q3 := HR.out.box (w.heap.size + 1 + 1 + 1, rowO (.slice pv seen.length cv)) (by simp)
        exact cells1' ((hgr.block _ (Nat.lt_of_lt_of_le q3.2 HR.out.size) fun e => by have := (HO.out.lt _ e).1; omega).trans q3.1)
      have f4 : V.frozen? ⟨w.heap.size + 1 + 1 + 1, 0, none⟩ = false := by
        have q3 := HR.out.box (w.heap.size + 1 + 1 + 1, rowO (.slice pv seen.length cv)) (by simp)
        exact frozen2 ((hgr.block _ (Nat.lt_of_lt_of_le q3.2 HR.out.size) fun e => by have := (HO.out.lt _ e).1; omega).trans q3.1) 0
      have htn : TextsAt (V.setCell ⟨w.heap.size + 1 + 1 + 1, 0, none⟩ (.slice pw (seen.length + 1) cw)) bp ps := fun j hj => by
        obtain ⟨a, h1, h2, h3⟩ := HTX.out j hj
        have hk := HBS.out a h1
        have hk2 := HR.out.set _ hk
        have he : (V.setCell ⟨w.heap.size + 1 + 1 + 1, 0, none⟩ (.slice pw (seen.length + 1) cw)).heap[(a.add j).block]? = A.heap[(a.add j).block]? := by
          rw [tadd_block]
          exact (Below.heap_setCell _ _ _ _ (by dsimp only; omega)).trans (hgr.block _ h2 fun e => HVS.out _ e hk)
        exact ⟨a, h1, by simp [World.setCell]; exact Nat.lt_of_lt_of_le h2 hgr.size, by rw [World.cell?_of_block (w := A) he]; exact h3⟩
      obtain ⟨X, hX⟩ : ∃ X, X = V.setCell ⟨w.heap.size + 1 + 1 + 1, 0, none⟩ (.slice pw (seen.length + 1) cw) := ⟨_, rfl⟩
      rw [← hX] at hmore htn
      have HM := Lib.hid hmore
      have HTN := Lib.hid htn
      clear hov hgr hmore htn
      gi_wp2_with (gi_at_builtin; refine wpListIn_append_run _ rfl (.tmp 17) (.tmp 19) _ rfl _ _ rfl rfl _ _ hrun ?_)
      rw [← hX]
      clear hX hrun g3 f3 g4 f4
      gi_loopw [23] (fun kv wx => ∃ k : Nat, k ≤ ps.length ∧ kv = .int .i64 (k : Nat) ∧ wx = X ∧ Hid (Ck.twice [] ps = Ck.twice (ps.take k) (ps.drop k))) (fun kv _ => ps.length - (intOf kv).toNat)
      case atStart => exact ⟨0, Nat.zero_le _, rfl, rfl, Lib.hid rfl⟩
      case round =>
        obtain ⟨k, hk, rfl, hwx, HT⟩ := hrel
        obtain rfl := hwx.symm
        by_cases hlk : k < ps.length
        · have j1 : (k : Int) < (ps.length : Int) := by omega
          have j2 : (0 : Int) ≤ (k : Int) := by omega
          have j3 : k ≤ bc := by have := HBC.out.1; omega
          have j4 : bc ≤ 9223372036854775807 := by have := HBC.out.2; unfold maxLen at this; omega
          obtain ⟨B, e5, hB, d0⟩ := HTN.out k hlk
          cases e5
          have hcon := contains_any (c := bc) (HTN.out.take k) (by rw [List.length_take]; omega) ps[k]
          rw [show (ps.take k).length = k by rw [List.length_take]; omega] at hcon
          have HPS : Hid (ps[k].size ≤ 1000000) := Lib.hid (by have := HS3.out _ (List.getElem_mem hlk); omega)
          have HTK : Hid (Ck.twice [] ps = if Ck.inB (ps.take k) ps[k] then some ps[k] else Ck.twice (ps.take (k + 1)) (ps.drop (k + 1))) := Lib.hid (by
            rw [HT.out, List.drop_eq_getElem_cons hlk, Ck.twice_cons, List.take_succ_eq_append_getElem hlk])
          have HCON := Lib.hid hcon
          clear hcon
          generalize ps[k] = pn at *
          gi_wp2_with fail
          refine ⟨trivial, ?_⟩
          refine (CallsIn.inRound l (callsIn_wide.2 HCON.out)).mono ?_
          rintro e w9 ⟨rfl, hw9⟩
          obtain rfl := hw9.symm
          cases hq : Ck.inB (ps.take k) pn with
          | true =>
            have HD : Hid (Ck.doubles s = some (Ck.dot nm pn)) := Lib.hid (by rw [HDB2.out, HTK.out, hq]; rfl)
            have z0 := cells1' (HM.out.1.at (b := w.heap.size + 1) (o := strO ⟨#[]⟩) (by simp))
            have z1 := cells1' (HM.out.1.at (b := w.heap.size + 1 + 1) (o := errO 0) (by simp))
            have f0 := frozen2 (HM.out.1.at (b := w.heap.size + 1) (o := strO ⟨#[]⟩) (by simp)) 0
            have f1 := frozen2 (HM.out.1.at (b := w.heap.size + 1 + 1) (o := errO 0) (by simp)) 0
            have HSTOP := Lib.hid (tw_stop (i := i) (b := W0.heap.size) HM.out.1 HM.out.2.2.2 hus (by omega) HD.out)
            clear hq
            gi_wp2_with fail
            refine ⟨trivial, ?_⟩
            refine (CallsIn.inRound l (callsIn_wide.2 (place_any nm pn X HN1.out HPS.out))).mono ?_
            rintro e w9 ⟨rfl, hw9⟩
            obtain rfl := hw9.symm
            gi_wp2_with fail
            exact HSTOP.out
          | false =>
            have HQ : Hid (Ck.twice [] ps = Ck.twice (ps.take (k + 1)) (ps.drop (k + 1))) := Lib.hid (by rw [HTK.out, hq]; rfl)
            clear hq
            gi_wp2_with fail
            go_roundw
            case rel => exact ⟨k + 1, by omega, by go_num, trivial, HQ⟩
            case measure => simp [intOf]; omega
        · obtain rfl : k = ps.length := by omega
          have j1 : ¬ (ps.length : Int) < (ps.length : Int) := by omega
          have HD : Hid (Ck.doubles s = Ck.doublesF (seen ++ [nm]) ((Ck.decls s).drop (i + 1))) := Lib.hid (by
            rw [HDB2.out, HT.out, List.drop_length]; rfl)
          gi_wp2_with fail
          exact ⟨HM.out.2.2.2, _, _, HM.out.1, HM.out.2.1, by rw [List.length_append, HSL.out]; rfl, HM.out.2.2.1, HD.out⟩
end Go.Proofs.YtnkdhmoocomjfaaGreatDoor
