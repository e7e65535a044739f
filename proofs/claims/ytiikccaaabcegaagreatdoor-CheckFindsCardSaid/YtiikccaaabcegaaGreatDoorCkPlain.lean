/-
  Walks over package check: rules 2, 5 and 8. Conditions: those in the theorems.
-/
import Derived.Test.YtiikccaaabcegaaGreatDoorCkSteps10
set_option linter.unusedSimpArgs false
set_option linter.unusedVariables false
namespace Go.Proofs.YtiikccaaabcegaaGreatDoor
open Go.RowKit

set_option maxRecDepth 100000 in
set_option maxHeartbeats 8000000 in
theorem wrongSagas_any {u w : World} {sv : Value} {s : Ip.Sch} (h : RoSch u sv s) (hu : Kp u w) (hF : Ck.Four s) : Calls Tryz.prog 48 #[sv] w (Told (Ck.sagas s) 240 w) := by
  obtain ⟨p1, c1, p2, c2, p3, c3, rfl, -, hr, hs, hg, l1, l2, l3⟩ := sch_parts h
  obtain ⟨W0, hW0⟩ : ∃ W0, W0 = allocs w [schO s p1 c1 p2 c2 p3 c3] := ⟨_, rfl⟩
  have HX : Hid (∀ W, Below W0.heap.size W0 W → W.heap[w.heap.size]? = some (schO s p1 c1 p2 c2 p3 c3) ∧ Below w.heap.size w W) := Lib.hid (by subst hW0; exact fun W hW => ⟨allocs_box (i := 0) rfl hW, allocs_on hW⟩)
  obtain ⟨b0, B0⟩ := HX.out W0 (Below.refl _ _)
  obtain ⟨x0, x1, x2, x3⟩ := cells4' b0
  have H := Lib.hid h
  have H1 := Lib.hid hr
  have H2 := Lib.hid hs
  have H3 := Lib.hid hg
  have HU0 := Lib.hid (hu.below B0)
  have HE : Hid (Ck.sagas s = s.sagas.findSome? (fun g : Ip.Sga => if Ck.isOrder s g.arg then Option.none else some g.name)) := Lib.hid (find_congr fun g _ => by simp only [hF.order])
  clear h hr hs hg hu b0 B0 hF
  simp only [allocs, schO] at hW0
  go_enter Tryz.func48, Tryz.ntmps48
  go_upto_region 1 with fail
  rw [← hW0]
  clear hW0
  go_wp2_with fail
  clear x0 x1 x2 x3
  go_loopw [9] (fun iv wr => ∃ i : Nat, i ≤ s.sagas.length ∧ iv = .int .i64 (i : Nat) ∧ Hid (Below W0.heap.size W0 wr ∧ ∀ j x, s.sagas[j]? = some x → j < i → (fun g : Ip.Sga => if Ck.isOrder s g.arg then Option.none else some g.name) x = none)) (fun iv _ => s.sagas.length - (intOf iv).toNat)
  case atStart => exact ⟨0, Nat.zero_le _, rfl, Lib.hid ⟨Below.refl _ _, fun j _ _ hj => absurd hj (Nat.not_lt_zero _)⟩⟩
  case round =>
    obtain ⟨i, hi, rfl, HR⟩ := hrel
    by_cases hlt : i < s.sagas.length
    · have i1 : (i : Int) < (s.sagas.length : Int) := by omega
      have i2 : (0 : Int) ≤ (i : Int) := by omega
      obtain ⟨A, cc, q, kq, e3, hA, d0, d1, d2, hin, hms⟩ := sga_at2 H3.out (HU0.out.below HR.out.1) hlt
      cases e3
      have HXI := Lib.hid (List.getElem?_eq_getElem hlt)
      have HME := Lib.hid (List.getElem_mem hlt)
      generalize s.sagas[i] = x at *
      obtain ⟨W1, hW1⟩ : ∃ W1, W1 = wr.alloc (.cells #[.string x.name, .string x.arg, .slice q x.steps.length kq] 43) := ⟨_, rfl⟩
      have hn1 : W1.heap[wr.heap.size]? = some (.cells #[.string x.name, .string x.arg, .slice q x.steps.length kq] 43 (0, 0)) := by rw [hW1]; exact heap_alloc_new wr _
      have hb1 : Below W0.heap.size W0 W1 := by rw [hW1]; exact HR.out.1.trans ((tk_alloc wr _).mono HR.out.1.size)
      obtain ⟨y0, y1, y2⟩ := cells3 hn1
      obtain ⟨b0, B1⟩ := HX.out W1 hb1
      obtain ⟨x0, x1, x2, x3⟩ := cells4' b0
      have HN1 := Lib.hid hn1
      have HB1 := Lib.hid hb1
      have HBW := Lib.hid B1
      clear hn1 hb1 b0 B1 hA hin hms
      go_upto_region 4 with fail
      rw [← hW1]
      clear hW1 d0 d1 d2
      go_wp2_with fail
      refine (isOrder_any H.out (HU0.out.below HB1.out) x.arg).mono ?_
      rintro e w2 ⟨rfl, hb2⟩
      have HB2 := Lib.hid (HB1.out.trans (hb2.mono HB1.out.size))
      have HN2 := Lib.hid (box_keep hb2 HN1.out)
      clear hb2 x0 x1 x2 x3 y0 y1 y2
      obtain ⟨y0, y1, y2⟩ := cells3 HN2.out
      cases ho : Ck.isOrder s x.arg with
      | true =>
        have HQ : Hid ((fun g : Ip.Sga => if Ck.isOrder s g.arg then Option.none else some g.name) x = none) := Lib.hid (by simp only [ho]; rfl)
        clear ho
        go_wp2_with fail
        go_roundw
        case rel => exact ⟨i + 1, by omega, by go_num, Lib.hid ⟨HB2.out, goes_next HR.out.2 HXI.out HQ.out⟩⟩
        case measure => simp [intOf]; omega
      | false =>
        have HQ : Hid ((fun g : Ip.Sga => if Ck.isOrder s g.arg then Option.none else some g.name) x = some x.name) := Lib.hid (by simp only [ho]; rfl)
        clear ho
        go_wp2_with fail
        go_ret2
        exact ⟨by rw [HE.out, found_at HR.out.2 HXI.out HQ.out]; rfl, (HX.out _ HB2.out).2⟩
    · obtain rfl : i = s.sagas.length := by omega
      have i1 : ¬ (s.sagas.length : Int) < (s.sagas.length : Int) := by omega
      have HNO := Lib.hid (found_none HR.out.2)
      go_wp2_with fail
      go_ret2
      exact ⟨by rw [HE.out, HNO.out]; rfl, (HX.out _ HR.out.1).2⟩

set_option maxRecDepth 100000 in
set_option maxHeartbeats 8000000 in
theorem bottomless_any {u w : World} {sv : Value} {s : Ip.Sch} (h : RoSch u sv s) (hu : Kp u w) (hF : Ck.Four s) (hS : Ck.Small s) : Calls Tryz.prog 45 #[sv] w (Told (Ck.bottoms s) 132 w) := by
  obtain ⟨p1, c1, p2, c2, p3, c3, rfl, -, hr, hs, hg, l1, l2, l3⟩ := sch_parts h
  obtain ⟨W0, hW0⟩ : ∃ W0, W0 = allocs w [schO s p1 c1 p2 c2 p3 c3] := ⟨_, rfl⟩
  have HX : Hid (∀ W, Below W0.heap.size W0 W → W.heap[w.heap.size]? = some (schO s p1 c1 p2 c2 p3 c3) ∧ Below w.heap.size w W) := Lib.hid (by subst hW0; exact fun W hW => ⟨allocs_box (i := 0) rfl hW, allocs_on hW⟩)
  obtain ⟨b0, B0⟩ := HX.out W0 (Below.refl _ _)
  obtain ⟨x0, x1, x2, x3⟩ := cells4' b0
  have H := Lib.hid h
  have H1 := Lib.hid hr
  have H2 := Lib.hid hs
  have H3 := Lib.hid hg
  have HU0 := Lib.hid (hu.below B0)
  have HE : Hid (Ck.bottoms s = s.records.findSome? (fun r : Ip.Rcd => if Ck.fin s r.name then Option.none else some r.name)) := Lib.hid rfl
  have HF := Lib.hid hF
  have HSM := Lib.hid hS
  have HNM : Hid (∀ r ∈ s.records, r.name.size ≤ maxLen) := Lib.hid fun r hr => by have := (hS.r r hr).1; unfold maxLen; omega
  clear h hr hs hg hu b0 B0 hF hS
  simp only [allocs, schO] at hW0
  go_enter Tryz.func45, Tryz.ntmps45
  go_upto_region 1 with fail
  rw [← hW0]
  clear hW0
  go_wp2_with fail
  refine (finite_any H.out HU0.out HF.out HSM.out).mono ?_
  rintro e w1 ⟨b, L, rfl, hst, hfi, hb1⟩
  have HST0 := Lib.hid hst
  have HFI := Lib.hid hfi
  obtain ⟨b0, B0⟩ := HX.out w1 hb1
  have HX0 : Hid (∀ W, Below w1.heap.size w1 W → W.heap[w.heap.size]? = some (schO s p1 c1 p2 c2 p3 c3) ∧ Below w.heap.size w W) := Lib.hid fun W hW => HX.out W (hb1.trans (hW.mono hb1.size))
  have HU1 := Lib.hid (HU0.out.below hb1)
  clear hst hfi HX HU0 x0 x1 x2 x3 hb1
  obtain ⟨x0, x1, x2, x3⟩ := cells4' b0
  clear b0 B0
  have HX := HX0
  have HU0 := HU1
  have HST := HST0
  clear HX0 HU1 HST0
  clear W0
  generalize w1 = W0 at *
  go_wp2_with fail
  clear x0 x1 x2 x3
  go_loopw [12] (fun iv wr => ∃ i : Nat, i ≤ s.records.length ∧ iv = .int .i64 (i : Nat) ∧ Hid (Below W0.heap.size W0 wr ∧ ∀ j x, s.records[j]? = some x → j < i → (fun r : Ip.Rcd => if Ck.fin s r.name then Option.none else some r.name) x = none)) (fun iv _ => s.records.length - (intOf iv).toNat)
  case atStart => exact ⟨0, Nat.zero_le _, rfl, Lib.hid ⟨Below.refl _ _, fun j _ _ hj => absurd hj (Nat.not_lt_zero _)⟩⟩
  case round =>
    obtain ⟨i, hi, rfl, HR⟩ := hrel
    by_cases hlt : i < s.records.length
    · have i1 : (i : Int) < (s.records.length : Int) := by omega
      have i2 : (0 : Int) ≤ (i : Int) := by omega
      obtain ⟨A, cc, q, kq, e3, hA, d0, d1, d2, hin, hms⟩ := rcd_at2 H1.out (HU0.out.below HR.out.1) hlt
      cases e3
      have HXI := Lib.hid (List.getElem?_eq_getElem hlt)
      have HME := Lib.hid (List.getElem_mem hlt)
      generalize s.records[i] = x at *
      obtain ⟨W1, hW1⟩ : ∃ W1, W1 = wr.alloc (.cells #[.string x.name, .bool x.choice, .slice q x.fields.length kq] 34) := ⟨_, rfl⟩
      have hn1 : W1.heap[wr.heap.size]? = some (.cells #[.string x.name, .bool x.choice, .slice q x.fields.length kq] 34 (0, 0)) := by rw [hW1]; exact heap_alloc_new wr _
      have hb1 : Below W0.heap.size W0 W1 := by rw [hW1]; exact HR.out.1.trans ((tk_alloc wr _).mono HR.out.1.size)
      obtain ⟨y0, y1, y2⟩ := cells3 hn1
      obtain ⟨b0, B1⟩ := HX.out W1 hb1
      obtain ⟨x0, x1, x2, x3⟩ := cells4' b0
      have HN1 := Lib.hid hn1
      have HB1 := Lib.hid hb1
      have HBW := Lib.hid B1
      clear hn1 hb1 b0 B1 hA hin hms
      go_upto_region 5 with fail
      rw [← hW1]
      clear hW1 d0 d1 d2
      go_wp2_with fail
      refine (has_any (HST.out.below HB1.out) (HNM.out x HME.out)).mono ?_
      rintro e w2 ⟨rfl, hb2⟩
      have HB2 := Lib.hid (HB1.out.trans (hb2.mono HB1.out.size))
      have HN2 := Lib.hid (box_keep hb2 HN1.out)
      clear hb2 x0 x1 x2 x3 y0 y1 y2
      obtain ⟨y0, y1, y2⟩ := cells3 HN2.out
      rw [HFI.out]
      cases ho : Ck.fin s x.name with
      | true =>
        have HQ : Hid ((fun r : Ip.Rcd => if Ck.fin s r.name then Option.none else some r.name) x = none) := Lib.hid (by simp only [ho]; rfl)
        clear ho
        go_wp2_with fail
        go_roundw
        case rel => exact ⟨i + 1, by omega, by go_num, Lib.hid ⟨HB2.out, goes_next HR.out.2 HXI.out HQ.out⟩⟩
        case measure => simp [intOf]; omega
      | false =>
        have HQ : Hid ((fun r : Ip.Rcd => if Ck.fin s r.name then Option.none else some r.name) x = some x.name) := Lib.hid (by simp only [ho]; rfl)
        clear ho
        go_wp2_with fail
        go_ret2
        exact ⟨by rw [HE.out, found_at HR.out.2 HXI.out HQ.out]; rfl, (HX.out _ HB2.out).2⟩
    · obtain rfl : i = s.records.length := by omega
      have i1 : ¬ (s.records.length : Int) < (s.records.length : Int) := by omega
      have HNO := Lib.hid (found_none HR.out.2)
      go_wp2_with fail
      go_ret2
      exact ⟨by rw [HE.out, HNO.out]; rfl, (HX.out _ HR.out.1).2⟩

set_option maxRecDepth 100000 in
set_option maxHeartbeats 8000000 in
theorem tooMany_any {u w : World} {sv : Value} {s : Ip.Sch} (h : RoSch u sv s) (hu : Kp u w) (hS : Ck.Small s) : Calls Tryz.prog 42 #[sv] w (Told (Ck.counts s) 135 w) := by
  obtain ⟨p1, c1, p2, c2, p3, c3, rfl, -, hr, hs, hg, l1, l2, l3⟩ := sch_parts h
  obtain ⟨W0, hW0⟩ : ∃ W0, W0 = allocs w [schO s p1 c1 p2 c2 p3 c3] := ⟨_, rfl⟩
  have HX : Hid (∀ W, Below W0.heap.size W0 W → W.heap[w.heap.size]? = some (schO s p1 c1 p2 c2 p3 c3) ∧ Below w.heap.size w W) := Lib.hid (by subst hW0; exact fun W hW => ⟨allocs_box (i := 0) rfl hW, allocs_on hW⟩)
  obtain ⟨b0, B0⟩ := HX.out W0 (Below.refl _ _)
  obtain ⟨x0, x1, x2, x3⟩ := cells4' b0
  have H := Lib.hid h
  have H1 := Lib.hid hr
  have H2 := Lib.hid hs
  have H3 := Lib.hid hg
  have HU0 := Lib.hid (hu.below B0)
  have HE0 : Hid (Ck.counts s = if s.records.length + s.services.length + s.sagas.length > 64 then some ⟨#[]⟩ else (s.records.findSome? (fun r : Ip.Rcd => if r.fields.length > 16 then some r.name else Option.none)).or ((s.services.findSome? (fun v : Ip.Srv => if v.methods.length > 16 then some v.name else Option.none)).or (s.sagas.findSome? (fun g : Ip.Sga => if g.steps.length < 1 ∨ g.steps.length > 8 then some g.name else Option.none)))) := Lib.hid rfl
  have k1 : (s.records.length : Int) ≤ 100 := by have := hS.nr; omega
  have k2 : (s.services.length : Int) ≤ 100 := by have := hS.ns; omega
  have k3 : (s.sagas.length : Int) ≤ 100 := by have := hS.ng; omega
  clear h hr hs hg hu b0 B0 hS
  simp only [allocs, schO] at hW0
  by_cases hc : s.records.length + s.services.length + s.sagas.length > 64
  · have j1 : (64 : Int) < (s.records.length : Int) + (s.services.length : Int) + (s.sagas.length : Int) := by omega
    have HE : Hid (Ck.counts s = some ⟨#[]⟩) := Lib.hid (by rw [HE0.out, if_pos hc])
    clear hc
    go_enter Tryz.func42, Tryz.ntmps42
    go_upto_region 1 with fail
    rw [← hW0]
    clear hW0
    go_wp2_with fail
    go_ret2
    exact ⟨by rw [HE.out]; rfl, (HX.out _ (Below.refl _ _)).2⟩
  have j1 : ¬ (64 : Int) < (s.records.length : Int) + (s.services.length : Int) + (s.sagas.length : Int) := by omega
  have HE := Lib.hid (HE0.out.trans (if_neg hc))
  clear hc
  go_enter Tryz.func42, Tryz.ntmps42
  go_upto_region 1 with fail
  rw [← hW0]
  clear hW0
  go_wp2_with fail
  clear x0 x1 x2 x3
  go_loopw [25] (fun iv wr => ∃ i : Nat, i ≤ s.records.length ∧ iv = .int .i64 (i : Nat) ∧ Hid (Below W0.heap.size W0 wr ∧ ∀ j x, s.records[j]? = some x → j < i → (fun r : Ip.Rcd => if r.fields.length > 16 then some r.name else Option.none) x = none)) (fun iv _ => s.records.length - (intOf iv).toNat)
  case atStart => exact ⟨0, Nat.zero_le _, rfl, Lib.hid ⟨Below.refl _ _, fun j _ _ hj => absurd hj (Nat.not_lt_zero _)⟩⟩
  case round =>
    obtain ⟨i, hi, rfl, HR⟩ := hrel
    by_cases hlt : i < s.records.length
    · have i1 : (i : Int) < (s.records.length : Int) := by omega
      have i2 : (0 : Int) ≤ (i : Int) := by omega
      obtain ⟨A, cc, q, kq, e3, hA, d0, d1, d2, hin, hms⟩ := rcd_at2 H1.out (HU0.out.below HR.out.1) hlt
      cases e3
      have HXI := Lib.hid (List.getElem?_eq_getElem hlt)
      have HME := Lib.hid (List.getElem_mem hlt)
      generalize s.records[i] = x at *
      obtain ⟨W1, hW1⟩ : ∃ W1, W1 = wr.alloc (.cells #[.string x.name, .bool x.choice, .slice q x.fields.length kq] 34) := ⟨_, rfl⟩
      have hn1 : W1.heap[wr.heap.size]? = some (.cells #[.string x.name, .bool x.choice, .slice q x.fields.length kq] 34 (0, 0)) := by rw [hW1]; exact heap_alloc_new wr _
      have hb1 : Below W0.heap.size W0 W1 := by rw [hW1]; exact HR.out.1.trans ((tk_alloc wr _).mono HR.out.1.size)
      obtain ⟨y0, y1, y2⟩ := cells3 hn1
      obtain ⟨b0, B1⟩ := HX.out W1 hb1
      obtain ⟨x0, x1, x2, x3⟩ := cells4' b0
      have HN1 := Lib.hid hn1
      have HB1 := Lib.hid hb1
      have HBW := Lib.hid B1
      clear hn1 hb1 b0 B1 hA hin hms
      go_upto_region 6 with fail
      rw [← hW1]
      clear hW1 d0 d1 d2
      clear x0 x1 x2 x3
      by_cases hc : 16 < x.fields.length
      · have j1 : (16 : Int) < (x.fields.length : Int) := by omega
        have HQ : Hid ((fun r : Ip.Rcd => if r.fields.length > 16 then some r.name else Option.none) x = some x.name) := Lib.hid (if_pos hc)
        clear hc
        go_wp2_with fail
        go_ret2
        exact ⟨by rw [HE.out, found_at HR.out.2 HXI.out HQ.out, Option.some_or]; rfl, (HX.out _ HB1.out).2⟩
      · have j1 : ¬ (16 : Int) < (x.fields.length : Int) := by omega
        have HQ : Hid ((fun r : Ip.Rcd => if r.fields.length > 16 then some r.name else Option.none) x = none) := Lib.hid (if_neg hc)
        clear hc
        go_wp2_with fail
        go_roundw
        case rel => exact ⟨i + 1, by omega, by go_num, Lib.hid ⟨HB1.out, goes_next HR.out.2 HXI.out HQ.out⟩⟩
        case measure => simp [intOf]; omega
    · obtain rfl : i = s.records.length := by omega
      have i1 : ¬ (s.records.length : Int) < (s.records.length : Int) := by omega
      have HNO := Lib.hid (found_none HR.out.2)
      have HNO1 := HNO
      clear HNO
      have HRB := Lib.hid HR.out.1
      obtain ⟨b0, -⟩ := HX.out _ HR.out.1
      obtain ⟨x0, x1, x2, x3⟩ := cells4' b0
      clear b0
      go_wp2_with fail
      clear x0 x1 x2 x3
      go_loopw [39] (fun iv wr => ∃ i : Nat, i ≤ s.services.length ∧ iv = .int .i64 (i : Nat) ∧ Hid (Below W0.heap.size W0 wr ∧ ∀ j x, s.services[j]? = some x → j < i → (fun v : Ip.Srv => if v.methods.length > 16 then some v.name else Option.none) x = none)) (fun iv _ => s.services.length - (intOf iv).toNat)
      case atStart => exact ⟨0, Nat.zero_le _, rfl, Lib.hid ⟨HRB.out, fun j _ _ hj => absurd hj (Nat.not_lt_zero _)⟩⟩
      case round =>
        obtain ⟨i, hi, rfl, HR⟩ := hrel
        by_cases hlt : i < s.services.length
        · have i1 : (i : Int) < (s.services.length : Int) := by omega
          have i2 : (0 : Int) ≤ (i : Int) := by omega
          obtain ⟨A, cc, q, kq, e3, hA, d0, d1, hin, hms⟩ := srv_at2 H2.out (HU0.out.below HR.out.1) hlt
          cases e3
          have HXI := Lib.hid (List.getElem?_eq_getElem hlt)
          have HME := Lib.hid (List.getElem_mem hlt)
          generalize s.services[i] = x at *
          obtain ⟨W1, hW1⟩ : ∃ W1, W1 = wr.alloc (.cells #[.string x.name, .slice q x.methods.length kq] 69) := ⟨_, rfl⟩
          have hn1 : W1.heap[wr.heap.size]? = some (.cells #[.string x.name, .slice q x.methods.length kq] 69 (0, 0)) := by rw [hW1]; exact heap_alloc_new wr _
          have hb1 : Below W0.heap.size W0 W1 := by rw [hW1]; exact HR.out.1.trans ((tk_alloc wr _).mono HR.out.1.size)
          obtain ⟨y0, y1⟩ := cells2 hn1
          obtain ⟨b0, B1⟩ := HX.out W1 hb1
          obtain ⟨x0, x1, x2, x3⟩ := cells4' b0
          have HN1 := Lib.hid hn1
          have HB1 := Lib.hid hb1
          have HBW := Lib.hid B1
          clear hn1 hb1 b0 B1 hA hin hms
          go_upto_region 12 with fail
          rw [← hW1]
          clear hW1 d0 d1
          clear x0 x1 x2 x3
          by_cases hc : 16 < x.methods.length
          · have j1 : (16 : Int) < (x.methods.length : Int) := by omega
            have HQ : Hid ((fun v : Ip.Srv => if v.methods.length > 16 then some v.name else Option.none) x = some x.name) := Lib.hid (if_pos hc)
            clear hc
            go_wp2_with fail
            go_ret2
            exact ⟨by rw [HE.out, HNO1.out, Option.none_or, found_at HR.out.2 HXI.out HQ.out, Option.some_or]; rfl, (HX.out _ HB1.out).2⟩
          · have j1 : ¬ (16 : Int) < (x.methods.length : Int) := by omega
            have HQ : Hid ((fun v : Ip.Srv => if v.methods.length > 16 then some v.name else Option.none) x = none) := Lib.hid (if_neg hc)
            clear hc
            go_wp2_with fail
            go_roundw
            case rel => exact ⟨i + 1, by omega, by go_num, Lib.hid ⟨HB1.out, goes_next HR.out.2 HXI.out HQ.out⟩⟩
            case measure => simp [intOf]; omega
        · obtain rfl : i = s.services.length := by omega
          have i1 : ¬ (s.services.length : Int) < (s.services.length : Int) := by omega
          have HNO := Lib.hid (found_none HR.out.2)
          have HNO2 := HNO
          clear HNO HRB
          have HRB := Lib.hid HR.out.1
          obtain ⟨b0, -⟩ := HX.out _ HR.out.1
          obtain ⟨x0, x1, x2, x3⟩ := cells4' b0
          clear b0
          go_wp2_with fail
          clear x0 x1 x2 x3
          go_loopw [53] (fun iv wr => ∃ i : Nat, i ≤ s.sagas.length ∧ iv = .int .i64 (i : Nat) ∧ Hid (Below W0.heap.size W0 wr ∧ ∀ j x, s.sagas[j]? = some x → j < i → (fun g : Ip.Sga => if g.steps.length < 1 ∨ g.steps.length > 8 then some g.name else Option.none) x = none)) (fun iv _ => s.sagas.length - (intOf iv).toNat)
          case atStart => exact ⟨0, Nat.zero_le _, rfl, Lib.hid ⟨HRB.out, fun j _ _ hj => absurd hj (Nat.not_lt_zero _)⟩⟩
          case round =>
            obtain ⟨i, hi, rfl, HR⟩ := hrel
            by_cases hlt : i < s.sagas.length
            · have i1 : (i : Int) < (s.sagas.length : Int) := by omega
              have i2 : (0 : Int) ≤ (i : Int) := by omega
              obtain ⟨A, cc, q, kq, e3, hA, d0, d1, d2, hin, hms⟩ := sga_at2 H3.out (HU0.out.below HR.out.1) hlt
              cases e3
              have HXI := Lib.hid (List.getElem?_eq_getElem hlt)
              have HME := Lib.hid (List.getElem_mem hlt)
              generalize s.sagas[i] = x at *
              obtain ⟨W1, hW1⟩ : ∃ W1, W1 = wr.alloc (.cells #[.string x.name, .string x.arg, .slice q x.steps.length kq] 43) := ⟨_, rfl⟩
              have hn1 : W1.heap[wr.heap.size]? = some (.cells #[.string x.name, .string x.arg, .slice q x.steps.length kq] 43 (0, 0)) := by rw [hW1]; exact heap_alloc_new wr _
              have hb1 : Below W0.heap.size W0 W1 := by rw [hW1]; exact HR.out.1.trans ((tk_alloc wr _).mono HR.out.1.size)
              obtain ⟨y0, y1, y2⟩ := cells3 hn1
              obtain ⟨b0, B1⟩ := HX.out W1 hb1
              obtain ⟨x0, x1, x2, x3⟩ := cells4' b0
              have HN1 := Lib.hid hn1
              have HB1 := Lib.hid hb1
              have HBW := Lib.hid B1
              clear hn1 hb1 b0 B1 hA hin hms
              go_upto_region 18 with fail
              rw [← hW1]
              clear hW1 d0 d1 d2
              clear x0 x1 x2 x3
              by_cases hz : x.steps.length < 1
              · have j1 : ((x.steps.length : Int) == 0) = true := by rw [beq_iff_eq]; omega
                have HQ : Hid ((fun g : Ip.Sga => if g.steps.length < 1 ∨ g.steps.length > 8 then some g.name else Option.none) x = some x.name) := Lib.hid (if_pos (.inl hz))
                clear hz
                go_wp2_with fail
                go_ret2
                exact ⟨by rw [HE.out, HNO1.out, HNO2.out, Option.none_or, Option.none_or, found_at HR.out.2 HXI.out HQ.out]; rfl, (HX.out _ HB1.out).2⟩
              have j0 : ((x.steps.length : Int) == 0) = false := by rw [beq_eq_false_iff_ne]; omega
              by_cases hc : 8 < x.steps.length
              · have j1 : (8 : Int) < (x.steps.length : Int) := by omega
                have HQ : Hid ((fun g : Ip.Sga => if g.steps.length < 1 ∨ g.steps.length > 8 then some g.name else Option.none) x = some x.name) := Lib.hid (if_pos (.inr hc))
                clear hc hz
                go_wp2_with fail
                go_ret2
                exact ⟨by rw [HE.out, HNO1.out, HNO2.out, Option.none_or, Option.none_or, found_at HR.out.2 HXI.out HQ.out]; rfl, (HX.out _ HB1.out).2⟩
              · have j1 : ¬ (8 : Int) < (x.steps.length : Int) := by omega
                have HQ : Hid ((fun g : Ip.Sga => if g.steps.length < 1 ∨ g.steps.length > 8 then some g.name else Option.none) x = none) := Lib.hid (if_neg (by omega))
                clear hc hz
                go_wp2_with fail
                go_roundw
                case rel => exact ⟨i + 1, by omega, by go_num, Lib.hid ⟨HB1.out, goes_next HR.out.2 HXI.out HQ.out⟩⟩
                case measure => simp [intOf]; omega
            · obtain rfl : i = s.sagas.length := by omega
              have i1 : ¬ (s.sagas.length : Int) < (s.sagas.length : Int) := by omega
              have HNO := Lib.hid (found_none HR.out.2)
              go_wp2_with fail
              go_ret2
              exact ⟨by rw [HE.out, HNO1.out, HNO2.out, HNO.out]; rfl, (HX.out _ HR.out.1).2⟩
end Go.Proofs.YtiikccaaabcegaaGreatDoor
