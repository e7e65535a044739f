/-
  Walks over the laws of package check: which schemas are more than they go through. Conditions: those in the theorems.
-/
import Derived.Test.YtnkdhmoocomjfaaGreatDoorCkCheck
set_option linter.unusedSimpArgs false
set_option linter.unusedVariables false
namespace Go.Proofs.YtnkdhmoocomjfaaGreatDoor
open Go.RowKit
def GreatP (P : Prop) (w : World) (e : Ending) (w' : World) : Prop := ∃ b, e = .returned (.bool b) ∧ (b = false → P) ∧ Below w.heap.size w w'
theorem all_next {α : Type} {P : α → Prop} {l : List α} {k : Nat} (h : ∀ j x, l[j]? = some x → j < k → P x) {x : α} (hx : l[k]? = some x) (hp : P x) : ∀ j x, l[j]? = some x → j < k + 1 → P x := fun j y hj hjk => by
  by_cases e : j < k
  · exact h j y hj e
  · obtain rfl : j = k := by omega
    rw [hx] at hj
    cases hj
    exact hp

set_option maxRecDepth 100000 in
set_option maxHeartbeats 16000000 in
theorem greatServices_any {u w : World} {sv : Value} {s : Ip.Sch} (h : RoSch u sv s) (hu : Kp u w) (hn : s.services.length ≤ 1000) : Calls Tryz.prog 40 #[sv] w (GreatP (∀ v ∈ s.services, Ck.SmV v) w) := by
  obtain ⟨p1, c1, p2, c2, p3, c3, rfl, hsn, hr, hs, hg, l1, l2, l3⟩ := sch_parts h
  obtain ⟨W0, hW0⟩ : ∃ W0, W0 = allocs w [schO s p1 c1 p2 c2 p3 c3] := ⟨_, rfl⟩
  have HX : Hid (∀ W, Below W0.heap.size W0 W → W.heap[w.heap.size]? = some (schO s p1 c1 p2 c2 p3 c3) ∧ Below w.heap.size w W) := Lib.hid (by subst hW0; exact fun W hW => ⟨allocs_box (i := 0) rfl hW, allocs_on hW⟩)
  obtain ⟨b0, B0⟩ := HX.out W0 (Below.refl _ _)
  obtain ⟨x0, x1, x2, x3⟩ := cells4' b0
  have HU0 := Lib.hid (hu.below B0)
  have HB0 := Lib.hid B0
  have H := Lib.hid h
  have HLS := Lib.hid hs
  clear h hu hr hs hg b0 B0 hsn
  simp only [allocs, schO] at hW0
  go_enter Tryz.func40, Tryz.ntmps40
  go_upto_region 1 with fail
  rw [← hW0]
  clear hW0
  go_wp2_with fail
  clear x0 x1 x2 x3
  go_loopw [3] (fun iv wr => ∃ i : Nat, i ≤ s.services.length ∧ iv = .int .i64 (i : Nat) ∧ Hid (Below W0.heap.size W0 wr ∧ ∀ j x, s.services[j]? = some x → j < i → Ck.SmV x)) (fun iv _ => s.services.length - (intOf iv).toNat)
  case atStart => exact ⟨0, Nat.zero_le _, rfl, Lib.hid ⟨Below.refl _ _, fun j _ _ hj => absurd hj (Nat.not_lt_zero _)⟩⟩
  case round =>
    obtain ⟨i, hi, rfl, HR⟩ := hrel
    obtain ⟨b0, -⟩ := HX.out wr HR.out.1
    obtain ⟨x0, x1, x2, x3⟩ := cells4' b0
    clear b0
    by_cases hlt : i < s.services.length
    · have i1 : (i : Int) < (s.services.length : Int) := by omega
      have i2 : (0 : Int) ≤ (i : Int) := by omega
      obtain ⟨A, cc, q, kq, e3, hA, d0, d1, hin, hms⟩ := srv_at2 HLS.out (HU0.out.below HR.out.1) hlt
      cases e3
      have HXI := Lib.hid (List.getElem?_eq_getElem hlt)
      obtain ⟨_, _, e9, hsl⟩ := ro_len hms
      cases e9
      generalize s.services[i] = x at *
      have HMS := Lib.hid hms
      obtain ⟨W1, hW1⟩ : ∃ W1, W1 = wr.alloc (.cells #[.string x.name, .slice q x.methods.length kq] 98) := ⟨_, rfl⟩
      have hn1 : W1.heap[wr.heap.size]? = some (.cells #[.string x.name, .slice q x.methods.length kq] 98 (0, 0)) := by rw [hW1]; exact heap_alloc_new wr _
      have hb1 : Below W0.heap.size W0 W1 := by rw [hW1]; exact HR.out.1.trans ((tk_alloc wr _).mono HR.out.1.size)
      obtain ⟨y0, y1⟩ := cells2 hn1
      have HN1 : Hid (∀ X, Below W1.heap.size W1 X → X.heap[wr.heap.size]? = some (.cells #[.string x.name, .slice q x.methods.length kq] 98 (0, 0))) := Lib.hid fun X hX => box_keep hX hn1
      have HB1 := Lib.hid hb1
      have HBW := Lib.hid (HX.out W1 hb1).2
      have HOK := Lib.hid HR.out.2
      clear hn1 hb1 hA hin hms HR
      go_upto_region 5 with fail
      rw [← hW1]
      clear hW1 d0 d1 x0 x1 x2 x3
      generalize wr.heap.size = g at *
      by_cases hg0 : 200 < x.name.size
      · have jg0 : (200 : Int) < ((x.name.size : Nat) : Int) := by omega
        clear hg0 
        go_wp2_with fail
        go_ret
        exact ⟨true, rfl, fun h => (by cases h), HBW.out⟩
      have jg0 : ¬ (200 : Int) < ((x.name.size : Nat) : Int) := by omega
      by_cases hg1 : 40 < x.methods.length
      · have jg1 : (40 : Int) < ((x.methods.length : Nat) : Int) := by omega
        clear hg1 hg0
        go_wp2_with fail
        go_ret
        exact ⟨true, rfl, fun h => (by cases h), HBW.out⟩
      have jg1 : ¬ (40 : Int) < ((x.methods.length : Nat) : Int) := by omega
      have HG : Hid (x.name.size ≤ 200 ∧ x.methods.length ≤ 40) := Lib.hid ⟨Nat.le_of_not_lt hg0, Nat.le_of_not_lt hg1⟩
      clear hg0
      go_wp2_with fail
      clear y0 y1
      go_loopw [5] (fun kv wx => ∃ k : Nat, k ≤ x.methods.length ∧ kv = .int .i64 (k : Nat) ∧ Hid (Below W1.heap.size W1 wx ∧ ∀ j y, x.methods[j]? = some y → j < k → Ck.SmM y)) (fun kv _ => x.methods.length - (intOf kv).toNat)
      case atStart => exact ⟨0, Nat.zero_le _, rfl, Lib.hid ⟨Below.refl _ _, fun j _ _ hj => absurd hj (Nat.not_lt_zero _)⟩⟩
      case round =>
        obtain ⟨k, hk, rfl, HR⟩ := hrel
        obtain ⟨y0, y1⟩ := cells2 (HN1.out wr HR.out.1)
        by_cases hlk : k < x.methods.length
        · have j1 : (k : Int) < (x.methods.length : Int) := by omega
          have j2 : (0 : Int) ≤ (k : Int) := by omega
          have hbr : Below W0.heap.size W0 wr := HB1.out.trans (HR.out.1.mono HB1.out.size)
          obtain ⟨B, cb, e5, hB, d0, d1, d2, d3, d4, hpin⟩ := mth_at (HMS.out.kp (HU0.out.below hbr)) hlk
          cases e5
          have HXK := Lib.hid (List.getElem?_eq_getElem hlk)
          generalize x.methods[k] = y at *
          clear hB hpin hbr
          obtain ⟨W2, hW2⟩ : ∃ W2, W2 = wr.alloc (.cells #[.string y.name, .string y.arg, .int .u8 (y.result : Nat), .string y.effect, .string y.undo] 100) := ⟨_, rfl⟩
          have hn2 : W2.heap[wr.heap.size]? = some (.cells #[.string y.name, .string y.arg, .int .u8 (y.result : Nat), .string y.effect, .string y.undo] 100 (0, 0)) := by rw [hW2]; exact heap_alloc_new wr _
          have hb2 : Below W1.heap.size W1 W2 := by rw [hW2]; exact HR.out.1.trans ((tk_alloc wr _).mono HR.out.1.size)
          obtain ⟨z0, z1, z2, z3, z4⟩ := cells5 hn2
          have HB2 := Lib.hid hb2
          have HBX := Lib.hid (HX.out W2 (HB1.out.trans (hb2.mono HB1.out.size))).2
          clear hn2 hb2
          go_upto_region 11 with fail
          rw [← hW2]
          clear hW2 d0 d1 d2 d3 d4 y0 y1
          by_cases hg0 : 200 < y.name.size
          · have jg0 : (200 : Int) < ((y.name.size : Nat) : Int) := by omega
            clear hg0 
            go_wp2_with fail
            go_ret
            exact ⟨true, rfl, fun h => (by cases h), HBX.out⟩
          have jg0 : ¬ (200 : Int) < ((y.name.size : Nat) : Int) := by omega
          by_cases hg1 : 200 < y.arg.size
          · have jg1 : (200 : Int) < ((y.arg.size : Nat) : Int) := by omega
            clear hg1 hg0
            go_wp2_with fail
            go_ret
            exact ⟨true, rfl, fun h => (by cases h), HBX.out⟩
          have jg1 : ¬ (200 : Int) < ((y.arg.size : Nat) : Int) := by omega
          by_cases hg2 : 200 < y.effect.size
          · have jg2 : (200 : Int) < ((y.effect.size : Nat) : Int) := by omega
            clear hg2 hg0 hg1
            go_wp2_with fail
            go_ret
            exact ⟨true, rfl, fun h => (by cases h), HBX.out⟩
          have jg2 : ¬ (200 : Int) < ((y.effect.size : Nat) : Int) := by omega
          by_cases hg3 : 200 < y.undo.size
          · have jg3 : (200 : Int) < ((y.undo.size : Nat) : Int) := by omega
            clear hg3 hg0 hg1 hg2
            go_wp2_with fail
            go_ret
            exact ⟨true, rfl, fun h => (by cases h), HBX.out⟩
          have jg3 : ¬ (200 : Int) < ((y.undo.size : Nat) : Int) := by omega
          have HNX : Hid (∀ j y, x.methods[j]? = some y → j < k + 1 → Ck.SmM y) := Lib.hid (all_next HR.out.2 HXK.out ⟨Nat.le_of_not_lt hg0, Nat.le_of_not_lt hg1, Nat.le_of_not_lt hg2, Nat.le_of_not_lt hg3⟩)
          clear hg0 hg1 hg2 hg3
          go_wp2_with fail
          go_roundw
          case rel => exact ⟨k + 1, by omega, by go_num, Lib.hid ⟨HB2.out, HNX.out⟩⟩
          case measure => simp [intOf]; omega
        · obtain rfl : k = x.methods.length := by omega
          have j1 : ¬ (x.methods.length : Int) < (x.methods.length : Int) := by omega
          have HNX : Hid (∀ j x, s.services[j]? = some x → j < i + 1 → Ck.SmV x) := Lib.hid (all_next HOK.out HXI.out ⟨HG.out.1, HG.out.2, fun y hy => by
            obtain ⟨j, hj⟩ := List.mem_iff_getElem?.1 hy
            exact HR.out.2 j y hj (List.getElem?_eq_some_iff.1 hj).1⟩)
          have HB3 := Lib.hid (HB1.out.trans (HR.out.1.mono HB1.out.size))
          go_wp2_with fail
          go_roundw
          case rel => exact ⟨i + 1, by omega, by go_num, Lib.hid ⟨HB3.out, HNX.out⟩⟩
          case measure => simp [intOf]; omega
    · obtain rfl : i = s.services.length := by omega
      have i1 : ¬ (s.services.length : Int) < (s.services.length : Int) := by omega
      go_wp2_with fail
      go_ret
      exact ⟨false, rfl, fun _ x hx => (by
        obtain ⟨j, hj⟩ := List.mem_iff_getElem?.1 hx
        exact HR.out.2 j x hj (List.getElem?_eq_some_iff.1 hj).1), (HX.out wr HR.out.1).2⟩

set_option maxRecDepth 100000 in
set_option maxHeartbeats 16000000 in
theorem greatSagas_any {u w : World} {sv : Value} {s : Ip.Sch} (h : RoSch u sv s) (hu : Kp u w) (hn : s.sagas.length ≤ 1000) : Calls Tryz.prog 41 #[sv] w (GreatP (∀ g ∈ s.sagas, Ck.SmG g) w) := by
  obtain ⟨p1, c1, p2, c2, p3, c3, rfl, hsn, hr, hs, hg, l1, l2, l3⟩ := sch_parts h
  obtain ⟨W0, hW0⟩ : ∃ W0, W0 = allocs w [schO s p1 c1 p2 c2 p3 c3] := ⟨_, rfl⟩
  have HX : Hid (∀ W, Below W0.heap.size W0 W → W.heap[w.heap.size]? = some (schO s p1 c1 p2 c2 p3 c3) ∧ Below w.heap.size w W) := Lib.hid (by subst hW0; exact fun W hW => ⟨allocs_box (i := 0) rfl hW, allocs_on hW⟩)
  obtain ⟨b0, B0⟩ := HX.out W0 (Below.refl _ _)
  obtain ⟨x0, x1, x2, x3⟩ := cells4' b0
  have HU0 := Lib.hid (hu.below B0)
  have HB0 := Lib.hid B0
  have H := Lib.hid h
  have HLS := Lib.hid hg
  clear h hu hr hs hg b0 B0 hsn
  simp only [allocs, schO] at hW0
  go_enter Tryz.func41, Tryz.ntmps41
  go_upto_region 1 with fail
  rw [← hW0]
  clear hW0
  go_wp2_with fail
  clear x0 x1 x2 x3
  go_loopw [3] (fun iv wr => ∃ i : Nat, i ≤ s.sagas.length ∧ iv = .int .i64 (i : Nat) ∧ Hid (Below W0.heap.size W0 wr ∧ ∀ j x, s.sagas[j]? = some x → j < i → Ck.SmG x)) (fun iv _ => s.sagas.length - (intOf iv).toNat)
  case atStart => exact ⟨0, Nat.zero_le _, rfl, Lib.hid ⟨Below.refl _ _, fun j _ _ hj => absurd hj (Nat.not_lt_zero _)⟩⟩
  case round =>
    obtain ⟨i, hi, rfl, HR⟩ := hrel
    obtain ⟨b0, -⟩ := HX.out wr HR.out.1
    obtain ⟨x0, x1, x2, x3⟩ := cells4' b0
    clear b0
    by_cases hlt : i < s.sagas.length
    · have i1 : (i : Int) < (s.sagas.length : Int) := by omega
      have i2 : (0 : Int) ≤ (i : Int) := by omega
      obtain ⟨A, cc, q, kq, e3, hA, d0, d1, d2, hin, hms⟩ := sga_at2 HLS.out (HU0.out.below HR.out.1) hlt
      cases e3
      have HXI := Lib.hid (List.getElem?_eq_getElem hlt)
      obtain ⟨_, _, e9, hsl⟩ := ro_len hms
      cases e9
      generalize s.sagas[i] = x at *
      have HMS := Lib.hid hms
      obtain ⟨W1, hW1⟩ : ∃ W1, W1 = wr.alloc (.cells #[.string x.name, .string x.arg, .slice q x.steps.length kq] 44) := ⟨_, rfl⟩
      have hn1 : W1.heap[wr.heap.size]? = some (.cells #[.string x.name, .string x.arg, .slice q x.steps.length kq] 44 (0, 0)) := by rw [hW1]; exact heap_alloc_new wr _
      have hb1 : Below W0.heap.size W0 W1 := by rw [hW1]; exact HR.out.1.trans ((tk_alloc wr _).mono HR.out.1.size)
      obtain ⟨y0, y1, y2⟩ := cells3 hn1
      have HN1 : Hid (∀ X, Below W1.heap.size W1 X → X.heap[wr.heap.size]? = some (.cells #[.string x.name, .string x.arg, .slice q x.steps.length kq] 44 (0, 0))) := Lib.hid fun X hX => box_keep hX hn1
      have HB1 := Lib.hid hb1
      have HBW := Lib.hid (HX.out W1 hb1).2
      have HOK := Lib.hid HR.out.2
      clear hn1 hb1 hA hin hms HR
      go_upto_region 5 with fail
      rw [← hW1]
      clear hW1 d0 d1 d2 x0 x1 x2 x3
      generalize wr.heap.size = g at *
      by_cases hg0 : 200 < x.name.size
      · have jg0 : (200 : Int) < ((x.name.size : Nat) : Int) := by omega
        clear hg0 
        go_wp2_with fail
        go_ret
        exact ⟨true, rfl, fun h => (by cases h), HBW.out⟩
      have jg0 : ¬ (200 : Int) < ((x.name.size : Nat) : Int) := by omega
      by_cases hg1 : 200 < x.arg.size
      · have jg1 : (200 : Int) < ((x.arg.size : Nat) : Int) := by omega
        clear hg1 hg0
        go_wp2_with fail
        go_ret
        exact ⟨true, rfl, fun h => (by cases h), HBW.out⟩
      have jg1 : ¬ (200 : Int) < ((x.arg.size : Nat) : Int) := by omega
      by_cases hg2 : 40 < x.steps.length
      · have jg2 : (40 : Int) < ((x.steps.length : Nat) : Int) := by omega
        clear hg2 hg0 hg1
        go_wp2_with fail
        go_ret
        exact ⟨true, rfl, fun h => (by cases h), HBW.out⟩
      have jg2 : ¬ (40 : Int) < ((x.steps.length : Nat) : Int) := by omega
      have HG : Hid (x.name.size ≤ 200 ∧ x.arg.size ≤ 200 ∧ x.steps.length ≤ 40) := Lib.hid ⟨Nat.le_of_not_lt hg0, Nat.le_of_not_lt hg1, Nat.le_of_not_lt hg2⟩
      clear hg0 hg1
      go_wp2_with fail
      clear y0 y1 y2
      go_loopw [5] (fun kv wx => ∃ k : Nat, k ≤ x.steps.length ∧ kv = .int .i64 (k : Nat) ∧ Hid (Below W1.heap.size W1 wx ∧ ∀ j y, x.steps[j]? = some y → j < k → Ck.SmP y)) (fun kv _ => x.steps.length - (intOf kv).toNat)
      case atStart => exact ⟨0, Nat.zero_le _, rfl, Lib.hid ⟨Below.refl _ _, fun j _ _ hj => absurd hj (Nat.not_lt_zero _)⟩⟩
      case round =>
        obtain ⟨k, hk, rfl, HR⟩ := hrel
        obtain ⟨y0, y1, y2⟩ := cells3 (HN1.out wr HR.out.1)
        by_cases hlk : k < x.steps.length
        · have j1 : (k : Int) < (x.steps.length : Int) := by omega
          have j2 : (0 : Int) ≤ (k : Int) := by omega
          have hbr : Below W0.heap.size W0 wr := HB1.out.trans (HR.out.1.mono HB1.out.size)
          obtain ⟨B, cb, e5, hB, d0, d1, d2, hpin⟩ := stp_at (HMS.out.kp (HU0.out.below hbr)) hlk
          cases e5
          have HXK := Lib.hid (List.getElem?_eq_getElem hlk)
          generalize x.steps[k] = y at *
          clear hB hpin hbr
          have HB2 := Lib.hid HR.out.1
          have HBX := Lib.hid (HX.out wr (HB1.out.trans (HR.out.1.mono HB1.out.size))).2
          by_cases hg0 : 200 < y.service.size
          · have jg0 : (200 : Int) < ((y.service.size : Nat) : Int) := by omega
            clear hg0 
            go_wp2_with fail
            go_ret
            exact ⟨true, rfl, fun h => (by cases h), HBX.out⟩
          have jg0 : ¬ (200 : Int) < ((y.service.size : Nat) : Int) := by omega
          by_cases hg1 : 200 < y.method.size
          · have jg1 : (200 : Int) < ((y.method.size : Nat) : Int) := by omega
            clear hg1 hg0
            go_wp2_with fail
            go_ret
            exact ⟨true, rfl, fun h => (by cases h), HBX.out⟩
          have jg1 : ¬ (200 : Int) < ((y.method.size : Nat) : Int) := by omega
          have HNX : Hid (∀ j y, x.steps[j]? = some y → j < k + 1 → Ck.SmP y) := Lib.hid (all_next HR.out.2 HXK.out ⟨Nat.le_of_not_lt hg0, Nat.le_of_not_lt hg1⟩)
          clear hg0 hg1
          go_wp2_with fail
          go_roundw
          case rel => exact ⟨k + 1, by omega, by go_num, Lib.hid ⟨HB2.out, HNX.out⟩⟩
          case measure => simp [intOf]; omega
        · obtain rfl : k = x.steps.length := by omega
          have j1 : ¬ (x.steps.length : Int) < (x.steps.length : Int) := by omega
          have HNX : Hid (∀ j x, s.sagas[j]? = some x → j < i + 1 → Ck.SmG x) := Lib.hid (all_next HOK.out HXI.out ⟨HG.out.1, HG.out.2.1, HG.out.2.2, fun y hy => by
            obtain ⟨j, hj⟩ := List.mem_iff_getElem?.1 hy
            exact HR.out.2 j y hj (List.getElem?_eq_some_iff.1 hj).1⟩)
          have HB3 := Lib.hid (HB1.out.trans (HR.out.1.mono HB1.out.size))
          go_wp2_with fail
          go_roundw
          case rel => exact ⟨i + 1, by omega, by go_num, Lib.hid ⟨HB3.out, HNX.out⟩⟩
          case measure => simp [intOf]; omega
    · obtain rfl : i = s.sagas.length := by omega
      have i1 : ¬ (s.sagas.length : Int) < (s.sagas.length : Int) := by omega
      go_wp2_with fail
      go_ret
      exact ⟨false, rfl, fun _ x hx => (by
        obtain ⟨j, hj⟩ := List.mem_iff_getElem?.1 hx
        exact HR.out.2 j x hj (List.getElem?_eq_some_iff.1 hj).1), (HX.out wr HR.out.1).2⟩

set_option maxRecDepth 100000 in
set_option maxHeartbeats 16000000 in
theorem Great_any {u w : World} {sv : Value} {s : Ip.Sch} (h : RoSch u sv s) (hu : Kp u w) : Calls Tryz.prog 14 #[sv] w (GreatP (Ck.Small s) w) := by
  obtain ⟨p1, c1, p2, c2, p3, c3, rfl, hsn, hr, hs, hg, l1, l2, l3⟩ := sch_parts h
  obtain ⟨W0, hW0⟩ : ∃ W0, W0 = allocs w [schO s p1 c1 p2 c2 p3 c3] := ⟨_, rfl⟩
  have HX : Hid (∀ W, Below W0.heap.size W0 W → W.heap[w.heap.size]? = some (schO s p1 c1 p2 c2 p3 c3) ∧ Below w.heap.size w W) := Lib.hid (by subst hW0; exact fun W hW => ⟨allocs_box (i := 0) rfl hW, allocs_on hW⟩)
  obtain ⟨b0, B0⟩ := HX.out W0 (Below.refl _ _)
  obtain ⟨x0, x1, x2, x3⟩ := cells4' b0
  have HU0 := Lib.hid (hu.below B0)
  have HB0 := Lib.hid B0
  have H := Lib.hid h
  have HLS := Lib.hid hr
  clear h hu hr hs hg b0 B0
  simp only [allocs, schO] at hW0
  unfold Sm_ maxLen at hsn
  go_enter Tryz.func14, Tryz.ntmps14
  go_upto_region 1 with fail
  rw [← hW0]
  clear hW0
  by_cases hg0 : 100 < s.records.length
  · have jg0 : (100 : Int) < ((s.records.length : Nat) : Int) := by omega
    clear hg0 
    go_wp2_with fail
    go_ret
    exact ⟨true, rfl, fun h => (by cases h), HB0.out⟩
  have jg0 : ¬ (100 : Int) < ((s.records.length : Nat) : Int) := by omega
  by_cases hg1 : 100 < s.services.length
  · have jg1 : (100 : Int) < ((s.services.length : Nat) : Int) := by omega
    clear hg1 hg0
    go_wp2_with fail
    go_ret
    exact ⟨true, rfl, fun h => (by cases h), HB0.out⟩
  have jg1 : ¬ (100 : Int) < ((s.services.length : Nat) : Int) := by omega
  by_cases hg2 : 100 < s.sagas.length
  · have jg2 : (100 : Int) < ((s.sagas.length : Nat) : Int) := by omega
    clear hg2 hg0 hg1
    go_wp2_with fail
    go_ret
    exact ⟨true, rfl, fun h => (by cases h), HB0.out⟩
  have jg2 : ¬ (100 : Int) < ((s.sagas.length : Nat) : Int) := by omega
  by_cases hg3 : 200 < s.name.size
  · have jg3 : (200 : Int) < ((s.name.size : Nat) : Int) := by omega
    clear hg3 hg0 hg1 hg2
    go_wp2_with fail
    go_ret
    exact ⟨true, rfl, fun h => (by cases h), HB0.out⟩
  have jg3 : ¬ (200 : Int) < ((s.name.size : Nat) : Int) := by omega
  have HTOP : Hid (s.records.length ≤ 100 ∧ s.services.length ≤ 100 ∧ s.sagas.length ≤ 100 ∧ s.name.size ≤ 200) := Lib.hid ⟨Nat.le_of_not_lt hg0, Nat.le_of_not_lt hg1, Nat.le_of_not_lt hg2, Nat.le_of_not_lt hg3⟩
  clear hg0 hg1 hg2 hg3
  go_wp2_with fail
  clear x0 x1 x2 x3
  go_loopw [3] (fun iv wr => ∃ i : Nat, i ≤ s.records.length ∧ iv = .int .i64 (i : Nat) ∧ Hid (Below W0.heap.size W0 wr ∧ ∀ j x, s.records[j]? = some x → j < i → Ck.SmR x)) (fun iv _ => s.records.length - (intOf iv).toNat)
  case atStart => exact ⟨0, Nat.zero_le _, rfl, Lib.hid ⟨Below.refl _ _, fun j _ _ hj => absurd hj (Nat.not_lt_zero _)⟩⟩
  case round =>
    obtain ⟨i, hi, rfl, HR⟩ := hrel
    obtain ⟨b0, -⟩ := HX.out wr HR.out.1
    obtain ⟨x0, x1, x2, x3⟩ := cells4' b0
    clear b0
    by_cases hlt : i < s.records.length
    · have i1 : (i : Int) < (s.records.length : Int) := by omega
      have i2 : (0 : Int) ≤ (i : Int) := by omega
      obtain ⟨A, cc, q, kq, e3, hA, d0, d1, d2, hin, hms⟩ := rcd_at2 HLS.out (HU0.out.below HR.out.1) hlt
      cases e3
      have HXI := Lib.hid (List.getElem?_eq_getElem hlt)
      obtain ⟨_, _, e9, hsl⟩ := ro_len hms
      cases e9
      generalize s.records[i] = x at *
      have HMS := Lib.hid hms
      obtain ⟨W1, hW1⟩ : ∃ W1, W1 = wr.alloc (.cells #[.string x.name, .bool x.choice, .slice q x.fields.length kq] 34) := ⟨_, rfl⟩
      have hn1 : W1.heap[wr.heap.size]? = some (.cells #[.string x.name, .bool x.choice, .slice q x.fields.length kq] 34 (0, 0)) := by rw [hW1]; exact heap_alloc_new wr _
      have hb1 : Below W0.heap.size W0 W1 := by rw [hW1]; exact HR.out.1.trans ((tk_alloc wr _).mono HR.out.1.size)
      obtain ⟨y0, y1, y2⟩ := cells3 hn1
      have HN1 : Hid (∀ X, Below W1.heap.size W1 X → X.heap[wr.heap.size]? = some (.cells #[.string x.name, .bool x.choice, .slice q x.fields.length kq] 34 (0, 0))) := Lib.hid fun X hX => box_keep hX hn1
      have HB1 := Lib.hid hb1
      have HBW := Lib.hid (HX.out W1 hb1).2
      have HOK := Lib.hid HR.out.2
      have HKP := Lib.hid (HU0.out.below hb1)
      clear hn1 hb1 hA hin hms HR
      go_upto_region 7 with fail
      rw [← hW1]
      clear hW1 d0 d1 d2 x0 x1 x2 x3
      generalize wr.heap.size = g at *
      by_cases hg0 : 200 < x.name.size
      · have jg0 : (200 : Int) < ((x.name.size : Nat) : Int) := by omega
        clear hg0 
        go_wp2_with fail
        go_ret
        exact ⟨true, rfl, fun h => (by cases h), HBW.out⟩
      have jg0 : ¬ (200 : Int) < ((x.name.size : Nat) : Int) := by omega
      by_cases hg1 : 40 < x.fields.length
      · have jg1 : (40 : Int) < ((x.fields.length : Nat) : Int) := by omega
        clear hg1 hg0
        go_wp2_with fail
        go_ret
        exact ⟨true, rfl, fun h => (by cases h), HBW.out⟩
      have jg1 : ¬ (40 : Int) < ((x.fields.length : Nat) : Int) := by omega
      have HG : Hid (x.name.size ≤ 200 ∧ x.fields.length ≤ 40) := Lib.hid ⟨Nat.le_of_not_lt hg0, Nat.le_of_not_lt hg1⟩
      clear hg0
      go_wp2_with fail
      clear y0 y1 y2
      go_loopw [5] (fun kv wx => ∃ k : Nat, k ≤ x.fields.length ∧ kv = .int .i64 (k : Nat) ∧ wx = W1 ∧ Hid (∀ j y, x.fields[j]? = some y → j < k → Ck.SmF y)) (fun kv _ => x.fields.length - (intOf kv).toNat)
      case atStart => exact ⟨0, Nat.zero_le _, rfl, rfl, Lib.hid fun j _ _ hj => absurd hj (Nat.not_lt_zero _)⟩
      case round =>
        obtain ⟨k, hk, rfl, hwx, HR⟩ := hrel
        obtain rfl := hwx.symm
        obtain ⟨y0, y1, y2⟩ := cells3 (HN1.out W1 (Below.refl _ _))
        by_cases hlk : k < x.fields.length
        · have j1 : (k : Int) < (x.fields.length : Int) := by omega
          have j2 : (0 : Int) ≤ (k : Int) := by omega
          obtain ⟨B, cb, q5, k5, e5, hB, d0, d1, hfin, hts⟩ := fld_at2 HMS.out HKP.out hlk
          cases e5
          have HXK := Lib.hid (List.getElem?_eq_getElem hlk)
          obtain ⟨_, _, e8, htl⟩ := ro_len hts
          cases e8
          generalize x.fields[k] = y at *
          have HTS := Lib.hid (hts.kp HKP.out)
          clear hB hfin hts
          by_cases hg0 : 200 < y.name.size
          · have jg0 : (200 : Int) < ((y.name.size : Nat) : Int) := by omega
            clear hg0 
            go_wp2_with fail
            go_ret
            exact ⟨true, rfl, fun h => (by cases h), HBW.out⟩
          have jg0 : ¬ (200 : Int) < ((y.name.size : Nat) : Int) := by omega
          by_cases hg1 : 40 < y.type.length
          · have jg1 : (40 : Int) < ((y.type.length : Nat) : Int) := by omega
            clear hg1 hg0
            go_wp2_with fail
            go_ret
            exact ⟨true, rfl, fun h => (by cases h), HBW.out⟩
          have jg1 : ¬ (40 : Int) < ((y.type.length : Nat) : Int) := by omega
          have HGF : Hid (y.name.size ≤ 200 ∧ y.type.length ≤ 40) := Lib.hid ⟨Nat.le_of_not_lt hg0, Nat.le_of_not_lt hg1⟩
          clear hg0
          go_wp2_with fail
          go_loopw [6] (fun lv wx => ∃ m : Nat, m ≤ y.type.length ∧ lv = .int .i64 (m : Nat) ∧ wx = W1 ∧ Hid (∀ j z, y.type[j]? = some z → j < m → z.name.size ≤ 200)) (fun lv _ => y.type.length - (intOf lv).toNat)
          case atStart => exact ⟨0, Nat.zero_le _, rfl, rfl, Lib.hid fun j _ _ hj => absurd hj (Nat.not_lt_zero _)⟩
          case round =>
            obtain ⟨m, hm, rfl, hwx, HT⟩ := hrel
            obtain rfl := hwx.symm
            by_cases hlm : m < y.type.length
            · have k1 : (m : Int) < (y.type.length : Int) := by omega
              have k2 : (0 : Int) ≤ (m : Int) := by omega
              obtain ⟨D, cd, e7, hD, z0, z1, hzin⟩ := so_at HTS.out hlm
              cases e7
              have HXM := Lib.hid (List.getElem?_eq_getElem hlm)
              generalize y.type[m] = z at *
              clear hD hzin
              by_cases hg0 : 200 < z.name.size
              · have jg0 : (200 : Int) < ((z.name.size : Nat) : Int) := by omega
                clear hg0 
                go_wp2_with fail
                go_ret
                exact ⟨true, rfl, fun h => (by cases h), HBW.out⟩
              have jg0 : ¬ (200 : Int) < ((z.name.size : Nat) : Int) := by omega
              have HNX : Hid (∀ j z, y.type[j]? = some z → j < m + 1 → z.name.size ≤ 200) := Lib.hid (all_next HT.out HXM.out (Nat.le_of_not_lt hg0))
              clear hg0
              go_wp2_with fail
              go_roundw
              case rel => exact ⟨m + 1, by omega, by go_num, trivial, HNX⟩
              case measure => simp [intOf]; omega
            · obtain rfl : m = y.type.length := by omega
              have k1 : ¬ (y.type.length : Int) < (y.type.length : Int) := by omega
              have HNX : Hid (∀ j y, x.fields[j]? = some y → j < k + 1 → Ck.SmF y) := Lib.hid (all_next HR.out HXK.out ⟨HGF.out.1, HGF.out.2, fun z hz => by
                obtain ⟨j, hj⟩ := List.mem_iff_getElem?.1 hz
                exact HT.out j z hj (List.getElem?_eq_some_iff.1 hj).1⟩)
              go_wp2_with fail
              go_roundw
              case rel => exact ⟨k + 1, by omega, by go_num, trivial, HNX⟩
              case measure => simp [intOf]; omega
        · obtain rfl : k = x.fields.length := by omega
          have j1 : ¬ (x.fields.length : Int) < (x.fields.length : Int) := by omega
          have HNX : Hid (∀ j x, s.records[j]? = some x → j < i + 1 → Ck.SmR x) := Lib.hid (all_next HOK.out HXI.out ⟨HG.out.1, HG.out.2, fun y hy => by
            obtain ⟨j, hj⟩ := List.mem_iff_getElem?.1 hy
            exact HR.out j y hj (List.getElem?_eq_some_iff.1 hj).1⟩)
          go_wp2_with fail
          go_roundw
          case rel => exact ⟨i + 1, by omega, by go_num, Lib.hid ⟨HB1.out, HNX.out⟩⟩
          case measure => simp [intOf]; omega
    · obtain rfl : i = s.records.length := by omega
      have i1 : ¬ (s.records.length : Int) < (s.records.length : Int) := by omega
      have HRS : Hid (∀ r ∈ s.records, Ck.SmR r) := Lib.hid fun x hx => by
        obtain ⟨j, hj⟩ := List.mem_iff_getElem?.1 hx
        exact HR.out.2 j x hj (List.getElem?_eq_some_iff.1 hj).1
      go_wp2_with fail
      refine (greatServices_any H.out (HU0.out.below HR.out.1) (by have := HTOP.out.2.1; omega)).mono ?_
      rintro e w2 ⟨b, rfl, hv, hb2⟩
      have HB2 := Lib.hid (HR.out.1.trans (hb2.mono HR.out.1.size))
      obtain ⟨c0, B2⟩ := HX.out w2 HB2.out
      have HV := Lib.hid hv
      have HBW2 := Lib.hid B2
      clear hv hb2 x0 x1 x2 x3 B2
      obtain ⟨x0, x1, x2, x3⟩ := cells4' c0
      clear c0
      cases b with
      | true =>
        go_wp2_with fail
        go_ret
        exact ⟨true, rfl, fun h => (by cases h), HBW2.out⟩
      | false =>
        go_wp2_with fail
        refine (greatSagas_any H.out (HU0.out.below HB2.out) (by have := HTOP.out.2.2.1; omega)).mono ?_
        rintro e w3 ⟨b, rfl, hv, hb3⟩
        have HG3 := Lib.hid hv
        have HB3 := Lib.hid (HX.out w3 (HB2.out.trans (hb3.mono HB2.out.size))).2
        clear hv hb3 x0 x1 x2 x3
        go_wp2_with fail
        go_ret
        exact ⟨b, rfl, fun h => ⟨HTOP.out.2.2.2, HTOP.out.1, HTOP.out.2.1, HTOP.out.2.2.1, HRS.out, HV.out (by trivial), HG3.out h⟩, HB3.out⟩
end Go.Proofs.YtnkdhmoocomjfaaGreatDoor
