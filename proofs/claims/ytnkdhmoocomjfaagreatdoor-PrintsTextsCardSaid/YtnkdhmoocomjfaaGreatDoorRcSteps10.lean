/-
  Walks over the document's check: the steps' rules. Conditions: those in the theorems.
  Walks over the document's check: the steps' rules. Conditions: those in the theorems.
-/
import Derived.Test.YtnkdhmoocomjfaaGreatDoorRcMethods7
import Derived.Test.YtnkdhmoocomjfaaGreatDoorRcBottoms
set_option linter.unusedSimpArgs false
set_option linter.unusedVariables false
namespace Go.Proofs.YtnkdhmoocomjfaaGreatDoor
open Go.RowKit
def s9F (s : Ip.Sch) (g : Ip.Sga) (x : Ip.Stp × Nat) : Option ByteArray := if Ck.stepOk s g x.1 then none else some (Ck.dot g.name (Ck.num x.2))
def s9G (s : Ip.Sch) (g : Ip.Sga) : Option ByteArray := g.steps.zipIdx.findSome? (s9F s g)
theorem s9_yes {s : Ip.Sch} {g : Ip.Sga} {x : Ip.Stp} {k : Nat} (h : Ck.stepOk s g x = true) : s9F s g (x, k) = none := by unfold s9F; rw [if_pos h]
theorem s9_no {s : Ip.Sch} {g : Ip.Sga} {x : Ip.Stp} {k : Nat} (h : Ck.stepOk s g x = false) : s9F s g (x, k) = some (Ck.dot g.name (Ck.num k)) := by unfold s9F; rw [if_neg (by rw [h]; decide)]
theorem zip_at {α : Type} {l : List α} {k : Nat} (hk : k < l.length) (hz : k < l.zipIdx.length) : l.zipIdx[k] = (l[k], k) := by simp
theorem num_len {k : Nat} (hk : k < 10) : (Ck.num k).size ≤ 200 := by
  have h : ∀ k, k < 10 → (Ck.num k).size ≤ 200 := by decide
  exact h k hk
theorem step_none {s : Ip.Sch} {g : Ip.Sga} {x : Ip.Stp} (h : Ck.method s x.service x.method = none) : Ck.stepOk s g x = false := by unfold Ck.stepOk; rw [h]
theorem step_some {s : Ip.Sch} {g : Ip.Sga} {x : Ip.Stp} {z : Ip.Mth} (h : Ck.method s x.service x.method = some z) : Ck.stepOk s g x = (Ip.eqB z.arg g.arg && decide (0 ≤ x.at_) && decide (x.at_ ≤ 3)) := by unfold Ck.stepOk; rw [h]
set_option maxRecDepth 100000 in
set_option maxHeartbeats 8000000 in
theorem refSteps9_any {u w : World} {sv : Value} {s : Ip.Sch} (h : RoSch u sv s) (hu : Kp u w) (hS : Ck.Small s) (hC : ∀ g ∈ s.sagas, g.steps.length ≤ 8) : Calls Tryz.prog 51 #[sv, .int .i64 9] w (RuleR (s.sagas.findSome? (s9G s)) w) := by
  obtain ⟨p1, c1, p2, c2, p3, c3, rfl, -, -, -, hg, l1, l2, l3⟩ := sch_parts h
  obtain ⟨W0, hW0⟩ : ∃ W0, W0 = allocs w [schO s p1 c1 p2 c2 p3 c3] := ⟨_, rfl⟩
  have HX : Hid (∀ W, Below W0.heap.size W0 W → W.heap[w.heap.size]? = some (schO s p1 c1 p2 c2 p3 c3) ∧ Below w.heap.size w W) := Lib.hid (by subst hW0; exact fun W hW => ⟨allocs_box (i := 0) rfl hW, allocs_on hW⟩)
  obtain ⟨b0, B0⟩ := HX.out W0 (Below.refl _ _)
  have H := Lib.hid h
  have HU := Lib.hid (hu.below B0)
  have HG := Lib.hid hg
  have HSM := Lib.hid hS
  have HC8 := Lib.hid hC
  have m1 : s.sagas.length ≤ 100 := hS.ng
  have HMT : Hid (∀ W, Below W0.heap.size W0 W → ∀ n m : ByteArray, Calls Tryz.prog 98 #[.agg #[.string s.name, .slice p1 s.records.length c1, .slice p2 s.services.length c2, .slice p3 s.sagas.length c3], .string n, .string m] W (Fnd MthV noMth u (Ck.method s n m) W)) := Lib.hid fun W hW n m => RefMethod_any H.out (HU.out.below hW) n m
  clear h hu hS hg hC b0 B0 l1 l2 l3
  simp only [allocs, schO] at hW0
  go_enter Tryz.func51, Tryz.ntmps51
  go_upto_region 1 with fail
  rw [← hW0]
  clear hW0
  go_wp2_with fail
  go_loopw [6, 7, 8, 9, 10, 11] (fun iv _ _ _ _ _ wr => ∃ i : Nat, i ≤ s.sagas.length ∧ iv = .int .i64 (i : Nat) ∧ Hid (Below W0.heap.size W0 wr ∧ s.sagas.findSome? (s9G s) = (s.sagas.drop i).findSome? (s9G s))) (fun iv _ _ _ _ _ _ => s.sagas.length - (intOf iv).toNat)
  case atStart => exact ⟨0, Nat.zero_le _, rfl, Lib.hid ⟨Below.refl _ _, by rw [List.drop_zero]⟩⟩
  case round =>
  obtain ⟨i, hi, rfl, HQ⟩ := hrel
  obtain ⟨x0, x1, x2, x3⟩ := cells4' (HX.out _ HQ.out.1).1
  by_cases hlt : i < s.sagas.length
  · have i1 : (i : Int) < (s.sagas.length : Int) := by omega
    have i2 : (0 : Int) ≤ (i : Int) := by omega
    obtain ⟨A, cc, p, kq, e3, hA, d0, d1, d2, hin, hsub⟩ := sga_at2 HG.out (HU.out.below HQ.out.1) hlt
    cases e3
    obtain ⟨_, _, e9, hsl⟩ := ro_len hsub
    cases e9
    have HSUB := Lib.hid hsub
    have HZ := Lib.hid (HSM.out.g _ (List.getElem_mem hlt))
    have HK8 := Lib.hid (HC8.out _ (List.getElem_mem hlt))
    have HY : Hid (∀ y, s9G s s.sagas[i] = some y → s.sagas.findSome? (s9G s) = some y) := Lib.hid fun y hy => HQ.out.2.trans (Ck.some_at hlt hy)
    have HN : Hid (s9G s s.sagas[i] = none → s.sagas.findSome? (s9G s) = (s.sagas.drop (i + 1)).findSome? (s9G s)) := Lib.hid fun hy => HQ.out.2.trans (Ck.none_at hlt hy)
    clear hsub hin hA
    generalize s.sagas[i] = r at *
    obtain ⟨y, hy⟩ : ∃ y, y = wr.heap.size := ⟨_, rfl⟩
    obtain ⟨W1, hW1⟩ : ∃ W1, W1 = wr.alloc (.cells #[.string r.name, .string r.arg, .slice p r.steps.length kq] 44) := ⟨_, rfl⟩
    have HN1 : Hid (W1.heap[y]? = some (.cells #[.string r.name, .string r.arg, .slice p r.steps.length kq] 44 (0, 0))) := Lib.hid (by rw [hW1, hy]; exact heap_alloc_new wr _)
    have HB1 : Hid (Below W0.heap.size W0 W1) := Lib.hid (by rw [hW1]; exact HQ.out.1.trans ((tk_alloc wr _).mono HQ.out.1.size))
    have HL1 : Hid (y < W1.heap.size) := Lib.hid (Array.getElem?_eq_some_iff.1 HN1.out).1
    go_upto_region 5 with fail
    rw [← hW1, ← hy]
    clear hW1 hy x0 x1 x2 x3 d0 d1 d2
    go_wp2_with fail
    go_loopw [8, 9, 10, 11] (fun kv _ _ _ wq => ∃ k : Nat, k ≤ r.steps.length ∧ kv = .int .i64 (k : Nat) ∧ Hid (Below W1.heap.size W1 wq ∧ s9G s r = (r.steps.zipIdx.drop k).findSome? (s9F s r))) (fun kv _ _ _ _ => r.steps.length - (intOf kv).toNat)
    case atStart => exact ⟨0, Nat.zero_le _, rfl, Lib.hid ⟨Below.refl _ _, by rw [List.drop_zero]; rfl⟩⟩
    case round =>
    obtain ⟨k, hk, rfl, HJ⟩ := hrel
    have HBQ : Hid (Below W0.heap.size W0 wr) := Lib.hid (HB1.out.trans (HJ.out.1.mono HB1.out.size))
    obtain ⟨y0, y1, y2⟩ := cells3 ((HJ.out.1.block _ HL1.out).trans HN1.out)
    by_cases hlk : k < r.steps.length
    · have j1 : (k : Int) < (r.steps.length : Int) := by omega
      have j2 : (0 : Int) ≤ (k : Int) := by omega
      have hk8 : k < 8 := by have := HK8.out; omega
      have HKQ := Lib.hid (HU.out.below HBQ.out)
      obtain ⟨B, cb, e5, hB, g0, g1, g2, hpin⟩ := stp_at (HSUB.out.kp HKQ.out) hlk
      cases e5
      have hzl : k < r.steps.zipIdx.length := by rw [List.length_zipIdx]; exact hlk
      have hze := zip_at hlk hzl
      have HY2 : Hid (∀ y, s9F s r (r.steps[k], k) = some y → s9G s r = some y) := Lib.hid fun y hy => HJ.out.2.trans (Ck.some_at hzl (by rw [hze]; exact hy))
      have HN2 : Hid (s9F s r (r.steps[k], k) = none → s9G s r = (r.steps.zipIdx.drop (k + 1)).findSome? (s9F s r)) := Lib.hid fun hy => HJ.out.2.trans (Ck.none_at hzl (by rw [hze]; exact hy))
      have HZ1 : Hid (r.name.size ≤ 200) := Lib.hid HZ.out.1
      clear hB hpin hze hzl
      generalize r.steps[k] = f at *
      obtain ⟨y', hy'⟩ : ∃ y, y = wr.heap.size := ⟨_, rfl⟩
      obtain ⟨W2, hW2⟩ : ∃ W2, W2 = wr.alloc (.cells #[.string f.service, .string f.method, .int .i64 f.at_] 48) := ⟨_, rfl⟩
      have HN3 : Hid (W2.heap[y']? = some (.cells #[.string f.service, .string f.method, .int .i64 f.at_] 48 (0, 0))) := Lib.hid (by rw [hW2, hy']; exact heap_alloc_new wr _)
      have HB3 : Hid (Below wr.heap.size wr W2) := Lib.hid (by rw [hW2]; exact tk_alloc wr _)
      have HL3 : Hid (y' < W2.heap.size) := Lib.hid (Array.getElem?_eq_some_iff.1 HN3.out).1
      have HJ2 : Hid (Below W1.heap.size W1 W2) := Lib.hid (HJ.out.1.trans (HB3.out.mono HJ.out.1.size))
      have HQ2 : Hid (Below W0.heap.size W0 W2) := Lib.hid (HBQ.out.trans (HB3.out.mono HBQ.out.size))
      go_upto_region 9 with fail
      rw [← hW2, ← hy']
      clear hW2 hy' g0 g1 g2 y0 y1 y2
      obtain ⟨x0, x1, x2, x3⟩ := cells4' (HX.out _ HQ2.out).1
      obtain ⟨z0, z1, z2⟩ := cells3 HN3.out
      go_wp2_with fail
      refine Calls.mono (HMT.out _ HQ2.out f.service f.method) ?_
      rintro e w6 ⟨mv, rfl, ⟨rfl, -⟩, hb6⟩
      have HQ6 := Lib.hid (HQ2.out.trans (hb6.mono HQ2.out.size))
      have HJ6 := Lib.hid (HJ2.out.trans (hb6.mono HJ2.out.size))
      have HN6 := Lib.hid ((hb6.block _ HL3.out).trans HN3.out)
      have HS6 : Hid (W2.heap.size ≤ w6.heap.size) := Lib.hid hb6.size
      clear hb6 x0 x1 x2 x3 z0 z1 z2
      cases hm : Ck.method s f.service f.method with
      | none =>
        have HM := Lib.hid (step_none (g := r) hm)
        simp only [mthV, Option.getD_none, Option.isSome_none]
        obtain ⟨z, hz⟩ : ∃ z, z = noMth := ⟨_, rfl⟩
        rw [← hz]
        have HZU : Hid (Ck.empty z.undo = true) := Lib.hid (by rw [hz]; decide)
        clear hm hz
        obtain ⟨W7, hW7⟩ : ∃ W7, W7 = w6.alloc (.cells #[.string z.name, .string z.arg, .int .u8 (z.result : Nat), .string z.effect, .string z.undo] 100) := ⟨_, rfl⟩
        have HN7 : Hid (W7.heap[w6.heap.size]? = some (.cells #[.string z.name, .string z.arg, .int .u8 (z.result : Nat), .string z.effect, .string z.undo] 100 (0, 0))) := Lib.hid (by rw [hW7]; exact heap_alloc_new w6 _)
        have HB7 : Hid (Below w6.heap.size w6 W7) := Lib.hid (by rw [hW7]; exact tk_alloc w6 _)
        have HQ7 := Lib.hid (HQ6.out.trans (HB7.out.mono HQ6.out.size))
        have HJ7 := Lib.hid (HJ6.out.trans (HB7.out.mono HJ6.out.size))
        obtain ⟨y0, y1, y2⟩ := cells3 ((HJ7.out.block _ HL1.out).trans HN1.out)
        obtain ⟨z0, z1, z2⟩ := cells3 ((HB7.out.block _ (by have := HL3.out; have := HS6.out; omega)).trans HN6.out)
        obtain ⟨t0, t1, t2, t3, t4⟩ := cells5 HN7.out
        go_upto_region 10 with fail
        rw [← hW7]
        clear hW7
        have HO := Lib.hid (HY.out _ (HY2.out _ (s9_no HM.out)))
        have HC := Lib.hid (fun (W : World) (hW : Below W7.heap.size W7 W) => (cells3 ((hW.block y (Nat.lt_of_lt_of_le HL1.out HJ7.out.size)).trans ((HJ7.out.block _ HL1.out).trans HN1.out))).1)
        have hz1 := HZ1.out
        have hz2 := num_len (k := k) (by omega)
        have k4 : ¬ 9223372036854775807 < r.name.size + 1 := by omega
        have k5 : ¬ 9223372036854775807 < r.name.size + 1 + (Ck.num k).size := by omega
        have k7 : ¬ 9223372036854775807 < (r.name ++ ⟨#[46]⟩).size + (Ck.num k).size := by rw [ByteArray.size_append]; show ¬ 9223372036854775807 < r.name.size + 1 + (Ck.num k).size; omega
        clear hz1 hz2
        go_wp2_with fail
        clear y0 y1 y2 z0 z1 z2 t0 t1 t2 t3 t4
        have hc0 := HC.out _ (Below.refl _ _)
        go_region_with (go_at_call 100; refine (refNum_any k (by omega) _).mono ?_; rintro e w8 ⟨rfl, hb8⟩; have HB8 : Hid (Below W7.heap.size W7 w8) := Lib.hid (Below.trans ((Below.refl W7.heap.size W7).drew) hb8); have hc8 := HC.out _ HB8.out; clear hb8)
        all_goals
          go_wp2_with fail
          go_ret2
          exact ruleR_some HO.out (HX.out _ (HQ7.out.trans (HB8.out.mono HQ7.out.size))).2
      | some z =>
        have HM := Lib.hid (step_some (g := r) hm)
        simp only [mthV, Option.getD_some, Option.isSome_some]
        clear hm
        obtain ⟨W7, hW7⟩ : ∃ W7, W7 = w6.alloc (.cells #[.string z.name, .string z.arg, .int .u8 (z.result : Nat), .string z.effect, .string z.undo] 100) := ⟨_, rfl⟩
        have HN7 : Hid (W7.heap[w6.heap.size]? = some (.cells #[.string z.name, .string z.arg, .int .u8 (z.result : Nat), .string z.effect, .string z.undo] 100 (0, 0))) := Lib.hid (by rw [hW7]; exact heap_alloc_new w6 _)
        have HB7 : Hid (Below w6.heap.size w6 W7) := Lib.hid (by rw [hW7]; exact tk_alloc w6 _)
        have HQ7 := Lib.hid (HQ6.out.trans (HB7.out.mono HQ6.out.size))
        have HJ7 := Lib.hid (HJ6.out.trans (HB7.out.mono HJ6.out.size))
        obtain ⟨y0, y1, y2⟩ := cells3 ((HJ7.out.block _ HL1.out).trans HN1.out)
        obtain ⟨z0, z1, z2⟩ := cells3 ((HB7.out.block _ (by have := HL3.out; have := HS6.out; omega)).trans HN6.out)
        obtain ⟨t0, t1, t2, t3, t4⟩ := cells5 HN7.out
        go_upto_region 10 with fail
        rw [← hW7]
        clear hW7
        have ha := eqB_list z.arg r.arg
        cases qa : Ip.eqB z.arg r.arg with
        | false =>
          rw [qa] at ha
          have HM2 : Hid (Ck.stepOk s r f = false) := Lib.hid (HM.out.trans (by simp [qa]))
          clear qa
          have HO := Lib.hid (HY.out _ (HY2.out _ (s9_no HM2.out)))
          have HC := Lib.hid (fun (W : World) (hW : Below W7.heap.size W7 W) => (cells3 ((hW.block y (Nat.lt_of_lt_of_le HL1.out HJ7.out.size)).trans ((HJ7.out.block _ HL1.out).trans HN1.out))).1)
          have hz1 := HZ1.out
          have hz2 := num_len (k := k) (by omega)
          have k4 : ¬ 9223372036854775807 < r.name.size + 1 := by omega
          have k5 : ¬ 9223372036854775807 < r.name.size + 1 + (Ck.num k).size := by omega
          have k7 : ¬ 9223372036854775807 < (r.name ++ ⟨#[46]⟩).size + (Ck.num k).size := by rw [ByteArray.size_append]; show ¬ 9223372036854775807 < r.name.size + 1 + (Ck.num k).size; omega
          clear hz1 hz2
          go_wp2_with fail
          clear y0 y1 y2 z0 z1 z2 t0 t1 t2 t3 t4
          have hc0 := HC.out _ (Below.refl _ _)
          go_region_with (go_at_call 100; refine (refNum_any k (by omega) _).mono ?_; rintro e w8 ⟨rfl, hb8⟩; have HB8 : Hid (Below W7.heap.size W7 w8) := Lib.hid (Below.trans ((Below.refl W7.heap.size W7).drew) hb8); have hc8 := HC.out _ HB8.out; clear hb8)
          all_goals
            go_wp2_with fail
            go_ret2
            exact ruleR_some HO.out (HX.out _ (HQ7.out.trans (HB8.out.mono HQ7.out.size))).2
        | true =>
        rw [qa] at ha
        by_cases q0 : 0 ≤ f.at_
        · by_cases q3 : f.at_ ≤ 3
          · have HM2 : Hid (Ck.stepOk s r f = true) := Lib.hid (HM.out.trans (by simp [qa, q0, q3]))
            clear qa
            have HO := Lib.hid (HN2.out (s9_yes HM2.out))
            go_wp2_with fail
            go_roundw
            case rel => exact ⟨k + 1, by omega, by go_num, Lib.hid ⟨HJ7.out, HO.out⟩⟩
            case measure => simp [intOf]; omega
          · have HM2 : Hid (Ck.stepOk s r f = false) := Lib.hid (HM.out.trans (by simp [q3]))
            clear qa
            have HO := Lib.hid (HY.out _ (HY2.out _ (s9_no HM2.out)))
            have HC := Lib.hid (fun (W : World) (hW : Below W7.heap.size W7 W) => (cells3 ((hW.block y (Nat.lt_of_lt_of_le HL1.out HJ7.out.size)).trans ((HJ7.out.block _ HL1.out).trans HN1.out))).1)
            have hz1 := HZ1.out
            have hz2 := num_len (k := k) (by omega)
            have k4 : ¬ 9223372036854775807 < r.name.size + 1 := by omega
            have k5 : ¬ 9223372036854775807 < r.name.size + 1 + (Ck.num k).size := by omega
            have k7 : ¬ 9223372036854775807 < (r.name ++ ⟨#[46]⟩).size + (Ck.num k).size := by rw [ByteArray.size_append]; show ¬ 9223372036854775807 < r.name.size + 1 + (Ck.num k).size; omega
            clear hz1 hz2
            go_wp2_with fail
            clear y0 y1 y2 z0 z1 z2 t0 t1 t2 t3 t4
            have hc0 := HC.out _ (Below.refl _ _)
            go_region_with (go_at_call 100; refine (refNum_any k (by omega) _).mono ?_; rintro e w8 ⟨rfl, hb8⟩; have HB8 : Hid (Below W7.heap.size W7 w8) := Lib.hid (Below.trans ((Below.refl W7.heap.size W7).drew) hb8); have hc8 := HC.out _ HB8.out; clear hb8)
            all_goals
              go_wp2_with fail
              go_ret2
              exact ruleR_some HO.out (HX.out _ (HQ7.out.trans (HB8.out.mono HQ7.out.size))).2
        · have HM2 : Hid (Ck.stepOk s r f = false) := Lib.hid (HM.out.trans (by simp [q0]))
          clear qa
          have HO := Lib.hid (HY.out _ (HY2.out _ (s9_no HM2.out)))
          have HC := Lib.hid (fun (W : World) (hW : Below W7.heap.size W7 W) => (cells3 ((hW.block y (Nat.lt_of_lt_of_le HL1.out HJ7.out.size)).trans ((HJ7.out.block _ HL1.out).trans HN1.out))).1)
          have hz1 := HZ1.out
          have hz2 := num_len (k := k) (by omega)
          have k4 : ¬ 9223372036854775807 < r.name.size + 1 := by omega
          have k5 : ¬ 9223372036854775807 < r.name.size + 1 + (Ck.num k).size := by omega
          have k7 : ¬ 9223372036854775807 < (r.name ++ ⟨#[46]⟩).size + (Ck.num k).size := by rw [ByteArray.size_append]; show ¬ 9223372036854775807 < r.name.size + 1 + (Ck.num k).size; omega
          clear hz1 hz2
          go_wp2_with fail
          clear y0 y1 y2 z0 z1 z2 t0 t1 t2 t3 t4
          have hc0 := HC.out _ (Below.refl _ _)
          go_region_with (go_at_call 100; refine (refNum_any k (by omega) _).mono ?_; rintro e w8 ⟨rfl, hb8⟩; have HB8 : Hid (Below W7.heap.size W7 w8) := Lib.hid (Below.trans ((Below.refl W7.heap.size W7).drew) hb8); have hc8 := HC.out _ HB8.out; clear hb8)
          all_goals
            go_wp2_with fail
            go_ret2
            exact ruleR_some HO.out (HX.out _ (HQ7.out.trans (HB8.out.mono HQ7.out.size))).2
    · obtain rfl : k = r.steps.length := by omega
      have j1 : ¬ (r.steps.length : Int) < (r.steps.length : Int) := by omega
      have HO := Lib.hid (HN.out (HJ.out.2.trans (Ck.none_end (by rw [List.length_zipIdx]; exact Nat.le_refl _))))
      clear hlk
      go_wp2_with fail
      go_roundw
      case rel => exact ⟨i + 1, by omega, by go_num, Lib.hid ⟨HBQ.out, HO.out⟩⟩
      case measure => simp [intOf]; omega
  · obtain rfl : i = s.sagas.length := by omega
    have i1 : ¬ (s.sagas.length : Int) < (s.sagas.length : Int) := by omega
    have HO := Lib.hid (HQ.out.2.trans (Ck.none_end (Nat.le_refl _)))
    clear hlt hi
    go_wp2_with fail
    go_ret2
    exact ruleR_none HO.out (HX.out _ HQ.out.1).2
end Go.Proofs.YtnkdhmoocomjfaaGreatDoor
set_option linter.unusedSimpArgs false
set_option linter.unusedVariables false
namespace Go.Proofs.YtnkdhmoocomjfaaGreatDoor
open Go.RowKit
def s10F (s : Ip.Sch) (g : Ip.Sga) (x : Ip.Stp × Nat) : Option ByteArray := if x.2 + 1 = g.steps.length ∨ Ck.hasUndo s x.1 = true then none else some (Ck.dot g.name (Ck.num x.2))
def s10G (s : Ip.Sch) (g : Ip.Sga) : Option ByteArray := g.steps.zipIdx.findSome? (s10F s g)
theorem s10_last {s : Ip.Sch} {g : Ip.Sga} {x : Ip.Stp} {k : Nat} (h : k + 1 = g.steps.length) : s10F s g (x, k) = none := by unfold s10F; rw [if_pos (.inl h)]
theorem s10_yes {s : Ip.Sch} {g : Ip.Sga} {x : Ip.Stp} {k : Nat} (h : Ck.hasUndo s x = true) : s10F s g (x, k) = none := by unfold s10F; rw [if_pos (.inr h)]
theorem s10_no {s : Ip.Sch} {g : Ip.Sga} {x : Ip.Stp} {k : Nat} (h0 : ¬ k + 1 = g.steps.length) (h : Ck.hasUndo s x = false) : s10F s g (x, k) = some (Ck.dot g.name (Ck.num k)) := by unfold s10F; rw [if_neg (by rw [h]; simp [h0])]
theorem undo_none {s : Ip.Sch} {x : Ip.Stp} (h : Ck.method s x.service x.method = none) : Ck.hasUndo s x = false := by unfold Ck.hasUndo; rw [h]
theorem undo_some {s : Ip.Sch} {x : Ip.Stp} {z : Ip.Mth} (h : Ck.method s x.service x.method = some z) : Ck.hasUndo s x = !Ck.empty z.undo := by unfold Ck.hasUndo; rw [h]
set_option maxRecDepth 100000 in
set_option maxHeartbeats 8000000 in
theorem refSteps10_any {u w : World} {sv : Value} {s : Ip.Sch} (h : RoSch u sv s) (hu : Kp u w) (hS : Ck.Small s) (hC : ∀ g ∈ s.sagas, g.steps.length ≤ 8) : Calls Tryz.prog 51 #[sv, .int .i64 10] w (RuleR (s.sagas.findSome? (s10G s)) w) := by
  obtain ⟨p1, c1, p2, c2, p3, c3, rfl, -, -, -, hg, l1, l2, l3⟩ := sch_parts h
  obtain ⟨W0, hW0⟩ : ∃ W0, W0 = allocs w [schO s p1 c1 p2 c2 p3 c3] := ⟨_, rfl⟩
  have HX : Hid (∀ W, Below W0.heap.size W0 W → W.heap[w.heap.size]? = some (schO s p1 c1 p2 c2 p3 c3) ∧ Below w.heap.size w W) := Lib.hid (by subst hW0; exact fun W hW => ⟨allocs_box (i := 0) rfl hW, allocs_on hW⟩)
  obtain ⟨b0, B0⟩ := HX.out W0 (Below.refl _ _)
  have H := Lib.hid h
  have HU := Lib.hid (hu.below B0)
  have HG := Lib.hid hg
  have HSM := Lib.hid hS
  have HC8 := Lib.hid hC
  have m1 : s.sagas.length ≤ 100 := hS.ng
  have HMT : Hid (∀ W, Below W0.heap.size W0 W → ∀ n m : ByteArray, Calls Tryz.prog 98 #[.agg #[.string s.name, .slice p1 s.records.length c1, .slice p2 s.services.length c2, .slice p3 s.sagas.length c3], .string n, .string m] W (Fnd MthV noMth u (Ck.method s n m) W)) := Lib.hid fun W hW n m => RefMethod_any H.out (HU.out.below hW) n m
  clear h hu hS hg hC b0 B0 l1 l2 l3
  simp only [allocs, schO] at hW0
  go_enter Tryz.func51, Tryz.ntmps51
  go_upto_region 1 with fail
  rw [← hW0]
  clear hW0
  go_wp2_with fail
  go_loopw [6, 7, 8, 9, 10, 11] (fun iv _ _ _ _ _ wr => ∃ i : Nat, i ≤ s.sagas.length ∧ iv = .int .i64 (i : Nat) ∧ Hid (Below W0.heap.size W0 wr ∧ s.sagas.findSome? (s10G s) = (s.sagas.drop i).findSome? (s10G s))) (fun iv _ _ _ _ _ _ => s.sagas.length - (intOf iv).toNat)
  case atStart => exact ⟨0, Nat.zero_le _, rfl, Lib.hid ⟨Below.refl _ _, by rw [List.drop_zero]⟩⟩
  case round =>
  obtain ⟨i, hi, rfl, HQ⟩ := hrel
  obtain ⟨x0, x1, x2, x3⟩ := cells4' (HX.out _ HQ.out.1).1
  by_cases hlt : i < s.sagas.length
  · have i1 : (i : Int) < (s.sagas.length : Int) := by omega
    have i2 : (0 : Int) ≤ (i : Int) := by omega
    obtain ⟨A, cc, p, kq, e3, hA, d0, d1, d2, hin, hsub⟩ := sga_at2 HG.out (HU.out.below HQ.out.1) hlt
    cases e3
    obtain ⟨_, _, e9, hsl⟩ := ro_len hsub
    cases e9
    have HSUB := Lib.hid hsub
    have HZ := Lib.hid (HSM.out.g _ (List.getElem_mem hlt))
    have HK8 := Lib.hid (HC8.out _ (List.getElem_mem hlt))
    have HY : Hid (∀ y, s10G s s.sagas[i] = some y → s.sagas.findSome? (s10G s) = some y) := Lib.hid fun y hy => HQ.out.2.trans (Ck.some_at hlt hy)
    have HN : Hid (s10G s s.sagas[i] = none → s.sagas.findSome? (s10G s) = (s.sagas.drop (i + 1)).findSome? (s10G s)) := Lib.hid fun hy => HQ.out.2.trans (Ck.none_at hlt hy)
    clear hsub hin hA
    generalize s.sagas[i] = r at *
    obtain ⟨y, hy⟩ : ∃ y, y = wr.heap.size := ⟨_, rfl⟩
    obtain ⟨W1, hW1⟩ : ∃ W1, W1 = wr.alloc (.cells #[.string r.name, .string r.arg, .slice p r.steps.length kq] 44) := ⟨_, rfl⟩
    have HN1 : Hid (W1.heap[y]? = some (.cells #[.string r.name, .string r.arg, .slice p r.steps.length kq] 44 (0, 0))) := Lib.hid (by rw [hW1, hy]; exact heap_alloc_new wr _)
    have HB1 : Hid (Below W0.heap.size W0 W1) := Lib.hid (by rw [hW1]; exact HQ.out.1.trans ((tk_alloc wr _).mono HQ.out.1.size))
    have HL1 : Hid (y < W1.heap.size) := Lib.hid (Array.getElem?_eq_some_iff.1 HN1.out).1
    go_upto_region 5 with fail
    rw [← hW1, ← hy]
    clear hW1 hy x0 x1 x2 x3 d0 d1 d2
    go_wp2_with fail
    go_loopw [8, 9, 10, 11] (fun kv _ _ _ wq => ∃ k : Nat, k ≤ r.steps.length ∧ kv = .int .i64 (k : Nat) ∧ Hid (Below W1.heap.size W1 wq ∧ s10G s r = (r.steps.zipIdx.drop k).findSome? (s10F s r))) (fun kv _ _ _ _ => r.steps.length - (intOf kv).toNat)
    case atStart => exact ⟨0, Nat.zero_le _, rfl, Lib.hid ⟨Below.refl _ _, by rw [List.drop_zero]; rfl⟩⟩
    case round =>
    obtain ⟨k, hk, rfl, HJ⟩ := hrel
    have HBQ : Hid (Below W0.heap.size W0 wr) := Lib.hid (HB1.out.trans (HJ.out.1.mono HB1.out.size))
    obtain ⟨y0, y1, y2⟩ := cells3 ((HJ.out.1.block _ HL1.out).trans HN1.out)
    by_cases hlk : k < r.steps.length
    · have j1 : (k : Int) < (r.steps.length : Int) := by omega
      have j2 : (0 : Int) ≤ (k : Int) := by omega
      have hk8 : k < 8 := by have := HK8.out; omega
      have HKQ := Lib.hid (HU.out.below HBQ.out)
      obtain ⟨B, cb, e5, hB, g0, g1, g2, hpin⟩ := stp_at (HSUB.out.kp HKQ.out) hlk
      cases e5
      have hzl : k < r.steps.zipIdx.length := by rw [List.length_zipIdx]; exact hlk
      have hze := zip_at hlk hzl
      have HY2 : Hid (∀ y, s10F s r (r.steps[k], k) = some y → s10G s r = some y) := Lib.hid fun y hy => HJ.out.2.trans (Ck.some_at hzl (by rw [hze]; exact hy))
      have HN2 : Hid (s10F s r (r.steps[k], k) = none → s10G s r = (r.steps.zipIdx.drop (k + 1)).findSome? (s10F s r)) := Lib.hid fun hy => HJ.out.2.trans (Ck.none_at hzl (by rw [hze]; exact hy))
      have HZ1 : Hid (r.name.size ≤ 200) := Lib.hid HZ.out.1
      clear hB hpin hze hzl
      generalize r.steps[k] = f at *
      obtain ⟨y', hy'⟩ : ∃ y, y = wr.heap.size := ⟨_, rfl⟩
      obtain ⟨W2, hW2⟩ : ∃ W2, W2 = wr.alloc (.cells #[.string f.service, .string f.method, .int .i64 f.at_] 48) := ⟨_, rfl⟩
      have HN3 : Hid (W2.heap[y']? = some (.cells #[.string f.service, .string f.method, .int .i64 f.at_] 48 (0, 0))) := Lib.hid (by rw [hW2, hy']; exact heap_alloc_new wr _)
      have HB3 : Hid (Below wr.heap.size wr W2) := Lib.hid (by rw [hW2]; exact tk_alloc wr _)
      have HL3 : Hid (y' < W2.heap.size) := Lib.hid (Array.getElem?_eq_some_iff.1 HN3.out).1
      have HJ2 : Hid (Below W1.heap.size W1 W2) := Lib.hid (HJ.out.1.trans (HB3.out.mono HJ.out.1.size))
      have HQ2 : Hid (Below W0.heap.size W0 W2) := Lib.hid (HBQ.out.trans (HB3.out.mono HBQ.out.size))
      go_upto_region 9 with fail
      rw [← hW2, ← hy']
      clear hW2 hy' g0 g1 g2 y0 y1 y2
      obtain ⟨x0, x1, x2, x3⟩ := cells4' (HX.out _ HQ2.out).1
      obtain ⟨z0, z1, z2⟩ := cells3 HN3.out
      go_wp2_with fail
      refine Calls.mono (HMT.out _ HQ2.out f.service f.method) ?_
      rintro e w6 ⟨mv, rfl, ⟨rfl, -⟩, hb6⟩
      have HQ6 := Lib.hid (HQ2.out.trans (hb6.mono HQ2.out.size))
      have HJ6 := Lib.hid (HJ2.out.trans (hb6.mono HJ2.out.size))
      have HN6 := Lib.hid ((hb6.block _ HL3.out).trans HN3.out)
      have HS6 : Hid (W2.heap.size ≤ w6.heap.size) := Lib.hid hb6.size
      clear hb6 x0 x1 x2 x3 z0 z1 z2
      cases hm : Ck.method s f.service f.method with
      | none =>
        have HM := Lib.hid (undo_none hm)
        simp only [mthV, Option.getD_none, Option.isSome_none]
        obtain ⟨z, hz⟩ : ∃ z, z = noMth := ⟨_, rfl⟩
        rw [← hz]
        have HZU : Hid (Ck.empty z.undo = true) := Lib.hid (by rw [hz]; decide)
        clear hm hz
        obtain ⟨W7, hW7⟩ : ∃ W7, W7 = w6.alloc (.cells #[.string z.name, .string z.arg, .int .u8 (z.result : Nat), .string z.effect, .string z.undo] 100) := ⟨_, rfl⟩
        have HN7 : Hid (W7.heap[w6.heap.size]? = some (.cells #[.string z.name, .string z.arg, .int .u8 (z.result : Nat), .string z.effect, .string z.undo] 100 (0, 0))) := Lib.hid (by rw [hW7]; exact heap_alloc_new w6 _)
        have HB7 : Hid (Below w6.heap.size w6 W7) := Lib.hid (by rw [hW7]; exact tk_alloc w6 _)
        have HQ7 := Lib.hid (HQ6.out.trans (HB7.out.mono HQ6.out.size))
        have HJ7 := Lib.hid (HJ6.out.trans (HB7.out.mono HJ6.out.size))
        obtain ⟨y0, y1, y2⟩ := cells3 ((HJ7.out.block _ HL1.out).trans HN1.out)
        obtain ⟨z0, z1, z2⟩ := cells3 ((HB7.out.block _ (by have := HL3.out; have := HS6.out; omega)).trans HN6.out)
        obtain ⟨t0, t1, t2, t3, t4⟩ := cells5 HN7.out
        go_upto_region 10 with fail
        rw [← hW7]
        clear hW7
        by_cases hlast : k + 1 = r.steps.length
        · have i5 : ((k : Int) == (r.steps.length : Int) - 1) = true := by rw [beq_iff_eq]; omega
          have HLA := Lib.hid (s10_last (s := s) (x := f) hlast)
          clear hlast
          have HO := Lib.hid (HN2.out (HLA.out))
          go_wp2_with fail
          go_roundw
          case rel => exact ⟨k + 1, by omega, by go_num, Lib.hid ⟨HJ7.out, HO.out⟩⟩
          case measure => simp [intOf]; omega
        have i5 : ((k : Int) == (r.steps.length : Int) - 1) = false := by rw [beq_eq_false_iff_ne]; omega
        have HLA := Lib.hid hlast
        clear hlast
        have he := empty_is z.undo
        rw [HZU.out] at he
        have HO := Lib.hid (HY.out _ (HY2.out _ (s10_no HLA.out HM.out)))
        have HC := Lib.hid (fun (W : World) (hW : Below W7.heap.size W7 W) => (cells3 ((hW.block y (Nat.lt_of_lt_of_le HL1.out HJ7.out.size)).trans ((HJ7.out.block _ HL1.out).trans HN1.out))).1)
        have hz1 := HZ1.out
        have hz2 := num_len (k := k) (by omega)
        have k4 : ¬ 9223372036854775807 < r.name.size + 1 := by omega
        have k5 : ¬ 9223372036854775807 < r.name.size + 1 + (Ck.num k).size := by omega
        have k7 : ¬ 9223372036854775807 < (r.name ++ ⟨#[46]⟩).size + (Ck.num k).size := by rw [ByteArray.size_append]; show ¬ 9223372036854775807 < r.name.size + 1 + (Ck.num k).size; omega
        clear hz1 hz2
        go_wp2_with fail
        clear y0 y1 y2 z0 z1 z2 t0 t1 t2 t3 t4
        have hc0 := HC.out _ (Below.refl _ _)
        go_region_with (go_at_call 100; refine (refNum_any k (by omega) _).mono ?_; rintro e w8 ⟨rfl, hb8⟩; have HB8 : Hid (Below W7.heap.size W7 w8) := Lib.hid (Below.trans ((Below.refl W7.heap.size W7).drew) hb8); have hc8 := HC.out _ HB8.out; clear hb8)
        all_goals
          go_wp2_with fail
          go_ret2
          exact ruleR_some HO.out (HX.out _ (HQ7.out.trans (HB8.out.mono HQ7.out.size))).2
      | some z =>
        have HM := Lib.hid (undo_some hm)
        simp only [mthV, Option.getD_some, Option.isSome_some]
        clear hm
        obtain ⟨W7, hW7⟩ : ∃ W7, W7 = w6.alloc (.cells #[.string z.name, .string z.arg, .int .u8 (z.result : Nat), .string z.effect, .string z.undo] 100) := ⟨_, rfl⟩
        have HN7 : Hid (W7.heap[w6.heap.size]? = some (.cells #[.string z.name, .string z.arg, .int .u8 (z.result : Nat), .string z.effect, .string z.undo] 100 (0, 0))) := Lib.hid (by rw [hW7]; exact heap_alloc_new w6 _)
        have HB7 : Hid (Below w6.heap.size w6 W7) := Lib.hid (by rw [hW7]; exact tk_alloc w6 _)
        have HQ7 := Lib.hid (HQ6.out.trans (HB7.out.mono HQ6.out.size))
        have HJ7 := Lib.hid (HJ6.out.trans (HB7.out.mono HJ6.out.size))
        obtain ⟨y0, y1, y2⟩ := cells3 ((HJ7.out.block _ HL1.out).trans HN1.out)
        obtain ⟨z0, z1, z2⟩ := cells3 ((HB7.out.block _ (by have := HL3.out; have := HS6.out; omega)).trans HN6.out)
        obtain ⟨t0, t1, t2, t3, t4⟩ := cells5 HN7.out
        go_upto_region 10 with fail
        rw [← hW7]
        clear hW7
        by_cases hlast : k + 1 = r.steps.length
        · have i5 : ((k : Int) == (r.steps.length : Int) - 1) = true := by rw [beq_iff_eq]; omega
          have HLA := Lib.hid (s10_last (s := s) (x := f) hlast)
          clear hlast
          have HO := Lib.hid (HN2.out (HLA.out))
          go_wp2_with fail
          go_roundw
          case rel => exact ⟨k + 1, by omega, by go_num, Lib.hid ⟨HJ7.out, HO.out⟩⟩
          case measure => simp [intOf]; omega
        have i5 : ((k : Int) == (r.steps.length : Int) - 1) = false := by rw [beq_eq_false_iff_ne]; omega
        have HLA := Lib.hid hlast
        clear hlast
        have he := empty_is z.undo
        cases qe : Ck.empty z.undo with
        | true =>
          rw [qe] at he
          have HM2 : Hid (Ck.hasUndo s f = false) := Lib.hid (HM.out.trans (by rw [qe]; rfl))
          clear qe
          have HO := Lib.hid (HY.out _ (HY2.out _ (s10_no HLA.out HM2.out)))
          have HC := Lib.hid (fun (W : World) (hW : Below W7.heap.size W7 W) => (cells3 ((hW.block y (Nat.lt_of_lt_of_le HL1.out HJ7.out.size)).trans ((HJ7.out.block _ HL1.out).trans HN1.out))).1)
          have hz1 := HZ1.out
          have hz2 := num_len (k := k) (by omega)
          have k4 : ¬ 9223372036854775807 < r.name.size + 1 := by omega
          have k5 : ¬ 9223372036854775807 < r.name.size + 1 + (Ck.num k).size := by omega
          have k7 : ¬ 9223372036854775807 < (r.name ++ ⟨#[46]⟩).size + (Ck.num k).size := by rw [ByteArray.size_append]; show ¬ 9223372036854775807 < r.name.size + 1 + (Ck.num k).size; omega
          clear hz1 hz2
          go_wp2_with fail
          clear y0 y1 y2 z0 z1 z2 t0 t1 t2 t3 t4
          have hc0 := HC.out _ (Below.refl _ _)
          go_region_with (go_at_call 100; refine (refNum_any k (by omega) _).mono ?_; rintro e w8 ⟨rfl, hb8⟩; have HB8 : Hid (Below W7.heap.size W7 w8) := Lib.hid (Below.trans ((Below.refl W7.heap.size W7).drew) hb8); have hc8 := HC.out _ HB8.out; clear hb8)
          all_goals
            go_wp2_with fail
            go_ret2
            exact ruleR_some HO.out (HX.out _ (HQ7.out.trans (HB8.out.mono HQ7.out.size))).2
        | false =>
          rw [qe] at he
          have HM2 : Hid (Ck.hasUndo s f = true) := Lib.hid (HM.out.trans (by rw [qe]; rfl))
          clear qe
          have HO := Lib.hid (HN2.out (s10_yes HM2.out))
          go_wp2_with fail
          go_roundw
          case rel => exact ⟨k + 1, by omega, by go_num, Lib.hid ⟨HJ7.out, HO.out⟩⟩
          case measure => simp [intOf]; omega
    · obtain rfl : k = r.steps.length := by omega
      have j1 : ¬ (r.steps.length : Int) < (r.steps.length : Int) := by omega
      have HO := Lib.hid (HN.out (HJ.out.2.trans (Ck.none_end (by rw [List.length_zipIdx]; exact Nat.le_refl _))))
      clear hlk
      go_wp2_with fail
      go_roundw
      case rel => exact ⟨i + 1, by omega, by go_num, Lib.hid ⟨HBQ.out, HO.out⟩⟩
      case measure => simp [intOf]; omega
  · obtain rfl : i = s.sagas.length := by omega
    have i1 : ¬ (s.sagas.length : Int) < (s.sagas.length : Int) := by omega
    have HO := Lib.hid (HQ.out.2.trans (Ck.none_end (Nat.le_refl _)))
    clear hlt hi
    go_wp2_with fail
    go_ret2
    exact ruleR_none HO.out (HX.out _ HQ.out.1).2
end Go.Proofs.YtnkdhmoocomjfaaGreatDoor
