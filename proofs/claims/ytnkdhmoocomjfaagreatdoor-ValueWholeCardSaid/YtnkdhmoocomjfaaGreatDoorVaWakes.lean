/-
  Walks over the law package of value: an order is read. Conditions: those in the theorems.
-/
import Derived.Test.YtnkdhmoocomjfaaGreatDoorVaOrder
import Derived.Test.YtnkdhmoocomjfaaGreatDoorCkWakes
import Derived.Deep.RegionHeldLaw
set_option linter.unusedSimpArgs false
set_option linter.unusedVariables false
namespace Vl
def orderL : List Nd := [⟨7, 0, ⟨#[]⟩, 3⟩, ⟨4, 0, ⟨#[120]⟩, 0⟩, ⟨3, 5, ⟨#[]⟩, 0⟩, ⟨6, 0, ⟨#[]⟩, 0⟩]
theorem types_O : types Ck.shopS [⟨7, ⟨#[79]⟩⟩] = 0 := by
  unfold types
  rw [Ck.shop_right]
  have : Ck.right Ck.shopS [⟨7, ⟨#[79]⟩⟩] = true := by kernel_rfl
  rw [this]; rfl
theorem fit_O : fit Ck.shopS [⟨7, ⟨#[79]⟩⟩] orderL = 0 := by kernel_rfl
theorem fit_O3 : fit Ck.shopS [⟨7, ⟨#[79]⟩⟩] (orderL.take 3) = 150 := by kernel_rfl
theorem fits_O : fits Ck.shopS [⟨7, ⟨#[79]⟩⟩] orderL = 0 := by unfold fits; rw [types_O, fit_O]; rfl
theorem fits_O3 : fits Ck.shopS [⟨7, ⟨#[79]⟩⟩] (orderL.take 3) = 150 := by unfold fits; rw [types_O, fit_O3]; rfl
theorem end_O : endOf orderL 0 = 4 := by kernel_rfl
end Vl
namespace Go.Proofs.YtnkdhmoocomjfaaGreatDoor
open Go.RowKit
theorem order_O : Vl.orderV Ck.shopS ⟨#[79]⟩ Vl.orderL = some (⟨#[120]⟩, 5) := by
  unfold Vl.orderV
  rw [Vl.fits_O]
  kernel_rfl
theorem orderL_in : ∀ x ∈ Vl.orderL, NdIn x := by
  intro x hx
  unfold Vl.orderL at hx
  simp only [List.mem_cons, List.not_mem_nil, or_false] at hx
  rcases hx with rfl | rfl | rfl | rfl <;> (refine ⟨by decide, ?_, by show _ ≤ maxLen; decide, ?_⟩ <;> (unfold I64; decide))
theorem named_any (W : World) (nm : ByteArray) (hn : nm.size ≤ 6000) : Calls Tryz.prog 65 #[.string nm] W fun e w' => e = .returned (.slice (some ⟨W.heap.size, 0, none⟩) 1 1) ∧ Below W.heap.size W w' ∧ RoSo w' (.slice (some ⟨W.heap.size, 0, none⟩) 1 1) [⟨7, nm⟩] := by
  obtain ⟨W1, hW1⟩ : ∃ V, V = W.alloc (.cells #[.int .u8 7, .string nm] 41) := ⟨_, rfl⟩
  have HT : Hid (RoSo W1 (.slice (some ⟨W.heap.size, 0, none⟩) 1 1) [⟨7, nm⟩]) := Lib.hid (so_one (x := ⟨7, nm⟩) (T := 41) (by rw [hW1]; exact heap_alloc_new W _) ⟨by show (7 : Nat) < 256; decide, by show nm.size ≤ maxLen; unfold maxLen; omega⟩)
  have HB : Hid (Below W.heap.size W W1) := Lib.hid (by rw [hW1]; exact tk_alloc W _)
  go_enter Tryz.func65, Tryz.ntmps65
  go_wp2_with fail
  go_ret
  rw [← hW1]
  exact ⟨rfl, HB.out, HT.out⟩
theorem nd_four {W : World} {b : Nat} {T : TypeId} (h : W.heap[b]? = some (.cells #[.int .u8 7, .int .i64 0, .string ⟨#[]⟩, .int .i64 3, .int .u8 4, .int .i64 0, .string ⟨#[120]⟩, .int .i64 0, .int .u8 3, .int .i64 5, .string ⟨#[]⟩, .int .i64 0, .int .u8 6, .int .i64 0, .string ⟨#[]⟩, .int .i64 0] T (0, 0))) : RoNd W (.slice (some ⟨b, 0, none⟩) 4 4) Vl.orderL := by
  refine ⟨_, _, rfl, Nat.le_refl _, by decide, fun i hi => ?_⟩
  have hi2 : i < 4 := hi
  refine ⟨_, .slice none 0 0, rfl, (Array.getElem?_eq_some_iff.1 h).1, trivial, ?_, fun j hj => ?_⟩
  · exact orderL_in _ (List.getElem_mem _)
  · have hj2 : j < 4 := hj
    have e : (⟨b, 0, none⟩ : Addr).add (i * kNd.k + j) = ⟨b, i * 4 + j, none⟩ := by
      unfold Addr.add
      simp [kNd]
      try omega
    rw [e, cell_of_row _ b _ _ _ _ h]
    rcases (by omega : i = 0 ∨ i = 1 ∨ i = 2 ∨ i = 3) with rfl | rfl | rfl | rfl <;> rcases (by omega : j = 0 ∨ j = 1 ∨ j = 2 ∨ j = 3) with rfl | rfl | rfl | rfl <;> rfl
set_option maxRecDepth 100000 in
set_option maxHeartbeats 16000000 in
theorem wakes15_any (w : World) (hk : KwIs w) : Calls Tryz.prog 27 #[] w fun e w' => e = .returned (.bool true) ∧ Below w.heap.size w w' := by
  obtain ⟨W0, hW0⟩ : ∃ V, V = w.alloc (.cells #[.int .u8 7, .int .i64 0, .string ⟨#[]⟩, .int .i64 3, .int .u8 4, .int .i64 0, .string ⟨#[120]⟩, .int .i64 0, .int .u8 3, .int .i64 5, .string ⟨#[]⟩, .int .i64 0, .int .u8 6, .int .i64 0, .string ⟨#[]⟩, .int .i64 0] 71) := ⟨_, rfl⟩
  have HB0 : Hid (Below w.heap.size w W0) := Lib.hid (by rw [hW0]; exact tk_alloc w _)
  have HV : Hid (RoNd W0 (.slice (some ⟨w.heap.size, 0, none⟩) 4 4) Vl.orderL) := Lib.hid (nd_four (T := 71) (by rw [hW0]; exact heap_alloc_new w _))
  have HK0 := Lib.hid (kw_kp hk (Kp.of_below HB0.out))
  clear hk
  go_enter Tryz.func27, Tryz.ntmps27
  go_upto_region 2 with fail
  rw [← hW0]
  clear hW0
  go_wp2_with fail
  refine Calls.mono (Shop_any _) ?_
  rintro e w1 ⟨vr, vs, vg, rfl, h1, h2, h3, hb1⟩
  have HS1 := Lib.hid (sch_ro h1 h2 h3)
  obtain ⟨s, hs⟩ : ∃ s, s = Ck.shopS := ⟨_, rfl⟩
  obtain ⟨l, hl⟩ : ∃ l, l = Vl.orderL := ⟨_, rfl⟩
  have HSM : Hid (Ck.Small s) := Lib.hid (by rw [hs]; exact shop_smallS)
  have HOR : Hid (Vl.orderV s ⟨#[79]⟩ l = some (⟨#[120]⟩, 5)) := Lib.hid (by rw [hs, hl]; exact order_O)
  have HFT : Hid (Vl.fits s [⟨7, ⟨#[79]⟩⟩] l = 0) := Lib.hid (by rw [hs, hl]; exact Vl.fits_O)
  have HFT3 : Hid (Vl.fits s [⟨7, ⟨#[79]⟩⟩] (l.take 3) = 150) := Lib.hid (by rw [hs, hl]; exact Vl.fits_O3)
  have HEN : Hid (Vl.endOf l 0 = 4) := Lib.hid (by rw [hl]; exact Vl.end_O)
  have HLL : Hid (l.length = 4) := Lib.hid (by rw [hl]; rfl)
  have HLT : Hid (∀ n ∈ l, n.text.size ≤ 100000) := Lib.hid (by rw [hl]; intro n hn; unfold Vl.orderL at hn; simp only [List.mem_cons, List.not_mem_nil, or_false] at hn; rcases hn with rfl | rfl | rfl | rfl <;> decide)
  rw [← hl] at HV
  obtain ⟨p1, c1, rfl, -⟩ := h1.shape
  obtain ⟨p2, c2, rfl, -⟩ := h2.shape
  obtain ⟨p3, c3, rfl, -⟩ := h3.shape
  clear h1 h2 h3 hl
  rw [← hs] at *
  clear hs
  have hb01 := hb1
  obtain ⟨W2, hW2⟩ : ∃ V, V = w1.alloc (schO s p1 c1 p2 c2 p3 c3) := ⟨_, rfl⟩
  have hb2 : Below w1.heap.size w1 W2 := by rw [hW2]; exact tk_alloc w1 _
  have HN2 : Hid (W2.heap[w1.heap.size]? = some (schO s p1 c1 p2 c2 p3 c3)) := Lib.hid (by rw [hW2]; exact heap_alloc_new w1 _)
  have HB2 := Lib.hid (hb01.trans (hb2.mono hb01.size))
  have HS2 := Lib.hid (HS1.out.below hb2)
  have HV2 := Lib.hid (HV.out.below HB2.out)
  have HK2 := Lib.hid (kw_kp HK0.out (Kp.of_below HB2.out))
  clear hb1 hb2 hb01 HS1
  obtain ⟨x0, x1, x2, x3⟩ := cells4' HN2.out
  have HNL : Hid ((⟨#[79]⟩ : ByteArray).size ≤ 6000) := Lib.hid (by decide)
  unfold schO at hW2
  go_upto_region 3 with fail
  rw [← hW2]
  clear hW2
  go_wp2_with fail
  refine Calls.mono (Order_any HS2.out HV2.out (Kp.refl W2) HK2.out HSM.out HNL.out (by rw [HLL.out]; decide) HLT.out) ?_
  rintro e w3 ⟨hb3, rfl⟩
  rw [HOR.out]
  simp only [Option.getD_some, Option.isSome_some]
  have HB3 := Lib.hid hb3
  have HD0 : Hid (Below W2.heap.size W2 w3.drew) := Lib.hid hb3.drew
  clear hb3 x0 x1 x2 x3
  have HC : Hid (∀ V, Below W2.heap.size W2 V → V.cell? ⟨w1.heap.size, 0, none⟩ = some (.string s.name) ∧ V.cell? ⟨w1.heap.size, 1, none⟩ = some (.slice p1 s.records.length c1) ∧ V.cell? ⟨w1.heap.size, 2, none⟩ = some (.slice p2 s.services.length c2) ∧ V.cell? ⟨w1.heap.size, 3, none⟩ = some (.slice p3 s.sagas.length c3)) := Lib.hid fun V hV => cells4' (box_keep hV HN2.out)
  have HNM : Hid (∀ V, Below W2.heap.size W2 V → Calls Tryz.prog 65 #[.string ⟨#[79]⟩] V fun e w' => e = .returned (.slice (some ⟨V.heap.size, 0, none⟩) 1 1) ∧ Below W2.heap.size W2 w' ∧ RoSo w' (.slice (some ⟨V.heap.size, 0, none⟩) 1 1) [⟨7, ⟨#[79]⟩⟩]) := Lib.hid fun V hV => (named_any V ⟨#[79]⟩ HNL.out).mono fun e w' ⟨h1, h2, h3⟩ => ⟨h1, hV.trans (h2.mono hV.size), h3⟩
  have HF1 : Hid (∀ V tv, Below W2.heap.size W2 V → RoSo V tv [⟨7, ⟨#[79]⟩⟩] → Calls Tryz.prog 28 #[.agg #[.string s.name, .slice p1 s.records.length c1, .slice p2 s.services.length c2, .slice p3 s.sagas.length c3], tv, .slice (some ⟨w.heap.size, 0, none⟩) 4 4] V fun e w' => e = .returned (.int .i64 0) ∧ Below W2.heap.size W2 w') := Lib.hid fun V tv hV ht => (Fits_any (HS2.out.kp (Kp.of_below hV)) ht (HV2.out.kp (Kp.of_below hV)) (Kp.refl V) (kw_kp HK2.out (Kp.of_below hV)) HSM.out (by rw [HLL.out]; decide) HLT.out).mono fun e w' ⟨h1, h2⟩ => ⟨by rw [h1, HFT.out]; rfl, hV.trans (h2.mono hV.size)⟩
  have HF3 : Hid (∀ V tv, Below W2.heap.size W2 V → RoSo V tv [⟨7, ⟨#[79]⟩⟩] → Calls Tryz.prog 28 #[.agg #[.string s.name, .slice p1 s.records.length c1, .slice p2 s.services.length c2, .slice p3 s.sagas.length c3], tv, .slice (some ⟨w.heap.size, 0, none⟩) 3 4] V fun e w' => e = .returned (.int .i64 150) ∧ Below W2.heap.size W2 w') := Lib.hid fun V tv hV ht => (Fits_any (HS2.out.kp (Kp.of_below hV)) ht (RoIs.take (i := 3) (HV2.out.kp (Kp.of_below hV)) (by decide)) (Kp.refl V) (kw_kp HK2.out (Kp.of_below hV)) HSM.out (by rw [List.length_take, HLL.out]; decide) (fun n hn => HLT.out n (List.mem_of_mem_take hn))).mono fun e w' ⟨h1, h2⟩ => ⟨by rw [h1, HFT3.out]; rfl, hV.trans (h2.mono hV.size)⟩
  have HE1 : Hid (∀ V, Below W2.heap.size W2 V → Calls Tryz.prog 30 #[.slice (some ⟨w.heap.size, 0, none⟩) 4 4, .int .i64 0] V fun e w' => e = .returned (.int .i64 4) ∧ w' = V) := Lib.hid fun V hV => (End_any (HV2.out.kp (Kp.of_below hV)) (by rw [HLL.out]; decide) 0 (by unfold I64; decide)).mono fun e w' ⟨h1, h2⟩ => ⟨by rw [h1, HEN.out], h2⟩
  go_upto_region 4 with fail
  go_region_held_law (fun V => V.cell? ⟨w1.heap.size, 0, none⟩ = some (.string s.name) ∧ V.cell? ⟨w1.heap.size, 1, none⟩ = some (.slice p1 s.records.length c1) ∧ V.cell? ⟨w1.heap.size, 2, none⟩ = some (.slice p2 s.services.length c2) ∧ V.cell? ⟨w1.heap.size, 3, none⟩ = some (.slice p3 s.sagas.length c3))
    (first | exact HC.out _ hb8 | exact HC.out _ hb7 | exact HC.out _ hb6 | exact HC.out _ hb5 | exact HC.out _ HD0.out)
    (first
      | (go_at_call 30; refine (HE1.out w8 hb8).mono ?_; rintro e w9 ⟨rfl, hw9⟩; rw [hw9]; clear hw9 w9)
      | (go_at_call 28; refine (HF3.out w7 _ hb7 hr7).mono ?_; rintro e w8 ⟨rfl, hb8⟩)
      | (go_at_call 65; refine (HNM.out w6 hb6).mono ?_; rintro e w7 ⟨rfl, hb7, hr7⟩)
      | (go_at_call 28; refine (HF1.out w5 _ hb5 hr5).mono ?_; rintro e w6 ⟨rfl, hb6⟩)
      | (go_at_call 65; refine (HNM.out w3.drew HD0.out).mono ?_; rintro e w5 ⟨rfl, hb5, hr5⟩)
      | fail)
  all_goals
    go_wp2_with fail
    go_ret
    exact ⟨rfl, HB0.out.trans ((HB2.out.trans (hb8.mono HB2.out.size)).mono HB0.out.size)⟩
end Go.Proofs.YtnkdhmoocomjfaaGreatDoor
