/-
  Walks over the laws of package prints: a schema's text and its fingerprint are those of the document. Conditions: those in the theorems (the keywords' variable holds what the row lists).
-/
import Derived.Test.YtnkdhmoocomjfaaGreatDoorPrRefText
set_option linter.unusedSimpArgs false
set_option linter.unusedVariables false
namespace Go.Proofs.YtnkdhmoocomjfaaGreatDoor
open Go.RowKit
set_option maxHeartbeats 400000 in
theorem refLong_any (s : ByteArray) (w : World) (hs : s.size ≤ maxLen) :
    Calls Tryz.prog 64 #[.string s] w fun e w' => e = .returned (.int .u64 (Sm.fnv s.data.toList : Nat)) ∧ w = w' := by
  unfold maxLen at hs
  go_enter Tryz.func64, Tryz.ntmps64
  go_wp2
  go_loop [3, 4] (fun h i => ∃ k : Nat, k ≤ s.size ∧ i = .int .i64 k ∧ h = .int .u64 (Sm.fnv (s.data.toList.take k) : Nat)) (fun _ i => s.size - (intOf i).toNat)
  case atStart => exact ⟨0, Nat.zero_le _, rfl, rfl⟩
  case round =>
    obtain ⟨k, hk, rfl, rfl⟩ := hrel
    have hb : Sm.fnv (s.data.toList.take k) < 18446744073709551616 := Sm.fnvs_lt _ (by omega)
    by_cases hlt : k < s.size
    · have HS := Lib.hid (fnv_step s k hlt)
      go_wp2
      go_round
      case rel => exact ⟨k + 1, by omega, by go_num, int_eq HS.out⟩
      case measure => simp [intOf]; omega
    · go_wp2
      go_ret
      exact ⟨ret_int (by rw [List.take_of_length_le (by simp; omega)]), rfl⟩
set_option maxRecDepth 100000 in
set_option maxHeartbeats 16000000 in
theorem RefPrint_any {u w : World} {sv : Value} {s : Ip.Sch} (h : RoSch u sv s) (hu : Kp u w) (hS : Ck.Small s) :
    Calls Tryz.prog 25 #[sv] w fun e w' => e = .returned (.tuple #[.int .u64 ((printOf s).1 : Nat), .int .i64 ((printOf s).2 : Nat)]) ∧ Below w.heap.size w w' := by
  obtain ⟨p1, c1, p2, c2, p3, c3, rfl, -, -, -, -, -, -, -⟩ := sch_parts h
  obtain ⟨W0, hW0⟩ : ∃ W0, W0 = allocs w [schO s p1 c1 p2 c2 p3 c3] := ⟨_, rfl⟩
  have HX : Hid (∀ W, Below W0.heap.size W0 W → W.heap[w.heap.size]? = some (schO s p1 c1 p2 c2 p3 c3) ∧ Below w.heap.size w W) := Lib.hid (by subst hW0; exact fun W hW => ⟨allocs_box (i := 0) rfl hW, allocs_on hW⟩)
  obtain ⟨b0, B0⟩ := HX.out W0 (Below.refl _ _)
  obtain ⟨x0, x1, x2, x3⟩ := cells4' b0
  have HT := Lib.hid (RefText_any h (hu.below B0) hS)
  have HP0 : Hid ((Pp.text s).2 = 0 → printOf s = (Sm.fnv (Pp.text s).1.data.toList, 0)) := Lib.hid fun e => by unfold printOf; rw [if_pos e]
  have HP1 : Hid ((Pp.text s).2 ≠ 0 → printOf s = (0, (Pp.text s).2)) := Lib.hid fun e => by unfold printOf; rw [if_neg e]
  have HLN : Hid ((Pp.text s).1.size ≤ 65536) := Lib.hid (by
    unfold Pp.text
    split
    · exact Nat.zero_le _
    · split
      · exact Nat.zero_le _
      · show (Pp.line s).length ≤ 65536; omega)
  generalize printOf s = pr at *
  generalize Pp.text s = tx at *
  obtain ⟨tt, te⟩ := tx
  simp only at HT HP0 HP1 HLN
  clear h hu b0 B0
  simp only [allocs, schO] at hW0
  go_enter Tryz.func25, Tryz.ntmps25
  go_upto_region 1 with fail
  rw [← hW0]
  clear hW0
  go_wp2_with fail
  clear x0 x1 x2 x3
  refine Calls.mono HT.out ?_
  rintro e w2 ⟨rfl, hb2⟩
  have HB2 := Lib.hid (HX.out _ hb2).2
  clear hb2
  by_cases hce : te = 0
  case neg =>
    have j1 : (((te : Nat) : Int) != 0) = true := by rw [bne_iff_ne]; omega
    have HT := Lib.hid (HP1.out hce)
    clear hce
    go_wp2_with fail
    go_ret2
    exact ⟨by rw [HT.out]; rfl, HB2.out⟩
  case pos =>
  subst hce
  have HT := Lib.hid (HP0.out rfl)
  go_wp2_with fail
  refine Calls.mono (refLong_any tt w2 (by have := HLN.out; unfold maxLen; omega)) ?_
  rintro e w3 ⟨rfl, hw3⟩
  obtain rfl := hw3
  go_wp2_with fail
  go_ret2
  exact ⟨by rw [HT.out]; rfl, HB2.out⟩
set_option maxRecDepth 100000 in
set_option maxHeartbeats 8000000 in
theorem printsTexts_any {w : World} {sv : Value} {s : Ip.Sch} (h : RoSch w sv s) (hk : KwIs w) : Calls Tryz.prog 5 #[sv] w fun e w' => e = .returned (.bool true) ∧ Below w.heap.size w w' := by
  obtain ⟨p1, c1, p2, c2, p3, c3, rfl, -, -, -, -, l1, l2, l3⟩ := sch_parts h
  obtain ⟨W0, hW0⟩ : ∃ W0, W0 = allocs w [schO s p1 c1 p2 c2 p3 c3] := ⟨_, rfl⟩
  have HX : Hid (∀ W, Below W0.heap.size W0 W → W.heap[w.heap.size]? = some (schO s p1 c1 p2 c2 p3 c3) ∧ Below w.heap.size w W) := Lib.hid (by subst hW0; exact fun W hW => ⟨allocs_box (i := 0) rfl hW, allocs_on hW⟩)
  obtain ⟨b0, B0⟩ := HX.out W0 (Below.refl _ _)
  obtain ⟨x0, x1, x2, x3⟩ := cells4' b0
  have HB0 := Lib.hid B0
  have H := Lib.hid h
  have HWK : Hid (∀ W, Below w.heap.size w W → Calls Tryz.prog 21 #[] W fun e w' => e = .returned (.bool true) ∧ Below W.heap.size W w') := Lib.hid fun W hW => wakes14_any W (kw_kp hk (Kp.of_below hW))
  have HK := Lib.hid hk
  clear h hk b0 B0
  simp only [allocs, schO] at hW0
  go_enter Tryz.func5, Tryz.ntmps5
  go_upto_region 1 with fail
  rw [← hW0]
  clear hW0
  go_wp2_with fail
  clear x0 x1 x2 x3
  refine Calls.mono (Great_any H.out (Kp.of_below HB0.out)) ?_
  rintro e w1 ⟨gb, rfl, hsm, hb1⟩
  have HB1 := Lib.hid hb1
  clear hb1
  cases gb with
  | true =>
    clear hsm
    go_wp2_with fail
    refine Calls.mono (HWK.out _ (HX.out _ HB1.out).2) ?_
    rintro e w2 ⟨rfl, hb2⟩
    have HB2 := Lib.hid ((HX.out _ HB1.out).2.trans (hb2.mono (HX.out _ HB1.out).2.size))
    clear hb2
    go_wp2_with fail
    go_ret
    exact ⟨rfl, HB2.out⟩
  | false =>
    have HSM := Lib.hid (hsm rfl)
    clear hsm
    obtain ⟨x0, x1, x2, x3⟩ := cells4' (HX.out _ HB1.out).1
    go_wp2_with fail
    refine Calls.mono (Text_any H.out (Kp.of_below (HX.out _ HB1.out).2) HK.out HSM.out) ?_
    rintro e w2 ⟨rfl, hb⟩
    have HB2 := Lib.hid (HB1.out.trans (hb.mono HB1.out.size))
    clear hb x0 x1 x2 x3
    obtain ⟨x0, x1, x2, x3⟩ := cells4' (HX.out _ HB2.out).1
    go_wp2_with fail
    refine Calls.mono (RefText_any H.out (Kp.of_below (HX.out _ HB2.out).2) HSM.out) ?_
    rintro e w3 ⟨rfl, hb⟩
    have HB3 := Lib.hid (HB2.out.trans (hb.mono HB2.out.size))
    clear hb x0 x1 x2 x3
    obtain ⟨x0, x1, x2, x3⟩ := cells4' (HX.out _ HB3.out).1
    go_wp2_with fail
    refine Calls.mono (Print_any H.out (Kp.of_below (HX.out _ HB3.out).2) HK.out HSM.out) ?_
    rintro e w4 ⟨rfl, hb⟩
    have HB4 := Lib.hid (HB3.out.trans (hb.mono HB3.out.size))
    clear hb x0 x1 x2 x3
    obtain ⟨x0, x1, x2, x3⟩ := cells4' (HX.out _ HB4.out).1
    go_wp2_with fail
    refine Calls.mono (RefPrint_any H.out (Kp.of_below (HX.out _ HB4.out).2) HSM.out) ?_
    rintro e w5 ⟨rfl, hb⟩
    have HB5 := Lib.hid (HB4.out.trans (hb.mono HB4.out.size))
    clear hb x0 x1 x2 x3
    generalize Pp.text s = tx
    generalize printOf s = pr
    go_wp2_with fail
    refine Calls.mono (HWK.out _ (HX.out _ HB5.out).2) ?_
    rintro e w6 ⟨rfl, hb6⟩
    have HB6 := Lib.hid ((HX.out _ HB5.out).2.trans (hb6.mono (HX.out _ HB5.out).2.size))
    clear hb6
    go_wp2_with fail
    go_ret
    exact ⟨rfl, HB6.out⟩
end Go.Proofs.YtnkdhmoocomjfaaGreatDoor
