/-
  Walks over the laws of package net: NetFull. No condition.
-/
import Derived.Test.YtokbkbfbmgfbiaaNetLaw
import Derived.Test.YtokbkbfbmgfbiaaNetFullMath
import Derived.Test.YtokbkbfbmgfbiaaNulls
namespace Go.Proofs.Ytokbkbfbmgfbiaa
open Go.RowKit Go.Maps

set_option maxRecDepth 100000 in
set_option maxHeartbeats 16000000 in
theorem netFull_any (f t i : Int) (hf : Nm.Wf f) (ht : Nm.Wf t) (hi : Nm.Wf i) (w : World) : Calls Try.prog 5 #[.int .i64 f, .int .i64 t, .int .i64 i] w fun e w' => e = .returned (.bool true) ∧ Below w.heap.size w w' := by
  have hg := pkGuard
  go_enter Try.func5, Try.ntmps5
  go_wp2_with fail
  refine (netAwake_any _).mono ?_
  rintro e w1 ⟨rfl, hb1⟩
  go_wp2_with fail
  refine (new_in (B := []) hb1 (fun _ h => nomatch h)).mono ?_
  rintro e w2 ⟨a, rfl, h2⟩
  have hmk : (Instr.makeSlice 41 (.int .i64 8192) (.int .i64 8192)).run Try.prog w2 = .ok (.slice (some ⟨w2.heap.size, 0, none⟩) 8192 8192) (w2.alloc (.cells (nulls 8192) 5)) := make_nulls .i64 8192 (by omega) w2
  have hcv := text_nulls 8192 w2.heap.size (w2.alloc (.cells (nulls 8192) 5)) (heap_alloc_new w2 _)
  have h3 := (h2.alloc (.cells (nulls 8192) 5)).sub (B' := []) (fun _ h => nomatch h)
  have hsz := nullText_size 8192
  generalize nulls 8192 = nul at *
  generalize nullText 8192 = big at *
  have HZ := Lib.hid hsz
  have hs1 : big.size ≤ 8192 := by omega
  have H3 := Lib.hid h3
  clear hb1 h2 hsz h3
  have hb2 : (big ++ (⟨#[120]⟩ : ByteArray)).size = 8193 := by rw [ByteArray.size_append, HZ.out]; rfl
  have HS1 := Lib.hid (show Nm.send Nm.new ⟨f, t, big ++ ⟨#[120]⟩⟩ = (false, Nm.new) from by
    unfold Nm.send; rw [if_pos (by show 8192 < (big ++ (⟨#[120]⟩ : ByteArray)).size; omega)])
  obtain ⟨N1, s1, hF1⟩ := Nm.filled_send (Nm.filled_new f t) (p := ⟨f, t, big⟩) ⟨hf, ht, hs1⟩ ⟨rfl, rfl⟩ (by omega)
  have HS2 := Lib.hid s1
  have HF1 := Lib.hid hF1
  have HZ2 := Lib.hid (show (big ++ (⟨#[120]⟩ : ByteArray)).size ≤ maxLen from by unfold maxLen; omega)
  have HZ3 := Lib.hid (show big.size ≤ maxLen from by unfold maxLen; omega)
  have HW := Lib.hid (And.intro hf (And.intro ht hi))
  clear s1 hF1 hb2 hf ht hi
  go_wp2_with fail
  with_reducible (refine (send_lit H3.out f t (big ++ ⟨#[120]⟩) HW.out.1 HW.out.2.1 HZ2.out HS1.out).mono ?_)
  rintro e w3 ⟨rfl, h4⟩
  clear hmk hcv
  go_wp2_with fail
  with_reducible (refine (send_lit h4 f t big HW.out.1 HW.out.2.1 HZ3.out HS2.out).mono ?_)
  rintro e w4 ⟨rfl, h5⟩
  have H5 := Lib.hid h5
  clear h4 h5 H3 HS1 HS2 HZ2
  go_wp2_with fail
  go_loopw [9] (fun kv wr => ∃ (k : Nat) (D : Nm.Net), 1 ≤ k ∧ k ≤ 1024 ∧ kv = .int .i64 (k : Nat) ∧ Hid (In w wr a D [] ∧ Nm.Filled D k f t)) (fun kv _ => 1024 - (intOf kv).toNat)
  case atStart => exact ⟨1, N1, by omega, by omega, rfl, Lib.hid ⟨H5.out, HF1.out⟩⟩
  case round =>
    obtain ⟨k, D, hk1, hk, rfl, HD⟩ := hrel
    by_cases hlt : k < 1024
    · have i1 : (k : Int) < 1024 := by omega
      have i2 : (0 : Int) ≤ (k : Int) := by omega
      by_cases hev : k % 2 = 0
      · have p0 : ((k : Int) % 2 == 0) = true := by simp; omega
        have p1 : ((k : Int) % 2 == 1) = false := by rw [beq_eq_false_iff_ne]; omega
        obtain ⟨D', e1, hF⟩ := Nm.filled_send HD.out.2 (p := Nm.empty f t) ⟨HW.out.1, HW.out.2.1, by show 0 ≤ 8192; omega⟩ ⟨rfl, rfl⟩ hlt
        have HE := Lib.hid (And.intro e1 hF)
        clear e1 hF hev
        go_wp2_with fail
        refine (send_lit HD.out.1 f t ⟨#[]⟩ HW.out.1 HW.out.2.1 (Nat.zero_le _) HE.out.1).mono ?_
        rintro e w5 ⟨rfl, h6⟩
        have H6 := Lib.hid h6
        clear h6
        go_wp2_with fail
        go_roundw
        case rel => exact ⟨k + 1, D', by omega, by omega, rfl, Lib.hid ⟨H6.out, HE.out.2⟩⟩
        case measure => simp [intOf]; omega
      · have p0 : ((k : Int) % 2 == 0) = false := by rw [beq_eq_false_iff_ne]; omega
        have p1 : ((k : Int) % 2 == 1) = true := by simp; omega
        obtain ⟨D', e1, hF⟩ := Nm.filled_dup HD.out.2 i hk1 hlt
        have HE := Lib.hid (And.intro e1 hF)
        clear e1 hF hev
        go_wp2_with fail
        refine (dup_in HD.out.1 i HW.out.2.2 HE.out.1).mono ?_
        rintro e w5 ⟨rfl, h6⟩
        have H6 := Lib.hid h6
        clear h6
        go_wp2_with fail
        go_roundw
        case rel => exact ⟨k + 1, D', by omega, by omega, rfl, Lib.hid ⟨H6.out, HE.out.2⟩⟩
        case measure => simp [intOf]; omega
    · obtain rfl : k = 1024 := by omega
      have HA := Lib.hid (Nm.full_after HD.out.2 i)
      clear hlt hk hk1
      go_wp2_with fail
      refine (waiting_in HD.out.1 (c := 1024) (by rw [HD.out.2.len]; rfl)).mono ?_
      rintro e w5 ⟨rfl, rfl⟩
      go_wp2_with fail
      refine (send_lit HD.out.1 f t ⟨#[]⟩ HW.out.1 HW.out.2.1 (Nat.zero_le _) HA.out.1).mono ?_
      rintro e w5 ⟨rfl, h6⟩
      go_wp2_with fail
      refine (dup_in h6 i HW.out.2.2 HA.out.2.1).mono ?_
      rintro e w6 ⟨rfl, h7⟩
      clear h6
      go_wp2_with fail
      refine (cut_in h7 t f true HW.out.2.1 HW.out.1 (by rw [HD.out.2.cuts]; omega)).mono ?_
      rintro e w7 ⟨rfl, h8⟩
      clear h7
      go_wp2_with fail
      refine (send_lit h8 f t ⟨#[]⟩ HW.out.1 HW.out.2.1 (Nat.zero_le _) HA.out.2.2.1).mono ?_
      rintro e w8 ⟨rfl, h9⟩
      clear h8
      go_wp2_with fail
      refine (come_in h9 i HW.out.2.2 HA.out.2.2.2.1).mono ?_
      rintro e w9 ⟨rfl, h10⟩
      have h11 := (h10.alloc (.cells #[.int .i64 0, .int .i64 0, .string ⟨#[]⟩] 23)).sub (B' := []) (fun _ h => nomatch h)
      clear h9 h10
      unfold pkV Nm.zero
      go_wp2_with fail
      refine (waiting_in h11 (c := 1023) (by rw [HA.out.2.2.2.2.1]; rfl)).mono ?_
      rintro e w10 ⟨rfl, rfl⟩
      go_wp2_with fail
      refine (send_lit h11 f t ⟨#[]⟩ HW.out.1 HW.out.2.1 (Nat.zero_le _) HA.out.2.2.2.2.2).mono ?_
      rintro e w11 ⟨rfl, h12⟩
      clear h11
      go_wp2_with fail
      refine (waiting_in h12 (c := 1023) (by rw [HA.out.2.2.2.2.1]; rfl)).mono ?_
      rintro e w12 ⟨rfl, rfl⟩
      have hB := h12.below
      clear h12
      go_wp2_with fail
      go_ret
      exact ⟨rfl, hB⟩
end Go.Proofs.Ytokbkbfbmgfbiaa
