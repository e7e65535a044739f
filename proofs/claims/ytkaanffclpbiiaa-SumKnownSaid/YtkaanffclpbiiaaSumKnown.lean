/-
  Walks over package sum: the law SumKnown. No conditions but those in the theorems.
-/
import Derived.Test.YtkaanffclpbiiaaRows
import Derived.Test.YtkaanffclpbiiaaSumFrames
import Derived.Test.YtkaanffclpbiiaaSumNoughts
import Derived.Test.YtkaanffclpbiiaaSumWhole
import Derived.WalkKit
import Derived.WalkSpells
import Derived.WalkLawsBesides
import Derived.Handy
import Derived.Lib.Hide
import Derived.Deep.QuietTactic
import Derived.BigQuiet
import Derived.Deep.RegionHeld3
import Derived.Deep.MidRow
import Derived.Lib.ConvBytes
import Derived.Lib.SlBytesRow
namespace Go.Proofs.Ytkaanffclpbiiaa
open Go.RowKit

theorem chain_known : Sm.Chain (Sm.frame [97, 98] ++ Sm.frame [] ++ [120]) 0 [10, 18] :=
  .go (by decide +kernel) (.go (by decide +kernel) (.stop (by decide +kernel)))
theorem fr_size (l : List UInt8) : (⟨(Sm.frame l).toArray⟩ : ByteArray).size = l.length + 8 := by rw [size_mk, Sm.frame_len]

theorem num_known (r : List UInt8) : Sm.num ([1, 0, 1, 0] ++ r) = 65537 := by simp [Sm.num]
/-- The number's bytes, in the walk's spelling. -/
theorem four_text (n : Nat) (hn : n < 4294967296) (w : World) (b : Nat) (hw : w.heap[b]? = some (.cells #[Value.int IntKind.u8 ((n : Int) % 256), Value.int IntKind.u8 ((n : Int) / 256 % 256), Value.int IntKind.u8 ((n : Int) / 65536 % 256), Value.int IntKind.u8 ((n : Int) / 16777216)] 5)) :
    (convert 25 9 (Value.slice (some ⟨b, 0, none⟩) 4 4)).run Try.prog w = .ok (.string ⟨(Sm.four n).toArray⟩) w := four_eq n hn w b hw

set_option maxRecDepth 100000 in
set_option maxHeartbeats 2000000 in
theorem known_any (w : World) :
    Calls Try.prog 3 #[] w fun e w' => e = .returned (.bool true) ∧ Below w.heap.size w w' := by
  obtain ⟨F, hF⟩ : ∃ F : ByteArray, F = ⟨(Sm.frame (⟨#[97, 98]⟩ : ByteArray).data.toList).toArray⟩ := ⟨_, rfl⟩
  obtain ⟨G, hG⟩ : ∃ G : ByteArray, G = ⟨(Sm.frame (⟨#[]⟩ : ByteArray).data.toList).toArray⟩ := ⟨_, rfl⟩
  obtain ⟨K, hK⟩ : ∃ K : ByteArray, K = ⟨(Sm.frame (zeros 65536).data.toList).toArray⟩ := ⟨_, rfl⟩
  have HF := Lib.hid hF
  have HG := Lib.hid hG
  have HK := Lib.hid hK
  clear hF hG hK
  have mk1 : ∀ u : World, (Instr.makeSlice 25 (.int .i64 65537) (.int .i64 65537)).run Try.prog u = .ok (.slice (some ⟨u.heap.size, 0, none⟩) 65537 65537) (u.alloc (.cells (noughts 65537) 5)) := fun u => make_noughts .i64 65537 (by omega) u
  have mk2 : ∀ u : World, (Instr.makeSlice 25 (.int .i64 65536) (.int .i64 65536)).run Try.prog u = .ok (.slice (some ⟨u.heap.size, 0, none⟩) 65536 65536) (u.alloc (.cells (noughts 65536) 5)) := fun u => make_noughts .i64 65536 (by omega) u
  have MK1 := Lib.hid mk1
  have MK2 := Lib.hid mk2
  clear mk1 mk2
  go_enter Try.func3, Try.ntmps3
  go_wp2_with fail
  refine (Frame_short ⟨#[97, 98]⟩ _ (by decide)).mono ?_
  rintro e w1 ⟨rfl, hb1⟩
  rw [← HF.out]
  go_wp2_with fail
  refine (Frame_short ⟨#[]⟩ _ (by decide)).mono ?_
  rintro e w2 ⟨rfl, hb2⟩
  rw [← HG.out]
  have mk1 := MK1.out
  have cv1 := text_noughts 65537 w2.heap.size (w2.alloc (.cells (noughts 65537) 5)) (heap_alloc_new w2 _)
  go_wp2_with fail
  clear mk1 cv1
  refine (Frame_long (zeros 65537) _ (by rw [zeros_size]; unfold maxLen; omega) (by rw [zeros_size]; omega)).mono ?_
  rintro e w3 ⟨rfl, rfl⟩
  have hb3 : Below w.heap.size w (w2.alloc (.cells (noughts 65537) 5)) := (btr hb1 hb2).alloc (Nat.le_trans hb1.size hb2.size) _
  clear hb1 hb2
  generalize w2.alloc (.cells (noughts 65537) 5) = w3 at hb3 ⊢
  have mk2 := MK2.out
  have cv2 := text_noughts 65536 w3.heap.size (w3.alloc (.cells (noughts 65536) 5)) (heap_alloc_new w3 _)
  go_wp2_with fail
  clear mk2 cv2
  refine (Frame_short (zeros 65536) _ (by rw [zeros_size]; omega)).mono ?_
  rintro e w4 ⟨rfl, hb4⟩
  rw [← HK.out]
  have hb5 : Below w.heap.size w w4 := (hb3.alloc hb3.size _).trans (hb4.mono (by have := hb3.size; simp; omega))
  clear hb3 hb4
  have hFs : F.size = 10 := by rw [HF.out]; exact fr_size _
  have hKs : K.size = 65544 := by have h := fr_size (zeros 65536).data.toList; rw [← HK.out, zeros_list, List.length_replicate] at h; omega
  have f1 : ((F.size : Int) != 10) = false := by rw [hFs]; rfl
  have f2 : ((K.size : Int) != 65544) = false := by rw [hKs]; rfl
  have f3 : (4 : Int) ≤ (F.size : Int) := by omega
  have f4 : (8 : Int) ≤ (F.size : Int) := by omega
  have HFs := Lib.hid hFs
  have HKs := Lib.hid hKs
  clear hFs hKs
  have f5 : ((F.extract 0 4).toList == [2, 0, 0, 0]) = true := by rw [ByteArray.toList_eq, extract_list, HF.out]; decide +kernel
  have f6 : ((F.extract 8 F.size).toList == [97, 98]) = true := by rw [ByteArray.toList_eq, extract_list, HF.out]; decide +kernel
  have hFl : F.data.toList = Sm.frame [97, 98] := by rw [HF.out]
  have n1 : Sm.behind F.data.toList 1 = none := by rw [hFl]; decide +kernel
  have n2 : Sm.behind F.data.toList 10 = none := by rw [hFl]; decide +kernel
  have n3 : Sm.behind F.data.toList (-1) = none := by rw [hFl]; decide +kernel
  have hFm : F.size ≤ maxLen := by rw [HFs.out]; decide
  have N1 := Lib.hid n1
  have N2 := Lib.hid n2
  have N3 := Lib.hid n3
  have HFL := Lib.hid hFl
  clear n1 n2 n3 hFl
  go_wp2_with fail
  clear f1 f2 f3 f4 f5 f6
  refine (Next_no F 1 _ hFm N1.out).mono ?_
  rintro e w5 ⟨rfl, hb6⟩
  go_wp2_with fail
  refine (Next_no F 10 _ hFm N2.out).mono ?_
  rintro e w6 ⟨rfl, hb7⟩
  go_wp2_with fail
  refine (Next_no F (-1) _ hFm N3.out).mono ?_
  rintro e w7 ⟨rfl, hb8⟩
  have hb9 := ((hb5.trans (hb6.mono hb5.size)).trans (hb7.mono (Nat.le_trans hb5.size hb6.size))).trans (hb8.mono (Nat.le_trans (Nat.le_trans hb5.size hb6.size) hb7.size))
  clear hb5 hb6 hb7 hb8
  go_wp2_with fail
  refine (Next_yes K 0 _ (by rw [HKs.out]; omega) 65544 ?_).mono ?_
  · show Sm.behind K.data.toList 0 = _
    have h := Sm.behindAt_frame [] (zeros 65536).data.toList [] (by rw [zeros_list, List.length_replicate]; omega)
    rw [List.nil_append, List.append_nil, zeros_list, List.length_replicate] at h
    unfold Sm.behind
    rw [if_neg (by omega), HK.out, zeros_list]
    exact h
  rintro e w8 ⟨rfl, hb10⟩
  rw [show ((65544 : Nat) : Int) = 65544 from rfl]
  generalize (⟨(Sm.bodyAt K.data.toList 0 65544).toArray⟩ : ByteArray) = B0
  have hb11 := hb9.trans (hb10.mono hb9.size)
  clear hb9 hb10
  have mk3 := MK1.out
  have cv3 := text_noughts 65537 w8.heap.size (w8.alloc (.cells (noughts 65537) 5)) (heap_alloc_new w8 _)
  obtain ⟨L, hL⟩ : ∃ L : ByteArray, L = ⟨#[1, 0, 1, 0]⟩ ++ zeros 65537 := ⟨_, rfl⟩
  have hLs : L.size ≤ maxLen := by rw [hL, ByteArray.size_append, zeros_size]; show 4 + 65537 ≤ _; unfold maxLen; omega
  have ad1 : ∀ W : World, (Op.stringOp .add ⟨#[1, 0, 1, 0]⟩ (zeros 65537)).run Try.prog W = .ok (.string L) W := fun W => by
    rw [hL]; exact run_string_add_sum W _ _ (by rw [zeros_size]; show 4 + 65537 ≤ _; omega)
  clear hL
  go_wp2_with fail
  clear mk3 cv3 ad1
  refine (Crc_any L _ hLs).mono ?_
  rintro e w9 ⟨rfl, hb12⟩
  have hb13 : Below w.heap.size w w9 := (hb11.alloc hb11.size _).trans (hb12.mono (by have := hb11.size; simp; omega))
  clear hb11 hb12
  have hcl : Sm.crc L.data.toList < 4294967296 := Sm.more_lt _ _
  generalize Sm.crc L.data.toList = c at hcl ⊢
  have cv4 := four_text c hcl (w9.alloc
            (Obj.cells
              #[Value.int IntKind.u8 ((c : Int) % 256), Value.int IntKind.u8 ((c : Int) / 256 % 256),
                Value.int IntKind.u8 ((c : Int) / 65536 % 256), Value.int IntKind.u8 ((c : Int) / 16777216)]
              5)) w9.heap.size (heap_alloc_new w9 _)
  obtain ⟨M, hM⟩ : ∃ M : ByteArray, M = ⟨#[1, 0, 1, 0]⟩ ++ ⟨(Sm.four c).toArray⟩ := ⟨_, rfl⟩
  obtain ⟨Q, hQ⟩ : ∃ Q : ByteArray, Q = M ++ zeros 65537 := ⟨_, rfl⟩
  have ad2 : ∀ W : World, (Op.stringOp .add ⟨#[1, 0, 1, 0]⟩ ⟨(Sm.four c).toArray⟩).run Try.prog W = .ok (.string M) W := fun W => by
    rw [hM]; exact run_string_add_sum W _ _ (by rw [size_mk, size_mk, Sm.four_len]; show 4 + 4 ≤ _; omega)
  have hMl : M.data.toList = [1, 0, 1, 0] ++ Sm.four c := by rw [hM, ByteArray.data_append, Array.toList_append]
  have hMs : M.size = 8 := by have : M.data.toList.length = 8 := by rw [hMl]; rfl
                              simpa using this
  have ad3 : ∀ W : World, (Op.stringOp .add M (zeros 65537)).run Try.prog W = .ok (.string Q) W := fun W => by
    rw [hQ]; exact run_string_add_sum W _ _ (by rw [zeros_size, hMs]; omega)
  have hQs : Q.size ≤ maxLen := by rw [hQ, ByteArray.size_append, zeros_size, hMs]; unfold maxLen; omega
  have hQn : Sm.behind Q.data.toList 0 = none := by
    have hQl : Q.data.toList = [1, 0, 1, 0] ++ (Sm.four c ++ (zeros 65537).data.toList) := by rw [hQ, ByteArray.data_append, Array.toList_append, hMl, List.append_assoc]
    have hn : Sm.num Q.data.toList = 65537 := by rw [hQl]; exact num_known _
    unfold Sm.behind Sm.behindAt
    rw [if_neg (by omega), Int.toNat_zero, List.drop_zero, hn]
    split
    · rw [if_neg (by omega)]
    · rfl
  have HQN := Lib.hid hQn
  clear hM hQ hMl hMs hQn
  go_wp2_with fail
  clear ad2 ad3 cv4
  refine (Next_no Q 0 _ hQs HQN.out).mono ?_
  rintro e w10 ⟨rfl, hb14⟩
  have hb15 : Below w.heap.size w w10 := (hb13.alloc hb13.size _).trans (hb14.mono (by have := hb13.size; simp; omega))
  clear hb13 hb14
  go_wp2_with fail
  refine (awake_any _).mono ?_
  rintro e w11 ⟨rfl, hb16⟩
  go_wp2_with fail
  refine (Crc_any ⟨#[]⟩ _ (by decide)).mono ?_
  rintro e w12 ⟨rfl, hb17⟩
  rw [show Sm.crc (⟨#[]⟩ : ByteArray).data.toList = 0 from by decide +kernel]
  go_wp2_with fail
  refine (Crc_any ⟨#[49, 50, 51, 52]⟩ _ (by decide)).mono ?_
  rintro e w13 ⟨rfl, hb18⟩
  go_wp2_with fail
  refine (More_any (Sm.crc (⟨#[49, 50, 51, 52]⟩ : ByteArray).data.toList) ⟨#[53, 54, 55, 56, 57]⟩ _ (by decide) (Sm.more_lt _ _)).mono ?_
  rintro e w14 ⟨rfl, hb19⟩
  rw [show Sm.more (Sm.crc (⟨#[49, 50, 51, 52]⟩ : ByteArray).data.toList) (⟨#[53, 54, 55, 56, 57]⟩ : ByteArray).data.toList = 3808858755 from by decide +kernel]
  go_wp2_with fail
  refine (long_any ⟨#[]⟩ _ (by decide)).mono ?_
  rintro e w15 ⟨rfl, rfl⟩
  rw [show Sm.fnv (⟨#[]⟩ : ByteArray).data.toList = 14695981039346656037 from by decide +kernel]
  obtain ⟨FG, hFG⟩ : ∃ X : ByteArray, X = F ++ G := ⟨_, rfl⟩
  obtain ⟨X, hX⟩ : ∃ X : ByteArray, X = FG ++ ⟨#[120]⟩ := ⟨_, rfl⟩
  have hGs : G.size = 8 := by rw [HG.out]; exact fr_size _
  have hFGs : FG.size = 18 := by rw [hFG, ByteArray.size_append, HFs.out, hGs]
  have hXs : X.size ≤ maxLen := by rw [hX, ByteArray.size_append, hFGs]; decide
  have ad4 : ∀ W : World, (Op.stringOp .add F G).run Try.prog W = .ok (.string FG) W := fun W => by
    rw [hFG]; exact run_string_add_sum W _ _ (by rw [HFs.out, hGs]; omega)
  have ad5 : ∀ W : World, (Op.stringOp .add FG ⟨#[120]⟩).run Try.prog W = .ok (.string X) W := fun W => by
    rw [hX]; exact run_string_add_sum W _ _ (by rw [hFGs]; decide)
  have hXl : X.data.toList = Sm.frame [97, 98] ++ Sm.frame [] ++ [120] := by
    rw [hX, ByteArray.data_append, Array.toList_append, hFG, ByteArray.data_append, Array.toList_append, HFL.out, HG.out]
  have hch : Sm.Chain X.data.toList 0 [10, 18] := by rw [hXl]; exact chain_known
  have HCH := Lib.hid hch
  clear hFG hX hGs hFGs hXl hch
  go_wp2_with fail
  clear ad4 ad5
  refine (Whole_any X hXs [10, 18] HCH.out _).mono ?_
  rintro e w16 ⟨rfl, hb20⟩
  rw [show wholeOf [10, 18] = 18 from rfl]
  go_wp2
  go_ret
  exact ⟨rfl, btr (btr (btr (btr (btr hb15 hb16) hb17) hb18) hb19) hb20⟩
end Go.Proofs.Ytkaanffclpbiiaa
