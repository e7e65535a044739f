/-
  Walks over package sum: the law SumNone. No conditions but those in the theorems.
-/
import Derived.Test.YtkaanffclpbiiaaRows
import Derived.Test.YtkaanffclpbiiaaSumFrames
import Derived.Test.YtkaanffclpbiiaaSumNoughts
import Derived.WalkKit
import Derived.WalkSpells
import Derived.WalkLawsBesides
import Derived.Handy
import Derived.Lib.Hide
import Derived.Deep.QuietTactic
import Derived.BigQuiet
import Derived.Deep.RegionHeld3
import Derived.Deep.MidRow
import Derived.Lib.ConvBytes
import Derived.Lib.SlBytesRow
namespace Go.Proofs.Ytkaanffclpbiiaa
open Go.RowKit

theorem none_long (s : ByteArray) (cut at_ ch many : Int) (w : World) (hl : 20000 < s.size) :
    Calls Try.prog 9 #[.string s, .int .i64 cut, .int .i64 at_, .int .u8 ch, .int .u16 many] w fun e w' => e = .returned (.bool true) ∧ Below w.heap.size w w' := by
  have hl1 : (20000 : Int) < (s.size : Int) := by omega
  go_enter Try.func9, Try.ntmps9
  go_wp2_with fail
  refine (awake_any _).mono ?_
  rintro e w1 ⟨rfl, hb1⟩
  go_wp2
  go_ret
  exact ⟨rfl, hb1⟩

set_option maxHeartbeats 1000000 in
theorem none_empty (cut at_ ch : Int) (many : Nat) (w : World) (hmany : many < 65536) :
    Calls Try.prog 9 #[.string ⟨#[]⟩, .int .i64 cut, .int .i64 at_, .int .u8 ch, .int .u16 (many : Int)] w fun e w' => e = .returned (.bool true) ∧ Below w.heap.size w w' := by
  have mk1 := fun u => make_noughts .u16 many (by omega) u
  have e2 : Sm.more (Sm.crc []) [] = Sm.crc [] := by decide
  go_enter Try.func9, Try.ntmps9
  go_wp2_with fail
  refine (awake_any _).mono ?_
  rintro e w1 ⟨rfl, hb1⟩
  have cv1 := text_noughts many w1.heap.size (w1.alloc (.cells (noughts many) 5)) (heap_alloc_new w1 _)
  go_wp2_with fail
  refine (Next_no (zeros many) 0 _ (by rw [zeros_size]; unfold maxLen; omega) (zeros_none many)).mono ?_
  rintro e w2 ⟨rfl, hb2⟩
  clear mk1 cv1
  go_wp2_with fail
  have hW : Below w.heap.size w w2 := hb1.trans (((Below.refl _ _).alloc (Nat.le_refl _) _ |>.mono hb1.size).trans (hb2.mono (Nat.le_trans hb1.size (by simp))))
  clear hb1 hb2
  go_region_held3 (fun w' => Below w.heap.size w w')
    (first | exact hW.drew | exact btr (by assumption) hb3)
    (first | (go_at_call 12; refine (Crc_any _ _ (by decide)).mono ?_; rintro e w3 ⟨rfl, hb3⟩) | (go_at_call 14; refine (More_any _ _ _ (by decide) (by exact Sm.more_lt _ _)).mono ?_; rintro e w3 ⟨rfl, hb3⟩))
  have hW3 : Below w.heap.size w w3 := by assumption
  go_wp2
  go_ret
  exact ⟨rfl, hW3⟩

/-- A number taken round a length. -/
theorem round_walk (c : Int) (n : Nat) (h0 : 0 < n) (hn : n ≤ 1000000) : ∃ k : Nat, k < n ∧ (wrap64 (c.tmod (n : Int) + (n : Int))).tmod (n : Int) = (k : Int) := by
  have h1 : c.tmod (n : Int) < (n : Int) := by
    have := Int.tmod_lt_of_pos c (b := (n : Int)) (by omega); exact this
  have h2 : -(n : Int) < c.tmod (n : Int) := by
    have h := Int.tmod_lt_of_pos (-c) (b := (n : Int)) (by omega)
    rw [Int.neg_tmod] at h; omega
  generalize c.tmod (n : Int) = t at h1 h2
  have e : wrap64 (t + (n : Int)) = t + (n : Int) := IntWalk.wrap64_in _ (by omega)
  rw [e, Int.tmod_eq_emod_of_nonneg (by omega)]
  have h3 := Int.emod_nonneg (t + (n : Int)) (b := (n : Int)) (by omega)
  have h4 := Int.emod_lt_of_pos (t + (n : Int)) (b := (n : Int)) (by omega)
  exact ⟨((t + (n : Int)) % (n : Int)).toNat, by omega, by omega⟩

set_option maxHeartbeats 1000000 in
theorem none_mid (s : ByteArray) (cut at_ ch : Int) (many : Nat) (w : World) (hl : s.size ≤ 20000) (hmany : many < 65536) (h0 : 0 < s.size) (k : Nat) (hk : k < s.size) (hks : (wrap64 (cut.tmod (s.size : Int) + (s.size : Int))).tmod (s.size : Int) = (k : Int))
    (i : Nat) (hi : i < s.size) (his : (wrap64 (at_.tmod (s.size : Int) + (s.size : Int))).tmod (s.size : Int) = (i : Int)) (hc0 : 0 ≤ ch) (hc1 : ch ≤ 255) :
    Calls Try.prog 9 #[.string s, .int .i64 cut, .int .i64 at_, .int .u8 ch, .int .u16 (many : Int)] w fun e w' => e = .returned (.bool true) ∧ Below w.heap.size w w' := by
  have hms : s.size ≤ maxLen := by unfold maxLen; omega
  have hk0 : (0 : Int) ≤ (k : Int) := by omega
  have hi0 : (0 : Int) ≤ (i : Int) := by omega
  have hi1 : (i : Int) < (s.size : Int) := by omega
  have hk1 : (k : Int) ≤ (s.size : Int) := by omega
  have hl1 : decide ((20000 : Int) < (s.size : Int)) = false := by simp; omega
  have e1 : Sm.more (Sm.crc (List.take k s.data.toList)) (List.take (s.size - k) (List.drop k s.data.toList)) = Sm.crc s.data.toList := by
    rw [Sm.more_crc, List.take_of_length_le (l := s.data.toList.drop k) (by simp), List.take_append_drop]
  have e2 : Sm.more (Sm.crc s.data.toList) [] = Sm.crc s.data.toList := Sm.more_nil (Sm.more_lt _ _)
  have hn0 : ((s.size : Int) == 0) = false := beq_eq_false_iff_ne.2 (by omega)
  have hp0 : (0 : Int) < (s.size : Int) := by omega
  have mk1 := fun u => make_noughts .u16 many (by omega) u
  go_enter Try.func9, Try.ntmps9
  go_wp2_with fail
  refine (awake_any _).mono ?_
  rintro e w1 ⟨rfl, hb1⟩
  have cv1 := text_noughts many w1.heap.size (w1.alloc (.cells (noughts many) 5)) (heap_alloc_new w1 _)
  go_wp2_with fail
  refine (Next_no (zeros many) 0 _ (by rw [zeros_size]; unfold maxLen; omega) (zeros_none many)).mono ?_
  rintro e w2 ⟨rfl, hb2⟩
  clear mk1 cv1
  go_wp2_with fail
  have hW : Below w.heap.size w w2 := hb1.trans (((Below.refl _ _).alloc (Nat.le_refl _) _ |>.mono hb1.size).trans (hb2.mono (Nat.le_trans hb1.size (by simp))))
  clear hb1 hb2
  go_region_held3 (fun w' => Below w.heap.size w w')
    (first | exact hW.drew | exact btr (by assumption) hb3)
    (first | (go_at_call 12; refine (Crc_any _ _ (by first | exact hms | exact ext_le _ _ hms)).mono ?_; rintro e w3 ⟨rfl, hb3⟩) | (go_at_call 14; refine (More_any _ _ _ (by first | exact ext_le _ _ hms | decide) (by exact Sm.more_lt _ _)).mono ?_; rintro e w3 ⟨rfl, hb3⟩))
  have hW3 : Below w.heap.size w w3 := by assumption
  by_cases hch : ch = 0
  · subst hch
    go_wp2
    go_ret
    exact ⟨rfl, hW3⟩
  have hch1 : (ch == 0) = false := beq_eq_false_iff_ne.2 hch
  have hBA := bytesAt_conv w3 s (grownCap w3 s.size 0 5) ((bytesRow s (grownCap w3 s.size 0 5)).size, (bytesRow s (grownCap w3 s.size 0 5)).size + 1)
  have hfz := bytes_frozen w3 s (grownCap w3 s.size 0 5) i hi ((bytesRow s (grownCap w3 s.size 0 5)).size + 1)
  have cv2 := run_bytes_of_string (P := Try.prog) w3 9 25 5 s Try.underlying9 Try.underlying25 Try.underlying5
  generalize grownCap w3 s.size 0 5 = cap at cv2 hBA hfz
  generalize bytesRow s cap = C at cv2 hBA hfz
  have hcl := hBA i (by simpa using hi)
  obtain ⟨y, hy, hne⟩ := xor_walk (s.data.toList[i]'(by simpa using hi)) ch hc0 hc1
  have hne := hne hch
  have HBA := Lib.hid hBA
  have HNE := Lib.hid hne
  clear hBA hne e1 e2
  have hilt : i < s.data.toList.length := by simpa using hi
  have hl1 : s.data.toList = s.data.toList.take i ++ s.data.toList[i] :: s.data.toList.drop (i + 1) := by
    rw [← List.drop_eq_getElem_cons hilt, List.take_append_drop]
  have hl2 : s.data.toList.set i y = s.data.toList.take i ++ y :: s.data.toList.drop (i + 1) := by
    rw [List.set_eq_take_append_cons_drop, if_pos hilt]
  obtain ⟨c1, hC1⟩ : ∃ c, Sm.crc (⟨(s.data.toList.set i y).toArray⟩ : ByteArray).data.toList = c := ⟨_, rfl⟩
  obtain ⟨c2, hC2⟩ : ∃ c, Sm.crc s.data.toList = c := ⟨_, rfl⟩
  obtain ⟨f1, hF1⟩ : ∃ c, Sm.fnv (⟨(s.data.toList.set i y).toArray⟩ : ByteArray).data.toList = c := ⟨_, rfl⟩
  obtain ⟨f2, hF2⟩ : ∃ c, Sm.fnv s.data.toList = c := ⟨_, rfl⟩
  have hcc : ((c1 : Int) != (c2 : Int)) = true := by
    have h := Sm.more_one (c := 0) (s.data.toList.take i) (s.data.toList.drop (i + 1)) _ _ HNE.out
    rw [← hl1, ← hl2] at h
    rw [bne_iff_ne, ← hC1, ← hC2]
    intro e
    exact h (Int.ofNat.inj e).symm
  have hff : ((f1 : Int) != (f2 : Int)) = true := by
    have h := Sm.fnv_one (s.data.toList.take i) (s.data.toList.drop (i + 1)) _ _ HNE.out
    rw [← hl1, ← hl2] at h
    rw [bne_iff_ne, ← hF1, ← hF2]
    intro e
    exact h (Int.ofNat.inj e).symm
  have HC1 := Lib.hid hC1
  have HC2 := Lib.hid hC2
  have HF1 := Lib.hid hF1
  have HF2 := Lib.hid hF2
  clear hC1 hC2 hF1 hF2 hl1 hl2 hilt
  clear HNE
  generalize s.data.toList[i] = x at hcl hy
  go_wp2_with fail
  have hB2 : BytesAt ((w3.alloc (Obj.cells C 5 (C.size, C.size + 1))).setCell { block := w3.heap.size, off := i } (Value.int IntKind.u8 y.toNat)).drew w3.heap.size (s.data.toList.set i y) :=
    bytesAt_drew (bytesAt_set HBA.out (by simpa using hi) y)
  have hW5 : Below w3.heap.size w3 ((w3.alloc (Obj.cells C 5 (C.size, C.size + 1))).setCell { block := w3.heap.size, off := i } (Value.int IntKind.u8 y.toNat)).drew :=
    (((Below.refl _ _).alloc (Nat.le_refl _) _).setCell (Nat.le_refl _) _).drew
  have hsz5 : w3.heap.size < ((w3.alloc (Obj.cells C 5 (C.size, C.size + 1))).setCell { block := w3.heap.size, off := i } (Value.int IntKind.u8 y.toNat)).drew.heap.size := by simp
  generalize ((w3.alloc (Obj.cells C 5 (C.size, C.size + 1))).setCell { block := w3.heap.size, off := i } (Value.int IntKind.u8 y.toNat)).drew = W5 at hB2 hW5 hsz5 ⊢
  rw [back_text hB2 s.size cap (by simp)]
  have hB3 := Lib.hid hB2
  clear hB2 hy hcl hfz cv2
  go_wp2_with fail
  refine (Crc_any _ _ (by rw [size_mk]; simp; exact hms)).mono ?_
  rintro e w6 ⟨rfl, hb6⟩
  rw [HC1.out]
  have hB6 := Lib.hid (bytesAt_below hB3.out hb6 hsz5)
  have hsz6 : w3.heap.size < w6.heap.size := Nat.lt_of_lt_of_le hsz5 hb6.size
  go_wp2_with fail
  refine (Crc_any _ _ hms).mono ?_
  rintro e w7 ⟨rfl, hb7⟩
  rw [HC2.out]
  have hB7 := bytesAt_below hB6.out hb7 hsz6
  have hcv := back_text hB7 s.size cap (by simp)
  clear hB7
  go_wp2_with fail
  refine (long_any _ _ (by rw [size_mk]; simp; exact hms)).mono ?_
  rintro e w8 ⟨rfl, rfl⟩
  rw [HF1.out]
  go_wp2_with fail
  refine (long_any _ _ hms).mono ?_
  rintro e w8 ⟨rfl, rfl⟩
  rw [HF2.out]
  clear hcv
  go_wp2
  go_ret
  exact ⟨rfl, (hW3.trans (hW5.mono hW3.size)).trans ((btr hb6 hb7).mono (Nat.le_trans hW3.size hW5.size))⟩

theorem none_any (s : ByteArray) (cut at_ ch many : Int) (w : World) (hc0 : 0 ≤ ch) (hc1 : ch ≤ 255) (hm0 : 0 ≤ many) (hm1 : many ≤ 65535) :
    Calls Try.prog 9 #[.string s, .int .i64 cut, .int .i64 at_, .int .u8 ch, .int .u16 many] w fun e w' => e = .returned (.bool true) ∧ Below w.heap.size w w' := by
  by_cases hl : 20000 < s.size
  · exact none_long s cut at_ ch many w hl
  obtain ⟨n, rfl⟩ := Int.eq_ofNat_of_zero_le hm0
  by_cases h0 : s.size = 0
  · have hs : s = ⟨#[]⟩ := by
      apply ByteArray.ext
      exact Array.eq_empty_of_size_eq_zero h0
    subst hs
    exact none_empty cut at_ ch n w (by omega)
  · obtain ⟨k, hk, hks⟩ := round_walk cut s.size (by omega) (by omega)
    obtain ⟨i, hi, his⟩ := round_walk at_ s.size (by omega) (by omega)
    exact none_mid s cut at_ ch n w (by omega) (by omega) (by omega) k hk hks i hi his hc0 hc1
end Go.Proofs.Ytkaanffclpbiiaa
