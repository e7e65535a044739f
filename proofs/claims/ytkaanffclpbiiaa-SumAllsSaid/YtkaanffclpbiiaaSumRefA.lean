/-
  Walks over the reference of package sum: the document's own answers, Crc and Long. No conditions but those in the theorems.
-/
import Derived.Test.YtkaanffclpbiiaaRows
import Derived.Test.YtkaanffclpbiiaaSumFrames
import Derived.Test.YtkaanffclpbiiaaSumWalkE
import Derived.WalkKit
import Derived.WalkSpells
import Derived.WalkLawsBesides
import Derived.Handy
import Derived.Lib.Hide
import Derived.Deep.QuietTactic
import Derived.BigQuiet
import Derived.Deep.RegionHeld3
import Derived.Deep.MidRow
import Derived.Lib.ConvBytes
import Derived.Lib.SlBytesRow
namespace Go.Proofs.Ytkaanffclpbiiaa
open Go.RowKit

theorem steps_odd' (j c : Nat) (hc : c < 4294967296) (h : steps j c % 2 = 1) : bits BinOp.xor .u32 ((steps j c : Nat) / 2 : Int) 2197175160 = ((steps (j + 1) c : Nat) : Int) := steps_odd j c hc h
/-- Eight steps by one bit are one by a byte. -/
theorem steps_eight (c : Nat) : steps 8 c = Sm.half (Sm.half c) := by
  show Sm.bit (Sm.bit (Sm.bit (Sm.bit (Sm.bit (Sm.bit (Sm.bit (Sm.bit c))))))) = _
  rw [Sm.bit4, Sm.bit4]

theorem refByte (d : Nat) (b : UInt8) (hd : d < 4294967296) : bits BinOp.xor .u32 (d : Int) ((b.toNat : Int) % 4294967296) = ((d ^^^ b.toNat : Nat) : Int) := by
  have hb := b.toNat_lt
  rw [show ((b.toNat : Int) % 4294967296) = (b.toNat : Int) from by omega, u32_xor_nat _ _ hd (by omega)]

set_option maxHeartbeats 1000000 in
theorem refCrc_any (s : ByteArray) (w : World) (hs : s.size ≤ maxLen) :
    Calls Try.prog 17 #[.string s] w fun e w' => e = .returned (.int .u32 (Sm.crc s.data.toList : Nat)) ∧ w = w' := by
  unfold maxLen at hs
  go_enter Try.func17, Try.ntmps17
  go_wp2
  go_loop [3, 4] (fun d i => ∃ k : Nat, k ≤ s.size ∧ i = .int .i64 k ∧ d = .int .u32 (Sm.crcs 4294967295 (s.data.toList.take k) : Nat)) (fun _ i => s.size - (intOf i).toNat)
  case atStart => exact ⟨0, Nat.zero_le _, rfl, rfl⟩
  case round =>
    obtain ⟨k, hk, rfl, rfl⟩ := hrel
    have hd : Sm.crcs 4294967295 (s.data.toList.take k) < 4294967296 := Sm.crcs_lt _ (by omega)
    by_cases hlt : k < s.size
    · have HS : Hid (Sm.crcs 4294967295 (s.data.toList.take (k + 1)) = steps 8 (Sm.crcs 4294967295 (s.data.toList.take k) ^^^ s[k].toNat)) :=
        Lib.hid (by rw [take_snoc s k hlt, Sm.crcs_snoc, steps_eight]; rfl)
      generalize Sm.crcs 4294967295 (s.data.toList.take k) = d at *
      have hx : d ^^^ s[k].toNat < 4294967296 := Sm.xor_lt hd (by have := s[k].toNat_lt; omega)
      have hrb := refByte d s[k] hd
      generalize d ^^^ s[k].toNat = x at *
      go_wp2
      clear hrb
      go_loop [3, 5] (fun c i => ∃ j : Nat, j ≤ 8 ∧ i = .int .i64 j ∧ c = .int .u32 (steps j x : Nat)) (fun _ i => 8 - (intOf i).toNat)
      case atStart => exact ⟨0, Nat.zero_le _, rfl, rfl⟩
      case round =>
        obtain ⟨j, hj, rfl, rfl⟩ := hrel
        have hl := steps_lt j x hx
        by_cases hlt2 : j < 8
        · by_cases ho : steps j x % 2 = 1
          · have HS2 := Lib.hid (steps_odd j x hx ho)
            have ht : ((steps j x : Int) % 2 == 1) = true := by rw [beq_iff_eq]; omega
            clear ho
            go_wp2
            go_round
            case rel => exact ⟨j + 1, by omega, by go_num, int_eq HS2.out⟩
            case measure => simp [intOf]; omega
          · have HS2 := Lib.hid (steps_even j x ho)
            have ht : ((steps j x : Int) % 2 == 1) = false := by rw [beq_eq_false_iff_ne]; omega
            clear ho
            go_wp2
            go_round
            case rel => exact ⟨j + 1, by omega, by go_num, int_eq HS2.out⟩
            case measure => simp [intOf]; omega
        · obtain rfl : j = 8 := by omega
          go_wp2
          go_round
          case rel => exact ⟨k + 1, by omega, by go_num, int_eq (by rw [HS.out])⟩
          case measure => simp [intOf]; omega
    · go_wp2
      go_ret
      refine ⟨ret_int ?_, rfl⟩
      rw [List.take_of_length_le (by simp; omega)] at hd ⊢
      show (4294967295 : Int) - (Sm.crcs 4294967295 s.data.toList : Nat) = ((4294967295 - Sm.crcs (4294967295 - 0) s.data.toList : Nat) : Int)
      rw [Nat.sub_zero]
      omega

set_option maxHeartbeats 400000 in
theorem refLong_any (s : ByteArray) (w : World) (hs : s.size ≤ maxLen) :
    Calls Try.prog 18 #[.string s] w fun e w' => e = .returned (.int .u64 (Sm.fnv s.data.toList : Nat)) ∧ w = w' := by
  unfold maxLen at hs
  go_enter Try.func18, Try.ntmps18
  go_wp2
  go_loop [3, 4] (fun h i => ∃ k : Nat, k ≤ s.size ∧ i = .int .i64 k ∧ h = .int .u64 (Sm.fnv (s.data.toList.take k) : Nat)) (fun _ i => s.size - (intOf i).toNat)
  case atStart => exact ⟨0, Nat.zero_le _, rfl, rfl⟩
  case round =>
    obtain ⟨k, hk, rfl, rfl⟩ := hrel
    have hb : Sm.fnv (s.data.toList.take k) < 18446744073709551616 := Sm.fnvs_lt _ (by omega)
    by_cases hlt : k < s.size
    · have HS := Lib.hid (fnv_step s k hlt)
      go_wp2
      go_round
      case rel => exact ⟨k + 1, by omega, by go_num, int_eq HS.out⟩
      case measure => simp [intOf]; omega
    · go_wp2
      go_ret
      exact ⟨ret_int (by rw [List.take_of_length_le (by simp; omega)]), rfl⟩
end Go.Proofs.Ytkaanffclpbiiaa
