/-
  Walks over package sum: numbers of four bytes, the place behind a frame. No conditions but those in the theorems.
-/
import Derived.Test.YtoecbkndbcblpaaGreatDoorRows
import Derived.Test.YtoecbkndbcblpaaGreatDoorSumFrames
import Derived.Test.YtoecbkndbcblpaaGreatDoorSumWalkA
import Derived.WalkKit
import Derived.WalkSpells
import Derived.WalkLawsBesides
import Derived.Handy
import Derived.Lib.Hide
import Derived.Deep.QuietTactic
import Derived.BigQuiet
import Derived.Deep.RegionHeld3
import Derived.Lib.SlBytesRow
namespace Go.Proofs.YtoecbkndbcblpaaGreatDoor
open Go.RowKit

theorem byte_getD (s : ByteArray) (k : Nat) (h : k < s.size) : s[k].toNat = (s.data.toList.getD k 0).toNat := by
  rw [List.getD_eq_getElem?_getD, List.getElem?_eq_getElem (by simpa using h)]; rfl

theorem or_join (i x y : Nat) (hx : x % 2 ^ i = 0) (hy : y < 2 ^ i) : y ||| x = y + x := by
  rw [Nat.or_comm, nat_join i x y hx hy, Nat.add_comm]

theorem number_eq (s : ByteArray) (hs : 4 ≤ s.size) :
    bits BinOp.or IntKind.u32
            (bits BinOp.or IntKind.u32
              (bits BinOp.or IntKind.u32 ((s[0].toNat : Int) % 4294967296) ((s[1].toNat : Int) % 4294967296 * 256 % 4294967296))
              ((s[2].toNat : Int) % 4294967296 * 65536 % 4294967296))
            ((s[3].toNat : Int) % 4294967296 * 16777216 % 4294967296) = ((Sm.num s.data.toList : Nat) : Int) := by
  have h0 := s[0].toNat_lt
  have h1 := s[1].toNat_lt
  have h2 := s[2].toNat_lt
  have h3 := s[3].toNat_lt
  have e0 : (s[0].toNat : Int) % (4294967296 : Int) = ((s[0].toNat : Nat) : Int) := by omega
  have e1 : (s[1].toNat : Int) % (4294967296 : Int) * (256 : Int) % (4294967296 : Int) = ((s[1].toNat * 256 : Nat) : Int) := by omega
  have e2 : (s[2].toNat : Int) % (4294967296 : Int) * (65536 : Int) % (4294967296 : Int) = ((s[2].toNat * 65536 : Nat) : Int) := by omega
  have e3 : (s[3].toNat : Int) % (4294967296 : Int) * (16777216 : Int) % (4294967296 : Int) = ((s[3].toNat * 16777216 : Nat) : Int) := by omega
  rw [e0, e1, e2, e3, u32_or_nat _ _ (by omega) (by omega), or_join 8 _ _ (by omega) (by omega), u32_or_nat _ _ (by omega) (by omega), or_join 16 _ _ (by omega) (by omega),
    u32_or_nat _ _ (by omega) (by omega), or_join 24 _ _ (by omega) (by omega), byte_getD, byte_getD, byte_getD, byte_getD]
  rfl

set_option maxHeartbeats 400000 in
theorem number_any (s : ByteArray) (w : World) (hs : 4 ≤ s.size) (hm : s.size ≤ maxLen) :
    Calls Tryz.prog 128 #[.string s] w fun e w' => e = .returned (.int .u32 (Sm.num s.data.toList : Nat)) ∧ ∃ n, w' = w.drewN n := by
  unfold maxLen at hm
  have h0 : 0 < s.size := by omega
  have h1 : 1 < s.size := by omega
  have h2 : 2 < s.size := by omega
  have h3 : 3 < s.size := by omega
  have i1 : (1 : Int) < (s.size : Int) := by omega
  have i2 : (2 : Int) < (s.size : Int) := by omega
  have i3 : (3 : Int) < (s.size : Int) := by omega
  have HE := Lib.hid (number_eq s hs)
  go_enter Tryz.func128, Tryz.ntmps128
  go_wp2
  go_quiet (fail)
  go_wp2
  go_ret
  exact ⟨ret_int HE.out, _, rfl⟩

/-- The bytes of a number, in the walk's spelling. -/
theorem four_eq (n : Nat) (hn : n < 4294967296) (w : World) (b : Nat) (hw : w.heap[b]? = some (.cells #[Value.int IntKind.u8 ((n : Int) % 256), Value.int IntKind.u8 ((n : Int) / 256 % 256), Value.int IntKind.u8 ((n : Int) / 65536 % 256), Value.int IntKind.u8 ((n : Int) / 16777216)] 5)) :
    (convert 37 9 (Value.slice (some ⟨b, 0, none⟩) 4 4)).run Tryz.prog w = .ok (.string ⟨(Sm.four n).toArray⟩) w := by
  have h := run_convert_bytes_back (P := Tryz.prog) w 37 9 5 ⟨b, 0, none⟩ 4 (Sm.four n) Tryz.underlying37 Tryz.underlying5 Tryz.underlying9 ?_
  · exact h
  · intro j hj
    have hadd : (⟨b, 0, none⟩ : Addr).add j = ⟨b, j, none⟩ := by unfold Addr.add; split <;> simp_all
    rw [hadd, cell_of_row w b j _ _ _ hw]
    obtain rfl | rfl | rfl | rfl : j = 0 ∨ j = 1 ∨ j = 2 ∨ j = 3 := by have := Sm.four_len n; omega
    all_goals simp [Sm.four]
    all_goals omega

set_option maxHeartbeats 400000 in
theorem four_any (n : Nat) (w : World) (hn : n < 4294967296) :
    Calls Tryz.prog 59 #[.int .u32 (n : Int)] w fun e w' => e = .returned (.string ⟨(Sm.four n).toArray⟩) ∧ Below w.heap.size w w' := by
  have hq := four_eq n hn (w.alloc
            (Obj.cells
              #[Value.int IntKind.u8 ((n : Int) % 256), Value.int IntKind.u8 ((n : Int) / 256 % 256),
                Value.int IntKind.u8 ((n : Int) / 65536 % 256), Value.int IntKind.u8 ((n : Int) / 16777216)]
              5)) w.heap.size (heap_alloc_new w _)
  go_enter Tryz.func59, Tryz.ntmps59
  go_wp2
  go_ret
  exact ⟨rfl, by go_grown⟩

end Go.Proofs.YtoecbkndbcblpaaGreatDoor
