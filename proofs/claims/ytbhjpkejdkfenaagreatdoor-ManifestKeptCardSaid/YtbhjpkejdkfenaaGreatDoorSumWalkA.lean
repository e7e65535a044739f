/-
  Walks over package sum: the leaves (four, number, the print, the table, the sum's loop). No conditions but those in the theorems.
-/
import Derived.Test.YtbhjpkejdkfenaaGreatDoorRows
import Derived.Test.YtbhjpkejdkfenaaGreatDoorSumMath
import Derived.WalkKit
import Derived.WalkSpells
import Derived.WalkLawsBesides
import Derived.Handy
import Derived.Lib.Hide
import Derived.Deep.QuietTactic
import Derived.BigQuiet
import Derived.Lib.SlBytesRow
namespace Go.Proofs.YtbhjpkejdkfenaaGreatDoor
open Go.RowKit

theorem take_snoc (s : ByteArray) (k : Nat) (h : k < s.size) : s.data.toList.take (k + 1) = s.data.toList.take k ++ [s[k]] := by
  rw [List.take_succ_eq_append_getElem (by simpa using h)]; rfl
theorem btr {w w1 w2 : World} (h1 : Below w.heap.size w w1) (h2 : Below w1.heap.size w1 w2) : Below w.heap.size w w2 := h1.trans (h2.mono h1.size)
theorem ret_int {k : IntKind} {a b : Int} (h : a = b) : Ending.returned (.int k a) = .returned (.int k b) := by rw [h]
theorem int_eq {k : IntKind} {a b : Int} (h : a = b) : Value.int k a = .int k b := by rw [h]
theorem wrap_u64_byte (b : UInt8) : IntKind.u64.wrap (b.toNat : Int) = (b.toNat : Int) := by
  have := b.toNat_lt; rw [IntKind.wrap_u64]; omega
theorem wrap_u32_byte (b : UInt8) : IntKind.u32.wrap (b.toNat : Int) = (b.toNat : Int) := by
  have := b.toNat_lt; rw [IntKind.wrap_u32']; omega

/-- The table's first k places are laid. -/
def fourTab (k : Nat) : Array Value := ((List.range 16).map fun r => Value.int .u32 ((if r < k then Sm.tab r else 0 : Nat) : Int)).toArray
theorem fourTab_zero : fourTab 0 = #[.int .u32 0, .int .u32 0, .int .u32 0, .int .u32 0, .int .u32 0, .int .u32 0, .int .u32 0, .int .u32 0, .int .u32 0, .int .u32 0, .int .u32 0, .int .u32 0, .int .u32 0, .int .u32 0, .int .u32 0, .int .u32 0] := by rfl
theorem fourTab_full : fourTab 16 = #[.int .u32 0, .int .u32 274646895, .int .u32 549293790, .int .u32 820201905, .int .u32 1098587580, .int .u32 1361435347, .int .u32 1640403810, .int .u32 1905808397, .int .u32 2197175160, .int .u32 2460548119, .int .u32 2722870694, .int .u32 2987750089, .int .u32 3280807620, .int .u32 3553878443, .int .u32 3811616794, .int .u32 4084100981] := by kernel_rfl
theorem fourTab_size (k : Nat) : (fourTab k).size = 16 := by simp [fourTab]
theorem fourTab_at (k r : Nat) (hr : r < 16) : (fourTab k)[r]? = some (.int .u32 ((if r < k then Sm.tab r else 0 : Nat) : Int)) := by
  simp [fourTab, hr]
theorem fourTab_set (k : Nat) (_hk : k < 16) : (fourTab k).setIfInBounds k (.int .u32 (Sm.tab k : Nat)) = fourTab (k + 1) := by
  apply Array.ext
  · simp [fourTab]
  · intro i h1 h2
    have hi : i < 16 := by simpa [fourTab] using h2
    simp only [fourTab]
    by_cases e : k = i
    · subst e; simp
    · have e2 : (i < k + 1) ↔ i < k := by omega
      simp [e, e2]
/-- j steps by one bit. -/
def steps : Nat → Nat → Nat
  | 0, c => c
  | j + 1, c => Sm.bit (steps j c)
theorem steps_lt : ∀ (j c : Nat), c < 4294967296 → steps j c < 4294967296
  | 0, _, h => h
  | j + 1, c, h => by
    have := steps_lt j c h
    show Sm.bit _ < _
    unfold Sm.bit
    split
    · exact Sm.xor_lt (by omega) (by unfold Sm.P; omega)
    · omega
theorem steps_odd (j c : Nat) (hc : c < 4294967296) (h : steps j c % 2 = 1) : bits BinOp.xor .u32 ((steps j c : Nat) / 2 : Int) 2197175160 = ((steps (j + 1) c : Nat) : Int) := by
  have hl := steps_lt j c hc
  have e : ((steps j c : Nat) / 2 : Int) = ((steps j c / 2 : Nat) : Int) := by omega
  rw [e, show (2197175160 : Int) = ((2197175160 : Nat) : Int) from rfl, u32_xor_nat _ _ (by omega) (by omega)]
  show _ = ((Sm.bit (steps j c) : Nat) : Int)
  unfold Sm.bit Sm.P
  rw [if_pos h]
theorem steps_even (j c : Nat) (h : ¬ steps j c % 2 = 1) : ((steps j c : Nat) / 2 : Int) = ((steps (j + 1) c : Nat) : Int) := by
  show _ = ((Sm.bit (steps j c) : Nat) : Int)
  unfold Sm.bit
  rw [if_neg h]
  omega
theorem and_one (d : Nat) (hd : d < 4294967296) : bits BinOp.and .u32 (d : Int) 1 = ((d % 2 : Nat) : Int) := by
  rw [show (1 : Int) = ((1 : Nat) : Int) from rfl, u32_and_nat _ _ hd (by omega), nat_mask1]

set_option maxHeartbeats 1000000 in
theorem fours_any (w : World) :
    Calls Tryz.prog 129 #[] w fun e w' => e = .returned (.agg (fourTab 16)) ∧ Below w.heap.size w w' := by
  have hz := fourTab_zero
  go_enter Tryz.func129, Tryz.ntmps129
  go_wp2
  rw [← hz]
  go_loopw [4] (fun i wr => ∃ k : Nat, k ≤ 16 ∧ i = .int .i64 k ∧ wr = (w.alloc (.cells (fourTab 0) 165)).alloc (.cells (fourTab k) 165)) (fun i _ => 16 - (intOf i).toNat)
  case atStart => exact ⟨0, Nat.zero_le _, rfl, rfl⟩
  case round =>
    obtain ⟨k, hk, rfl, rfl⟩ := hrel
    clear hz
    by_cases hlt : k < 16
    · go_wp2
      go_loop [3, 9] (fun c i => ∃ j : Nat, j ≤ 4 ∧ i = .int .i64 j ∧ c = .int .u32 (steps j k : Nat)) (fun _ i => 4 - (intOf i).toNat)
      case atStart => exact ⟨0, Nat.zero_le _, rfl, rfl⟩
      case round =>
        obtain ⟨j, hj, rfl, rfl⟩ := hrel
        have hd := steps_lt j k (by omega)
        by_cases hlt2 : j < 4
        · by_cases ho : steps j k % 2 = 1
          · have HS := Lib.hid (steps_odd j k (by omega) ho)
            have ht : (bits BinOp.and .u32 (steps j k : Int) 1 == 1) = true := by rw [and_one _ hd, ho]; rfl
            clear ho
            go_wp2
            go_round
            case rel => exact ⟨j + 1, by omega, by go_num, int_eq HS.out⟩
            case measure => simp [intOf]; omega
          · have HS := Lib.hid (steps_even j k ho)
            have ht : (bits BinOp.and .u32 (steps j k : Int) 1 == 1) = false := by rw [and_one _ hd, show steps j k % 2 = 0 by omega]; rfl
            clear ho
            go_wp2
            go_round
            case rel => exact ⟨j + 1, by omega, by go_num, int_eq HS.out⟩
            case measure => simp [intOf]; omega
        · obtain rfl : j = 4 := by omega
          have hc := fourTab_at k k hlt
          have HT := Lib.hid (fourTab_set k hlt)
          go_wp2
          go_roundw
          case rel => exact ⟨k + 1, by omega, by go_num, by rw [← HT.out]; rfl⟩
          case measure => simp [intOf]; omega
    · obtain rfl : k = 16 := by omega
      have HF := Lib.hid fourTab_full
      rw [fourTab_full, fourTab_zero]
      go_wp2
      go_returns
      rw [HF.out]
      exact ⟨rfl, by go_grown⟩

theorem not_u32 (c : Nat) (hc : c < 4294967296) : bits BinOp.xor .u32 IntKind.u32.max (c : Int) = ((4294967295 - c : Nat) : Int) := by
  have e : (4294967295 : Nat) ^^^ c = 4294967295 - c := by
    have h := BitVec.toNat_not (x := BitVec.ofNat 32 c)
    have h2 : (BitVec.allOnes 32 ^^^ BitVec.ofNat 32 c) = ~~~ (BitVec.ofNat 32 c) := BitVec.allOnes_xor
    rw [← h2, BitVec.toNat_xor, BitVec.toNat_allOnes, BitVec.toNat_ofNat, Nat.mod_eq_of_lt (by omega)] at h
    simpa using h
  rw [show IntKind.u32.max = ((4294967295 : Nat) : Int) from rfl, u32_xor_nat _ _ (by omega) hc, e]

theorem half_walk (x : Nat) (hx : x < 4294967296) : ∃ r t y : Nat, bits BinOp.and .u32 (x : Int) 15 = (r : Int) ∧ r < 16 ∧ (∀ h : r < (fourTab 16).size, (fourTab 16)[r] = .int .u32 (t : Int)) ∧ bits BinOp.xor .u32 ((x : Int) / 16) (t : Int) = (y : Int) ∧ y = Sm.half x := by
  refine ⟨x % 16, Sm.tab (x % 16), Sm.half x, ?_, Nat.mod_lt _ (by omega), ?_, ?_, rfl⟩
  · rw [show (15 : Int) = ((15 : Nat) : Int) from rfl, u32_and_nat _ _ hx (by omega), nat_mask4]
  · intro h
    have h2 := fourTab_at 16 _ (Nat.mod_lt x (show 16 > 0 by omega))
    rw [if_pos (Nat.mod_lt _ (by omega)), Array.getElem?_eq_getElem h] at h2
    exact Option.some.inj h2
  · have e : ((x : Int) / 16) = ((x / 16 : Nat) : Int) := by omega
    rw [e, u32_xor_nat _ _ (by omega) (Sm.tab_lt _ (Nat.mod_lt _ (by omega)))]; rfl

theorem upd_walk (d : Nat) (b : UInt8) (hd : d < 4294967296) : ∃ x r t y r2 t2 z : Nat, bits BinOp.xor .u32 (d : Int) ((b.toNat : Int) % 4294967296) = (x : Int) ∧
    (bits BinOp.and .u32 (x : Int) 15 = (r : Int) ∧ r < 16 ∧ (∀ h : r < (fourTab 16).size, (fourTab 16)[r] = .int .u32 (t : Int)) ∧ bits BinOp.xor .u32 ((x : Int) / 16) (t : Int) = (y : Int)) ∧
    (bits BinOp.and .u32 (y : Int) 15 = (r2 : Int) ∧ r2 < 16 ∧ (∀ h : r2 < (fourTab 16).size, (fourTab 16)[r2] = .int .u32 (t2 : Int)) ∧ bits BinOp.xor .u32 ((y : Int) / 16) (t2 : Int) = (z : Int)) ∧ x < 4294967296 ∧ y < 4294967296 ∧ z = Sm.upd d b.toNat := by
  have hb := b.toNat_lt
  have hx : d ^^^ b.toNat < 4294967296 := Sm.xor_lt hd (by omega)
  obtain ⟨r, t, y, h1, h2, h3, h4, h5⟩ := half_walk (d ^^^ b.toNat) hx
  have hy : y < 4294967296 := by rw [h5]; exact Sm.half_lt hx
  obtain ⟨r2, t2, z, g1, g2, g3, g4, g5⟩ := half_walk y hy
  exact ⟨_, r, t, y, r2, t2, z, by rw [show ((b.toNat : Int) % 4294967296) = (b.toNat : Int) from by omega, u32_xor_nat _ _ hd (by omega)], ⟨h1, h2, h3, h4⟩, ⟨g1, g2, g3, g4⟩, hx, hy, by rw [g5, h5]; rfl⟩

set_option maxHeartbeats 1000000 in
theorem more_any (c : Nat) (s : ByteArray) (w : World) (hs : s.size ≤ maxLen) (hc : c < 4294967296) :
    Calls Tryz.prog 128 #[.agg (fourTab 16), .int .u32 (c : Int), .string s] w fun e w' => e = .returned (.int .u32 (Sm.more c s.data.toList : Nat)) ∧ Below w.heap.size w w' := by
  unfold maxLen at hs
  have hn := not_u32 c hc
  have hcs := fourTab_size 16
  go_enter Tryz.func128, Tryz.ntmps128
  go_wp2
  clear hn
  go_loop [1, 12] (fun d i => ∃ k : Nat, k ≤ s.size ∧ i = .int .i64 k ∧ d = .int .u32 (Sm.crcs (4294967295 - c) (s.data.toList.take k) : Nat)) (fun _ i => s.size - (intOf i).toNat)
  case atStart => exact ⟨0, Nat.zero_le _, rfl, rfl⟩
  case round =>
    obtain ⟨k, hk, rfl, rfl⟩ := hrel
    have hd : Sm.crcs (4294967295 - c) (s.data.toList.take k) < 4294967296 := Sm.crcs_lt _ (by omega)
    by_cases hlt : k < s.size
    · have HS : Hid (Sm.crcs (4294967295 - c) (s.data.toList.take (k + 1)) = Sm.upd (Sm.crcs (4294967295 - c) (s.data.toList.take k)) s[k].toNat) :=
        Lib.hid (by rw [take_snoc s k hlt, Sm.crcs_snoc])
      generalize Sm.crcs (4294967295 - c) (s.data.toList.take k) = d at *
      obtain ⟨x, r, t, y, r2, t2, z, e1, ⟨e2, hr, ht, e3⟩, ⟨e4, hr2, ht2, e5⟩, hx, hy, hz⟩ := upd_walk d s[k] hd
      have HZ := Lib.hid hz
      clear hz
      go_wp2
      go_round
      case rel => exact ⟨k + 1, by omega, by go_num, int_eq (by rw [HS.out, HZ.out])⟩
      case measure => simp [intOf]; omega
    · go_wp2
      go_ret
      refine ⟨ret_int ?_, by go_grown⟩
      rw [not_u32 _ hd, List.take_of_length_le (by simp; omega)]
      rfl

set_option maxHeartbeats 400000 in
theorem More_any (c : Nat) (s : ByteArray) (w : World) (hs : s.size ≤ maxLen) (hc : c < 4294967296) :
    Calls Tryz.prog 106 #[.int .u32 (c : Int), .string s] w fun e w' => e = .returned (.int .u32 (Sm.more c s.data.toList : Nat)) ∧ Below w.heap.size w w' := by
  go_enter Tryz.func106, Tryz.ntmps106
  go_wp2_with fail
  refine (fours_any _).mono ?_
  rintro e w1 ⟨rfl, h1⟩
  go_wp2_with fail
  refine (more_any c s _ hs hc).mono ?_
  rintro e w2 ⟨rfl, h2⟩
  go_wp2_with fail
  go_ret
  exact ⟨rfl, btr h1 h2⟩

set_option maxHeartbeats 400000 in
theorem Crc_any (s : ByteArray) (w : World) (hs : s.size ≤ maxLen) :
    Calls Tryz.prog 107 #[.string s] w fun e w' => e = .returned (.int .u32 (Sm.crc s.data.toList : Nat)) ∧ Below w.heap.size w w' := by
  go_enter Tryz.func107, Tryz.ntmps107
  go_wp2_with fail
  refine (More_any 0 s _ hs (by omega)).mono ?_
  rintro e w2 ⟨rfl, h2⟩
  go_wp2_with fail
  go_ret
  exact ⟨rfl, h2⟩

end Go.Proofs.YtbhjpkejdkfenaaGreatDoor
