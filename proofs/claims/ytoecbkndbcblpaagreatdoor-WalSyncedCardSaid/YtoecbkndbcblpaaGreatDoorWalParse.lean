/-
  Walks over package wal: numberOf, by way of the library's ParseUint at a text of digits whose number is below 2^62. Conditions: those in the theorems.
-/
import Derived.Test.YtoecbkndbcblpaaGreatDoorWalName
import Derived.Lib.ConvBytes
import Derived.Laws.Strings3
import Derived.Laws.Closers25
import Derived.Laws.Closers25b
import Derived.BigCall
import Derived.BigGuard
namespace Wm
theorem val_take {l : List UInt8} {k : Nat} (h : k < l.length) : val (l.take (k + 1)) = val (l.take k) * 10 + (l[k].toNat - 48) := by
  rw [List.take_succ_eq_append_getElem h, val_snoc]
theorem val_mono (l : List UInt8) : ∀ j k, j ≤ k → val (l.take j) ≤ val (l.take k) := by
  intro j k h
  induction k with
  | zero => rw [Nat.le_zero.1 h]; exact Nat.le_refl _
  | succ k ih =>
    rcases Nat.lt_or_ge j (k + 1) with h1 | h1
    · refine Nat.le_trans (ih (by omega)) ?_
      by_cases hk : k < l.length
      · rw [val_take hk]; omega
      · rw [List.take_of_length_le (by omega), List.take_of_length_le (by omega)]; exact Nat.le_refl _
    · rw [show j = k + 1 by omega]; exact Nat.le_refl _
end Wm
namespace Go.Proofs.YtoecbkndbcblpaaGreatDoor
open Go.RowKit Go.Shelf

set_option maxHeartbeats 8000000 in
set_option maxRecDepth 100000 in
theorem parse_digits (t : ByteArray) (hne : t.size ≠ 0) (hmax : t.size ≤ 1000) (hd : Wm.Digits t.data.toList) (hv : Wm.val t.data.toList ≤ 4611686018427387903) (w : World) :
    Calls Tryz.prog 102 #[.string t, .int .i64 10, .int .i64 62] w fun e w' => e = .returned (.tuple #[.int .u64 (Wm.val t.data.toList : Nat), .nilIface]) ∧ Below w.heap.size w w' := by
  have hemp : t.toList.isEmpty = false := by
    rw [← decide_eq_emptyBytes]
    exact decide_eq_false (fun h => hne (by rw [h]; rfl))
  have hcv := Lib.run_convert_string_bytes (P := Tryz.prog) w 9 37 5 t (u := .string) Tryz.underlying9 Tryz.underlying37 Tryz.underlying5
  have hcell : ∀ j, j < t.size → (Lib.bytesWorld w 5 t).cell? ⟨w.heap.size, j, none⟩ = some (.int .u8 (t.data.toList.getD j 0).toNat) := fun j hj => Lib.bytesWorld_cell w 5 t j hj
  have hbel : Below w.heap.size w (Lib.bytesWorld w 5 t) :=
    ⟨rfl, rfl, rfl, by rw [Lib.bytesWorld_size]; omega, fun k hk => Lib.bytesWorld_at_old w 5 t k hk⟩
  obtain ⟨W1, hW1⟩ : ∃ W1, W1 = Lib.bytesWorld w 5 t := ⟨_, rfl⟩
  rw [← hW1] at hcv hcell hbel
  clear hW1
  have hlen : t.data.toList.length = t.size := by rw [Array.length_toList]; rfl
  obtain ⟨bs, hL⟩ : ∃ bs, bs = t.data.toList := ⟨_, rfl⟩
  rw [← hL] at hcell hd hv hlen ⊢
  clear hL
  have HC := Lib.hid hcell
  have HD := Lib.hid hd
  have HV := Lib.hid hv
  have HB := Lib.hid hbel
  have hmv : IntKind.u64.wrap (IntKind.u64.wrap 4611686018427387904 - 1) = 4611686018427387903 := by
    rw [IntKind.wrap_u64, IntKind.wrap_u64]; decide
  clear hcell hd hv hbel
  go_enter Tryz.func102, Tryz.ntmps102
  go_wp2
  go_loop [12, 13, 101] (fun vu vn vi => ∃ (k : Nat) (a : Int), vu = .bool false ∧ vn = .int .u64 a ∧ vi = .int .i64 k ∧ k ≤ t.size ∧ Hid (a = (Wm.val (bs.take k) : Nat)))
    (fun _ _ vi => t.size - (intOf vi).toNat)
  case atStart => exact ⟨0, 0, rfl, rfl, rfl, by omega, Lib.hid rfl⟩
  case round =>
    obtain ⟨k, a, rfl, rfl, rfl, hk, hh⟩ := hrel
    have a0 : 0 ≤ a := by rw [hh.out]; omega
    by_cases hkn : k < t.size
    · have hc := HC.out k hkn
      have hget : bs.getD k 0 = bs[k]'(by omega) := by simp [List.getD, List.getElem?_eq_getElem (show k < bs.length by omega)]
      rw [hget] at hc
      have hdig := HD.out _ (List.getElem_mem (show k < bs.length by omega))
      have hval := Wm.val_take (show k < bs.length by omega)
      have hle : Wm.val (bs.take (k + 1)) ≤ 4611686018427387903 := Nat.le_trans (by have := Wm.val_mono bs (k + 1) bs.length (by omega); rwa [List.take_length] at this) HV.out
      have ha := hh.out
      generalize bs[k]'(by omega) = c at hc hdig hval
      obtain ⟨hd0, hd1⟩ := hdig
      have hcut : a < 1844674407370955162 := by omega
      have iov : a * 10 + ((c.toNat : Int) - 48) ≤ 4611686018427387903 := by omega
      have a2 : a ≤ 461168601842738790 := by omega
      have HN : Hid (a * 10 + ((c.toNat : Int) - 48) = (Wm.val (bs.take (k + 1)) : Nat)) := Lib.hid (by omega)
      have hc256 : c.toNat < 256 := c.toNat_lt
      clear hget hval hle ha hh
      go_wp2
      refine ⟨⟨k + 1, a * 10 + ((c.toNat : Int) - 48), rfl, (by first | rfl | (congr 1; omega)), (by first | rfl | (congr 1; omega)), by omega, HN⟩, by simp [intOf]; omega⟩
    · have hkk : k = t.size := by omega
      subst hkk
      have ha := hh.out
      rw [List.take_of_length_le (by omega)] at ha
      have HA := Lib.hid ha
      clear hh ha
      go_wp2
      go_ret2
      exact ⟨by rw [HA.out]; rfl, HB.out⟩

set_option maxHeartbeats 1000000 in
theorem parse_public (t : ByteArray) (hne : t.size ≠ 0) (hmax : t.size ≤ 1000) (hd : Wm.Digits t.data.toList) (hv : Wm.val t.data.toList ≤ 4611686018427387903) (w : World) :
    Calls Tryz.prog 83 #[.string t, .int .i64 10, .int .i64 62] w fun e w' => e = .returned (.tuple #[.int .u64 (Wm.val t.data.toList : Nat), .nilIface]) ∧ Below w.heap.size w w' := by
  have h := parse_digits t hne hmax hd hv w
  clear hne hmax hd hv
  go_enter Tryz.func83, Tryz.ntmps83
  go_wp2_with fail
  refine h.mono ?_
  rintro e w2 ⟨rfl, hb⟩
  go_wp2_with fail
  go_ret2
  exact ⟨rfl, hb⟩
set_option maxHeartbeats 1000000 in
theorem numberOf_any (t : ByteArray) (h19 : t.size = 19) (hd : Wm.Digits t.data.toList) (hv : Wm.val t.data.toList ≤ 4611686018427387903) (hp : 0 < Wm.val t.data.toList) (w : World) :
    Calls Tryz.prog 52 #[.string t] w fun e w' => e = .returned (.tuple #[.int .i64 (Wm.val t.data.toList : Nat), .bool true]) ∧ Below w.heap.size w w' := by
  have h := parse_public t (by omega) (by omega) hd hv w
  generalize Wm.val t.data.toList = n at *
  have e1 : (0 : Int) < (n : Int) := by omega
  have e2 : IntKind.i64.wrap (n : Int) = (n : Int) := IntWalk.i64_in _ (by omega)
  have e3 : ((t.size : Nat) : Int) = 19 := by omega
  clear hd h19 hp hv
  go_enter Tryz.func52, Tryz.ntmps52
  go_wp2_with fail
  refine h.mono ?_
  rintro e w2 ⟨rfl, hb⟩
  go_wp2_with fail
  go_ret2
  exact ⟨rfl, hb⟩
end Go.Proofs.YtoecbkndbcblpaaGreatDoor
