/-
  Walks over package wal: isName, nameOf, and the library's ParseUint at nineteen digits; numberOf. Conditions: those in the theorems.
-/
import Derived.Test.YtoecbkndbcblpaaGreatDoorWalMath
import Derived.Test.YtoecbkndbcblpaaGreatDoorDiskRep
import Derived.Deep.RegionWith
import Derived.Deep.LoopGhost
import Derived.Deep.CutRange
namespace Wm
def alphabet : List UInt8 := [97, 98, 99, 100, 101, 102, 103, 104, 105, 106, 107, 108, 109, 110, 111, 112, 113, 114, 115, 116, 117, 118, 119, 120, 121, 122]
/-- What a log's name is, as the program asks it. -/
def isName (s : ByteArray) : Bool := decide (1 ≤ s.size) && decide (s.size ≤ 12) && (Go.Lib.trimS s.data.toList alphabet).isEmpty
/-- The number that digits spell. -/
def val (l : List UInt8) : Nat := l.foldl (fun n c => n * 10 + (c.toNat - 48)) 0
theorem val_snoc (l : List UInt8) (c : UInt8) : val (l ++ [c]) = val l * 10 + (c.toNat - 48) := by unfold val; rw [List.foldl_append]; rfl
def Digits (l : List UInt8) : Prop := ∀ c ∈ l, 48 ≤ c.toNat ∧ c.toNat ≤ 57
end Wm
namespace Go.Proofs.YtoecbkndbcblpaaGreatDoor
open Go.RowKit Go.Shelf

set_option maxHeartbeats 1000000 in
theorem walIsName_any (s : ByteArray) (w : World) (hs : s.size ≤ maxLen) :
    Calls Tryz.prog 25 #[.string s] w fun e w' => e = .returned (.bool (Wm.isName s)) ∧ Below w.heap.size w w' := by
  unfold Wm.isName
  by_cases h1 : 1 ≤ s.size
  · have d1 : decide ((1 : Int) ≤ (s.size : Int)) = true := decide_eq_true (by omega)
    rw [decide_eq_true h1]
    by_cases h2 : s.size ≤ 12
    · have d2 : decide ((s.size : Int) ≤ 12) = true := decide_eq_true (by omega)
      rw [decide_eq_true h2]
      have ht := wl_strings_Trim s ⟨#[97, 98, 99, 100, 101, 102, 103, 104, 105, 106, 107, 108, 109, 110, 111, 112, 113, 114, 115, 116, 117, 118, 119, 120, 121, 122]⟩ w (by omega) (by decide) (ascii_of_all (by decide))
      have hl : (⟨#[97, 98, 99, 100, 101, 102, 103, 104, 105, 106, 107, 108, 109, 110, 111, 112, 113, 114, 115, 116, 117, 118, 119, 120, 121, 122]⟩ : ByteArray).data.toList = Wm.alphabet := rfl
      rw [hl] at ht
      cases hc : Go.Lib.trimS s.data.toList Wm.alphabet with
      | nil =>
        rw [hc] at ht
        clear h1 h2 hc hl
        go_enter Tryz.func25, Tryz.ntmps25
        go_wp2_with (go_at_call 50; refine ht.mono ?_; rintro e w' ⟨rfl, hb⟩)
        go_ret
        exact ⟨rfl, hb⟩
      | cons c r =>
        rw [hc] at ht
        have d3 : (⟨(c :: r).toArray⟩ : ByteArray).toList.isEmpty = false := by rw [Go.Lib.toList_data]; rfl
        generalize (⟨(c :: r).toArray⟩ : ByteArray) = t at *
        clear h1 h2 hc hl
        go_enter Tryz.func25, Tryz.ntmps25
        go_wp2_with (go_at_call 50; refine ht.mono ?_; rintro e w' ⟨rfl, hb⟩)
        go_ret
        exact ⟨rfl, hb⟩
    · have d2 : decide ((s.size : Int) ≤ 12) = false := decide_eq_false (by omega)
      rw [decide_eq_false h2]
      clear h1 h2
      go_enter Tryz.func25, Tryz.ntmps25
      go_wp2_with fail
      go_ret
      exact ⟨rfl, Below.refl _ _⟩
  · have d1 : decide ((1 : Int) ≤ (s.size : Int)) = false := decide_eq_false (by omega)
    rw [decide_eq_false h1]
    clear h1
    go_enter Tryz.func25, Tryz.ntmps25
    go_wp2_with fail
    go_ret
    exact ⟨rfl, Below.refl _ _⟩

theorem digits_len (n : Nat) (hn : n < 100) : (Go.Lib.decDigits n).length ≤ 2 := by
  rw [Go.Lib.decDigits_length]
  by_cases h : n < 10
  · rw [Go.Lib.nDigits_small h]; omega
  · rw [Go.Lib.nDigits_big h, Go.Lib.nDigits_small (by omega)]; omega
theorem size_of_list (l : List UInt8) : (⟨l.toArray⟩ : ByteArray).size = l.length := by show l.toArray.size = l.length; rw [List.size_toArray]
set_option maxRecDepth 100000 in
set_option maxHeartbeats 1000000 in
theorem nameOf_any (b : Nat) (log : ByteArray) (n : Nat) (w : World) (hn : n < 100) (hl : log.size ≤ 100) (hc : w.cell? ⟨b, 5, none⟩ = some (.string log)) (hk : ∀ W, Below w.heap.size w W → W.cell? ⟨b, 5, none⟩ = some (.string log)) :
    Calls Tryz.prog 56 #[.pointer (some ⟨b, 0, none⟩), .int .i64 (n : Nat)] w fun e w' => e = .returned (.string (Wm.nameOf log n)) ∧ Below w.heap.size w w' := by
  have hi := wl_strconv_Itoa_small n hn w
  have hlen := digits_len n hn
  obtain ⟨t, ht⟩ : ∃ t : ByteArray, ⟨(Go.Lib.decDigits n).toArray⟩ = t := ⟨_, rfl⟩
  have hts : t.size = (Go.Lib.decDigits n).length := by rw [← ht, size_of_list]
  have hrep := fun W => wl_strings_Repeat ⟨#[48]⟩ (19 - t.size) W (by omega) (by have : (⟨#[48]⟩ : ByteArray).size = 1 := rfl; rw [this]; omega)
  have hr48 : (⟨#[48]⟩ : ByteArray).data.toList = [48] := rfl
  rw [hr48] at hrep
  have hv : Wm.nameOf log n = log ++ ⟨(Go.Lib.repeatL [48] (19 - t.size)).toArray⟩ ++ t := by unfold Wm.nameOf; rw [ht, hts]
  have hzs : (⟨(Go.Lib.repeatL [48] (19 - t.size)).toArray⟩ : ByteArray).size ≤ 19 := by
    rw [size_of_list, Go.Lib.repeatL_length]; show (19 - t.size) * 1 ≤ 19; omega
  rw [hv]
  rw [ht] at hi
  have e1 : (19 : Int) - (t.size : Int) = ((19 - t.size : Nat) : Int) := by omega
  have e2 : IntKind.i64.wrap ((19 - t.size : Nat) : Int) = ((19 - t.size : Nat) : Int) := IntWalk.i64_in _ (by omega)
  have ht2 : t.size ≤ 2 := by omega
  generalize (⟨(Go.Lib.repeatL [48] (19 - t.size)).toArray⟩ : ByteArray) = z at *
  obtain ⟨q, hq⟩ : ∃ q, 19 - t.size = q := ⟨_, rfl⟩
  rw [hq] at e1 e2 hrep
  have HK := Lib.hid hk
  have HD := Lib.hid (Below.refl w.heap.size w).drew
  clear ht hts hv hq hlen hk
  go_enter Tryz.func56, Tryz.ntmps56
  go_wp2_with (go_at_call 86; refine hi.mono ?_; rintro e w' ⟨rfl, rfl⟩)
  go_region_with (go_at_call 87; refine (hrep _).mono ?_; rintro e w2 ⟨rfl, hb2⟩; have HB := Lib.hid (HD.out.trans (hb2.mono HD.out.size)); have c2 := HK.out _ HB.out; clear hb2)
  all_goals
    go_wp2_with fail
    go_ret
    exact ⟨rfl, HB.out⟩
end Go.Proofs.YtoecbkndbcblpaaGreatDoor
