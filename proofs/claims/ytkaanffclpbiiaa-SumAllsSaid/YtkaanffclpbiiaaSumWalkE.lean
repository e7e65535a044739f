/-
  Walks over package sum: the law's wake. No conditions but those in the theorems.
-/
import Derived.Test.YtkaanffclpbiiaaRows
import Derived.Test.YtkaanffclpbiiaaSumFrames
import Derived.Test.YtkaanffclpbiiaaSumWalkD
import Derived.WalkKit
import Derived.WalkSpells
import Derived.WalkLawsBesides
import Derived.Handy
import Derived.Lib.Hide
import Derived.Deep.QuietTactic
import Derived.BigQuiet
import Derived.Deep.RegionHeld3
import Derived.Deep.MidRow
import Derived.Lib.ConvBytes
import Derived.Lib.SlBytesRow
namespace Go.Proofs.Ytkaanffclpbiiaa
open Go.RowKit

theorem crc_known : Sm.crc [49, 50, 51, 52, 53, 54, 55, 56, 57] = 3808858755 := by decide +kernel
theorem fnv_known : Sm.fnv [97] = 12638187200555641996 := by decide +kernel
theorem next_known : Sm.behind (Sm.frame [97, 98] ++ [120]) 0 = some 10 := by decide +kernel
theorem body_known : Sm.bodyAt (Sm.frame [97, 98] ++ [120]) 0 10 = [97, 98] := by decide +kernel
theorem cat_known : ((⟨(Sm.frame [97, 98]).toArray⟩ : ByteArray) ++ ⟨#[120]⟩) = ⟨(Sm.frame [97, 98] ++ [120]).toArray⟩ := ByteArray.mk_append_mk _ [120]
theorem nextVal_known : nextVal (⟨(Sm.frame [97, 98] ++ [120]).toArray⟩ : ByteArray).data.toList 0 = .tuple #[.string ⟨#[97, 98]⟩, .int .i64 10, .bool true] := by
  unfold nextVal
  have h : Sm.behind (⟨(Sm.frame [97, 98] ++ [120]).toArray⟩ : ByteArray).data.toList 0 = some 10 := next_known
  rw [h]
  show Value.tuple #[.string ⟨(Sm.bodyAt (Sm.frame [97, 98] ++ [120]) 0 10).toArray⟩, _, _] = _
  rw [body_known]
  rfl

set_option maxHeartbeats 400000 in
theorem awake_any (w : World) :
    Calls Try.prog 13 #[] w fun e w' => e = .returned (.bool true) ∧ Below w.heap.size w w' := by
  go_enter Try.func13, Try.ntmps13
  go_wp2_with fail
  refine (Frame_short ⟨#[97, 98]⟩ _ (by decide)).mono ?_
  rintro e w1 ⟨rfl, hb1⟩
  go_wp2_with fail
  rw [cat_known]
  refine (Next_any _ 0 _ (by rw [size_mk, List.length_append, Sm.frame_len]; decide)).mono ?_
  rintro e w2 ⟨rfl, hb2⟩
  rw [nextVal_known]
  go_wp2_with fail
  refine (Crc_any _ _ (by decide)).mono ?_
  rintro e w3 ⟨rfl, hb3⟩
  rw [show Sm.crc (⟨#[49, 50, 51, 52, 53, 54, 55, 56, 57]⟩ : ByteArray).data.toList = 3808858755 from crc_known]
  go_wp2_with fail
  refine (long_any _ _ (by decide)).mono ?_
  rintro e w4 ⟨rfl, rfl⟩
  rw [show Sm.fnv (⟨#[97]⟩ : ByteArray).data.toList = 12638187200555641996 from fnv_known]
  go_wp2
  go_ret
  exact ⟨rfl, btr (btr hb1 hb2) hb3⟩
end Go.Proofs.Ytkaanffclpbiiaa
