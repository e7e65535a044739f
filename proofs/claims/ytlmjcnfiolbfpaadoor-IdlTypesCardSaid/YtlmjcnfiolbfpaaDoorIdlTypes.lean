/-
  The law IdlTypes, walked: the type that a text is, or its first fault and where, is that of the document's answer. Conditions: those in the theorems (the keywords' variable holds what the row lists).
-/
import Derived.Test.YtlmjcnfiolbfpaaDoorIdlRefType
import Derived.Test.YtlmjcnfiolbfpaaDoorIdlWakes
import Derived.Deep.CutRange
set_option linter.unusedSimpArgs false
set_option linter.unusedVariables false
namespace Go.Proofs.YtlmjcnfiolbfpaaDoor
open Go.RowKit

theorem few_type (t : ByteArray) (h : t.size ≤ 65536) : (Ip.type t.data.toList).1.length ≤ 1000000 := by
  have := Ip.type_few (t := t.data.toList)
  rw [list_len] at this; omega
set_option maxRecDepth 100000 in
set_option maxHeartbeats 8000000 in
theorem idlTypes_any (s : ByteArray) (w : World) (hm : s.size ≤ maxLen) (hk : KwIs w) : Calls Tryd.prog 4 #[.string s] w fun e w' => e = .returned (.bool true) ∧ Below w.heap.size w w' := by
  have z1 : s.size ≤ 9223372036854775807 := hm
  go_enter Tryd.func4, Tryd.ntmps4
  go_upto_if 11 with fail
  go_cut [0] from 12 to 13 (fun xv wc => ∃ x : ByteArray, xv = .string x ∧ Hid (x.size ≤ 5000) ∧ wc = w)
  case first =>
    by_cases h1 : 5000 < s.size
    · have i1 : (5000 : Int) < (s.size : Int) := by omega
      have HE : Hid ((s.extract 0 5000).size ≤ 5000) := Lib.hid (by rw [ByteArray.size_extract]; omega)
      go_wp2_with fail
      go_meet
      exact ⟨_, rfl, HE, rfl⟩
    · have i1 : ¬ (5000 : Int) < (s.size : Int) := by omega
      have HE : Hid (s.size ≤ 5000) := Lib.hid (by omega)
      go_wp2_with fail
      go_meet
      exact ⟨_, rfl, HE, rfl⟩
  case rest =>
    obtain ⟨x, rfl, HX, hwc⟩ := hcut
    subst hwc
    have hxs : x.size ≤ 65536 := by have := HX.out; omega
    have QP := fun W (hW : KwIs W) => Type_any x W hxs hW
    have QR := fun W => RefType_any x W hxs
    have hfew := few_type x hxs
    obtain ⟨⟨S, a, er⟩, hx⟩ : ∃ z, Ip.type x.data.toList = z := ⟨_, rfl⟩
    rw [hx] at QP QR hfew
    have HQP := Lib.hid QP
    have HQR := Lib.hid QR
    have HF := Lib.hid hfew
    have HK := Lib.hid hk
    clear QP QR hfew hx hk
    go_wp2_with fail
    refine Calls.mono (HQP.out _ HK.out) ?_
    rintro e w1 ⟨v1, rfl, hV1, hb1⟩
    obtain ⟨p1, k1, rfl, -, -⟩ := hV1.shape
    have HB1 := Lib.hid hb1
    have HV1 := Lib.hid hV1
    clear hV1 hb1
    go_wp2_with fail
    refine Calls.mono (HQR.out _) ?_
    rintro e w2 ⟨v2, rfl, hV2, hb2⟩
    obtain ⟨p2, k2, rfl, -, -⟩ := hV2.shape
    have HS := Lib.hid (SameSorts_any (HV1.out.below okSo hb2) hV2 HF.out)
    have HB2 := Lib.hid (HB1.out.trans (hb2.mono HB1.out.size))
    clear hV2 hb2
    go_wp2_with (first | (go_at_call 14; refine HS.out.mono ?_; rintro e w3 ⟨rfl, n3, hw3⟩; have HB3 := Lib.hid (HB2.out.trans ((dn_below w2 n3).mono HB2.out.size)); rw [← hw3] at HB3; clear hw3) | (go_at_call 11; refine (wakes_any _ (HK.out.below HB3.out)).mono ?_; rintro e w4 ⟨rfl, hb4⟩) | fail)
    go_ret
    exact ⟨rfl, HB3.out.trans (hb4.mono HB3.out.size)⟩
end Go.Proofs.YtlmjcnfiolbfpaaDoor
