/-
  The law IdlParses, walked: what a text declares, or its first fault and where, is that of the document's answer. Conditions: those in the theorems (the keywords' variable holds what the row lists).
-/
import Derived.Test.YtlmjcnfiolbfpaaDoorIdlRefParse
import Derived.Test.YtlmjcnfiolbfpaaDoorIdlBlanks
set_option linter.unusedSimpArgs false
set_option linter.unusedVariables false
namespace Go.Proofs.YtlmjcnfiolbfpaaDoor
open Go.RowKit

set_option maxRecDepth 100000 in
set_option maxHeartbeats 8000000 in
theorem idlParses_any (s : ByteArray) (w : World) (hm : s.size ≤ maxLen) (hk : KwIs w) : Calls Tryd.prog 3 #[.string s] w fun e w' => e = .returned (.bool true) ∧ Below w.heap.size w w' := by
  have z1 : s.size ≤ 9223372036854775807 := hm
  go_enter Tryd.func3, Tryd.ntmps3
  go_upto_if 11 with fail
  go_cut [0] from 12 to 13 (fun xv wc => ∃ x : ByteArray, xv = .string x ∧ Hid (x.size ≤ 5000) ∧ wc = w)
  case first =>
    by_cases h1 : 5000 < s.size
    · have i1 : (5000 : Int) < (s.size : Int) := by omega
      have HE : Hid ((s.extract 0 5000).size ≤ 5000) := Lib.hid (by rw [ByteArray.size_extract]; omega)
      go_wp2_with fail
      go_meet
      exact ⟨_, rfl, HE, rfl⟩
    · have i1 : ¬ (5000 : Int) < (s.size : Int) := by omega
      have HE : Hid (s.size ≤ 5000) := Lib.hid (by omega)
      go_wp2_with fail
      go_meet
      exact ⟨_, rfl, HE, rfl⟩
  case rest =>
    obtain ⟨x, rfl, HX, hwc⟩ := hcut
    subst hwc
    have hxs : x.size ≤ 65536 := by have := HX.out; omega
    have QP := fun W (hW : KwIs W) => Parse_any x W hxs hW
    have QR := fun W => RefParse_any x W hxs
    have hfew := few_of x hxs
    obtain ⟨⟨S, a, er⟩, hx⟩ : ∃ z, Ip.parse x.data.toList = z := ⟨_, rfl⟩
    rw [hx] at QP QR hfew
    have HQP := Lib.hid QP
    have HQR := Lib.hid QR
    have HF := Lib.hid hfew
    have HK := Lib.hid hk
    clear QP QR hfew hx hk
    go_wp2_with fail
    refine Calls.mono (HQP.out _ HK.out) ?_
    rintro e w1 ⟨v1, rfl, hV1, hb1⟩
    have HB1 := Lib.hid hb1
    have HV1 := Lib.hid hV1
    obtain ⟨vr, vs, vg, rfl, h1, h2, h3⟩ := hV1
    obtain ⟨p1, k1, rfl, -, -⟩ := h1.shape
    obtain ⟨p2, k2, rfl, -, -⟩ := h2.shape
    obtain ⟨p3, k3, rfl, -, -⟩ := h3.shape
    clear h1 h2 h3 hb1
    go_upto_region 4 with fail
    obtain ⟨W1, hW1⟩ : ∃ W1, W1 = w1.alloc (.cells #[.string S.name, .slice p1 S.records.length k1, .slice p2 S.services.length k2, .slice p3 S.sagas.length k3] 26) := ⟨_, rfl⟩
    have hb2 : Below w1.heap.size w1 W1 := by rw [hW1]; exact tk_alloc _ _
    have hn1 : W1.heap[w1.heap.size]? = some (.cells #[.string S.name, .slice p1 S.records.length k1, .slice p2 S.services.length k2, .slice p3 S.sagas.length k3] 26 (0, 0)) := by rw [hW1]; exact heap_alloc_new _ _
    have HB2 := Lib.hid (HB1.out.trans (hb2.mono HB1.out.size))
    have HV2 := Lib.hid (HV1.out.below hb2)
    have HN1 := Lib.hid hn1
    rw [← hW1]
    clear hW1 hb2 hn1
    go_wp2_with fail
    refine Calls.mono (HQR.out _) ?_
    rintro e w3 ⟨v3, rfl, hV3, hb3⟩
    have HB3 := Lib.hid (HB2.out.trans (hb3.mono HB2.out.size))
    have HV3 := Lib.hid hV3
    have HV2b := Lib.hid (HV2.out.below hb3)
    have HN3 := Lib.hid ((hb3.block _ (Array.getElem?_eq_some_iff.1 HN1.out).1).trans HN1.out)
    obtain ⟨vr, vs, vg, rfl, h1, h2, h3⟩ := hV3
    obtain ⟨p4, k4, rfl, -, -⟩ := h1.shape
    obtain ⟨p5, k5, rfl, -, -⟩ := h2.shape
    obtain ⟨p6, k6, rfl, -, -⟩ := h3.shape
    clear h1 h2 h3 hb3
    go_upto_region 5 with fail
    obtain ⟨W4, hW4⟩ : ∃ W4, W4 = w3.alloc (.cells #[.string S.name, .slice p4 S.records.length k4, .slice p5 S.services.length k5, .slice p6 S.sagas.length k6] 26) := ⟨_, rfl⟩
    have hb4 : Below w3.heap.size w3 W4 := by rw [hW4]; exact tk_alloc _ _
    have hn4 : W4.heap[w3.heap.size]? = some (.cells #[.string S.name, .slice p4 S.records.length k4, .slice p5 S.services.length k5, .slice p6 S.sagas.length k6] 26 (0, 0)) := by rw [hW4]; exact heap_alloc_new _ _
    have HB4 := Lib.hid (HB3.out.trans (hb4.mono HB3.out.size))
    have HS := Lib.hid (Same_any (HV2b.out.below hb4) (HV3.out.below hb4) HF.out)
    have hn3 := (hb4.block _ (Array.getElem?_eq_some_iff.1 HN3.out).1).trans HN3.out
    obtain ⟨m0, m1, m2, m3⟩ := cells4 hn4
    obtain ⟨n0, n1, n2, n3⟩ := cells4 hn3
    rw [← hW4]
    clear hW4 hb4 hn4 hn3
    go_wp2_with (first | (go_at_call 10; refine HS.out.mono ?_; rintro e w5 ⟨rfl, hb5⟩; have HB5 := Lib.hid (HB4.out.trans (hb5.mono HB4.out.size)); clear hb5) | (go_at_call 11; refine (wakes_any _ (HK.out.below HB5.out)).mono ?_; rintro e w6 ⟨rfl, hb6⟩) | fail)
    go_ret
    exact ⟨rfl, HB5.out.trans (hb6.mono HB5.out.size)⟩
end Go.Proofs.YtlmjcnfiolbfpaaDoor
