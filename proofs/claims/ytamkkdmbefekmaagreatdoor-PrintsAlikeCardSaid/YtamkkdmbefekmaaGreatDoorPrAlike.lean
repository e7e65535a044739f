/-
  Walks over the laws of package prints: two right schemas have one text just if they are the same; and one fingerprint, if they are. Conditions: those in the theorems (the keywords' variable holds what the row lists).
-/
import Derived.Test.YtamkkdmbefekmaaGreatDoorPrBack
import Derived.Test.YtamkkdmbefekmaaGreatDoorPrNo
set_option linter.unusedSimpArgs false
set_option linter.unusedVariables false
namespace Go.Proofs.YtamkkdmbefekmaaGreatDoor
open Go.RowKit
theorem Same_is {w : World} {v1 v2 : Value} {s s2 : Ip.Sch} (h1 : RoSch w v1 s) (h2 : RoSch w v2 s2) (hS : Ck.Small s) :
    Calls Tryz.prog 29 #[v1, v2] w fun e w' => ∃ b, e = .returned (.bool b) ∧ (b = true ↔ s = s2) ∧ Below w.heap.size w w' := by
  by_cases h : s = s2
  · subst h
    refine (Same_ro h1 h2 (small_few hS)).mono ?_
    rintro e w' ⟨rfl, hb⟩
    exact ⟨true, rfl, by simp, hb⟩
  · refine (Same_no h1 h2 (small_few hS) h).mono ?_
    rintro e w' ⟨rfl, hb⟩
    exact ⟨false, rfl, by simp [h], hb⟩
/-- Texts are one just if the schemas are the same. -/
theorem texts_same {s t : Ip.Sch} (h1 : (Pp.text s).2 = 0) (h2 : (Pp.text t).2 = 0) : (Pp.text s).1 = (Pp.text t).1 ↔ s = t := by
  constructor
  · intro h
    have a := (Pp.parse_text h1).1
    have b := (Pp.parse_text h2).1
    rw [h, b] at a
    exact ((Prod.mk.inj a).1).symm
  · intro h; rw [h]
set_option maxRecDepth 100000 in
set_option maxHeartbeats 16000000 in
theorem printsAlike_any {w : World} {sv sw : Value} {s t : Ip.Sch} (h : RoSch w sv s) (h' : RoSch w sw t) (hk : KwIs w) : Calls Tryz.prog 9 #[sv, sw] w fun e w' => e = .returned (.bool true) ∧ Below w.heap.size w w' := by
  obtain ⟨p1, c1, p2, c2, p3, c3, rfl, -, -, -, -, -, -, -⟩ := sch_parts h
  obtain ⟨q1, d1, q2, d2, q3, d3, rfl, -, -, -, -, -, -, -⟩ := sch_parts h'
  obtain ⟨W0, hW0⟩ : ∃ W0, W0 = allocs w [schO s p1 c1 p2 c2 p3 c3, schO t q1 d1 q2 d2 q3 d3] := ⟨_, rfl⟩
  have HX : Hid (∀ W, Below W0.heap.size W0 W → W.heap[w.heap.size]? = some (schO s p1 c1 p2 c2 p3 c3) ∧ W.heap[w.heap.size + 1]? = some (schO t q1 d1 q2 d2 q3 d3) ∧ Below w.heap.size w W) := Lib.hid (by subst hW0; exact fun W hW => ⟨allocs_box (i := 0) rfl hW, allocs_box (i := 1) rfl hW, allocs_on hW⟩)
  obtain ⟨b0, b1, B0⟩ := HX.out W0 (Below.refl _ _)
  obtain ⟨x0, x1, x2, x3⟩ := cells4' b0
  obtain ⟨y0, y1, y2, y3⟩ := cells4' b1
  have HB0 := Lib.hid B0
  have H := Lib.hid h
  have H2 := Lib.hid h'
  have HWK : Hid (∀ W, Below w.heap.size w W → Calls Tryz.prog 21 #[] W fun e w' => e = .returned (.bool true) ∧ Below W.heap.size W w') := Lib.hid fun W hW => wakes14_any W (kw_kp hk (Kp.of_below hW))
  have HK := Lib.hid hk
  have HS := Lib.hid (texts_same (s := s) (t := t))
  have HT1 := Lib.hid fun (W : World) (v : Value) (h : RoSch w v s) (hu : Kp w W) (hS : Ck.Small s) => Text_any h hu hk hS
  have HT2 := Lib.hid fun (W : World) (v : Value) (h : RoSch w v t) (hu : Kp w W) (hS : Ck.Small t) => Text_any h hu hk hS
  have HP1 := Lib.hid fun (W : World) (v : Value) (h : RoSch w v s) (hu : Kp w W) (hS : Ck.Small s) => Print_any h hu hk hS
  have HP2 := Lib.hid fun (W : World) (v : Value) (h : RoSch w v t) (hu : Kp w W) (hS : Ck.Small t) => Print_any h hu hk hS
  have HPE : Hid (s = t → printOf s = printOf t) := Lib.hid fun e => by rw [e]
  obtain ⟨u1, hu1⟩ : ∃ u1, u1 = printOf s := ⟨_, rfl⟩
  obtain ⟨u2, hu2⟩ : ∃ u2, u2 = printOf t := ⟨_, rfl⟩
  rw [← hu1, ← hu2] at HPE
  rw [← hu1] at HP1
  rw [← hu2] at HP2
  clear hu1 hu2
  obtain ⟨t1, ht1⟩ : ∃ t1, t1 = Pp.text s := ⟨_, rfl⟩
  obtain ⟨t2, ht2⟩ : ∃ t2, t2 = Pp.text t := ⟨_, rfl⟩
  rw [← ht1, ← ht2] at HS
  rw [← ht1] at HT1
  rw [← ht2] at HT2
  clear ht1 ht2
  obtain ⟨ta, ea⟩ := t1
  obtain ⟨tb, eb⟩ := t2
  obtain ⟨ua, va⟩ := u1
  obtain ⟨ub, vb⟩ := u2
  simp only at HS HT1 HT2 HP1 HP2
  clear h h' hk b0 b1 B0
  simp only [allocs, schO] at hW0
  go_enter Tryz.func9, Tryz.ntmps9
  go_upto_region 1 with fail
  rw [← hW0]
  clear hW0
  go_wp2_with fail
  clear x0 x1 x2 x3 y0 y1 y2 y3
  refine Calls.mono (Great_any H.out (Kp.of_below HB0.out)) ?_
  rintro e w1 ⟨gb, rfl, hsm, hb1⟩
  have HB1 := Lib.hid hb1
  clear hb1
  cases gb with
  | true =>
    clear hsm
    go_wp2_with fail
    refine Calls.mono (HWK.out _ (HX.out _ HB1.out).2.2) ?_
    rintro e w2 ⟨rfl, hb2⟩
    have HB2 := Lib.hid ((HX.out _ HB1.out).2.2.trans (hb2.mono (HX.out _ HB1.out).2.2.size))
    clear hb2
    go_wp2_with fail
    go_ret
    exact ⟨rfl, HB2.out⟩
  | false =>
  have HSM := Lib.hid (hsm rfl)
  clear hsm
  obtain ⟨y0, y1, y2, y3⟩ := cells4' (HX.out _ HB1.out).2.1
  go_wp2_with fail
  clear y0 y1 y2 y3
  refine Calls.mono (Great_any H2.out (Kp.of_below (HX.out _ HB1.out).2.2)) ?_
  rintro e w2 ⟨gb, rfl, hsm, hb2⟩
  have HB2 := Lib.hid (HB1.out.trans (hb2.mono HB1.out.size))
  clear hb2
  cases gb with
  | true =>
    clear hsm
    go_wp2_with fail
    refine Calls.mono (HWK.out _ (HX.out _ HB2.out).2.2) ?_
    rintro e w3 ⟨rfl, hb3⟩
    have HB3 := Lib.hid ((HX.out _ HB2.out).2.2.trans (hb3.mono (HX.out _ HB2.out).2.2.size))
    clear hb3
    go_wp2_with fail
    go_ret
    exact ⟨rfl, HB3.out⟩
  | false =>
  have HSM2 := Lib.hid (hsm rfl)
  clear hsm
  obtain ⟨x0, x1, x2, x3⟩ := cells4' (HX.out _ HB2.out).1
  go_wp2_with fail
  clear x0 x1 x2 x3
  refine Calls.mono (HT1.out _ _ H.out (Kp.of_below (HX.out _ HB2.out).2.2) HSM.out) ?_
  rintro e w3 ⟨rfl, hb3⟩
  have HB3 := Lib.hid (HB2.out.trans (hb3.mono HB2.out.size))
  clear hb3
  obtain ⟨y0, y1, y2, y3⟩ := cells4' (HX.out _ HB3.out).2.1
  go_wp2_with fail
  clear y0 y1 y2 y3
  refine Calls.mono (HT2.out _ _ H2.out (Kp.of_below (HX.out _ HB3.out).2.2) HSM2.out) ?_
  rintro e w4 ⟨rfl, hb4⟩
  have HB4 := Lib.hid (HB3.out.trans (hb4.mono HB3.out.size))
  clear hb4
  by_cases hea : ea = 0
  case neg =>
    have j1 : (((ea : Nat) : Int) != 0) = true := by rw [bne_iff_ne]; omega
    clear hea
    go_wp2_with fail
    refine Calls.mono (HWK.out _ (HX.out _ HB4.out).2.2) ?_
    rintro e w5 ⟨rfl, hb5⟩
    have HB5 := Lib.hid ((HX.out _ HB4.out).2.2.trans (hb5.mono (HX.out _ HB4.out).2.2.size))
    clear hb5
    go_wp2_with fail
    go_ret
    exact ⟨rfl, HB5.out⟩
  subst hea
  by_cases heb : eb = 0
  case neg =>
    have j1 : (((eb : Nat) : Int) != 0) = true := by rw [bne_iff_ne]; omega
    clear heb
    go_wp2_with fail
    refine Calls.mono (HWK.out _ (HX.out _ HB4.out).2.2) ?_
    rintro e w5 ⟨rfl, hb5⟩
    have HB5 := Lib.hid ((HX.out _ HB4.out).2.2.trans (hb5.mono (HX.out _ HB4.out).2.2.size))
    clear hb5
    go_wp2_with fail
    go_ret
    exact ⟨rfl, HB5.out⟩
  subst heb
  have HSS := Lib.hid (HS.out (by trivial) (by trivial))
  clear HS
  obtain ⟨x0, x1, x2, x3⟩ := cells4' (HX.out _ HB4.out).1
  obtain ⟨y0, y1, y2, y3⟩ := cells4' (HX.out _ HB4.out).2.1
  go_wp2_with fail
  clear x0 x1 x2 x3 y0 y1 y2 y3
  refine Calls.mono (Same_is (H.out.kp (Kp.of_below (HX.out _ HB4.out).2.2)) (H2.out.kp (Kp.of_below (HX.out _ HB4.out).2.2)) HSM.out) ?_
  rintro e w5 ⟨sb, rfl, hsb, hb5⟩
  have HB5 := Lib.hid (HB4.out.trans (hb5.mono HB4.out.size))
  clear hb5
  obtain ⟨x0, x1, x2, x3⟩ := cells4' (HX.out _ HB5.out).1
  go_wp2_with fail
  clear x0 x1 x2 x3
  refine Calls.mono (HP1.out _ _ H.out (Kp.of_below (HX.out _ HB5.out).2.2) HSM.out) ?_
  rintro e w6 ⟨rfl, hb6⟩
  have HB6 := Lib.hid (HB5.out.trans (hb6.mono HB5.out.size))
  clear hb6
  obtain ⟨y0, y1, y2, y3⟩ := cells4' (HX.out _ HB6.out).2.1
  go_wp2_with fail
  clear y0 y1 y2 y3
  refine Calls.mono (HP2.out _ _ H2.out (Kp.of_below (HX.out _ HB6.out).2.2) HSM2.out) ?_
  rintro e w7 ⟨rfl, hb7⟩
  have HB7 := Lib.hid (HB6.out.trans (hb7.mono HB6.out.size))
  clear hb7
  by_cases hst : s = t
  · obtain rfl := hsb.2 hst
    obtain rfl := HSS.out.2 hst
    obtain ⟨rfl, -⟩ := Prod.mk.inj (HPE.out hst)
    clear hst hsb
    go_wp2_with fail
    refine Calls.mono (HWK.out _ (HX.out _ HB7.out).2.2) ?_
    rintro e w8 ⟨rfl, hb8⟩
    have HB8 := Lib.hid ((HX.out _ HB7.out).2.2.trans (hb8.mono (HX.out _ HB7.out).2.2.size))
    clear hb8
    go_wp2_with fail
    go_ret
    exact ⟨rfl, HB8.out⟩
  · obtain rfl : sb = false := by
      cases sb with
      | false => rfl
      | true => exact absurd (hsb.1 rfl) hst
    have e1 := str_no (fun e => hst (HSS.out.1 e))
    clear hst hsb
    go_wp2_with fail
    refine Calls.mono (HWK.out _ (HX.out _ HB7.out).2.2) ?_
    rintro e w8 ⟨rfl, hb8⟩
    have HB8 := Lib.hid ((HX.out _ HB7.out).2.2.trans (hb8.mono (HX.out _ HB7.out).2.2.size))
    clear hb8
    go_wp2_with fail
    go_ret
    exact ⟨rfl, HB8.out⟩
end Go.Proofs.YtamkkdmbefekmaaGreatDoor
