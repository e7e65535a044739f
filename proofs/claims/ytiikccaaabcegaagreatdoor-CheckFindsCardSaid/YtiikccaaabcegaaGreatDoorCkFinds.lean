/-
  Walks over the laws of package check: what is found by name is the document's. Conditions: those in the theorems (the keywords' variable holds what the row lists).
-/
import Derived.Test.YtiikccaaabcegaaGreatDoorCkGreat
import Derived.Test.YtiikccaaabcegaaGreatDoorCkWakes
import Derived.Test.YtiikccaaabcegaaGreatDoorCkFound
set_option linter.unusedSimpArgs false
set_option linter.unusedVariables false
namespace Go.Proofs.YtiikccaaabcegaaGreatDoor
open Go.RowKit
theorem flds_ro {W : World} {base : Nat} {v : Value} {L : List Ip.Fld} (h : RowIs kFld W base v L) (hin : ∀ f ∈ L, FldIn f ∧ ∀ x ∈ f.type, SoIn x) : RoFld W v L :=
  RowIs.ro' okFld (fun _ y hy k => RowIs.ro' okSo (fun _ _ _ _ => trivial) (fun z hz => (hin y hy).2 z hz) k) (fun y hy => (hin y hy).1) h
theorem stps_ro {W : World} {base : Nat} {v : Value} {L : List Ip.Stp} (h : RowIs kStp W base v L) (hin : ∀ p ∈ L, StpIn p) : RoStp W v L :=
  RowIs.ro' okStp (fun _ _ _ _ => trivial) hin h
/-- What read-only parts are known to be. -/
theorem fld_in {W : World} {v : Value} {L : List Ip.Fld} (h : RoFld W v L) : ∀ f ∈ L, FldIn f ∧ ∀ x ∈ f.type, SoIn x := fun f hf => by
  refine ⟨h.ok f hf, ?_⟩
  obtain ⟨p, c, -, -, -, h4⟩ := h
  obtain ⟨i, hi, rfl⟩ := List.getElem_of_mem hf
  obtain ⟨A, t, -, -, hs, -, -⟩ := h4 i hi
  exact RoIs.ok (show RoSo W t L[i].type from hs)
theorem find_in {W : World} {sv : Value} {s : Ip.Sch} (h : RoSch W sv s) (n : ByteArray) : ∀ f ∈ ((Ck.find s n).getD noRcd).fields, FldIn f ∧ ∀ x ∈ f.type, SoIn x := by
  cases hf : Ck.find s n with
  | none => intro f hf; cases hf
  | some r =>
    obtain ⟨vr, vs, vg, -, -, ⟨p, c, -, -, -, h4⟩, -, -⟩ := h
    obtain ⟨i, hi, rfl⟩ := List.getElem_of_mem (List.mem_of_find?_eq_some hf)
    obtain ⟨A, t, -, -, hs, -, -⟩ := h4 i hi
    exact fld_in (show RoFld W t s.records[i].fields from hs)
theorem saga_in {W : World} {sv : Value} {s : Ip.Sch} (h : RoSch W sv s) (n : ByteArray) : ∀ p ∈ ((Ck.saga s n).getD noSga).steps, StpIn p := by
  cases hf : Ck.saga s n with
  | none => intro f hf; cases hf
  | some r =>
    obtain ⟨vr, vs, vg, -, -, -, -, ⟨p, c, -, -, -, h4⟩⟩ := h
    obtain ⟨i, hi, rfl⟩ := List.getElem_of_mem (List.mem_of_find?_eq_some hf)
    obtain ⟨A, t, -, -, hs, -, -⟩ := h4 i hi
    exact RoIs.ok (show RoStp W t s.sagas[i].steps from hs)
set_option maxRecDepth 100000 in
set_option maxHeartbeats 16000000 in
theorem checkFinds_any {w : World} {sv : Value} {s : Ip.Sch} (h : RoSch w sv s) (hk : KwIs w) (n m : ByteArray) (hn : n.size ≤ maxLen) (hm : m.size ≤ maxLen) : Calls Tryz.prog 4 #[sv, .string n, .string m] w fun e w' => e = .returned (.bool true) ∧ Below w.heap.size w w' := by
  obtain ⟨p1, c1, p2, c2, p3, c3, rfl, -, -, -, -, l1, l2, l3⟩ := sch_parts h
  obtain ⟨W0, hW0⟩ : ∃ W0, W0 = allocs w [schO s p1 c1 p2 c2 p3 c3] := ⟨_, rfl⟩
  have HX : Hid (∀ W, Below W0.heap.size W0 W → W.heap[w.heap.size]? = some (schO s p1 c1 p2 c2 p3 c3) ∧ Below w.heap.size w W) := Lib.hid (by subst hW0; exact fun W hW => ⟨allocs_box (i := 0) rfl hW, allocs_on hW⟩)
  obtain ⟨b0, B0⟩ := HX.out W0 (Below.refl _ _)
  obtain ⟨x0, x1, x2, x3⟩ := cells4' b0
  have HB0 := Lib.hid B0
  have H := Lib.hid h
  have HK := Lib.hid hk
  have HWK : Hid (∀ W, Below w.heap.size w W → Calls Tryz.prog 8 #[] W fun e w' => e = .returned (.bool true) ∧ Below W.heap.size W w') := Lib.hid fun W hW => wakes_any W (kw_kp hk (Kp.of_below hW))
  unfold maxLen at hn hm
  clear h hk b0 B0
  simp only [allocs, schO] at hW0
  go_enter Tryz.func4, Tryz.ntmps4
  go_upto_region 1 with fail
  rw [← hW0]
  clear hW0
  go_wp2_with fail
  clear x0 x1 x2 x3
  refine Calls.mono (Great_any H.out (Kp.of_below HB0.out)) ?_
  rintro e w1 ⟨gb, rfl, hsm, hb1⟩
  have HB1 := Lib.hid hb1
  clear hb1
  cases gb with
  | true =>
    clear hsm
    go_wp2_with fail
    refine Calls.mono (HWK.out _ (HX.out _ HB1.out).2) ?_
    rintro e w2 ⟨rfl, hb2⟩
    have HB2 := Lib.hid ((HX.out _ HB1.out).2.trans (hb2.mono (HX.out _ HB1.out).2.size))
    clear hb2
    go_wp2_with fail
    go_ret
    exact ⟨rfl, HB2.out⟩
  | false =>
    have HSM := Lib.hid (hsm rfl)
    clear hsm
    by_cases hn2 : 200 < n.size
    · have j1 : (200 : Int) < ((n.size : Nat) : Int) := by omega
      clear hn2
      go_wp2_with fail
      refine Calls.mono (HWK.out _ (HX.out _ HB1.out).2) ?_
      rintro e w2 ⟨rfl, hb2⟩
      have HB2 := Lib.hid ((HX.out _ HB1.out).2.trans (hb2.mono (HX.out _ HB1.out).2.size))
      clear hb2
      go_wp2_with fail
      go_ret
      exact ⟨rfl, HB2.out⟩
    have j1 : ¬ (200 : Int) < ((n.size : Nat) : Int) := by omega
    by_cases hm2 : 200 < m.size
    · have j2 : (200 : Int) < ((m.size : Nat) : Int) := by omega
      clear hm2 hn2
      go_wp2_with fail
      refine Calls.mono (HWK.out _ (HX.out _ HB1.out).2) ?_
      rintro e w2 ⟨rfl, hb2⟩
      have HB2 := Lib.hid ((HX.out _ HB1.out).2.trans (hb2.mono (HX.out _ HB1.out).2.size))
      clear hb2
      go_wp2_with fail
      go_ret
      exact ⟨rfl, HB2.out⟩
    have j2 : ¬ (200 : Int) < ((m.size : Nat) : Int) := by omega
    clear hn2 hm2
    have HK1 := Lib.hid (Kp.of_below (HX.out _ HB1.out).2)
    obtain ⟨oR, hoR⟩ : ∃ o, o = Ck.find s n := ⟨_, rfl⟩
    obtain ⟨r, hr⟩ : ∃ r, r = oR.getD noRcd := ⟨_, rfl⟩
    obtain ⟨oM, hoM⟩ : ∃ o, o = Ck.method s n m := ⟨_, rfl⟩
    obtain ⟨t, ht⟩ : ∃ t, t = oM.getD noMth := ⟨_, rfl⟩
    obtain ⟨oG, hoG⟩ : ∃ o, o = Ck.saga s n := ⟨_, rfl⟩
    obtain ⟨g, hg⟩ : ∃ g, g = oG.getD noSga := ⟨_, rfl⟩
    have q1 := fun W (hW : Kp w W) => Find_any H.out hW HSM.out n
    have q2 := fun W (hW : Kp w W) => RefFind_any H.out hW n
    have q3 := fun W (hW : Kp w W) => Method_any H.out hW HSM.out n m
    have q4 := fun W (hW : Kp w W) => RefMethod_any H.out hW n m
    have q5 := fun W (hW : Kp w W) => Saga_any H.out hW HSM.out n
    have q6 := fun W (hW : Kp w W) => RefSaga_any H.out hW n
    have hsr := small_find HSM.out n
    have hsg := small_saga HSM.out n
    have hir := find_in H.out n
    have hig := saga_in H.out n
    unfold FindP at q1
    unfold Fnd at q2 q4 q6
    unfold MethodP at q3
    unfold SagaP at q5
    rw [← hoR, ← hr] at hsr hir
    rw [← hoG, ← hg] at hsg hig
    simp only [← hoR, ← hr] at q1 q2
    simp only [← hoM, ← ht] at q3 q4
    simp only [← hoG, ← hg] at q5 q6
    clear hoR hr hoM ht hoG hg
    have HQ1 := Lib.hid q1; have HQ2 := Lib.hid q2; have HQ3 := Lib.hid q3; have HQ4 := Lib.hid q4; have HQ5 := Lib.hid q5; have HQ6 := Lib.hid q6
    have HSR := Lib.hid hsr; have HSG := Lib.hid hsg; have HIR := Lib.hid hir; have HIG := Lib.hid hig
    clear q1 q2 q3 q4 q5 q6 hsr hsg hir hig
    generalize oR.isSome = bR at *
    generalize oM.isSome = bM at *
    generalize oG.isSome = bG at *
    obtain ⟨x0, x1, x2, x3⟩ := cells4' (HX.out _ HB1.out).1
    go_wp2_with fail
    clear x0 x1 x2 x3
    refine Calls.mono (HQ1.out _ (Kp.of_below (HX.out _ HB1.out).2)) ?_
    rintro e w2 ⟨pa, ca, rfl, hra, hb⟩
    obtain ⟨V2, hW⟩ : ∃ W, W = w2.alloc (.cells #[.string r.name, .bool r.choice, .slice pa r.fields.length ca] 34) := ⟨_, rfl⟩
    have hn : V2.heap[w2.heap.size]? = some (.cells #[.string r.name, .bool r.choice, .slice pa r.fields.length ca] 34 (0, 0)) := by rw [hW]; exact heap_alloc_new w2 _
    have hb2 : Below w2.heap.size w2 V2 := by rw [hW]; exact tk_alloc w2 _
    have hb3 := hb.trans (hb2.mono hb.size)
    have HBV2 : Hid (Below W0.heap.size W0 V2) := Lib.hid (HB1.out.trans (hb3.mono HB1.out.size))
    have HY0 := Lib.hid hn
    have Hhra := Lib.hid (RoFld.below (flds_ro hra HIR.out) hb2)
    clear hn hb hb2 hb3 hra
    go_upto_region 4 with fail
    rw [← hW]
    clear hW
    obtain ⟨x0, x1, x2, x3⟩ := cells4' (HX.out _ HBV2.out).1
    go_wp2_with fail
    clear x0 x1 x2 x3
    refine Calls.mono (HQ2.out _ (Kp.of_below (HX.out _ HBV2.out).2)) ?_
    rintro e w3 ⟨v, rfl, ⟨pb, cb, rfl, -, hrb⟩, hb⟩
    obtain ⟨V3, hW⟩ : ∃ W, W = w3.alloc (.cells #[.string r.name, .bool r.choice, .slice pb r.fields.length cb] 34) := ⟨_, rfl⟩
    have hn : V3.heap[w3.heap.size]? = some (.cells #[.string r.name, .bool r.choice, .slice pb r.fields.length cb] 34 (0, 0)) := by rw [hW]; exact heap_alloc_new w3 _
    have hb2 : Below w3.heap.size w3 V3 := by rw [hW]; exact tk_alloc w3 _
    have hb3 := hb.trans (hb2.mono hb.size)
    have HBV3 : Hid (Below W0.heap.size W0 V3) := Lib.hid (HBV2.out.trans (hb3.mono HBV2.out.size))
    have HY0 := Lib.hid (box_keep hb3 HY0.out)
    have HY1 := Lib.hid hn
    have Hhra := Lib.hid (RoFld.below Hhra.out hb3)
    have Hhrb := Lib.hid hrb
    clear hn hb hb2 hb3 hrb
    go_upto_region 5 with fail
    rw [← hW]
    clear hW
    obtain ⟨x0, x1, x2, x3⟩ := cells4' (HX.out _ HBV3.out).1
    go_wp2_with fail
    clear x0 x1 x2 x3
    refine Calls.mono (HQ3.out _ (Kp.of_below (HX.out _ HBV3.out).2)) ?_
    rintro e w4 ⟨rfl, hb⟩
    obtain ⟨V4, hW⟩ : ∃ W, W = w4.alloc (.cells #[.string t.name, .string t.arg, .int .u8 (t.result : Nat), .string t.effect, .string t.undo] 38) := ⟨_, rfl⟩
    have hn : V4.heap[w4.heap.size]? = some (.cells #[.string t.name, .string t.arg, .int .u8 (t.result : Nat), .string t.effect, .string t.undo] 38 (0, 0)) := by rw [hW]; exact heap_alloc_new w4 _
    have hb2 : Below w4.heap.size w4 V4 := by rw [hW]; exact tk_alloc w4 _
    have hb3 := hb.trans (hb2.mono hb.size)
    have HBV4 : Hid (Below W0.heap.size W0 V4) := Lib.hid (HBV3.out.trans (hb3.mono HBV3.out.size))
    have HY0 := Lib.hid (box_keep hb3 HY0.out)
    have HY1 := Lib.hid (box_keep hb3 HY1.out)
    have HY2 := Lib.hid hn
    have Hhra := Lib.hid (RoFld.below Hhra.out hb3)
    clear hn hb hb2 hb3 
    go_upto_region 6 with fail
    rw [← hW]
    clear hW
    obtain ⟨x0, x1, x2, x3⟩ := cells4' (HX.out _ HBV4.out).1
    go_wp2_with fail
    clear x0 x1 x2 x3
    refine Calls.mono (HQ4.out _ (Kp.of_below (HX.out _ HBV4.out).2)) ?_
    rintro e w5 ⟨v, rfl, ⟨rfl, -⟩, hb⟩
    try unfold mthV
    obtain ⟨V5, hW⟩ : ∃ W, W = w5.alloc (.cells #[.string t.name, .string t.arg, .int .u8 (t.result : Nat), .string t.effect, .string t.undo] 38) := ⟨_, rfl⟩
    have hn : V5.heap[w5.heap.size]? = some (.cells #[.string t.name, .string t.arg, .int .u8 (t.result : Nat), .string t.effect, .string t.undo] 38 (0, 0)) := by rw [hW]; exact heap_alloc_new w5 _
    have hb2 : Below w5.heap.size w5 V5 := by rw [hW]; exact tk_alloc w5 _
    have hb3 := hb.trans (hb2.mono hb.size)
    have HBV5 : Hid (Below W0.heap.size W0 V5) := Lib.hid (HBV4.out.trans (hb3.mono HBV4.out.size))
    have HY0 := Lib.hid (box_keep hb3 HY0.out)
    have HY1 := Lib.hid (box_keep hb3 HY1.out)
    have HY2 := Lib.hid (box_keep hb3 HY2.out)
    have HY3 := Lib.hid hn
    have Hhra := Lib.hid (RoFld.below Hhra.out hb3)
    clear hn hb hb2 hb3 
    go_upto_region 7 with fail
    rw [← hW]
    clear hW
    obtain ⟨x0, x1, x2, x3⟩ := cells4' (HX.out _ HBV5.out).1
    go_wp2_with fail
    clear x0 x1 x2 x3
    refine Calls.mono (HQ5.out _ (Kp.of_below (HX.out _ HBV5.out).2)) ?_
    rintro e w6 ⟨pe, ce, rfl, hre, hb⟩
    obtain ⟨V6, hW⟩ : ∃ W, W = w6.alloc (.cells #[.string g.name, .string g.arg, .slice pe g.steps.length ce] 43) := ⟨_, rfl⟩
    have hn : V6.heap[w6.heap.size]? = some (.cells #[.string g.name, .string g.arg, .slice pe g.steps.length ce] 43 (0, 0)) := by rw [hW]; exact heap_alloc_new w6 _
    have hb2 : Below w6.heap.size w6 V6 := by rw [hW]; exact tk_alloc w6 _
    have hb3 := hb.trans (hb2.mono hb.size)
    have HBV6 : Hid (Below W0.heap.size W0 V6) := Lib.hid (HBV5.out.trans (hb3.mono HBV5.out.size))
    have HY0 := Lib.hid (box_keep hb3 HY0.out)
    have HY1 := Lib.hid (box_keep hb3 HY1.out)
    have HY2 := Lib.hid (box_keep hb3 HY2.out)
    have HY3 := Lib.hid (box_keep hb3 HY3.out)
    have HY4 := Lib.hid hn
    have Hhra := Lib.hid (RoFld.below Hhra.out hb3)
    have Hhre := Lib.hid (RoStp.below (stps_ro hre HIG.out) hb2)
    clear hn hb hb2 hb3 hre
    go_upto_region 8 with fail
    rw [← hW]
    clear hW
    obtain ⟨x0, x1, x2, x3⟩ := cells4' (HX.out _ HBV6.out).1
    go_wp2_with fail
    clear x0 x1 x2 x3
    refine Calls.mono (HQ6.out _ (Kp.of_below (HX.out _ HBV6.out).2)) ?_
    rintro e w7 ⟨v, rfl, ⟨pf, cf, rfl, -, hrf⟩, hb⟩
    obtain ⟨V7, hW⟩ : ∃ W, W = w7.alloc (.cells #[.string g.name, .string g.arg, .slice pf g.steps.length cf] 43) := ⟨_, rfl⟩
    have hn : V7.heap[w7.heap.size]? = some (.cells #[.string g.name, .string g.arg, .slice pf g.steps.length cf] 43 (0, 0)) := by rw [hW]; exact heap_alloc_new w7 _
    have hb2 : Below w7.heap.size w7 V7 := by rw [hW]; exact tk_alloc w7 _
    have hb3 := hb.trans (hb2.mono hb.size)
    have HBV7 : Hid (Below W0.heap.size W0 V7) := Lib.hid (HBV6.out.trans (hb3.mono HBV6.out.size))
    have HY0 := Lib.hid (box_keep hb3 HY0.out)
    have HY1 := Lib.hid (box_keep hb3 HY1.out)
    have HY2 := Lib.hid (box_keep hb3 HY2.out)
    have HY3 := Lib.hid (box_keep hb3 HY3.out)
    have HY4 := Lib.hid (box_keep hb3 HY4.out)
    have HY5 := Lib.hid hn
    have Hhra := Lib.hid (RoFld.below Hhra.out hb3)
    have Hhre := Lib.hid (RoStp.below Hhre.out hb3)
    have Hhrf := Lib.hid hrf
    clear hn hb hb2 hb3 hrf
    go_upto_region 9 with fail
    rw [← hW]
    clear hW
    have HKV := Lib.hid (Kp.of_below (HX.out _ HBV7.out).2)
    obtain ⟨a0, a1, a2⟩ := cells3 HY0.out
    obtain ⟨d0, d1, d2⟩ := cells3 HY1.out
    go_wp2_with fail
    clear a0 a1 a2 d0 d1 d2
    refine Calls.mono (SameRecord_ro Hhra.out (Hhrb.out.kp HKV.out) (Nat.le_trans HSR.out.2.1 (by decide)) fun x hx => Nat.le_trans (HSR.out.2.2 x hx).2.1 (by decide)) ?_
    rintro e w8 ⟨rfl, hb8⟩
    obtain ⟨y0, y1, y2, y3, y4⟩ := cells5 (box_keep hb8 HY2.out)
    obtain ⟨z0, z1, z2, z3, z4⟩ := cells5 (box_keep hb8 HY3.out)
    obtain ⟨a0, a1, a2⟩ := cells3 (box_keep hb8 HY4.out)
    obtain ⟨d0, d1, d2⟩ := cells3 (box_keep hb8 HY5.out)
    have HB8 := Lib.hid (HBV7.out.trans (hb8.mono HBV7.out.size))
    have HE8 := Lib.hid (RoStp.below Hhre.out hb8)
    clear hb8
    go_wp2_with fail
    clear y0 y1 y2 y3 y4 z0 z1 z2 z3 z4 a0 a1 a2 d0 d1 d2
    refine Calls.mono (SameSaga_ro HE8.out (Hhrf.out.kp (Kp.of_below (HX.out _ HB8.out).2)) (Nat.le_trans HSG.out.2.2.1 (by decide))) ?_
    rintro e w9 ⟨rfl, hb9⟩
    have HB9 := Lib.hid (HB8.out.trans (hb9.mono HB8.out.size))
    clear hb9
    go_wp2_with fail
    refine Calls.mono (HWK.out _ (HX.out _ HB9.out).2) ?_
    rintro e w10 ⟨rfl, hb10⟩
    have HB10 := Lib.hid ((HX.out _ HB9.out).2.trans (hb10.mono (HX.out _ HB9.out).2.size))
    clear hb10
    go_wp2_with fail
    go_ret
    exact ⟨rfl, HB10.out⟩
end Go.Proofs.YtiikccaaabcegaaGreatDoor
