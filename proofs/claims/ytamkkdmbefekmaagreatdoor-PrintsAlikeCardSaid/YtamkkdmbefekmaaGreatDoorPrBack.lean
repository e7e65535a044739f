/-
  Walks over the laws of package prints: what is read of a schema's text is that schema. Conditions: those in the theorems (the keywords' variable holds what the row lists).
-/
import Derived.Test.YtamkkdmbefekmaaGreatDoorPrText
import Derived.Test.YtamkkdmbefekmaaGreatDoorPrBackMath
import Derived.Test.YtamkkdmbefekmaaGreatDoorPrSame
import Derived.Test.YtamkkdmbefekmaaGreatDoorCkGreat
set_option linter.unusedSimpArgs false
set_option linter.unusedVariables false
namespace Go.Proofs.YtamkkdmbefekmaaGreatDoor
open Go.RowKit
theorem sch_in {W : World} {v : Value} {s : Ip.Sch} (h : RoSch W v s) : ShpIn s := by
  obtain ⟨vr, vs, vg, -, h0, h1, h2, h3⟩ := h
  have sub {α : Type} {K : RowKind α} {inn : α → Prop} {sub : World → Value → α → Prop} {v : Value} {L : List α} (k : RoIs K inn sub W v L) : ∀ x ∈ L, inn x ∧ ∃ t, sub W t x := fun x hx => by
    obtain ⟨p, c, -, -, -, h4⟩ := k
    obtain ⟨i, hi, rfl⟩ := List.getElem_of_mem hx
    obtain ⟨A, t, -, -, a3, a4, -⟩ := h4 i hi
    exact ⟨a4, t, a3⟩
  refine ⟨h0, fun r hr => ?_, fun x hx => ?_, fun x hx => ?_⟩
  · obtain ⟨a, t, b⟩ := sub h1 r hr
    refine ⟨a, fun f hf => ?_⟩
    obtain ⟨a', t', b'⟩ := sub b f hf
    exact ⟨a', fun x hx => (sub b' x hx).1⟩
  · obtain ⟨a, t, b⟩ := sub h2 x hx
    exact ⟨a, fun m hm => (sub b m hm).1⟩
  · obtain ⟨a, t, b⟩ := sub h3 x hx
    exact ⟨a, fun m hm => (sub b m hm).1⟩
theorem small_few {s : Ip.Sch} (h : Ck.Small s) : Ip.Few 1000000 s := by
  refine ⟨Nat.le_trans h.nr (by decide), Nat.le_trans h.ns (by decide), Nat.le_trans h.ng (by decide), fun r hr => ⟨Nat.le_trans (h.r r hr).2.1 (by decide), fun f hf => Nat.le_trans ((h.r r hr).2.2 f hf).2.1 (by decide)⟩, fun v hv => Nat.le_trans (h.v v hv).2.1 (by decide), fun g hg => Nat.le_trans (h.g g hg).2.2.1 (by decide)⟩
theorem text_none {s : Ip.Sch} (h : (Pp.text s).2 ≠ 0) : (Pp.text s).1 = ⟨#[]⟩ := by
  unfold Pp.text at h ⊢
  split
  · rfl
  · rename_i h1
    rw [if_neg h1] at h
    split
    · rfl
    · rename_i h2
      rw [if_neg h2] at h
      exact absurd rfl h
theorem text_size (s : Ip.Sch) : (Pp.text s).1.size ≤ 65536 := by
  unfold Pp.text
  split
  · exact Nat.zero_le _
  · split
    · exact Nat.zero_le _
    · show (Pp.line s).length ≤ 65536; omega
set_option maxRecDepth 100000 in
set_option maxHeartbeats 16000000 in
theorem printsBack_any {w : World} {sv : Value} {s : Ip.Sch} (h : RoSch w sv s) (hk : KwIs w) : Calls Tryz.prog 8 #[sv] w fun e w' => e = .returned (.bool true) ∧ Below w.heap.size w w' := by
  obtain ⟨p1, c1, p2, c2, p3, c3, rfl, hsn, hr, hs, hg, l1, l2, l3⟩ := sch_parts h
  obtain ⟨W0, hW0⟩ : ∃ W0, W0 = allocs w [schO s p1 c1 p2 c2 p3 c3] := ⟨_, rfl⟩
  have HX : Hid (∀ W, Below W0.heap.size W0 W → W.heap[w.heap.size]? = some (schO s p1 c1 p2 c2 p3 c3) ∧ Below w.heap.size w W) := Lib.hid (by subst hW0; exact fun W hW => ⟨allocs_box (i := 0) rfl hW, allocs_on hW⟩)
  obtain ⟨b0, B0⟩ := HX.out W0 (Below.refl _ _)
  obtain ⟨x0, x1, x2, x3⟩ := cells4' b0
  have HB0 := Lib.hid B0
  have H := Lib.hid h
  have HIN := Lib.hid (sch_in h)
  have HWK : Hid (∀ W, Below w.heap.size w W → Calls Tryz.prog 21 #[] W fun e w' => e = .returned (.bool true) ∧ Below W.heap.size W w') := Lib.hid fun W hW => wakes14_any W (kw_kp hk (Kp.of_below hW))
  have HK := Lib.hid hk
  have HTN := Lib.hid (text_none (s := s))
  have HTS := Lib.hid (text_size s)
  have HTP := Lib.hid (Pp.parse_text (s := s))
  have HTX := Lib.hid fun (u W : World) (v : Value) (h : RoSch u v s) (hu : Kp u W) (hk : KwIs u) (hS : Ck.Small s) => Text_any h hu hk hS
  have HPA := Lib.hid fun (t : ByteArray) (W : World) (hm : t.size ≤ 65536) (hk : KwIs W) => Parse_any t W hm hk
  obtain ⟨tx, htx⟩ : ∃ tx, tx = Pp.text s := ⟨_, rfl⟩
  rw [← htx] at HTN HTS HTP HTX
  clear htx
  obtain ⟨tt, te⟩ := tx
  simp only at HTN HTS HTP HTX
  clear h hk hr hs hg b0 B0 hsn
  simp only [allocs, schO] at hW0
  go_enter Tryz.func8, Tryz.ntmps8
  go_upto_region 1 with fail
  rw [← hW0]
  clear hW0
  go_wp2_with fail
  clear x0 x1 x2 x3
  refine Calls.mono (Great_any H.out (Kp.of_below HB0.out)) ?_
  rintro e w1 ⟨gb, rfl, hsm, hb1⟩
  have HB1 := Lib.hid hb1
  clear hb1
  cases gb with
  | true =>
    clear hsm
    go_wp2_with fail
    refine Calls.mono (HWK.out _ (HX.out _ HB1.out).2) ?_
    rintro e w2 ⟨rfl, hb2⟩
    have HB2 := Lib.hid ((HX.out _ HB1.out).2.trans (hb2.mono (HX.out _ HB1.out).2.size))
    clear hb2
    go_wp2_with fail
    go_ret
    exact ⟨rfl, HB2.out⟩
  | false =>
    have HSM := Lib.hid (hsm rfl)
    clear hsm
    obtain ⟨b1, k1⟩ := HX.out _ HB1.out
    obtain ⟨x0, x1, x2, x3⟩ := cells4' b1
    have HK1 := Lib.hid (Kp.of_below k1)
    clear b1 k1
    go_wp2_with fail
    clear x0 x1 x2 x3
    refine Calls.mono (HTX.out _ _ _ H.out HK1.out HK.out HSM.out) ?_
    rintro e w2 ⟨rfl, hb2⟩
    have HB2 := Lib.hid (HB1.out.trans (hb2.mono HB1.out.size))
    clear hb2
    by_cases hce : te = 0
    case neg =>
      have j1 : (((te : Nat) : Int) != 0) = true := by rw [bne_iff_ne]; omega
      obtain rfl := HTN.out hce
      clear hce
      go_wp2_with fail
      refine Calls.mono (HWK.out _ (HX.out _ HB2.out).2) ?_
      rintro e w3 ⟨rfl, hb3⟩
      have HB3 := Lib.hid ((HX.out _ HB2.out).2.trans (hb3.mono (HX.out _ HB2.out).2.size))
      clear hb3
      go_wp2_with fail
      go_ret
      exact ⟨rfl, HB3.out⟩
    case pos =>
    subst hce
    have HPS := Lib.hid (HTP.out rfl).1
    go_wp2_with fail
    refine Calls.mono (HPA.out tt _ HTS.out (kw_kp HK.out (Kp.of_below (HX.out _ HB2.out).2))) ?_
    rw [HPS.out]
    rintro e w3 ⟨v, rfl, hsv, hb3⟩
    have HR := Lib.hid (hsv.ro HIN.out)
    obtain ⟨vr, vs, vg, rfl, h1, h2, h3⟩ := hsv
    obtain ⟨q1, d1, rfl, -⟩ := h1.shape
    obtain ⟨q2, d2, rfl, -⟩ := h2.shape
    obtain ⟨q3, d3, rfl, -⟩ := h3.shape
    clear h1 h2 h3
    have HB3 := Lib.hid (HB2.out.trans (hb3.mono HB2.out.size))
    clear hb3
    obtain ⟨W3, hW3⟩ : ∃ W3, W3 = w3.alloc (.cells #[.string s.name, .slice q1 s.records.length d1, .slice q2 s.services.length d2, .slice q3 s.sagas.length d3] 26) := ⟨_, rfl⟩
    have HN3 : Hid (W3.heap[w3.heap.size]? = some (.cells #[.string s.name, .slice q1 s.records.length d1, .slice q2 s.services.length d2, .slice q3 s.sagas.length d3] 26 (0, 0))) := Lib.hid (by rw [hW3]; exact heap_alloc_new w3 _)
    have HB4 : Hid (Below w3.heap.size w3 W3) := Lib.hid (by rw [hW3]; exact tk_alloc w3 _)
    have HB5 := Lib.hid (HB3.out.trans (HB4.out.mono HB3.out.size))
    obtain ⟨x0, x1, x2, x3⟩ := cells4' (HX.out _ HB5.out).1
    obtain ⟨y0, y1, y2, y3⟩ := cells4' HN3.out
    have HR3 := Lib.hid (HR.out.below HB4.out)
    have HKP0 := Lib.hid (Kp.of_below HB4.out)
    go_upto_region 7 with fail
    rw [← hW3]
    clear hW3
    generalize w3.heap.size = g3 at *
    go_wp2_with fail
    clear x0 x1 x2 x3 y0 y1 y2 y3
    refine Calls.mono (Same_ro (H.out.kp (Kp.of_below (HX.out _ HB5.out).2)) HR3.out (small_few HSM.out)) ?_
    rintro e w4 ⟨rfl, hb6⟩
    have HB6 := Lib.hid (HB5.out.trans (hb6.mono HB5.out.size))
    obtain ⟨y0, y1, y2, y3⟩ := cells4' (box_keep hb6 HN3.out)
    have HKP : Hid (Kp w3 w4) := Lib.hid (HKP0.out.below hb6)
    have HK3 : Hid (KwIs w3) := Lib.hid (kw_kp HK.out (Kp.of_below (HX.out _ HB3.out).2))
    clear hb6
    go_wp2_with fail
    clear y0 y1 y2 y3
    refine Calls.mono (HTX.out _ _ _ HR.out HKP.out HK3.out HSM.out) ?_
    rintro e w5 ⟨rfl, hb7⟩
    have HB7 := Lib.hid (HB6.out.trans (hb7.mono HB6.out.size))
    clear hb7
    go_wp2_with fail
    refine Calls.mono (HWK.out _ (HX.out _ HB7.out).2) ?_
    rintro e w6 ⟨rfl, hb8⟩
    have HB8 := Lib.hid ((HX.out _ HB7.out).2.trans (hb8.mono (HX.out _ HB7.out).2.size))
    clear hb8
    go_wp2_with fail
    go_ret
    exact ⟨rfl, HB8.out⟩
end Go.Proofs.YtamkkdmbefekmaaGreatDoor
