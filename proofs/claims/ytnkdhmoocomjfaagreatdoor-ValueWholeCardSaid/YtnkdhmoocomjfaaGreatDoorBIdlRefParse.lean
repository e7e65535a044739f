/-
  Walks over the document's answer for declarations: Parse. Conditions: those in the theorems.
-/
import Derived.Test.YtnkdhmoocomjfaaGreatDoorBIdlRefF
import Derived.Test.YtnkdhmoocomjfaaGreatDoorBIdlRefType
set_option linter.unusedSimpArgs false
set_option linter.unusedVariables false
namespace Ip
theorem decls_ends : ∀ (n : Nat) (s : Sch) (r : R), r.left.length ≤ n → ends (decls s r).2 = true
  | n, s, r, h => by
    rw [decls_eq]
    cases he : ends r with
    | true => rw [if_pos rfl]; exact he
    | false =>
      rw [if_neg (by simp)]
      rcases takes_declare s r (not_ends he) with h1 | h1
      · unfold decls; rw [declsF_end (ends_stuck h1)]; exact ends_stuck h1
      · cases n with
        | zero => omega
        | succ n => exact decls_ends n _ _ (by omega)
theorem schema_ends (r : R) : ends (schema r).2 = true := by
  unfold schema
  rw [bind_eq]
  exact decls_ends _ _ _ (Nat.le_refl _)
end Ip
namespace Go.Proofs.YtnkdhmoocomjfaaGreatDoor
open Go.RowKit

theorem refParse_res {W : World} {tmps : Array Value} {b : Nat} {x0 x1 x2 x3 x5 x6 : Value} (h2 : tmps[2]? = some (.pointer (some ⟨b, 0, none⟩))) (h5 : tmps[3]? = some x5) (h6 : tmps[4]? = some x6) (h : W.heap[b]? = some (.cells #[x0, x1, x2, x3] 26 (0, 0))) :
    (results Tryz.f57 tmps).run Tryz.prog W = .ok (.tuple #[.agg #[x0, x1, x2, x3], x5, x6]) W := by
  obtain ⟨c0, c1, c2, c3⟩ := cells4 h
  simp [results, Tryz.results57, h2, h5, h6, go_sem, c0, c1, c2, c3]
set_option maxRecDepth 100000 in
set_option maxHeartbeats 8000000 in
theorem RefParse_any (t : ByteArray) (w : World) (hm : t.size ≤ 65536) : Calls Tryz.prog 57 #[.string t] w (Parsed (Ip.parse t.data.toList) w) := by
  have QA := fun W => RefAll_any t W hm
  have hin := all_in t hm
  have hct := all_count t hm
  have hri := Tk.all_right _ 0 t.data.toList (Nat.le_refl _)
  obtain ⟨o, ho⟩ : ∃ o, Tk.all 0 t.data.toList = o := ⟨_, rfl⟩
  rw [ho] at QA hin hct hri
  obtain ⟨W0, hW0⟩ : ∃ W0, W0 = w.alloc (.cells zS 26) := ⟨_, rfl⟩
  have hb0 : Below w.heap.size w W0 := by rw [hW0]; exact tk_alloc w _
  have hz0 : W0.heap[w.heap.size]? = some (.cells zS 26 (0, 0)) := by rw [hW0]; exact heap_alloc_new w _
  have HX : Hid (∀ W, Below W0.heap.size W0 W → W.heap[w.heap.size]? = some (.cells zS 26 (0, 0)) ∧ Below w.heap.size w W) := Lib.hid fun W hW =>
    ⟨(hW.block _ (Array.getElem?_eq_some_iff.1 hz0).1).trans hz0, hb0.trans (hW.mono hb0.size)⟩
  have HS0 : Hid (w.heap.size ≤ W0.heap.size) := Lib.hid hb0.size
  unfold zS at hW0
  clear hb0 hz0
  cases o with
  | no a er =>
    have HE := Lib.hid (Ip.parse_no ho)
    have her : (((er : Nat) : Int) != 0) = true := by rw [bne_iff_ne]; have := Tk.all_err ho; omega
    unfold Alls Tk.Out.at_ Tk.Out.err Tk.Out.toks at QA
    clear ho hin hct hri
    go_enter Tryz.func57, Tryz.ntmps57
    go_upto_region 1 with fail
    rw [← hW0]
    clear hW0
    go_wp2_with fail
    refine Calls.mono (QA _) ?_
    rintro e w1 ⟨v, rfl, hv, hb1⟩
    obtain ⟨hz, hB⟩ := HX.out _ hb1
    unfold zS at hz
    obtain ⟨z0, z1, z2, z3⟩ := cells4 hz
    have f0 := frozen2 hz 0
    have f1 := frozen2 hz 1
    have f2 := frozen2 hz 2
    have f3 := frozen2 hz 3
    obtain ⟨pv, cv, rfl, -, -⟩ := hv.shape
    have HZ := Lib.hid hz
    have HB := Lib.hid hB
    clear hz hB hv hb1 QA
    go_wp2_with fail
    refine bodyPost_ret (refParse_res rfl rfl rfl (set_four _ _ _ _ HZ.out)) rfl ?_
    rw [HE.out]
    exact ⟨_, rfl, SchV.zero _ _, below_four HB.out (Nat.le_refl _)⟩
  | ok ts =>
    unfold Alls Tk.Out.at_ Tk.Out.err Tk.Out.toks at QA
    simp only [Tk.Out.toks] at hin hct hri
    have hen := Ip.schema_ends ⟨ts, false⟩
    obtain ⟨⟨S, r'⟩, hx⟩ : ∃ y, Ip.schema ⟨ts, false⟩ = y := ⟨_, rfl⟩
    have QS := fun (W : World) (p : Option Addr) (c : Nat) (h : Toks W p ts) => refSchema_any (cap := c) h
    rw [hx] at QS hen
    have HQS := Lib.hid QS
    have HIN := Lib.hid hin
    have HRI := Lib.hid hri
    have HHO := Lib.hid ho
    have HXX := Lib.hid hx
    have HEN : Hid (Ip.ends r' = true) := Lib.hid hen
    have hne : (((0 : Nat) : Int) != 0) = false := rfl
    clear ho hin hri QS hx hen
    go_enter Tryz.func57, Tryz.ntmps57
    go_upto_region 1 with fail
    rw [← hW0]
    clear hW0
    go_wp2_with fail
    refine Calls.mono (QA _) ?_
    rintro e w1 ⟨v, rfl, hv, hb1⟩
    obtain ⟨p, c, rfl, -, -, ht⟩ := hv.toks HIN.out
    have HT := Lib.hid (Toks.mk ht HRI.out hct)
    have HB1 := Lib.hid hb1
    clear hv ht hb1 QA
    go_wp2_with fail
    refine (HQS.out _ _ _ HT.out).mono ?_
    rintro e w2 ⟨v2, i', X, rfl, hV2, hu, ha, hb2⟩
    have HSZ1 : Hid (w.heap.size ≤ w1.heap.size) := Lib.hid (by have := HB1.out.size; have := HS0.out; omega)
    have HV2 := Lib.hid (SchV.mono hV2 HSZ1.out)
    have HB2 := Lib.hid (HB1.out.trans (hb2.mono HB1.out.size))
    have HT2 := Lib.hid (HT.out.below hb2)
    obtain ⟨vr, vs, vg, rfl, h1, h2, h3⟩ := hV2
    obtain ⟨p1, k1, rfl, -, -⟩ := h1.shape
    obtain ⟨p2, k2, rfl, -, -⟩ := h2.shape
    obtain ⟨p3, k3, rfl, -, -⟩ := h3.shape
    clear h1 h2 h3 hb2
    go_upto_region 5 with fail
    obtain ⟨W3, hW3⟩ : ∃ W3, W3 = w2.alloc (.cells #[.string X.name, .slice p1 X.records.length k1, .slice p2 X.services.length k2, .slice p3 X.sagas.length k3] 26) := ⟨_, rfl⟩
    have hb3 : Below w2.heap.size w2 W3 := by rw [hW3]; exact tk_alloc _ _
    have hn3 : W3.heap[w2.heap.size]? = some (.cells #[.string X.name, .slice p1 X.records.length k1, .slice p2 X.services.length k2, .slice p3 X.sagas.length k3] 26 (0, 0)) := by rw [hW3]; exact heap_alloc_new _ _
    obtain ⟨hz, hB⟩ := HX.out _ (HB2.out.trans (hb3.mono HB2.out.size))
    have HV3 := Lib.hid (HV2.out.below hb3)
    have HT3 := Lib.hid (HT2.out.below hb3)
    rw [← hW3]
    clear hW3 hb3
    unfold zS at hz
    obtain ⟨z0, z1, z2, z3⟩ := cells4 hz
    obtain ⟨m0, m1, m2, m3⟩ := cells4 hn3
    have f0 := frozen2 hz 0
    have f1 := frozen2 hz 1
    have f2 := frozen2 hz 2
    have f3 := frozen2 hz 3
    have HZ := Lib.hid hz
    have HB := Lib.hid hB
    clear hz hn3 hB
    cases hs : r'.stuck with
    | true =>
      obtain ⟨k, hk, rfl, rfl⟩ := Ip.at_stuck ha hs
      have HEE : Hid (Ip.parse t.data.toList = (Ip.Sch.zero, Ip.placeOf t (ts.drop k), 120)) := Lib.hid (Ip.whole_stuck HHO.out HXX.out)
      have HP := Lib.hid (refPlace_any (cap := c) t HT3.out hk hm)
      have i1 : (-1 : Int) - (k : Int) < 0 := by omega
      have i2 : (-1 : Int) - (-1 - (k : Int)) = (k : Int) := by omega
      have i3 : (k : Int) ≤ 65536 := by omega
      have i4 : (0 : Int) ≤ (k : Int) := by omega
      clear ha hu hs m0 m1 m2 m3
      go_wp2_with fail
      try rw [i2]
      refine HP.out.mono ?_
      rintro e w' ⟨rfl, hw⟩
      obtain rfl := hw
      go_wp2_with fail
      refine bodyPost_ret (refParse_res rfl rfl rfl (set_four _ _ _ _ HZ.out)) rfl ?_
      rw [HEE.out]
      exact ⟨_, rfl, SchV.zero _ _, below_four HB.out (Nat.le_refl _)⟩
    | false =>
      obtain ⟨k, hk, rfl, rfl⟩ := Ip.at_go ha hs
      obtain rfl := hu hs
      have hkl : ts.length ≤ k := by
        by_cases hlt : k < ts.length
        · have := ends_at HRI.out hlt; rw [HEN.out] at this; cases this
        · omega
      have HEE : Hid (Ip.parse t.data.toList = (X, 0, 0)) := Lib.hid (Ip.whole_done HHO.out HXX.out hkl)
      have i1 : ¬ (k : Int) < 0 := by omega
      have i2 : (0 : Int) ≤ (k : Int) := by omega
      clear ha hu hs
      go_wp2_with fail
      refine bodyPost_ret (refParse_res rfl rfl rfl (set_four _ _ _ _ HZ.out)) rfl ?_
      rw [HEE.out]
      exact ⟨_, rfl, HV3.out.set HZ.out (tn_four _ _ _ _ _), below_four HB.out (Nat.le_refl _)⟩
end Go.Proofs.YtnkdhmoocomjfaaGreatDoor
