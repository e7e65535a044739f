/-
  Walks over the document's answer for declarations: fields. Conditions: those in the theorems.
-/
import Derived.Test.YtnkdhmoocomjfaaGreatDoorBIdlRefB
import Derived.Test.YtnkdhmoocomjfaaGreatDoorIdlBase
import Derived.Deep.Cut
set_option linter.unusedSimpArgs false
set_option linter.unusedVariables false
namespace Go.Proofs.YtnkdhmoocomjfaaGreatDoor
open Go.RowKit

/-- Behind some rounds of the loop; what was told is the same if all goes well. -/
def LoopW {α : Type} (read : Ip.M α) (r : Ip.R) (L : List α) (rk : Ip.R) : Prop := (Ip.loop read r).2 = (Ip.loop read rk).2 ∧ ((Ip.loop read rk).2.stuck = false → (Ip.loop read r).1 = L ++ (Ip.loop read rk).1) ∧ L.length + rk.left.length + (if rk.stuck then 0 else 1) ≤ r.left.length + 1
theorem loopW_start {α : Type} (read : Ip.M α) (r : Ip.R) : LoopW read r [] r := ⟨rfl, fun _ => rfl, by simp; split <;> omega⟩
section
variable {α : Type} {read : Ip.M α} {r rk : Ip.R} {L : List α}
theorem loopW_stuck (hn : Ip.Nice read) (ht : Ip.Takes read) (h : LoopW read r L rk) (hs : rk.stuck = true) : (Ip.loop read r).2 = rk := by
  rw [h.1, Ip.loop_eq hn ht, if_pos hs]
theorem loopW_shut (hn : Ip.Nice read) (ht : Ip.Takes read) (h : LoopW read r L rk) (hs : rk.stuck = false) (hc : Ip.closes rk = true) : Ip.loop read r = (L, Ip.shut rk) := by
  obtain ⟨h1, h2, -⟩ := h
  rw [Ip.loop_eq hn ht rk, if_neg (by rw [hs]; simp), if_pos hc] at h1 h2
  have := h2 rfl
  rw [List.append_nil] at this
  exact Prod.ext this h1
theorem loopW_goes (hn : Ip.Nice read) (ht : Ip.Takes read) (h : LoopW read r L rk) (hs : rk.stuck = false) (hc : Ip.closes rk = false) {x : α} (hx : (read rk).2.stuck = false → x = (read rk).1) : LoopW read r (L ++ [x]) (read rk).2 := by
  obtain ⟨h1, h2, h3⟩ := h
  rw [Ip.loop_eq hn ht rk, if_neg (by rw [hs]; simp), if_neg (by rw [hc]; simp)] at h1 h2
  refine ⟨h1, fun hu => ?_, ?_⟩
  · have hr : (read rk).2.stuck = false := (Ip.nice_loop hn ht).unstuck hu
    rw [h2 hu, hx hr]; simp
  · rw [hs] at h3
    simp only [Bool.false_eq_true, if_false] at h3
    have hl := hn.len rk
    rw [List.length_append]
    simp only [List.length_cons, List.length_nil]
    rcases ht rk hs with e | e
    · rw [e]; simp only [if_true]; omega
    · split <;> omega
end
theorem closes_at {r : Ip.R} (hs : r.stuck = false) : Ip.closes r = Ip.eqB (Ip.ahead r) Ip.sShut := by unfold Ip.closes; rw [hs]; rfl
theorem shut_place {l : List Tk.Token} {k : Nat} (hk : k < l.length) : Ip.AtR l (Ip.shut ⟨l.drop k, false⟩) ((k : Int) + 1) := by
  unfold Ip.shut
  simp only [List.drop_drop]
  have := Ip.at_place (l := l) (k := k + 1) (by omega)
  exact this
theorem closes_lt {l : List Tk.Token} {k : Nat} (h : Ip.closes ⟨l.drop k, false⟩ = true) : k < l.length := by
  by_cases hk : k < l.length
  · exact hk
  · rw [List.drop_of_length_le (by omega), Ip.closes_nil] at h; cases h
theorem refField_ok {r r1 r2 r3 r4 : Ip.R} {n1 n2 n4 : ByteArray} {n3 X : List Ip.So} (e1 : Ip.name r = (n1, r1)) (e2 : Ip.one [Ip.sColon] r1 = (n2, r2)) (e3 : Ip.sorts r2 = (n3, r3)) (e4 : Ip.one [Ip.sSemi] r3 = (n4, r4)) (hX : r3.stuck = false → X = n3) :
    Ip.field r = (⟨n1, n3⟩, r4) ∧ (r4.stuck = false → (⟨n1, X⟩ : Ip.Fld) = ⟨n1, n3⟩) := by
  refine ⟨by unfold Ip.field; simp only [Ip.bind_eq, Ip.ret_eq, e1, e2, e3, e4], fun h => ?_⟩
  have := (Ip.nice_one [Ip.sSemi]).unstuck (r := r3) (by rw [e4]; exact h)
  rw [hX this]
set_option maxRecDepth 100000 in
set_option maxHeartbeats 16000000 in
theorem refFields_any {w : World} {p : Option Addr} {cap : Nat} {l : List Tk.Token} {r : Ip.R} {i : Int} (h : Toks w p l) (ha : Ip.AtR l r i) :
    Calls Tryz.prog 147 #[.slice p l.length cap, .int .i64 i] w (RefRow kFld l (Ip.braced Ip.field r) w) := by
  have hfew := h.few
  obtain ⟨⟨n0, r0⟩, e0⟩ : ∃ y, Ip.one [Ip.sOpen] r = y := ⟨_, rfl⟩
  have Q0 := refStep_any (cap := cap) Ip.sOpen Ip.pOpen h ha
  rw [e0] at Q0
  unfold Ip.sOpen at Q0
  have HE : Hid (Ip.braced Ip.field r = Ip.loop Ip.field r0) := Lib.hid (by unfold Ip.braced; rw [Ip.bind_eq, e0])
  have HLN : Hid (r0.left.length ≤ l.length) := Lib.hid (by
    have h1 := (Ip.nice_one [Ip.sOpen]).len r
    rw [e0] at h1
    obtain ⟨k, _, e, _⟩ := ha
    rw [e, List.length_drop] at h1
    simp only at h1; omega)
  have H0 := Lib.hid Q0
  have HH := Lib.hid h
  clear Q0 e0 h ha
  go_enter Tryz.func147, Tryz.ntmps147
  go_wp2_with fail
  refine H0.out.mono ?_
  rintro e w' ⟨i0, rfl, ha0, hw⟩
  obtain rfl := hw
  have HA0 := Lib.hid ha0
  clear ha0
  go_wp2_with fail
  go_loopw [1, 6] (fun iv lv wr => ∃ (L : List Ip.Fld) (rk : Ip.R) (j : Int), iv = .int .i64 j ∧ Hid (RowIs kFld wr w.heap.size lv L) ∧ Hid (Ip.AtR l rk j) ∧ Hid (LoopW Ip.field r0 L rk) ∧ Hid (Below w.heap.size w wr)) (fun _ lv _ => 65540 - sliceLen lv)
  case atStart => exact ⟨[], r0, _, rfl, Lib.hid (RowIs.nil _ _ _), HA0, Lib.hid (loopW_start _ _), Lib.hid (Below.refl _ _)⟩
  case round =>
    obtain ⟨L, rk, j, rfl, HL, HA, HS, HB⟩ := hrel
    have hLn : L.length ≤ 65537 := by have := HS.out.2.2; have := HLN.out; omega
    obtain ⟨p0, c0, rfl, -, -⟩ := HL.out.shape
    cases hs : rk.stuck with
    | true =>
      have i1 := Ip.at_neg HA.out hs
      have HX := Lib.hid (loopW_stuck Ip.nice_field Ip.takes_field HS.out hs)
      have HST := Lib.hid hs
      clear hs
      go_wp2_with fail
      go_ret2
      unfold RefRow
      rw [HE.out, HX.out]
      exact ⟨_, _, [], rfl, RowIs.nil _ _ _, fun e => (by rw [HST.out] at e; cases e), HA.out, HB.out⟩
    | false =>
      obtain ⟨k, hk, hrk, hj⟩ := Ip.at_go HA.out hs
      subst hrk hj
      have i1 : (k : Int) ≤ 65536 := by omega
      have i2 : (0 : Int) ≤ (k : Int) := by omega
      have i3 : ¬ (k : Int) < 0 := by omega
      have HQ := Lib.hid (refText_any (cap := cap) (HH.out.below HB.out) HA.out)
      cases hc : Ip.closes ⟨l.drop k, false⟩ with
      | true =>
        have HX := Lib.hid (loopW_shut Ip.nice_field Ip.takes_field HS.out hs hc)
        have HP := Lib.hid (shut_place (closes_lt hc))
        have HEQ := Lib.hid (closes_at hs)
        rw [hc] at HEQ
        clear hs hc
        go_wp2_with fail
        refine HQ.out.mono ?_
        rintro e w' ⟨x, rfl, hx, hw⟩
        obtain rfl := hw
        have g1 := (is_sShut x).trans ((hx _ Ip.pShut).trans HEQ.out.symm)
        clear hx
        go_wp2_with fail
        go_ret2
        unfold RefRow
        rw [HE.out, HX.out]
        exact ⟨_, _, L, rfl, HL.out, fun _ => rfl, HP.out, HB.out⟩
      | false =>
        have HG := Lib.hid (fun (x : Ip.Fld) hx => loopW_goes (x := x) Ip.nice_field Ip.takes_field HS.out hs hc hx)
        have HEQ := Lib.hid (closes_at hs)
        rw [hc] at HEQ
        obtain ⟨⟨n1, r1⟩, e1⟩ : ∃ y, Ip.name ⟨l.drop k, false⟩ = y := ⟨_, rfl⟩
        obtain ⟨⟨n2, r2⟩, e2⟩ : ∃ y, Ip.one [Ip.sColon] r1 = y := ⟨_, rfl⟩
        obtain ⟨⟨n3, r3⟩, e3⟩ : ∃ y, Ip.sorts r2 = y := ⟨_, rfl⟩
        obtain ⟨⟨n4, r4⟩, e4⟩ : ∃ y, Ip.one [Ip.sSemi] r3 = y := ⟨_, rfl⟩
        have Q1 := fun W (hW : Below w.heap.size w W) => refName_any (cap := cap) (HH.out.below hW) HA.out
        have Q2 := fun W (hW : Below w.heap.size w W) i (ha : Ip.AtR l r1 i) => refStep_any (cap := cap) Ip.sColon Ip.pColon (HH.out.below hW) ha
        have Q3 := fun W (hW : Below w.heap.size w W) i (ha : Ip.AtR l r2 i) => refSorts_any (cap := cap) (HH.out.below hW) ha
        have Q4 := fun W (hW : Below w.heap.size w W) i (ha : Ip.AtR l r3 i) => refStep_any (cap := cap) Ip.sSemi Ip.pSemi (HH.out.below hW) ha
        rw [e1] at Q1
        rw [e2] at Q2
        rw [e3] at Q3
        rw [e4] at Q4
        unfold Ip.sColon at Q2
        unfold Ip.sSemi at Q4
        have H1 := Lib.hid Q1
        have H2 := Lib.hid Q2
        have H3 := Lib.hid Q3
        have H4 := Lib.hid Q4
        have HF := Lib.hid (fun (X : List Ip.So) (hX : r3.stuck = false → X = n3) => refField_ok e1 e2 e3 e4 hX)
        clear hs hc Q1 Q2 Q3 Q4 e1 e2 e3 e4
        go_wp2_with fail
        refine HQ.out.mono ?_
        rintro e w' ⟨x, rfl, hx, hw⟩
        obtain rfl := hw
        have g1 := (is_sShut x).trans ((hx _ Ip.pShut).trans HEQ.out.symm)
        clear hx
        go_upto_region 5 with fail
        obtain ⟨W1, hW1⟩ : ∃ W1, W1 = wr.alloc (.cells #[.string ⟨#[]⟩, .slice none 0 0] 39) := ⟨_, rfl⟩
        have hb1 : Below wr.heap.size wr W1 := by rw [hW1]; exact tk_alloc _ _
        have hn1 : W1.heap[wr.heap.size]? = some (.cells #[.string ⟨#[]⟩, .slice none 0 0] 39 (0, 0)) := by rw [hW1]; exact heap_alloc_new _ _
        have HN1 := Lib.hid hn1
        have HB1 := Lib.hid hb1
        have HW1 := Lib.hid (HB.out.trans (hb1.mono HB.out.size))
        rw [← hW1]
        clear hW1 hb1 hn1
        go_wp2_with fail
        refine (H1.out _ HW1.out).mono ?_
        rintro e w' ⟨i1', rfl, ha1, hw⟩
        obtain rfl := hw
        have HA1 := Lib.hid ha1
        have hn1 := HN1.out
        obtain ⟨x0, x1⟩ := cells2 hn1
        have f0 := frozen2 hn1 0
        clear ha1 hn1
        go_upto_region 6 with fail
        obtain ⟨W2, hW2⟩ : ∃ W2, W2 = W1.setCell ⟨wr.heap.size, 0, none⟩ (.string n1) := ⟨_, rfl⟩
        have HN2 : Hid (W2.heap[wr.heap.size]? = some (.cells #[.string n1, .slice none 0 0] 39 (0, 0))) := Lib.hid (by rw [hW2]; exact tk_set HN1.out _)
        have HB2 : Hid (Below wr.heap.size wr W2) := Lib.hid (by rw [hW2]; exact HB1.out.setCell (Nat.le_refl _) _)
        have HW2 : Hid (Below w.heap.size w W2) := Lib.hid (HB.out.trans (HB2.out.mono HB.out.size))
        rw [← hW2]
        clear hW2 x0 x1 f0
        go_wp2_with fail
        refine (H2.out _ HW2.out _ HA1.out).mono ?_
        rintro e w' ⟨i2', rfl, ha2, hw⟩
        obtain rfl := hw
        have HA2 := Lib.hid ha2
        clear ha2
        go_wp2_with fail
        refine (H3.out _ HW2.out _ HA2.out).mono ?_
        rintro e w3 ⟨v3, i3', X, rfl, hR3, hX3, ha3, hb3⟩
        obtain ⟨p3, c3, rfl, -, -⟩ := hR3.shape
        have HA3 := Lib.hid ha3
        have hn3 := (hb3.block _ (Array.getElem?_eq_some_iff.1 HN2.out).1).trans HN2.out
        have HN3 := Lib.hid hn3
        have HB3 := Lib.hid (HB2.out.trans (hb3.mono HB2.out.size))
        have HR3 := Lib.hid (hR3.mono okSo HW2.out.size)
        have HX3 := Lib.hid (HF.out X hX3)
        obtain ⟨x0, x1⟩ := cells2 hn3
        have f1 := frozen2 hn3 1
        clear ha3 hn3 hb3 hR3 hX3
        go_upto_region 8 with fail
        obtain ⟨W4, hW4⟩ : ∃ W4, W4 = w3.setCell ⟨wr.heap.size, 1, none⟩ (.slice p3 X.length c3) := ⟨_, rfl⟩
        have HN4 : Hid (W4.heap[wr.heap.size]? = some (.cells #[.string n1, .slice p3 X.length c3] 39 (0, 0))) := Lib.hid (by rw [hW4]; exact tk_set HN3.out _)
        have HB4 : Hid (Below wr.heap.size wr W4) := Lib.hid (by rw [hW4]; exact HB3.out.setCell (Nat.le_refl _) _)
        have HW4 : Hid (Below w.heap.size w W4) := Lib.hid (HB.out.trans (HB4.out.mono HB.out.size))
        have HR4 : Hid (RowIs kSo W4 w.heap.size (.slice p3 X.length c3) X) := Lib.hid (by rw [hW4]; exact row_set okSo HR3.out HN3.out (by show ¬ ((39 : Nat) = 41 ∨ False); decide) (tn_set w3 _))
        rw [← hW4]
        clear hW4 x0 x1 f1
        go_wp2_with fail
        refine (H4.out _ HW4.out _ HA3.out).mono ?_
        rintro e w' ⟨i4', rfl, ha4, hw⟩
        obtain rfl := hw
        have HA4 := Lib.hid ha4
        have hn4 := HN4.out
        obtain ⟨x0, x1⟩ := cells2 hn4
        obtain ⟨pv, cv, V, hrun, hL5, hB5, -⟩ := append_ref okFld (HL.out.below okFld HB4.out) HW4.out ⟨n1, X⟩ (.slice p3 X.length c3) HR4.out (by omega) 32
        rw [show (kFld.cells ⟨n1, X⟩ (.slice p3 X.length c3)).toArray = #[.string n1, .slice p3 X.length c3] from rfl] at hrun
        have HG5 : Hid (LoopW Ip.field r0 (L ++ [⟨n1, X⟩]) r4) := Lib.hid (by
          have := HG.out ⟨n1, X⟩ (by rw [HX3.out.1]; exact HX3.out.2)
          rw [HX3.out.1] at this; exact this)
        have HL5 := Lib.hid hL5
        have HB5 := Lib.hid hB5
        clear ha4 hn4 hL5 hB5
        go_wp2_with (at_builtin; refine Lib.wpList_append_run _ rfl (.tmp 39) (.tmp 41) _ _ rfl _ _ rfl rfl _ _ hrun ?_)
        go_roundw
        case rel => exact ⟨_, r4, _, rfl, HL5, HA4, HG5, HB5⟩
        case measure => simp [sliceLen]; omega
end Go.Proofs.YtnkdhmoocomjfaaGreatDoor
