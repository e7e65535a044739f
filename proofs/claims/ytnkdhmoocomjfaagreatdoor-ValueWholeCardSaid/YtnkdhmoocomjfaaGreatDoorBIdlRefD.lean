/-
  Walks over the document's answer for declarations: steps, methods. Conditions: those in the theorems.
-/
import Derived.Test.YtnkdhmoocomjfaaGreatDoorBIdlRefC
import Derived.Test.YtnkdhmoocomjfaaGreatDoorIdlBase
import Derived.Deep.CutRange
set_option linter.unusedSimpArgs false
set_option linter.unusedVariables false
namespace Go.Proofs.YtnkdhmoocomjfaaGreatDoor
open Go.RowKit

theorem ref_len {l : List Tk.Token} {r : Ip.R} {i : Int} {of : List ByteArray} {n : ByteArray} {r0 : Ip.R} (ha : Ip.AtR l r i) (e0 : Ip.one of r = (n, r0)) : r0.left.length ≤ l.length := by
  have h1 := (Ip.nice_one of).len r
  rw [e0] at h1
  obtain ⟨k, _, e, _⟩ := ha
  rw [e, List.length_drop] at h1
  simp only at h1; omega
/-- A part that becomes stuck on the way ends the loop there. -/
theorem loopW_fell {α : Type} {read : Ip.M α} {r rk : Ip.R} {L : List α} (hn : Ip.Nice read) (ht : Ip.Takes read) (h : LoopW read r L rk) (hs : rk.stuck = false) (hc : Ip.closes rk = false) (hf : (read rk).2.stuck = true) : (Ip.loop read r).2 = (read rk).2 := by
  obtain ⟨h1, -, -⟩ := h
  rw [Ip.loop_eq hn ht rk, if_neg (by rw [hs]; simp), if_neg (by rw [hc]; simp)] at h1
  rw [h1, Ip.loop_eq hn ht, if_pos hf]
set_option maxRecDepth 100000 in
set_option maxHeartbeats 16000000 in
theorem refSteps_any {w : World} {p : Option Addr} {cap : Nat} {l : List Tk.Token} {r : Ip.R} {i : Int} (h : Toks w p l) (ha : Ip.AtR l r i) :
    Calls Tryz.prog 150 #[.slice p l.length cap, .int .i64 i] w (RefRow kStp l (Ip.braced Ip.step r) w) := by
  have hfew := h.few
  obtain ⟨⟨n0, r0⟩, e0⟩ : ∃ y, Ip.one [Ip.sOpen] r = y := ⟨_, rfl⟩
  have Q0 := refStep_any (cap := cap) Ip.sOpen Ip.pOpen h ha
  rw [e0] at Q0
  unfold Ip.sOpen at Q0
  have HE : Hid (Ip.braced Ip.step r = Ip.loop Ip.step r0) := Lib.hid (by unfold Ip.braced; rw [Ip.bind_eq, e0])
  have HLN : Hid (r0.left.length ≤ l.length) := Lib.hid (ref_len ha e0)
  have H0 := Lib.hid Q0
  have HH := Lib.hid h
  clear Q0 e0 h ha
  go_enter Tryz.func150, Tryz.ntmps150
  go_wp2_with fail
  refine H0.out.mono ?_
  rintro e w' ⟨i0, rfl, ha0, hw⟩
  obtain rfl := hw
  have HA0 := Lib.hid ha0
  clear ha0
  go_wp2_with fail
  go_loopw [1, 6] (fun iv lv wr => ∃ (L : List Ip.Stp) (rk : Ip.R) (j : Int), iv = .int .i64 j ∧ Hid (RowIs kStp wr w.heap.size lv L) ∧ Hid (Ip.AtR l rk j) ∧ Hid (LoopW Ip.step r0 L rk) ∧ Hid (Below w.heap.size w wr)) (fun _ lv _ => 65540 - sliceLen lv)
  case atStart => exact ⟨[], r0, _, rfl, Lib.hid (RowIs.nil _ _ _), HA0, Lib.hid (loopW_start _ _), Lib.hid (Below.refl _ _)⟩
  case round =>
    obtain ⟨L, rk, j, rfl, HL, HA, HS, HB⟩ := hrel
    have hLn : L.length ≤ 65537 := by have := HS.out.2.2; have := HLN.out; omega
    obtain ⟨p0, c0, rfl, -, -⟩ := HL.out.shape
    cases hs : rk.stuck with
    | true =>
      have i1 := Ip.at_neg HA.out hs
      have HX := Lib.hid (loopW_stuck Ip.nice_step Ip.takes_step HS.out hs)
      have HST := Lib.hid hs
      clear hs
      go_wp2_with fail
      go_ret2
      unfold RefRow
      rw [HE.out, HX.out]
      exact ⟨_, _, [], rfl, RowIs.nil _ _ _, fun e => (by rw [HST.out] at e; cases e), HA.out, HB.out⟩
    | false =>
      obtain ⟨k, hk, hrk, hj⟩ := Ip.at_go HA.out hs
      subst hrk hj
      have i1 : (k : Int) ≤ 65536 := by omega
      have i2 : (0 : Int) ≤ (k : Int) := by omega
      have i3 : ¬ (k : Int) < 0 := by omega
      have HQ := Lib.hid (refText_any (cap := cap) (HH.out.below HB.out) HA.out)
      cases hc : Ip.closes ⟨l.drop k, false⟩ with
      | true =>
        have HX := Lib.hid (loopW_shut Ip.nice_step Ip.takes_step HS.out hs hc)
        have HP := Lib.hid (shut_place (closes_lt hc))
        have HEQ := Lib.hid (closes_at hs)
        rw [hc] at HEQ
        clear hs hc
        go_wp2_with fail
        refine HQ.out.mono ?_
        rintro e w' ⟨x, rfl, hx, hw⟩
        obtain rfl := hw
        have g1 := (is_sShut x).trans ((hx _ Ip.pShut).trans HEQ.out.symm)
        clear hx
        go_wp2_with fail
        go_ret2
        unfold RefRow
        rw [HE.out, HX.out]
        exact ⟨_, _, L, rfl, HL.out, fun _ => rfl, HP.out, HB.out⟩
      | false =>
        have HG := Lib.hid (fun (x : Ip.Stp) hx => loopW_goes (x := x) Ip.nice_step Ip.takes_step HS.out hs hc hx)
        have HFL := Lib.hid (fun hf => loopW_fell Ip.nice_step Ip.takes_step HS.out hs hc hf)
        have HEQ := Lib.hid (closes_at hs)
        rw [hc] at HEQ
        obtain ⟨⟨n1, r1⟩, e1⟩ : ∃ y, Ip.one [Ip.kDo] ⟨l.drop k, false⟩ = y := ⟨_, rfl⟩
        have H1 := Lib.hid (fun W (hW : Below w.heap.size w W) i (ha : Ip.AtR l ⟨l.drop k, false⟩ i) => refStep_any (cap := cap) Ip.kDo Ip.pDo (HH.out.below hW) ha)
        rw [e1] at H1
        unfold Ip.kDo at H1
        obtain ⟨⟨n2, r2⟩, e2⟩ : ∃ y, Ip.name r1 = y := ⟨_, rfl⟩
        have H2 := Lib.hid (fun W (hW : Below w.heap.size w W) i (ha : Ip.AtR l r1 i) => refName_any (cap := cap) (HH.out.below hW) ha)
        rw [e2] at H2
        obtain ⟨⟨n3, r3⟩, e3⟩ : ∃ y, Ip.one [Ip.sDot] r2 = y := ⟨_, rfl⟩
        have H3 := Lib.hid (fun W (hW : Below w.heap.size w W) i (ha : Ip.AtR l r2 i) => refStep_any (cap := cap) Ip.sDot Ip.pDot (HH.out.below hW) ha)
        rw [e3] at H3
        unfold Ip.sDot at H3
        obtain ⟨⟨n4, r4⟩, e4⟩ : ∃ y, Ip.name r3 = y := ⟨_, rfl⟩
        have H4 := Lib.hid (fun W (hW : Below w.heap.size w W) i (ha : Ip.AtR l r3 i) => refName_any (cap := cap) (HH.out.below hW) ha)
        rw [e4] at H4
        obtain ⟨⟨n5, r5⟩, e5⟩ : ∃ y, Ip.one [Ip.kAt] r4 = y := ⟨_, rfl⟩
        have H5 := Lib.hid (fun W (hW : Below w.heap.size w W) i (ha : Ip.AtR l r4 i) => refStep_any (cap := cap) Ip.kAt Ip.pAt (HH.out.below hW) ha)
        rw [e5] at H5
        unfold Ip.kAt at H5
        obtain ⟨⟨n6, r6⟩, e6⟩ : ∃ y, Ip.number r5 = y := ⟨_, rfl⟩
        obtain ⟨⟨n7, r7⟩, e7⟩ : ∃ y, Ip.one [Ip.sSemi] r6 = y := ⟨_, rfl⟩
        have H7 := Lib.hid (fun W (hW : Below w.heap.size w W) i (ha : Ip.AtR l r6 i) => refStep_any (cap := cap) Ip.sSemi Ip.pSemi (HH.out.below hW) ha)
        rw [e7] at H7
        unfold Ip.sSemi at H7
        have HST : Hid (Ip.step ⟨l.drop k, false⟩ = (⟨n2, n4, n6⟩, r7)) := Lib.hid (by unfold Ip.step; simp only [Ip.bind_eq, Ip.ret_eq, e1, e2, e3, e4, e5, e6, e7])
        have HE6 := Lib.hid e6
        have HE7 := Lib.hid e7
        clear hs hc e1 e2 e3 e4 e5 e6 e7
        go_wp2_with fail
        refine HQ.out.mono ?_
        rintro e w' ⟨x, rfl, hx, hw⟩
        obtain rfl := hw
        have g1 := (is_sShut x).trans ((hx _ Ip.pShut).trans HEQ.out.symm)
        clear hx
        go_upto_region 5 with fail
        obtain ⟨W1, hW1⟩ : ∃ W1, W1 = wr.alloc (.cells #[.string ⟨#[]⟩, .string ⟨#[]⟩, .int .i64 0] 48) := ⟨_, rfl⟩
        have HN1 : Hid (W1.heap[wr.heap.size]? = some (.cells #[.string ⟨#[]⟩, .string ⟨#[]⟩, .int .i64 0] 48 (0, 0))) := Lib.hid (by rw [hW1]; exact heap_alloc_new _ _)
        have HB1 : Hid (Below wr.heap.size wr W1) := Lib.hid (by rw [hW1]; exact tk_alloc _ _)
        have HW1 : Hid (Below w.heap.size w W1) := Lib.hid (HB.out.trans (HB1.out.mono HB.out.size))
        rw [← hW1]
        clear hW1
        have HAk := HA
        go_wp2_with fail
        refine (H1.out _ HW1.out _ HAk.out).mono ?_
        rintro e w' ⟨ha1', rfl, ha', hw⟩
        obtain rfl := hw
        have HA1 := Lib.hid ha'
        clear ha'
        go_wp2_with fail
        refine (H2.out _ HW1.out _ HA1.out).mono ?_
        rintro e w' ⟨ha2', rfl, ha', hw⟩
        obtain rfl := hw
        have HA2 := Lib.hid ha'
        clear ha'
        have hn := HN1.out
        obtain ⟨x0, x1, x2⟩ := cells3 hn
        have f := frozen2 hn 0
        clear hn
        go_upto_region 7 with fail
        obtain ⟨W2, hW⟩ : ∃ W, W = W1.setCell ⟨wr.heap.size, 0, none⟩ (.string n2) := ⟨_, rfl⟩
        have HN2 : Hid (W2.heap[wr.heap.size]? = some (.cells #[.string n2, .string ⟨#[]⟩, .int .i64 0] 48 (0, 0))) := Lib.hid (by rw [hW]; exact tk_set HN1.out _)
        have HB2 : Hid (Below wr.heap.size wr W2) := Lib.hid (by rw [hW]; exact HB1.out.setCell (Nat.le_refl _) _)
        have HW2 : Hid (Below w.heap.size w W2) := Lib.hid (HB.out.trans (HB2.out.mono HB.out.size))
        rw [← hW]
        clear hW x0 x1 x2 f
        go_wp2_with fail
        refine (H3.out _ HW2.out _ HA2.out).mono ?_
        rintro e w' ⟨ha3', rfl, ha', hw⟩
        obtain rfl := hw
        have HA3 := Lib.hid ha'
        clear ha'
        go_wp2_with fail
        refine (H4.out _ HW2.out _ HA3.out).mono ?_
        rintro e w' ⟨ha4', rfl, ha', hw⟩
        obtain rfl := hw
        have HA4 := Lib.hid ha'
        clear ha'
        have hn := HN2.out
        obtain ⟨x0, x1, x2⟩ := cells3 hn
        have f := frozen2 hn 1
        clear hn
        go_upto_region 9 with fail
        obtain ⟨W3, hW⟩ : ∃ W, W = W2.setCell ⟨wr.heap.size, 1, none⟩ (.string n4) := ⟨_, rfl⟩
        have HN3 : Hid (W3.heap[wr.heap.size]? = some (.cells #[.string n2, .string n4, .int .i64 0] 48 (0, 0))) := Lib.hid (by rw [hW]; exact tk_set HN2.out _)
        have HB3 : Hid (Below wr.heap.size wr W3) := Lib.hid (by rw [hW]; exact HB2.out.setCell (Nat.le_refl _) _)
        have HW3 : Hid (Below w.heap.size w W3) := Lib.hid (HB.out.trans (HB3.out.mono HB.out.size))
        rw [← hW]
        clear hW x0 x1 x2 f
        go_wp2_with fail
        refine (H5.out _ HW3.out _ HA4.out).mono ?_
        rintro e w' ⟨i5, rfl, ha5, hw⟩
        obtain rfl := hw
        have HA5 := Lib.hid ha5
        clear ha5
        cases h5 : r5.stuck with
        | true =>
          have j5 := Ip.at_neg HA5.out h5
          have e6 := HE6.out
          rw [Ip.number_stuck h5] at e6
          obtain ⟨hn6, hr6⟩ := Prod.mk.inj e6
          subst hn6 hr6
          clear e6 h5
          go_wp2_with fail
          refine (H7.out _ HW3.out _ HA5.out).mono ?_
          rintro e w' ⟨ha7', rfl, ha', hw⟩
          obtain rfl := hw
          have HA7 := Lib.hid ha'
          clear ha'
          have hn := HN3.out
          obtain ⟨x0, x1, x2⟩ := cells3 hn
          clear hn
          obtain ⟨pv, cv, V, hrun, hL5, hB5, -⟩ := append_ref okStp (HL.out.below okStp HB3.out) HW3.out ⟨n2, n4, 0⟩ (.bool false) trivial (by omega) 42
          rw [show (kStp.cells ⟨n2, n4, 0⟩ (.bool false)).toArray = #[.string n2, .string n4, .int .i64 0] from rfl] at hrun
          have HG5 := Lib.hid (by have := HG.out ⟨n2, n4, 0⟩ (fun _ => by rw [HST.out]); rw [HST.out] at this; exact this)
          have HL5 := Lib.hid hL5
          have HB5 := Lib.hid hB5
          clear hL5 hB5
          go_wp2_with (at_builtin; refine Lib.wpList_append_run _ rfl (.tmp 69) (.tmp 71) _ _ rfl _ _ rfl rfl _ _ hrun ?_)
          go_roundw
          case rel => exact ⟨_, r7, _, rfl, HL5, HA7, HG5, HB5⟩
          case measure => simp [sliceLen]; omega
        | false =>
          obtain ⟨k5, hk5, hr5, hi5⟩ := Ip.at_go HA5.out h5
          subst hr5 hi5
          have j1 : (k5 : Int) ≤ 65536 := by omega
          have j2 : (0 : Int) ≤ (k5 : Int) := by omega
          have HS5 := Lib.hid (Ip.at_stop hk5)
          have e6 := HE6.out
          by_cases hlt : k5 < l.length
          · have j3 : (k5 : Int) < (l.length : Int) := by omega
            rw [Ip.number_at hlt] at e6
            obtain ⟨A, rfl, y0, y1, y2, y3, -⟩ := (HH.out.below HW3.out).at_.at (Below.refl _ _) hlt
            generalize l[k5] = t at *
            by_cases h2 : t.kind = 2
            · have g2 : (((t.kind : Nat) : Int) != 2) = false := by rw [bne_eq_false_iff_eq]; omega
              rw [if_pos (by simpa using h2)] at e6
              obtain ⟨hn6, hr6⟩ := Prod.mk.inj e6
              subst hn6 hr6
              have HA6 := Lib.hid (Ip.at_place (l := l) (k := k5 + 1) (by omega))
              clear e6 h2 y1 y3 hlt
              have hn := HN3.out
              obtain ⟨x0, x1, x2⟩ := cells3 hn
              have f := frozen2 hn 2
              clear hn
              go_upto_region 14 with fail
              obtain ⟨W4c, hW⟩ : ∃ W, W = W3.setCell ⟨wr.heap.size, 2, none⟩ (.int .i64 t.num) := ⟨_, rfl⟩
              have HN4c : Hid (W4c.heap[wr.heap.size]? = some (.cells #[.string n2, .string n4, .int .i64 t.num] 48 (0, 0))) := Lib.hid (by rw [hW]; exact tk_set HN3.out _)
              have HB4c : Hid (Below wr.heap.size wr W4c) := Lib.hid (by rw [hW]; exact HB3.out.setCell (Nat.le_refl _) _)
              have HW4c : Hid (Below w.heap.size w W4c) := Lib.hid (HB.out.trans (HB4c.out.mono HB.out.size))
              rw [← hW]
              clear hW x0 x1 x2 f y0 y2
              go_wp2_with fail
              refine (H7.out _ HW4c.out _ HA6.out).mono ?_
              rintro e w' ⟨ha7', rfl, ha', hw⟩
              obtain rfl := hw
              have HA7 := Lib.hid ha'
              clear ha'
              have hn := HN4c.out
              obtain ⟨x0, x1, x2⟩ := cells3 hn
              clear hn
              obtain ⟨pv, cv, V, hrun, hL5, hB5, -⟩ := append_ref okStp (HL.out.below okStp HB4c.out) HW4c.out ⟨n2, n4, t.num⟩ (.bool false) trivial (by omega) 42
              rw [show (kStp.cells ⟨n2, n4, t.num⟩ (.bool false)).toArray = #[.string n2, .string n4, .int .i64 t.num] from rfl] at hrun
              have HG5 := Lib.hid (by have := HG.out ⟨n2, n4, t.num⟩ (fun _ => by rw [HST.out]); rw [HST.out] at this; exact this)
              have HL5 := Lib.hid hL5
              have HB5 := Lib.hid hB5
              clear hL5 hB5
              go_wp2_with (at_builtin; refine Lib.wpList_append_run _ rfl (.tmp 69) (.tmp 71) _ _ rfl _ _ rfl rfl _ _ hrun ?_)
              go_roundw
              case rel => exact ⟨_, r7, _, rfl, HL5, HA7, HG5, HB5⟩
              case measure => simp [sliceLen]; omega
            · have g2 : (((t.kind : Nat) : Int) != 2) = true := by rw [bne_iff_ne]; omega
              rw [if_neg (by simpa using h2)] at e6
              obtain ⟨hn6, hr6⟩ := Prod.mk.inj e6
              subst hn6 hr6
              have e7 := HE7.out
              rw [Ip.one_stuck rfl] at e7
              obtain ⟨hn7, hr7⟩ := Prod.mk.inj e7
              subst hn7 hr7
              have HFE : Hid ((Ip.loop Ip.step r0).2 = ⟨l.drop k5, true⟩) := Lib.hid (by rw [HFL.out (by rw [HST.out]), HST.out])
              clear e6 e7 h2 y1 y2 y3 hlt
              go_wp2_with fail
              go_ret2
              unfold RefRow
              rw [HE.out]
              exact ⟨_, _, [], rfl, RowIs.nil _ _ _, fun e => (by rw [HFE.out] at e; cases e), by rw [HFE.out]; exact HS5.out, HW3.out⟩
          · have j3 : ¬ (k5 : Int) < (l.length : Int) := by omega
            rw [Ip.number_end (by omega)] at e6
            obtain ⟨hn6, hr6⟩ := Prod.mk.inj e6
            subst hn6 hr6
            have e7 := HE7.out
            rw [Ip.one_stuck rfl] at e7
            obtain ⟨hn7, hr7⟩ := Prod.mk.inj e7
            subst hn7 hr7
            have HFE : Hid ((Ip.loop Ip.step r0).2 = ⟨l.drop k5, true⟩) := Lib.hid (by rw [HFL.out (by rw [HST.out]), HST.out])
            clear e6 e7 hlt
            go_wp2_with fail
            go_ret2
            unfold RefRow
            rw [HE.out]
            exact ⟨_, _, [], rfl, RowIs.nil _ _ _, fun e => (by rw [HFE.out] at e; cases e), by rw [HFE.out]; exact HS5.out, HW3.out⟩
end Go.Proofs.YtnkdhmoocomjfaaGreatDoor
