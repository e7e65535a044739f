/-
  Walks over the document's answer for declarations: methods. Conditions: those in the theorems.
-/
import Derived.Test.YtnkdhmoocomjfaaGreatDoorBIdlRefD
import Derived.Test.YtnkdhmoocomjfaaGreatDoorIdlBase
import Derived.Deep.CutRange
set_option linter.unusedSimpArgs false
set_option linter.unusedVariables false
namespace Go.Proofs.YtnkdhmoocomjfaaGreatDoor
open Go.RowKit

theorem Ip.of_yes {l : List Tk.Token} {k : Nat} {kw : ByteArray} {of : List ByteArray} (hk : k ≤ l.length) (hp : Ip.Plain kw) (hm : kw ∈ of) (he : Ip.eqB (Ip.ahead ⟨l.drop k, false⟩) kw = true) : k < l.length ∧ Ip.one of ⟨l.drop k, false⟩ = (kw, ⟨l.drop (k + 1), false⟩) := by
  obtain ⟨h, -⟩ := Ip.one_yes hk hp he
  refine ⟨h, ?_⟩
  rw [List.drop_eq_getElem_cons h] at he ⊢
  have ht : l[k].text = kw := Ip.eqB_iff.1 he
  have ha : Ip.among of kw = true := Ip.among_iff.2 hm
  unfold Ip.one Ip.bind Ip.ret Ip.take
  simp [ht, ha]
theorem Ip.of_no {r : Ip.R} {of : List ByteArray} (hr : r.stuck = false) (he : ∀ kw ∈ of, Ip.eqB (Ip.ahead r) kw = false) : Ip.one of r = (⟨#[]⟩, ⟨r.left, true⟩) := by
  obtain ⟨l, s⟩ := r
  cases hr
  unfold Ip.one Ip.bind Ip.ret Ip.take
  cases l with
  | nil => rfl
  | cons t l =>
    have h : Ip.among of t.text = false := by
      cases hb : Ip.among of t.text with
      | false => rfl
      | true =>
        have := he _ (Ip.among_iff.1 hb)
        have e : Ip.eqB t.text t.text = false := this
        rw [Ip.eqB_self] at e; cases e
    simp [h]
theorem Ip.undo_stuck {r : Ip.R} (h : r.stuck = true) : Ip.undo r = (⟨#[]⟩, r) := by
  unfold Ip.undo
  rw [Ip.bind_eq, Ip.one_stuck h]
  rfl
theorem Ip.argument_stuck {r : Ip.R} (h : r.stuck = true) : (Ip.argument r).2 = r := Ip.nice_argument.stuck r h
theorem Ip.method_fell {r : Ip.R} {n1 : ByteArray} {r1 : Ip.R} (e1 : Ip.one [Ip.kGive, Ip.kTake, Ip.kNote] r = (n1, r1)) (h : r1.stuck = true) : (Ip.method r).2 = r1 := by
  have := (Ip.nice_method0 n1).stuck r1 h
  unfold Ip.method
  rw [Ip.bind_eq, e1]; exact this
theorem Ip.method_fell2 {r r1 r2 r3 r4 r5 : Ip.R} {n1 n2 n3 n4 n5 : ByteArray} (e1 : Ip.one [Ip.kGive, Ip.kTake, Ip.kNote] r = (n1, r1)) (e2 : Ip.name r1 = (n2, r2)) (e3 : Ip.argument r2 = (n3, r3)) (e4 : Ip.one [Ip.sArrow] r3 = (n4, r4)) (e5 : Ip.one [Ip.kInt, Ip.kNone] r4 = (n5, r5)) (h : r5.stuck = true) : (Ip.method r).2 = r5 := by
  unfold Ip.method
  simp only [Ip.bind_eq, Ip.ret_eq, e1, e2, e3, e4, e5]
  exact Ip.nice_undo.stuck r5 h
set_option maxRecDepth 100000 in
set_option maxHeartbeats 16000000 in
theorem refMethods_any {w : World} {p : Option Addr} {cap : Nat} {l : List Tk.Token} {r : Ip.R} {i : Int} (h : Toks w p l) (ha : Ip.AtR l r i) :
    Calls Tryz.prog 148 #[.slice p l.length cap, .int .i64 i] w (RefRow kMth l (Ip.braced Ip.method r) w) := by
  have hfew := h.few
  obtain ⟨⟨n0, r0⟩, e0⟩ : ∃ y, Ip.one [Ip.sOpen] r = y := ⟨_, rfl⟩
  have Q0 := refStep_any (cap := cap) Ip.sOpen Ip.pOpen h ha
  rw [e0] at Q0
  unfold Ip.sOpen at Q0
  have HE : Hid (Ip.braced Ip.method r = Ip.loop Ip.method r0) := Lib.hid (by unfold Ip.braced; rw [Ip.bind_eq, e0])
  have HLN : Hid (r0.left.length ≤ l.length) := Lib.hid (ref_len ha e0)
  have H0 := Lib.hid Q0
  have HH := Lib.hid h
  clear Q0 e0 h ha
  go_enter Tryz.func148, Tryz.ntmps148
  go_wp2_with fail
  refine H0.out.mono ?_
  rintro e w' ⟨i0, rfl, ha0, hw⟩
  obtain rfl := hw
  have HA0 := Lib.hid ha0
  clear ha0
  go_wp2_with fail
  go_loopw [1, 6] (fun iv lv wr => ∃ (L : List Ip.Mth) (rk : Ip.R) (j : Int), iv = .int .i64 j ∧ Hid (RowIs kMth wr w.heap.size lv L) ∧ Hid (Ip.AtR l rk j) ∧ Hid (LoopW Ip.method r0 L rk) ∧ Hid (Below w.heap.size w wr)) (fun _ lv _ => 65540 - sliceLen lv)
  case atStart => exact ⟨[], r0, _, rfl, Lib.hid (RowIs.nil _ _ _), HA0, Lib.hid (loopW_start _ _), Lib.hid (Below.refl _ _)⟩
  case round =>
    obtain ⟨L, rk, j, rfl, HL, HA, HS, HB⟩ := hrel
    have hLn : L.length ≤ 65537 := by have := HS.out.2.2; have := HLN.out; omega
    obtain ⟨p0, c0, rfl, -, -⟩ := HL.out.shape
    cases hs : rk.stuck with
    | true =>
      have i1 := Ip.at_neg HA.out hs
      have HX := Lib.hid (loopW_stuck Ip.nice_method Ip.takes_method HS.out hs)
      have HST := Lib.hid hs
      clear hs
      go_wp2_with fail
      go_ret2
      unfold RefRow
      rw [HE.out, HX.out]
      exact ⟨_, _, [], rfl, RowIs.nil _ _ _, fun e => (by rw [HST.out] at e; cases e), HA.out, HB.out⟩
    | false =>
      obtain ⟨k, hk, hrk, hj⟩ := Ip.at_go HA.out hs
      subst hrk hj
      have i1 : (k : Int) ≤ 65536 := by omega
      have i2 : (0 : Int) ≤ (k : Int) := by omega
      have i3 : ¬ (k : Int) < 0 := by omega
      have HQ := Lib.hid (refText_any (cap := cap) (HH.out.below HB.out) HA.out)
      cases hc : Ip.closes ⟨l.drop k, false⟩ with
      | true =>
        have HX := Lib.hid (loopW_shut Ip.nice_method Ip.takes_method HS.out hs hc)
        have HP := Lib.hid (shut_place (closes_lt hc))
        have HEQ := Lib.hid (closes_at hs)
        rw [hc] at HEQ
        clear hs hc
        go_wp2_with fail
        refine HQ.out.mono ?_
        rintro e w' ⟨x, rfl, hx, hw⟩
        obtain rfl := hw
        have g1 := (is_sShut x).trans ((hx _ Ip.pShut).trans HEQ.out.symm)
        clear hx
        go_wp2_with fail
        go_ret2
        unfold RefRow
        rw [HE.out, HX.out]
        exact ⟨_, _, L, rfl, HL.out, fun _ => rfl, HP.out, HB.out⟩
      | false =>
        have HG := Lib.hid (fun (x : Ip.Mth) hx => loopW_goes (x := x) Ip.nice_method Ip.takes_method HS.out hs hc hx)
        have HFL := Lib.hid (fun hf => loopW_fell Ip.nice_method Ip.takes_method HS.out hs hc hf)
        have HEQ := Lib.hid (closes_at hs)
        rw [hc] at HEQ
        have H2 := Lib.hid (fun W (hW : Below w.heap.size w W) (r : Ip.R) i (ha : Ip.AtR l r i) => refName_any (cap := cap) (HH.out.below hW) ha)
        have H3 := Lib.hid (fun W (hW : Below w.heap.size w W) (r : Ip.R) i (ha : Ip.AtR l r i) => refBracket_any (cap := cap) (HH.out.below hW) ha)
        have H4 := Lib.hid (fun W (hW : Below w.heap.size w W) (r : Ip.R) i (ha : Ip.AtR l r i) => refStep_any (cap := cap) Ip.sArrow Ip.pArrow (HH.out.below hW) ha)
        have H7 := Lib.hid (fun W (hW : Below w.heap.size w W) (r : Ip.R) i (ha : Ip.AtR l r i) => refStep_any (cap := cap) Ip.sSemi Ip.pSemi (HH.out.below hW) ha)
        have HT := Lib.hid (fun W (hW : Below w.heap.size w W) (r : Ip.R) i (ha : Ip.AtR l r i) => refText_any (cap := cap) (HH.out.below hW) ha)
        unfold Ip.sArrow at H4
        unfold Ip.sSemi at H7
        by_cases hno : ∀ kw ∈ [Ip.kGive, Ip.kTake, Ip.kNote], Ip.eqB (Ip.ahead ⟨l.drop k, false⟩) kw = false
        · have e1 := Ip.of_no (r := ⟨l.drop k, false⟩) rfl hno
          have HM := Lib.hid (Ip.method_fell e1 rfl)
          have HFE : Hid ((Ip.loop Ip.method r0).2 = ⟨l.drop k, true⟩) := Lib.hid (by rw [HFL.out (by rw [HM.out]), HM.out])
          have HAS := Lib.hid (Ip.at_stop hk)
          have HN3 := Lib.hid hno
          clear hs hc e1 hno
          go_wp2_with fail
          refine HQ.out.mono ?_
          rintro e w' ⟨x, rfl, hx, hw⟩
          obtain rfl := hw
          have g1 := (is_sShut x).trans ((hx _ Ip.pShut).trans HEQ.out.symm)
          clear hx
          go_upto_region 5 with fail
          obtain ⟨W1, hW1⟩ : ∃ W1, W1 = wr.alloc (.cells #[.string ⟨#[]⟩, .string ⟨#[]⟩, .int .u8 0, .string ⟨#[]⟩, .string ⟨#[]⟩] 100) := ⟨_, rfl⟩
          have HN1 : Hid (W1.heap[wr.heap.size]? = some (.cells #[.string ⟨#[]⟩, .string ⟨#[]⟩, .int .u8 0, .string ⟨#[]⟩, .string ⟨#[]⟩] 100 (0, 0))) := Lib.hid (by rw [hW1]; exact heap_alloc_new _ _)
          have HB1 : Hid (Below wr.heap.size wr W1) := Lib.hid (by rw [hW1]; exact tk_alloc _ _)
          have HW1 : Hid (Below w.heap.size w W1) := Lib.hid (HB.out.trans (HB1.out.mono HB.out.size))
          rw [← hW1]
          clear hW1
          go_wp2_with fail
          refine (HT.out _ HW1.out _ _ HA.out).mono ?_
          rintro e w' ⟨xt, rfl, hx, hw⟩
          obtain rfl := hw
          have gx0 := (is_kGive xt).trans ((hx _ Ip.pGive).trans (HN3.out _ (by simp)))
          have gx1 := (is_kTake xt).trans ((hx _ Ip.pTake).trans (HN3.out _ (by simp)))
          have gx2 := (is_kNote xt).trans ((hx _ Ip.pNote).trans (HN3.out _ (by simp)))
          clear hx
          have hn := HN1.out
          obtain ⟨x0, x1, x2, x3, x4⟩ := cells5 hn
          have f := frozen2 hn 3
          clear hn
          go_upto_region 6 with fail
          obtain ⟨W2, hW⟩ : ∃ W, W = W1.setCell ⟨wr.heap.size, 3, none⟩ (.string xt) := ⟨_, rfl⟩
          have HN2 : Hid (W2.heap[wr.heap.size]? = some (.cells #[.string ⟨#[]⟩, .string ⟨#[]⟩, .int .u8 0, .string xt, .string ⟨#[]⟩] 100 (0, 0))) := Lib.hid (by rw [hW]; exact tk_set HN1.out _)
          have HB2 : Hid (Below wr.heap.size wr W2) := Lib.hid (by rw [hW]; exact HB1.out.setCell (Nat.le_refl _) _)
          have HW2 : Hid (Below w.heap.size w W2) := Lib.hid (HB.out.trans (HB2.out.mono HB.out.size))
          rw [← hW]
          clear hW x0 x1 x2 x3 x4 f
          have hn := HN2.out
          obtain ⟨xa0, xa1, xa2, xa3, xa4⟩ := cells5 hn
          clear hn
          go_wp2_with fail
          go_ret2
          unfold RefRow
          rw [HE.out]
          exact ⟨_, _, [], rfl, RowIs.nil _ _ _, fun e => (by rw [HFE.out] at e; cases e), by rw [HFE.out]; exact HAS.out, HW2.out⟩
        · obtain ⟨n1, hn1, he1⟩ : ∃ kw, (kw = Ip.kGive ∨ kw = Ip.kTake ∨ kw = Ip.kNote) ∧ Ip.eqB (Ip.ahead ⟨l.drop k, false⟩) kw = true := by
            by_cases h1 : Ip.eqB (Ip.ahead ⟨l.drop k, false⟩) Ip.kGive = true
            · exact ⟨_, .inl rfl, h1⟩
            · by_cases h2 : Ip.eqB (Ip.ahead ⟨l.drop k, false⟩) Ip.kTake = true
              · exact ⟨_, .inr (.inl rfl), h2⟩
              · by_cases h3 : Ip.eqB (Ip.ahead ⟨l.drop k, false⟩) Ip.kNote = true
                · exact ⟨_, .inr (.inr rfl), h3⟩
                · exact absurd (fun kw hkw => by simp only [List.mem_cons, List.not_mem_nil, or_false] at hkw; rcases hkw with rfl | rfl | rfl; exact Bool.eq_false_iff.2 h1; exact Bool.eq_false_iff.2 h2; exact Bool.eq_false_iff.2 h3) hno
          obtain ⟨hlt, e1⟩ := Ip.of_yes (of := [Ip.kGive, Ip.kTake, Ip.kNote]) hk (by rcases hn1 with rfl | rfl | rfl <;> first | exact Ip.pGive | exact Ip.pTake | exact Ip.pNote) (by rcases hn1 with rfl | rfl | rfl <;> simp) he1
          have HA1 := Lib.hid (Ip.at_place (l := l) (k := k + 1) (by omega))
          obtain ⟨⟨n2, r2⟩, e2⟩ : ∃ y, Ip.name ⟨l.drop (k + 1), false⟩ = y := ⟨_, rfl⟩
          obtain ⟨⟨n3, r3⟩, e3⟩ : ∃ y, Ip.argument r2 = y := ⟨_, rfl⟩
          obtain ⟨⟨n4, r4⟩, e4⟩ : ∃ y, Ip.one [Ip.sArrow] r3 = y := ⟨_, rfl⟩
          have HM2 := Lib.hid (fun (n5 : ByteArray) (r5 : Ip.R) e5 h5 => Ip.method_fell2 (n5 := n5) (r5 := r5) e1 e2 e3 e4 e5 h5)
          have HMT : Hid (∀ n5 r5 n6 r6, Ip.one [Ip.kInt, Ip.kNone] r4 = (n5, r5) → Ip.undo r5 = (n6, r6) → Ip.method ⟨l.drop k, false⟩ = (⟨n2, n3, Ip.meant n5, n1, n6⟩, r6)) := Lib.hid (fun n5 r5 n6 r6 e5 e6 => by unfold Ip.method; simp only [Ip.bind_eq, Ip.ret_eq, e1, e2, e3, e4, e5, e6])
          have HQ2 := Lib.hid (fun W (hW : Below w.heap.size w W) i (ha : Ip.AtR l ⟨l.drop (k + 1), false⟩ i) => H2.out W hW _ i ha)
          have HQ3 := Lib.hid (fun W (hW : Below w.heap.size w W) i (ha : Ip.AtR l r2 i) => H3.out W hW _ i ha)
          have HQ4 := Lib.hid (fun W (hW : Below w.heap.size w W) i (ha : Ip.AtR l r3 i) => H4.out W hW _ i ha)
          rw [e2] at HQ2
          rw [e3] at HQ3
          rw [show (⟨#[45, 62]⟩ : ByteArray) = Ip.sArrow from rfl, e4] at HQ4
          unfold Ip.sArrow at HQ4
          have HNK := Lib.hid hn1
          have HE1 := Lib.hid he1
          clear hs hc e1 e2 e3 e4 hn1 he1 hno hlt
          go_wp2_with fail
          refine HQ.out.mono ?_
          rintro e w' ⟨x, rfl, hx, hw⟩
          obtain rfl := hw
          have g1 := (is_sShut x).trans ((hx _ Ip.pShut).trans HEQ.out.symm)
          clear hx
          go_upto_region 5 with fail
          obtain ⟨W1, hW1⟩ : ∃ W1, W1 = wr.alloc (.cells #[.string ⟨#[]⟩, .string ⟨#[]⟩, .int .u8 0, .string ⟨#[]⟩, .string ⟨#[]⟩] 100) := ⟨_, rfl⟩
          have HN1 : Hid (W1.heap[wr.heap.size]? = some (.cells #[.string ⟨#[]⟩, .string ⟨#[]⟩, .int .u8 0, .string ⟨#[]⟩, .string ⟨#[]⟩] 100 (0, 0))) := Lib.hid (by rw [hW1]; exact heap_alloc_new _ _)
          have HB1 : Hid (Below wr.heap.size wr W1) := Lib.hid (by rw [hW1]; exact tk_alloc _ _)
          have HW1 : Hid (Below w.heap.size w W1) := Lib.hid (HB.out.trans (HB1.out.mono HB.out.size))
          rw [← hW1]
          clear hW1
          go_wp2_with fail
          refine (HT.out _ HW1.out _ _ HA.out).mono ?_
          rintro e w' ⟨xe, rfl, hx, hw⟩
          obtain rfl := hw
          have HXE : Hid (xe = n1) := Lib.hid (Ip.eqB_iff.1 (by rw [hx n1 (by rcases HNK.out with rfl | rfl | rfl <;> first | exact Ip.pGive | exact Ip.pTake | exact Ip.pNote)]; exact HE1.out))
          clear hx
          have hn := HN1.out
          obtain ⟨x0, x1, x2, x3, x4⟩ := cells5 hn
          have f := frozen2 hn 3
          clear hn
          go_upto_region 6 with fail
          obtain ⟨W2, hW⟩ : ∃ W, W = W1.setCell ⟨wr.heap.size, 3, none⟩ (.string xe) := ⟨_, rfl⟩
          have HN2 : Hid (W2.heap[wr.heap.size]? = some (.cells #[.string ⟨#[]⟩, .string ⟨#[]⟩, .int .u8 0, .string xe, .string ⟨#[]⟩] 100 (0, 0))) := Lib.hid (by rw [hW]; exact tk_set HN1.out _)
          have HB2 : Hid (Below wr.heap.size wr W2) := Lib.hid (by rw [hW]; exact HB1.out.setCell (Nat.le_refl _) _)
          have HW2 : Hid (Below w.heap.size w W2) := Lib.hid (HB.out.trans (HB2.out.mono HB.out.size))
          rw [← hW]
          clear hW x0 x1 x2 x3 x4 f
          have hn := HN2.out
          obtain ⟨xa0, xa1, xa2, xa3, xa4⟩ := cells5 hn
          clear hn
          go_cut [35] from 23 to 35 (fun v W => v = .bool false ∧ Hid (W = W2))
          case first =>
            rcases HNK.out with h | h | h
            · have g0 := (is_kGive xe).trans (show Ip.eqB xe Ip.kGive = true by rw [HXE.out, h]; decide)
              clear h
              go_wp2_with fail
              go_meet
              exact ⟨rfl, Lib.hid rfl⟩
            · have g0 := (is_kGive xe).trans (show Ip.eqB xe Ip.kGive = false by rw [HXE.out, h]; decide)
              have g2 := (is_kTake xe).trans (show Ip.eqB xe Ip.kTake = true by rw [HXE.out, h]; decide)
              clear h
              go_wp2_with fail
              go_meet
              exact ⟨rfl, Lib.hid rfl⟩
            · have g0 := (is_kGive xe).trans (show Ip.eqB xe Ip.kGive = false by rw [HXE.out, h]; decide)
              have g2 := (is_kTake xe).trans (show Ip.eqB xe Ip.kTake = false by rw [HXE.out, h]; decide)
              have g3 := (is_kNote xe).trans (show Ip.eqB xe Ip.kNote = true by rw [HXE.out, h]; decide)
              clear h
              go_wp2_with fail
              go_meet
              exact ⟨rfl, Lib.hid rfl⟩
          case rest =>
            obtain ⟨rfl, hWx⟩ := hcut
            obtain rfl := hWx.out.symm
            clear hWx xa0 xa1 xa2 xa3 xa4
            have hx1 := HXE.out
            subst hx1
            go_wp2_with fail
            refine (HQ2.out _ HW2.out _ HA1.out).mono ?_
            rintro e w' ⟨ha2', rfl, ha', hw⟩
            obtain rfl := hw
            have HA2 := Lib.hid ha'
            clear ha'
            have hn := HN2.out
            obtain ⟨x0, x1, x2, x3, x4⟩ := cells5 hn
            have f := frozen2 hn 0
            clear hn
            go_upto_region 9 with fail
            obtain ⟨W3, hW⟩ : ∃ W, W = W2.setCell ⟨wr.heap.size, 0, none⟩ (.string n2) := ⟨_, rfl⟩
            have HN3 : Hid (W3.heap[wr.heap.size]? = some (.cells #[.string n2, .string ⟨#[]⟩, .int .u8 0, .string xe, .string ⟨#[]⟩] 100 (0, 0))) := Lib.hid (by rw [hW]; exact tk_set HN2.out _)
            have HB3 : Hid (Below wr.heap.size wr W3) := Lib.hid (by rw [hW]; exact HB2.out.setCell (Nat.le_refl _) _)
            have HW3 : Hid (Below w.heap.size w W3) := Lib.hid (HB.out.trans (HB3.out.mono HB.out.size))
            rw [← hW]
            clear hW x0 x1 x2 x3 x4 f
            go_wp2_with fail
            refine (HQ3.out _ HW3.out _ HA2.out).mono ?_
            rintro e w' ⟨ha3', rfl, ha', hw⟩
            obtain rfl := hw
            have HA3 := Lib.hid ha'
            clear ha'
            have hn := HN3.out
            obtain ⟨x0, x1, x2, x3, x4⟩ := cells5 hn
            have f := frozen2 hn 1
            clear hn
            go_upto_region 10 with fail
            obtain ⟨W4, hW⟩ : ∃ W, W = W3.setCell ⟨wr.heap.size, 1, none⟩ (.string n3) := ⟨_, rfl⟩
            have HN4 : Hid (W4.heap[wr.heap.size]? = some (.cells #[.string n2, .string n3, .int .u8 0, .string xe, .string ⟨#[]⟩] 100 (0, 0))) := Lib.hid (by rw [hW]; exact tk_set HN3.out _)
            have HB4 : Hid (Below wr.heap.size wr W4) := Lib.hid (by rw [hW]; exact HB3.out.setCell (Nat.le_refl _) _)
            have HW4 : Hid (Below w.heap.size w W4) := Lib.hid (HB.out.trans (HB4.out.mono HB.out.size))
            rw [← hW]
            clear hW x0 x1 x2 x3 x4 f
            go_wp2_with fail
            refine (HQ4.out _ HW4.out _ HA3.out).mono ?_
            rintro e w' ⟨i4, rfl, ha4, hw⟩
            obtain rfl := hw
            have HA4 := Lib.hid ha4
            clear ha4
            cases h4 : r4.stuck with
            | true =>
              have j5 := Ip.at_neg HA4.out h4
              have HMS := Lib.hid (HMT.out ⟨#[]⟩ r4 ⟨#[]⟩ r4 (Ip.one_stuck h4) (Ip.undo_stuck h4))
              have HR4 : Hid ((Ip.one [⟨#[59]⟩] r4).2 = r4) := Lib.hid (by rw [Ip.one_stuck h4])
              clear h4
              go_wp2_with fail
              refine (H7.out _ HW4.out r4 _ HA4.out).mono ?_
              rintro e w' ⟨ha7', rfl, ha', hw⟩
              obtain rfl := hw
              have HA7 := Lib.hid ha'
              clear ha'
              rw [HR4.out] at HA7
              have hn := HN4.out
              obtain ⟨x0, x1, x2, x3, x4⟩ := cells5 hn
              clear hn
              obtain ⟨pv, cv, V, hrun, hL5, hB5, -⟩ := append_ref okMth (HL.out.below okMth HB4.out) HW4.out ⟨n2, n3, 0, xe, ⟨#[]⟩⟩ (.bool false) trivial (by omega) 96
              rw [show (kMth.cells ⟨n2, n3, 0, xe, ⟨#[]⟩⟩ (.bool false)).toArray = #[.string n2, .string n3, .int .u8 0, .string xe, .string ⟨#[]⟩] from rfl] at hrun
              have HG5 := Lib.hid (by have h := HMS.out; rw [Ip.meant_none] at h; have := HG.out ⟨n2, n3, 0, xe, ⟨#[]⟩⟩ (fun _ => by rw [h]); rw [h] at this; exact this)
              have HL5 := Lib.hid hL5
              have HB5 := Lib.hid hB5
              clear hL5 hB5
              go_wp2_with (at_builtin; refine Lib.wpList_append_run _ rfl (.tmp 90) (.tmp 92) _ _ rfl _ _ rfl rfl _ _ hrun ?_)
              go_roundw
              case rel => exact ⟨_, r4, _, rfl, HL5, HA7, HG5, HB5⟩
              case measure => simp [sliceLen]; omega
            | false =>
              obtain ⟨k4, hk4, hr4, hi4⟩ := Ip.at_go HA4.out h4
              subst hr4 hi4
              have j1 : (k4 : Int) ≤ 65536 := by omega
              have j2 : (0 : Int) ≤ (k4 : Int) := by omega
              cases hEkInt : Ip.eqB (Ip.ahead ⟨l.drop k4, false⟩) Ip.kInt with
              | true =>
                obtain ⟨hlt, e5⟩ := Ip.of_yes (of := [Ip.kInt, Ip.kNone]) hk4 Ip.pInt (by simp) hEkInt
                have HA5 := Lib.hid (Ip.at_place (l := l) (k := k4 + 1) (by omega))
                have HEkInt := Lib.hid hEkInt
                have hlt2 : k4 + 1 ≤ l.length := by omega
                clear h4 hEkInt
                go_wp2_with fail
                refine (HT.out _ HW4.out _ _ HA4.out).mono ?_
                rintro e w' ⟨y, rfl, hx, hw⟩
                obtain rfl := hw
                have gy0 := (is_kInt y).trans ((hx _ Ip.pInt).trans HEkInt.out)
                clear hx
                have hn := HN4.out
                obtain ⟨x0, x1, x2, x3, x4⟩ := cells5 hn
                have f := frozen2 hn 2
                clear hn
                go_upto_region 18 with fail
                obtain ⟨W5ckInt, hW⟩ : ∃ W, W = W4.setCell ⟨wr.heap.size, 2, none⟩ (.int .u8 3) := ⟨_, rfl⟩
                have HN5ckInt : Hid (W5ckInt.heap[wr.heap.size]? = some (.cells #[.string n2, .string n3, .int .u8 3, .string xe, .string ⟨#[]⟩] 100 (0, 0))) := Lib.hid (by rw [hW]; exact tk_set HN4.out _)
                have HB5ckInt : Hid (Below wr.heap.size wr W5ckInt) := Lib.hid (by rw [hW]; exact HB4.out.setCell (Nat.le_refl _) _)
                have HW5ckInt : Hid (Below w.heap.size w W5ckInt) := Lib.hid (HB.out.trans (HB5ckInt.out.mono HB.out.size))
                rw [← hW]
                clear hW x0 x1 x2 x3 x4 f
                cases hU : Ip.eqB (Ip.ahead ⟨l.drop (k4 + 1), false⟩) Ip.kUndo with
                | true =>
                  obtain ⟨hlt3, e6⟩ := Ip.one_yes hlt2 Ip.pUndo hU
                  have hu := Ip.undo_yes hU
                  rw [e6] at hu
                  have HA6 := Lib.hid (Ip.at_place (l := l) (k := k4 + 1 + 1) (by omega))
                  obtain ⟨⟨n7, r7⟩, e7⟩ : ∃ y, Ip.name ⟨l.drop (k4 + 1 + 1), false⟩ = y := ⟨_, rfl⟩
                  rw [e7] at hu
                  have HQ6 := Lib.hid (fun W (hW : Below w.heap.size w W) i (ha : Ip.AtR l ⟨l.drop (k4 + 1 + 1), false⟩ i) => H2.out W hW _ i ha)
                  rw [e7] at HQ6
                  have HMS := Lib.hid (HMT.out _ _ _ _ e5 hu)
                  have HU := Lib.hid hU
                  clear hU e5 e6 e7 hu hlt3 hlt hlt2
                  go_wp2_with fail
                  refine (HT.out _ HW5ckInt.out _ _ HA5.out).mono ?_
                  rintro e w' ⟨z, rfl, hx, hw⟩
                  obtain rfl := hw
                  have gz := (is_kUndo z).trans ((hx _ Ip.pUndo).trans HU.out)
                  clear hx
                  go_wp2_with fail
                  refine (HQ6.out _ HW5ckInt.out _ HA6.out).mono ?_
                  rintro e w' ⟨ha7', rfl, ha', hw⟩
                  obtain rfl := hw
                  have HA7 := Lib.hid ha'
                  clear ha'
                  have hn := HN5ckInt.out
                  obtain ⟨x0, x1, x2, x3, x4⟩ := cells5 hn
                  have f := frozen2 hn 4
                  clear hn
                  go_upto_region 21 with fail
                  obtain ⟨W6ckIntu, hW⟩ : ∃ W, W = W5ckInt.setCell ⟨wr.heap.size, 4, none⟩ (.string n7) := ⟨_, rfl⟩
                  have HN6ckIntu : Hid (W6ckIntu.heap[wr.heap.size]? = some (.cells #[.string n2, .string n3, .int .u8 3, .string xe, .string n7] 100 (0, 0))) := Lib.hid (by rw [hW]; exact tk_set HN5ckInt.out _)
                  have HB6ckIntu : Hid (Below wr.heap.size wr W6ckIntu) := Lib.hid (by rw [hW]; exact HB5ckInt.out.setCell (Nat.le_refl _) _)
                  have HW6ckIntu : Hid (Below w.heap.size w W6ckIntu) := Lib.hid (HB.out.trans (HB6ckIntu.out.mono HB.out.size))
                  rw [← hW]
                  clear hW x0 x1 x2 x3 x4 f
                  go_wp2_with fail
                  refine (H7.out _ HW6ckIntu.out r7 _ HA7.out).mono ?_
                  rintro e w' ⟨ha8', rfl, ha', hw⟩
                  obtain rfl := hw
                  have HA8 := Lib.hid ha'
                  clear ha'
                  have hn := HN6ckIntu.out
                  obtain ⟨x0, x1, x2, x3, x4⟩ := cells5 hn
                  clear hn
                  obtain ⟨pv, cv, V, hrun, hL5, hB5, -⟩ := append_ref okMth (HL.out.below okMth HB6ckIntu.out) HW6ckIntu.out ⟨n2, n3, 3, xe, n7⟩ (.bool false) trivial (by omega) 96
                  rw [show (kMth.cells ⟨n2, n3, 3, xe, n7⟩ (.bool false)).toArray = #[.string n2, .string n3, .int .u8 3, .string xe, .string n7] from rfl] at hrun
                  have HG5 := Lib.hid (by have h := HMS.out; rw [show Ip.meant Ip.kInt = 3 by decide] at h; have := HG.out ⟨n2, n3, 3, xe, n7⟩ (fun _ => by rw [h]); rw [h] at this; exact this)
                  have HL5 := Lib.hid hL5
                  have HB5 := Lib.hid hB5
                  clear hL5 hB5
                  go_wp2_with (at_builtin; refine Lib.wpList_append_run _ rfl (.tmp 90) (.tmp 92) _ _ rfl _ _ rfl rfl _ _ hrun ?_)
                  go_roundw
                  case rel => exact ⟨_, _, _, rfl, HL5, HA8, HG5, HB5⟩
                  case measure => simp [sliceLen]; omega
                | false =>
                  have hu := Ip.undo_no hU
                  have HMS := Lib.hid (HMT.out _ _ _ _ e5 hu)
                  have HU := Lib.hid hU
                  clear hU e5 hu hlt hlt2
                  go_wp2_with fail
                  refine (HT.out _ HW5ckInt.out _ _ HA5.out).mono ?_
                  rintro e w' ⟨z, rfl, hx, hw⟩
                  obtain rfl := hw
                  have gz := (is_kUndo z).trans ((hx _ Ip.pUndo).trans HU.out)
                  clear hx
                  go_wp2_with fail
                  refine (H7.out _ HW5ckInt.out _ _ HA5.out).mono ?_
                  rintro e w' ⟨ha8', rfl, ha', hw⟩
                  obtain rfl := hw
                  have HA8 := Lib.hid ha'
                  clear ha'
                  have hn := HN5ckInt.out
                  obtain ⟨x0, x1, x2, x3, x4⟩ := cells5 hn
                  clear hn
                  obtain ⟨pv, cv, V, hrun, hL5, hB5, -⟩ := append_ref okMth (HL.out.below okMth HB5ckInt.out) HW5ckInt.out ⟨n2, n3, 3, xe, ⟨#[]⟩⟩ (.bool false) trivial (by omega) 96
                  rw [show (kMth.cells ⟨n2, n3, 3, xe, ⟨#[]⟩⟩ (.bool false)).toArray = #[.string n2, .string n3, .int .u8 3, .string xe, .string ⟨#[]⟩] from rfl] at hrun
                  have HG5 := Lib.hid (by have h := HMS.out; rw [show Ip.meant Ip.kInt = 3 by decide] at h; have := HG.out ⟨n2, n3, 3, xe, ⟨#[]⟩⟩ (fun _ => by rw [h]); rw [h] at this; exact this)
                  have HL5 := Lib.hid hL5
                  have HB5 := Lib.hid hB5
                  clear hL5 hB5
                  go_wp2_with (at_builtin; refine Lib.wpList_append_run _ rfl (.tmp 90) (.tmp 92) _ _ rfl _ _ rfl rfl _ _ hrun ?_)
                  go_roundw
                  case rel => exact ⟨_, _, _, rfl, HL5, HA8, HG5, HB5⟩
                  case measure => simp [sliceLen]; omega
              | false =>
                have HEkInt := Lib.hid hEkInt
                cases hEkNone : Ip.eqB (Ip.ahead ⟨l.drop k4, false⟩) Ip.kNone with
                | true =>
                  clear hEkInt
                  obtain ⟨hlt, e5⟩ := Ip.of_yes (of := [Ip.kInt, Ip.kNone]) hk4 Ip.pNone (by simp) hEkNone
                  have HA5 := Lib.hid (Ip.at_place (l := l) (k := k4 + 1) (by omega))
                  have HEkNone := Lib.hid hEkNone
                  have hlt2 : k4 + 1 ≤ l.length := by omega
                  clear h4 hEkNone
                  go_wp2_with fail
                  refine (HT.out _ HW4.out _ _ HA4.out).mono ?_
                  rintro e w' ⟨y, rfl, hx, hw⟩
                  obtain rfl := hw
                  have gy0 := (is_kInt y).trans ((hx _ Ip.pInt).trans HEkInt.out)
                  have gy1 := (is_kNone y).trans ((hx _ Ip.pNone).trans HEkNone.out)
                  clear hx
                  have hn := HN4.out
                  obtain ⟨x0, x1, x2, x3, x4⟩ := cells5 hn
                  have f := frozen2 hn 2
                  clear hn
                  go_upto_region 18 with fail
                  obtain ⟨W5ckNone, hW⟩ : ∃ W, W = W4.setCell ⟨wr.heap.size, 2, none⟩ (.int .u8 1) := ⟨_, rfl⟩
                  have HN5ckNone : Hid (W5ckNone.heap[wr.heap.size]? = some (.cells #[.string n2, .string n3, .int .u8 1, .string xe, .string ⟨#[]⟩] 100 (0, 0))) := Lib.hid (by rw [hW]; exact tk_set HN4.out _)
                  have HB5ckNone : Hid (Below wr.heap.size wr W5ckNone) := Lib.hid (by rw [hW]; exact HB4.out.setCell (Nat.le_refl _) _)
                  have HW5ckNone : Hid (Below w.heap.size w W5ckNone) := Lib.hid (HB.out.trans (HB5ckNone.out.mono HB.out.size))
                  rw [← hW]
                  clear hW x0 x1 x2 x3 x4 f
                  cases hU : Ip.eqB (Ip.ahead ⟨l.drop (k4 + 1), false⟩) Ip.kUndo with
                  | true =>
                    obtain ⟨hlt3, e6⟩ := Ip.one_yes hlt2 Ip.pUndo hU
                    have hu := Ip.undo_yes hU
                    rw [e6] at hu
                    have HA6 := Lib.hid (Ip.at_place (l := l) (k := k4 + 1 + 1) (by omega))
                    obtain ⟨⟨n7, r7⟩, e7⟩ : ∃ y, Ip.name ⟨l.drop (k4 + 1 + 1), false⟩ = y := ⟨_, rfl⟩
                    rw [e7] at hu
                    have HQ6 := Lib.hid (fun W (hW : Below w.heap.size w W) i (ha : Ip.AtR l ⟨l.drop (k4 + 1 + 1), false⟩ i) => H2.out W hW _ i ha)
                    rw [e7] at HQ6
                    have HMS := Lib.hid (HMT.out _ _ _ _ e5 hu)
                    have HU := Lib.hid hU
                    clear hU e5 e6 e7 hu hlt3 hlt hlt2
                    go_wp2_with fail
                    refine (HT.out _ HW5ckNone.out _ _ HA5.out).mono ?_
                    rintro e w' ⟨z, rfl, hx, hw⟩
                    obtain rfl := hw
                    have gz := (is_kUndo z).trans ((hx _ Ip.pUndo).trans HU.out)
                    clear hx
                    go_wp2_with fail
                    refine (HQ6.out _ HW5ckNone.out _ HA6.out).mono ?_
                    rintro e w' ⟨ha7', rfl, ha', hw⟩
                    obtain rfl := hw
                    have HA7 := Lib.hid ha'
                    clear ha'
                    have hn := HN5ckNone.out
                    obtain ⟨x0, x1, x2, x3, x4⟩ := cells5 hn
                    have f := frozen2 hn 4
                    clear hn
                    go_upto_region 21 with fail
                    obtain ⟨W6ckNoneu, hW⟩ : ∃ W, W = W5ckNone.setCell ⟨wr.heap.size, 4, none⟩ (.string n7) := ⟨_, rfl⟩
                    have HN6ckNoneu : Hid (W6ckNoneu.heap[wr.heap.size]? = some (.cells #[.string n2, .string n3, .int .u8 1, .string xe, .string n7] 100 (0, 0))) := Lib.hid (by rw [hW]; exact tk_set HN5ckNone.out _)
                    have HB6ckNoneu : Hid (Below wr.heap.size wr W6ckNoneu) := Lib.hid (by rw [hW]; exact HB5ckNone.out.setCell (Nat.le_refl _) _)
                    have HW6ckNoneu : Hid (Below w.heap.size w W6ckNoneu) := Lib.hid (HB.out.trans (HB6ckNoneu.out.mono HB.out.size))
                    rw [← hW]
                    clear hW x0 x1 x2 x3 x4 f
                    go_wp2_with fail
                    refine (H7.out _ HW6ckNoneu.out r7 _ HA7.out).mono ?_
                    rintro e w' ⟨ha8', rfl, ha', hw⟩
                    obtain rfl := hw
                    have HA8 := Lib.hid ha'
                    clear ha'
                    have hn := HN6ckNoneu.out
                    obtain ⟨x0, x1, x2, x3, x4⟩ := cells5 hn
                    clear hn
                    obtain ⟨pv, cv, V, hrun, hL5, hB5, -⟩ := append_ref okMth (HL.out.below okMth HB6ckNoneu.out) HW6ckNoneu.out ⟨n2, n3, 1, xe, n7⟩ (.bool false) trivial (by omega) 96
                    rw [show (kMth.cells ⟨n2, n3, 1, xe, n7⟩ (.bool false)).toArray = #[.string n2, .string n3, .int .u8 1, .string xe, .string n7] from rfl] at hrun
                    have HG5 := Lib.hid (by have h := HMS.out; rw [show Ip.meant Ip.kNone = 1 by decide] at h; have := HG.out ⟨n2, n3, 1, xe, n7⟩ (fun _ => by rw [h]); rw [h] at this; exact this)
                    have HL5 := Lib.hid hL5
                    have HB5 := Lib.hid hB5
                    clear hL5 hB5
                    go_wp2_with (at_builtin; refine Lib.wpList_append_run _ rfl (.tmp 90) (.tmp 92) _ _ rfl _ _ rfl rfl _ _ hrun ?_)
                    go_roundw
                    case rel => exact ⟨_, _, _, rfl, HL5, HA8, HG5, HB5⟩
                    case measure => simp [sliceLen]; omega
                  | false =>
                    have hu := Ip.undo_no hU
                    have HMS := Lib.hid (HMT.out _ _ _ _ e5 hu)
                    have HU := Lib.hid hU
                    clear hU e5 hu hlt hlt2
                    go_wp2_with fail
                    refine (HT.out _ HW5ckNone.out _ _ HA5.out).mono ?_
                    rintro e w' ⟨z, rfl, hx, hw⟩
                    obtain rfl := hw
                    have gz := (is_kUndo z).trans ((hx _ Ip.pUndo).trans HU.out)
                    clear hx
                    go_wp2_with fail
                    refine (H7.out _ HW5ckNone.out _ _ HA5.out).mono ?_
                    rintro e w' ⟨ha8', rfl, ha', hw⟩
                    obtain rfl := hw
                    have HA8 := Lib.hid ha'
                    clear ha'
                    have hn := HN5ckNone.out
                    obtain ⟨x0, x1, x2, x3, x4⟩ := cells5 hn
                    clear hn
                    obtain ⟨pv, cv, V, hrun, hL5, hB5, -⟩ := append_ref okMth (HL.out.below okMth HB5ckNone.out) HW5ckNone.out ⟨n2, n3, 1, xe, ⟨#[]⟩⟩ (.bool false) trivial (by omega) 96
                    rw [show (kMth.cells ⟨n2, n3, 1, xe, ⟨#[]⟩⟩ (.bool false)).toArray = #[.string n2, .string n3, .int .u8 1, .string xe, .string ⟨#[]⟩] from rfl] at hrun
                    have HG5 := Lib.hid (by have h := HMS.out; rw [show Ip.meant Ip.kNone = 1 by decide] at h; have := HG.out ⟨n2, n3, 1, xe, ⟨#[]⟩⟩ (fun _ => by rw [h]); rw [h] at this; exact this)
                    have HL5 := Lib.hid hL5
                    have HB5 := Lib.hid hB5
                    clear hL5 hB5
                    go_wp2_with (at_builtin; refine Lib.wpList_append_run _ rfl (.tmp 90) (.tmp 92) _ _ rfl _ _ rfl rfl _ _ hrun ?_)
                    go_roundw
                    case rel => exact ⟨_, _, _, rfl, HL5, HA8, HG5, HB5⟩
                    case measure => simp [sliceLen]; omega
                | false =>
                  have e5 := Ip.of_no (r := ⟨l.drop k4, false⟩) (of := [Ip.kInt, Ip.kNone]) rfl (fun kw hkw => by simp only [List.mem_cons, List.not_mem_nil, or_false] at hkw; rcases hkw with rfl | rfl <;> assumption)
                  have HM5 := Lib.hid (HM2.out _ _ e5 rfl)
                  have HFE : Hid ((Ip.loop Ip.method r0).2 = ⟨l.drop k4, true⟩) := Lib.hid (by rw [HFL.out (by rw [HM5.out]), HM5.out])
                  have HAS := Lib.hid (Ip.at_stop hk4)
                  have HEkNone := Lib.hid hEkNone
                  clear e5 hEkInt hEkNone h4
                  go_wp2_with fail
                  refine (HT.out _ HW4.out _ _ HA4.out).mono ?_
                  rintro e w' ⟨y, rfl, hx, hw⟩
                  obtain rfl := hw
                  have gy0 := (is_kInt y).trans ((hx _ Ip.pInt).trans HEkInt.out)
                  have gy1 := (is_kNone y).trans ((hx _ Ip.pNone).trans HEkNone.out)
                  clear hx
                  go_wp2_with fail
                  go_ret2
                  unfold RefRow
                  rw [HE.out]
                  exact ⟨_, _, [], rfl, RowIs.nil _ _ _, fun e => (by rw [HFE.out] at e; cases e), by rw [HFE.out]; exact HAS.out, HW4.out⟩
end Go.Proofs.YtnkdhmoocomjfaaGreatDoor
