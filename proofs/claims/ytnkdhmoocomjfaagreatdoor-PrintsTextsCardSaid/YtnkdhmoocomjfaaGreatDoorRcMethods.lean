/-
  Walks over the document's check: which types are right. Conditions: those in the theorems.
  Walks over the document's check: fields whose type is not right (its fourth rule, the records' part). Conditions: those in the theorems.
  Walks over the document's check: what takes what back. Conditions: those in the theorems.
  Walks over the document's check: which record is an order. Conditions: those in the theorems.
  Walks over the document's check: the methods' rules. Conditions: those in the theorems.
-/
import Derived.Test.YtnkdhmoocomjfaaGreatDoorRcDoubles
import Derived.Test.YtnkdhmoocomjfaaGreatDoorCkFoundR
set_option linter.unusedSimpArgs false
set_option linter.unusedVariables false
namespace Go.Proofs.YtnkdhmoocomjfaaGreatDoor
open Go.RowKit
set_option maxRecDepth 100000 in
set_option maxHeartbeats 8000000 in
theorem refRight_any {u w : World} {sv v : Value} {s : Ip.Sch} {t : List Ip.So} (h : RoSch u sv s) (ht : RoSo u v t) (hu : Kp u w) : Calls Tryz.prog 97 #[sv, v] w fun e w' => e = .returned (.bool (Ck.right s t)) ∧ Below w.heap.size w w' := by
  obtain ⟨p1, c1, p2, c2, p3, c3, rfl, -, -, -, -, l1, l2, l3⟩ := sch_parts h
  obtain ⟨p, c, rfl, hc1, hc2⟩ := RoIs.shape ht
  obtain ⟨W0, hW0⟩ : ∃ W0, W0 = allocs w [schO s p1 c1 p2 c2 p3 c3] := ⟨_, rfl⟩
  have HX : Hid (∀ W, Below W0.heap.size W0 W → W.heap[w.heap.size]? = some (schO s p1 c1 p2 c2 p3 c3) ∧ Below w.heap.size w W) := Lib.hid (by subst hW0; exact fun W hW => ⟨allocs_box (i := 0) rfl hW, allocs_on hW⟩)
  obtain ⟨b0, B0⟩ := HX.out W0 (Below.refl _ _)
  have H := Lib.hid h
  have HT := Lib.hid ht
  have HU0 := Lib.hid (hu.below B0)
  have HB0 := Lib.hid B0
  clear h ht hu b0 B0 l1 l2 l3
  simp only [allocs, schO] at hW0
  have ht0 : (t.length : Int) ≤ 9223372036854775807 := by unfold maxLen at hc2; omega
  by_cases e0 : t.length = 0
  · rw [Ck.right_len (.inl e0)]
    have i0 : (t.length : Int) < 1 := by omega
    clear e0 hc1 hc2
    go_enter Tryz.func97, Tryz.ntmps97
    go_upto_region 1 with fail
    rw [← hW0]
    clear hW0
    go_wp2_with fail
    go_ret
    exact ⟨rfl, HB0.out⟩
  have i0 : ¬ (t.length : Int) < 1 := by omega
  by_cases e12 : 12 < t.length
  · rw [Ck.right_len (.inr e12)]
    have i1 : (12 : Int) < (t.length : Int) := by omega
    clear e0 e12 hc1 hc2
    go_enter Tryz.func97, Tryz.ntmps97
    go_upto_region 1 with fail
    rw [← hW0]
    clear hW0
    go_wp2_with fail
    go_ret
    exact ⟨rfl, HB0.out⟩
  obtain ⟨n, hn⟩ : ∃ n : Nat, t.length = n + 1 := ⟨t.length - 1, by omega⟩
  have hn12 : n < 12 := by omega
  have HR : Hid (∀ x, t[n]? = some x → Ck.right s t = ((t.take n).all Ck.headB && Ck.lastB s x)) := Lib.hid fun x hx => Ck.right_n hn hn12 hx
  have hcn : n + 1 ≤ c := by omega
  have hcm : c ≤ 9223372036854775807 := by unfold maxLen at hc2; omega
  have i1 : ¬ (12 : Int) < (t.length : Int) := by omega
  have i2 : (t.length : Int) - 1 = (n : Int) := by omega
  clear hc1 hc2 e0 e12
  go_enter Tryz.func97, Tryz.ntmps97
  go_upto_region 1 with fail
  rw [← hW0]
  clear hW0
  go_wp2_with fail
  go_loopw [6] (fun kv wr => ∃ k : Nat, k ≤ n ∧ kv = .int .i64 (k : Nat) ∧ wr = W0 ∧ Hid (∀ j x, t[j]? = some x → j < k → Ck.headB x = true)) (fun kv _ => n - (intOf kv).toNat)
  case atStart => exact ⟨0, Nat.zero_le _, rfl, (by first | rfl | trivial), Lib.hid fun j _ _ hj => absurd hj (Nat.not_lt_zero _)⟩
  case round =>
    obtain ⟨k, hk, rfl, hwr, HA⟩ := hrel
    rw [hwr]
    clear hwr
    have hkt : k < t.length := by omega
    have j4 : (k : Int) < (t.length : Int) := by omega
    have j2 : (0 : Int) ≤ (k : Int) := by omega
    obtain ⟨A, cc, e3, hA, x0, x1, -⟩ := so_at (HT.out.kp HU0.out) hkt
    cases e3
    have HX9 := Lib.hid (List.getElem?_eq_getElem hkt)
    by_cases hlt : k < n
    · have j1 : (k : Int) < (n : Int) := by omega
      have HN9 := Lib.hid (List.getElem?_eq_getElem (l := t) (i := n) (by omega))
      generalize t[k] = x at x0 x1 HX9
      obtain ⟨xk, xn⟩ := x
      generalize t[n] = z at HN9
      have he := empty_is xn
      clear hA
      by_cases hcase : xk = 5
      · have i5 : ((xk : Int) != 5) = false := by rw [bne_eq_false_iff_eq]; omega
        cases hq : Ck.empty xn with
        | true =>
          rw [hq] at he
          have HH : Hid (Ck.headB ⟨xk, xn⟩ = true) := Lib.hid (by unfold Ck.headB; rw [hq]; simp [hcase])
          clear hq hcase
          go_wp2_with fail
          go_roundw
          case rel => exact ⟨k + 1, by omega, by go_num, (by first | rfl | trivial), Lib.hid fun j x hj hjk => by
              by_cases e : j < k
              · exact HA.out j x hj e
              · obtain rfl : j = k := by omega
                rw [HX9.out] at hj
                cases hj
                exact HH.out⟩
          case measure => simp [intOf]; omega
        | false =>
          rw [hq] at he
          have HH : Hid (Ck.headB ⟨xk, xn⟩ = false) := Lib.hid (by unfold Ck.headB; rw [hq]; simp [hcase])
          clear hq hcase
          go_wp2_with fail
          go_ret
          exact ⟨by rw [HR.out _ HN9.out, Ck.all_stop HX9.out hlt HH.out, Bool.false_and]; rfl, HB0.out⟩
      have hc5 := hcase
      clear hcase
      by_cases hcase : xk = 6
      · have i5 : ((xk : Int) != 5) = true := by rw [bne_iff_ne]; omega
        have i6 : ((xk : Int) != 6) = false := by rw [bne_eq_false_iff_eq]; omega
        cases hq : Ck.empty xn with
        | true =>
          rw [hq] at he
          have HH : Hid (Ck.headB ⟨xk, xn⟩ = true) := Lib.hid (by unfold Ck.headB; rw [hq]; simp [hcase])
          clear hq hcase
          go_wp2_with fail
          go_roundw
          case rel => exact ⟨k + 1, by omega, by go_num, (by first | rfl | trivial), Lib.hid fun j x hj hjk => by
              by_cases e : j < k
              · exact HA.out j x hj e
              · obtain rfl : j = k := by omega
                rw [HX9.out] at hj
                cases hj
                exact HH.out⟩
          case measure => simp [intOf]; omega
        | false =>
          rw [hq] at he
          have HH : Hid (Ck.headB ⟨xk, xn⟩ = false) := Lib.hid (by unfold Ck.headB; rw [hq]; simp [hcase])
          clear hq hcase
          go_wp2_with fail
          go_ret
          exact ⟨by rw [HR.out _ HN9.out, Ck.all_stop HX9.out hlt HH.out, Bool.false_and]; rfl, HB0.out⟩
      have hc6 := hcase
      clear hcase
      have i5 : ((xk : Int) != 5) = true := by rw [bne_iff_ne]; omega
      have i6 : ((xk : Int) != 6) = true := by rw [bne_iff_ne]; omega
      have HH : Hid (Ck.headB ⟨xk, xn⟩ = false) := Lib.hid (by unfold Ck.headB; simp [hc5, hc6])
      clear hc5 hc6 he
      go_wp2_with fail
      go_ret
      exact ⟨by rw [HR.out _ HN9.out, Ck.all_stop HX9.out hlt HH.out, Bool.false_and]; rfl, HB0.out⟩
    · obtain rfl : k = n := by omega
      have j1 : ¬ (k : Int) < (k : Int) := by omega
      have HO : Hid (Ck.right s t = Ck.lastB s t[k]) := Lib.hid (by rw [HR.out _ HX9.out, Ck.all_done HA.out, Bool.true_and])
      clear HX9 HA hlt hA
      generalize t[k] = x at x0 x1 HO
      obtain ⟨xk, xn⟩ := x
      have he := empty_is xn
      obtain ⟨W1, hW1⟩ : ∃ W1, W1 = W0.alloc (.cells #[.int .u8 (xk : Nat), .string xn] 41) := ⟨_, rfl⟩
      have hn1 : W1.heap[W0.heap.size]? = some (.cells #[.int .u8 (xk : Nat), .string xn] 41 (0, 0)) := by rw [hW1]; exact heap_alloc_new W0 _
      have HB1 : Hid (Below W0.heap.size W0 W1) := Lib.hid (by rw [hW1]; exact tk_alloc W0 _)
      obtain ⟨y0, y1⟩ := cells2 hn1
      clear hn1
      go_upto_region 10 with fail
      rw [← hW1]
      clear hW1 x0 x1
      unfold Ck.lastB at HO
      by_cases e7 : xk = 7
      · have i7 : ((xk : Int) == 7) = true := by rw [beq_iff_eq]; omega
        have HF : Hid (Ck.right s t = (Ck.find s xn).isSome) := Lib.hid (by rw [HO.out, if_pos e7])
        obtain ⟨z0, z1, z2, z3⟩ := cells4' (HX.out _ HB1.out).1
        clear HO he e7
        go_wp2_with fail
        refine Calls.mono (RefFind_any H.out (HU0.out.below HB1.out) xn) ?_
        rintro e w2 ⟨rv, rfl, ⟨q, kq, rfl, -, -⟩, hb2⟩
        have HB2 := Lib.hid ((HX.out _ HB1.out).2.trans (hb2.mono (HX.out _ HB1.out).2.size))
        generalize (Ck.find s xn).getD noRcd = y at *
        clear hb2 y0 y1 z0 z1 z2 z3
        go_wp2_with fail
        go_ret
        exact ⟨by rw [HF.out]; rfl, HB2.out.trans ((tk_alloc _ _).mono HB2.out.size)⟩
      have i7 : ((xk : Int) == 7) = false := by rw [beq_eq_false_iff_ne]; omega
      by_cases e1 : 1 ≤ xk ∧ xk ≤ 4
      · have k1 : (1 : Int) ≤ (xk : Int) := by omega
        have k2 : (xk : Int) ≤ 4 := by omega
        have HF : Hid (Ck.right s t = Ck.empty xn) := Lib.hid (by rw [HO.out, if_neg e7]; simp [e1.1, e1.2])
        clear HO e7 e1
        cases hq : Ck.empty xn with
        | true =>
          rw [hq] at he
          have HG := Lib.hid (HF.out.trans hq)
          clear hq HF
          go_wp2_with fail
          go_ret
          exact ⟨by rw [HG.out]; rfl, (HX.out _ HB1.out).2⟩
        | false =>
          rw [hq] at he
          have HG := Lib.hid (HF.out.trans hq)
          clear hq HF
          go_wp2_with fail
          go_ret
          exact ⟨by rw [HG.out]; rfl, (HX.out _ HB1.out).2⟩
      · have HF : Hid (Ck.right s t = false) := Lib.hid (by
          rw [HO.out, if_neg e7]
          have : (decide (1 ≤ xk) && decide (xk ≤ 4)) = false := by rw [Bool.and_eq_false_iff, decide_eq_false_iff_not, decide_eq_false_iff_not]; omega
          simp [this])
        clear HO he
        by_cases e2 : 1 ≤ xk
        · have k1 : (1 : Int) ≤ (xk : Int) := by omega
          have k2 : ¬ (xk : Int) ≤ 4 := by omega
          clear e7 e1 e2
          go_wp2_with fail
          go_ret
          exact ⟨by rw [HF.out]; rfl, (HX.out _ HB1.out).2⟩
        · have k1 : ¬ (1 : Int) ≤ (xk : Int) := by omega
          clear e7 e1 e2
          go_wp2_with fail
          go_ret
          exact ⟨by rw [HF.out]; rfl, (HX.out _ HB1.out).2⟩
end Go.Proofs.YtnkdhmoocomjfaaGreatDoor
set_option linter.unusedSimpArgs false
set_option linter.unusedVariables false
namespace Go.Proofs.YtnkdhmoocomjfaaGreatDoor
open Go.RowKit
def tF (s : Ip.Sch) (r : Ip.Rcd) (f : Ip.Fld) : Option ByteArray := if Ck.right s f.type then none else some (Ck.dot r.name f.name)
def tR (s : Ip.Sch) (r : Ip.Rcd) : Option ByteArray := r.fields.findSome? (tF s r)
theorem tF_yes {s : Ip.Sch} {r : Ip.Rcd} {f : Ip.Fld} (h : Ck.right s f.type = true) : tF s r f = none := by unfold tF; rw [if_pos h]
theorem tF_no {s : Ip.Sch} {r : Ip.Rcd} {f : Ip.Fld} (h : Ck.right s f.type = false) : tF s r f = some (Ck.dot r.name f.name) := by unfold tF; rw [if_neg (by rw [h]; decide)]
set_option maxRecDepth 100000 in
set_option maxHeartbeats 16000000 in
theorem refRecords4_any {u w : World} {sv : Value} {s : Ip.Sch} (h : RoSch u sv s) (hu : Kp u w) (hS : Ck.Small s) : Calls Tryz.prog 48 #[sv, .int .i64 4] w (RuleR (s.records.findSome? (tR s)) w) := by
  obtain ⟨p1, c1, p2, c2, p3, c3, rfl, -, hr, -, -, l1, l2, l3⟩ := sch_parts h
  obtain ⟨W0, hW0⟩ : ∃ W0, W0 = allocs w [schO s p1 c1 p2 c2 p3 c3] := ⟨_, rfl⟩
  have HX : Hid (∀ W, Below W0.heap.size W0 W → W.heap[w.heap.size]? = some (schO s p1 c1 p2 c2 p3 c3) ∧ Below w.heap.size w W) := Lib.hid (by subst hW0; exact fun W hW => ⟨allocs_box (i := 0) rfl hW, allocs_on hW⟩)
  obtain ⟨b0, B0⟩ := HX.out W0 (Below.refl _ _)
  have HB0 := Lib.hid B0
  have H := Lib.hid h
  have HU := Lib.hid (hu.below B0)
  have HR := Lib.hid hr
  have HSM := Lib.hid hS
  have m1 : s.records.length ≤ 100 := hS.nr
  clear h hu hS hr b0 B0 l1 l2 l3
  simp only [allocs, schO] at hW0
  go_enter Tryz.func48, Tryz.ntmps48
  go_upto_region 1 with fail
  rw [← hW0]
  clear hW0
  go_wp2_with fail
  go_loopw [7, 8, 9] (fun iv _ _ wr => ∃ i : Nat, i ≤ s.records.length ∧ iv = .int .i64 (i : Nat) ∧ Hid (Below W0.heap.size W0 wr ∧ s.records.findSome? (tR s) = (s.records.drop i).findSome? (tR s))) (fun iv _ _ _ => s.records.length - (intOf iv).toNat)
  case atStart => exact ⟨0, Nat.zero_le _, rfl, Lib.hid ⟨Below.refl _ _, by rw [List.drop_zero]⟩⟩
  case round =>
  obtain ⟨i, hi, rfl, HQ⟩ := hrel
  obtain ⟨x0, x1, x2, x3⟩ := cells4' (HX.out _ HQ.out.1).1
  by_cases hlt : i < s.records.length
  · have i1 : (i : Int) < (s.records.length : Int) := by omega
    have i2 : (0 : Int) ≤ (i : Int) := by omega
    obtain ⟨A, cc, p, kq, e3, hA, d0, d1, d2, hin, hsub⟩ := rcd_at2 HR.out (HU.out.below HQ.out.1) hlt
    cases e3
    obtain ⟨_, _, e9, hsl⟩ := ro_len hsub
    cases e9
    have HSUB := Lib.hid hsub
    have HZ := Lib.hid (HSM.out.r _ (List.getElem_mem hlt))
    have HY : Hid (∀ y, tR s s.records[i] = some y → s.records.findSome? (tR s) = some y) := Lib.hid fun y hy => HQ.out.2.trans (Ck.some_at hlt hy)
    have HN : Hid (tR s s.records[i] = none → s.records.findSome? (tR s) = (s.records.drop (i + 1)).findSome? (tR s)) := Lib.hid fun hy => HQ.out.2.trans (Ck.none_at hlt hy)
    clear hsub hin hA
    generalize s.records[i] = r at *
    obtain ⟨W1, hW1⟩ : ∃ W1, W1 = wr.alloc (.cells #[.string r.name, .bool r.choice, .slice p r.fields.length kq] 34) := ⟨_, rfl⟩
    have HN1 : Hid (W1.heap[wr.heap.size]? = some (.cells #[.string r.name, .bool r.choice, .slice p r.fields.length kq] 34 (0, 0))) := Lib.hid (by rw [hW1]; exact heap_alloc_new wr _)
    have HB1 : Hid (Below W0.heap.size W0 W1) := Lib.hid (by rw [hW1]; exact HQ.out.1.trans ((tk_alloc wr _).mono HQ.out.1.size))
    have HL1 : Hid (wr.heap.size < W1.heap.size) := Lib.hid (Array.getElem?_eq_some_iff.1 HN1.out).1
    go_upto_region 8 with fail
    rw [← hW1]
    clear hW1 x0 x1 x2 x3 d0 d1 d2
    go_wp2_with fail
    go_loopw [9] (fun kv wq => ∃ k : Nat, k ≤ r.fields.length ∧ kv = .int .i64 (k : Nat) ∧ Hid (Below W1.heap.size W1 wq ∧ tR s r = (r.fields.drop k).findSome? (tF s r))) (fun kv _ => r.fields.length - (intOf kv).toNat)
    case atStart => exact ⟨0, Nat.zero_le _, rfl, Lib.hid ⟨Below.refl _ _, by rw [List.drop_zero]; rfl⟩⟩
    case round =>
    obtain ⟨k, hk, rfl, HJ⟩ := hrel
    have HBQ : Hid (Below W0.heap.size W0 wr) := Lib.hid (HB1.out.trans (HJ.out.1.mono HB1.out.size))
    obtain ⟨x0, x1, x2, x3⟩ := cells4' (HX.out _ HBQ.out).1
    obtain ⟨y0, y1, y2⟩ := cells3 ((HJ.out.1.block _ HL1.out).trans HN1.out)
    by_cases hlk : k < r.fields.length
    · have j1 : (k : Int) < (r.fields.length : Int) := by omega
      have j2 : (0 : Int) ≤ (k : Int) := by omega
      have HKQ := Lib.hid (HU.out.below HBQ.out)
      obtain ⟨B, cb, pp, kp, e5, hB, g0, g1, hpin, hss, hss2⟩ := fld_at (HSUB.out.kp HKQ.out) hlk
      cases e5
      obtain ⟨_, _, _, _, e5', hB', g0', g1', -, hssu, -⟩ := fld_at HSUB.out hlk
      have hcell := (HKQ.out.cell (tcell_block g1')).trans g1'
      cases e5'
      rw [g1] at hcell
      cases hcell
      have HSO := Lib.hid hssu
      have HY2 : Hid (∀ y, tF s r r.fields[k] = some y → tR s r = some y) := Lib.hid fun y hy => HJ.out.2.trans (Ck.some_at hlk hy)
      have HN2 : Hid (tF s r r.fields[k] = none → tR s r = (r.fields.drop (k + 1)).findSome? (tF s r)) := Lib.hid fun hy => HJ.out.2.trans (Ck.none_at hlk hy)
      have HZ1 : Hid (r.name.size ≤ 200) := Lib.hid HZ.out.1
      have HZ2 : Hid (r.fields[k].name.size ≤ 200) := Lib.hid (HZ.out.2.2 _ (List.getElem_mem hlk)).1
      clear hB hB' g0' g1' hpin hss hssu hss2
      have HGE := Lib.hid (List.getElem?_eq_getElem hlk)
      generalize r.fields[k] = f at *
      have HG0 := Lib.hid g0
      clear g0
      go_wp2_with fail
      go_still_tail 7, (by kernel_rfl)
      change wpList _ _ _ _ _ wr.drew
      have hdr : Below wr.heap.size wr wr.drew := (Below.refl _ _).drew
      have HG1 : Hid (wr.drew.cell? (B.add (k * 2)) = some (.string f.name)) := Lib.hid HG0.out
      generalize wr.drew = w5 at *
      have HD := Lib.hid (HBQ.out.trans (hdr.mono HBQ.out.size))
      have HD5 := Lib.hid (HJ.out.1.trans (hdr.mono HJ.out.1.size))
      clear hdr x0 x1 x2 x3 y0 y1 y2 g1
      go_wp2_with fail
      refine Calls.mono (refRight_any H.out HSO.out (HU.out.below HD.out)) ?_
      rintro e w6 ⟨rfl, hb6⟩
      have HB6 := Lib.hid (HD.out.trans (hb6.mono HD.out.size))
      have HJ6 := Lib.hid (HD5.out.trans (hb6.mono HD5.out.size))
      have g0 := (hb6.cell (tcell_block HG1.out)).trans HG1.out
      clear hb6
      cases hb : Ck.right s f.type with
      | false =>
        have HO := Lib.hid (HY.out _ (HY2.out _ (tF_no hb)))
        clear hb
        obtain ⟨y0, y1, y2⟩ := cells3 ((HJ6.out.block _ HL1.out).trans HN1.out)
        have hz1 := HZ1.out
        have hz2 := HZ2.out
        have k4 : ¬ 9223372036854775807 < r.name.size + 1 := by omega
        have k5 : ¬ 9223372036854775807 < r.name.size + 1 + f.name.size := by omega
        have k7 : ¬ 9223372036854775807 < (r.name ++ ⟨#[46]⟩).size + f.name.size := by rw [ByteArray.size_append]; show ¬ 9223372036854775807 < r.name.size + 1 + f.name.size; omega
        have HBD : Hid (∀ n, Below w.heap.size w (w6.drewN n)) := Lib.hid fun n => (HX.out _ (HB6.out.trans ((dn_below w6 n).mono HB6.out.size))).2
        clear hz1 hz2
        go_wp2_with fail
        go_quiet (fail)
        go_wp2_with fail
        go_ret2
        exact ruleR_some HO.out (HBD.out _)
      | true =>
        have HO := Lib.hid (HN2.out (tF_yes hb))
        clear hb g0
        go_wp2_with fail
        go_roundw
        case rel => exact ⟨k + 1, by omega, by go_num, Lib.hid ⟨HJ6.out, HO.out⟩⟩
        case measure => simp [intOf]; omega
    · obtain rfl : k = r.fields.length := by omega
      have j1 : ¬ (r.fields.length : Int) < (r.fields.length : Int) := by omega
      have HO := Lib.hid (HN.out (HJ.out.2.trans (Ck.none_end (Nat.le_refl _))))
      clear hlk
      go_wp2_with fail
      go_roundw
      case rel => exact ⟨i + 1, by omega, by go_num, Lib.hid ⟨HBQ.out, HO.out⟩⟩
      case measure => simp [intOf]; omega
  · obtain rfl : i = s.records.length := by omega
    have i1 : ¬ (s.records.length : Int) < (s.records.length : Int) := by omega
    have HO := Lib.hid (HQ.out.2.trans (Ck.none_end (Nat.le_refl _)))
    clear hlt hi
    go_wp2_with fail
    go_ret2
    exact ruleR_none HO.out (HX.out _ HQ.out.1).2
end Go.Proofs.YtnkdhmoocomjfaaGreatDoor
set_option linter.unusedSimpArgs false
set_option linter.unusedVariables false
namespace Go.Proofs.YtnkdhmoocomjfaaGreatDoor
open Go.RowKit
theorem four_words (a : ByteArray) : (Ip.eqB a Ip.kGive = true ∧ Ip.eqB a Ip.kTake = false ∧ Ip.eqB a Ip.kNote = false) ∨ (Ip.eqB a Ip.kGive = false ∧ Ip.eqB a Ip.kTake = true ∧ Ip.eqB a Ip.kNote = false) ∨ (Ip.eqB a Ip.kGive = false ∧ Ip.eqB a Ip.kTake = false ∧ Ip.eqB a Ip.kNote = true) ∨ (Ip.eqB a Ip.kGive = false ∧ Ip.eqB a Ip.kTake = false ∧ Ip.eqB a Ip.kNote = false) := by
  cases h1 : Ip.eqB a Ip.kGive with
  | true =>
    obtain rfl := Ip.eqB_iff.1 h1
    exact .inl ⟨rfl, by kernel_rfl, by kernel_rfl⟩
  | false =>
  cases h2 : Ip.eqB a Ip.kTake with
  | true =>
    obtain rfl := Ip.eqB_iff.1 h2
    exact .inr (.inl ⟨rfl, rfl, by kernel_rfl⟩)
  | false =>
  cases h3 : Ip.eqB a Ip.kNote with
  | true => exact .inr (.inr (.inl ⟨rfl, rfl, rfl⟩))
  | false => exact .inr (.inr (.inr ⟨rfl, rfl, rfl⟩))
set_option maxRecDepth 100000 in
set_option maxHeartbeats 8000000 in
theorem refContrary_any (a b : ByteArray) (w : World) : Calls Tryz.prog 99 #[.string a, .string b] w fun e w' => e = .returned (.bool (Ck.contrary a b)) ∧ w' = w := by
  obtain ⟨c, hc⟩ : ∃ c, c = Ck.contrary a b := ⟨_, rfl⟩
  rw [← hc]
  have ag := is_kGive a
  have at' := is_kTake a
  have an := is_kNote a
  have bg := is_kGive b
  have bt := is_kTake b
  have bn := is_kNote b
  rcases four_words a with ⟨a1, a2, a3⟩ | ⟨a1, a2, a3⟩ | ⟨a1, a2, a3⟩ | ⟨a1, a2, a3⟩ <;> rcases four_words b with ⟨b1, b2, b3⟩ | ⟨b1, b2, b3⟩ | ⟨b1, b2, b3⟩ | ⟨b1, b2, b3⟩
  all_goals
    rw [a1] at ag
    rw [a2] at at'
    rw [a3] at an
    rw [b1] at bg
    rw [b2] at bt
    rw [b3] at bn
    simp [Ck.contrary, a1, a2, a3, b1, b2, b3] at hc
    subst hc
    clear a1 a2 a3 b1 b2 b3
    go_enter Tryz.func99, Tryz.ntmps99
    go_wp2_with fail
    go_ret
    exact ⟨rfl, rfl⟩
end Go.Proofs.YtnkdhmoocomjfaaGreatDoor
set_option linter.unusedSimpArgs false
set_option linter.unusedVariables false
namespace Go.Proofs.YtnkdhmoocomjfaaGreatDoor
open Go.RowKit
theorem is_nAccount (s : ByteArray) : (s.toList == [97, 99, 99, 111, 117, 110, 116]) = Ip.eqB s Ck.nAccount := eqB_at s _
theorem is_nAmount (s : ByteArray) : (s.toList == [97, 109, 111, 117, 110, 116]) = Ip.eqB s Ck.nAmount := eqB_at s _
theorem alone_len {f : Ip.Fld} {n : ByteArray} {k : Nat} (h : f.type.length ≠ 1) : Ck.alone f n k = false := by
  unfold Ck.alone
  split
  · next x hx => rw [hx] at h; exact absurd rfl h
  · rfl
theorem alone_one {f : Ip.Fld} {n : ByteArray} {k : Nat} {x : Ip.So} (h : f.type = [x]) : Ck.alone f n k = (Ip.eqB f.name n && decide (x.kind = k)) := by
  unfold Ck.alone; rw [h]
theorem one_is {α : Type} {l : List α} (h : l.length = 1) (h0 : 0 < l.length) : l = [l[0]] := by
  match l, h with
  | [x], _ => rfl
def pA (f : Ip.Fld) : Bool := Ck.alone f Ck.nAccount 4
def pM (f : Ip.Fld) : Bool := Ck.alone f Ck.nAmount 3
theorem any_next {α : Type} {P : α → Bool} {l : List α} {k : Nat} (h : k < l.length) {a b : Bool} (ha : (l.take k).any P = a) (hb : P l[k] = b) : (l.take (k + 1)).any P = (a || b) := by
  rw [List.take_succ_eq_append_getElem h, List.any_append, ha]
  simp [hb]
set_option maxRecDepth 100000 in
set_option maxHeartbeats 16000000 in
theorem refOrder_any {u w : World} {sv : Value} {s : Ip.Sch} (h : RoSch u sv s) (hu : Kp u w) (n : ByteArray) : Calls Tryz.prog 50 #[sv, .string n] w fun e w' => e = .returned (.bool (Ck.order s n)) ∧ Below w.heap.size w w' := by
  obtain ⟨p1, c1, p2, c2, p3, c3, rfl, -, -, -, -, l1, l2, l3⟩ := sch_parts h
  obtain ⟨W0, hW0⟩ : ∃ W0, W0 = allocs w [schO s p1 c1 p2 c2 p3 c3] := ⟨_, rfl⟩
  have HX : Hid (∀ W, Below W0.heap.size W0 W → W.heap[w.heap.size]? = some (schO s p1 c1 p2 c2 p3 c3) ∧ Below w.heap.size w W) := Lib.hid (by subst hW0; exact fun W hW => ⟨allocs_box (i := 0) rfl hW, allocs_on hW⟩)
  obtain ⟨b0, B0⟩ := HX.out W0 (Below.refl _ _)
  obtain ⟨x0, x1, x2, x3⟩ := cells4' b0
  have H := Lib.hid h
  have HU := Lib.hid (hu.below B0)
  clear h hu b0 B0 l1 l2 l3
  simp only [allocs, schO] at hW0
  go_enter Tryz.func50, Tryz.ntmps50
  go_upto_region 1 with fail
  rw [← hW0]
  clear hW0
  go_wp2_with fail
  refine Calls.mono (RefFind_any H.out HU.out n) ?_
  rintro e w1 ⟨rv, rfl, ⟨q, kq, rfl, -, hsub⟩, hb1⟩
  have HSUB := Lib.hid hsub
  have HB1 := Lib.hid hb1
  clear hsub hb1 x0 x1 x2 x3
  cases hf : Ck.find s n with
  | none =>
    have HO : Hid (Ck.order s n = false) := Lib.hid (by unfold Ck.order; rw [hf])
    clear hf
    go_wp2_with fail
    go_ret
    exact ⟨by rw [HO.out]; rfl, (HX.out _ (HB1.out.trans ((tk_alloc _ _).mono HB1.out.size))).2⟩
  | some r =>
  have HO : Hid (Ck.order s n = Ck.orderR r) := Lib.hid (by unfold Ck.order; rw [hf])
  rw [hf] at HSUB
  simp only [Option.getD_some, Option.isSome_some] at *
  clear hf
  obtain ⟨_, _, e9, hsl⟩ := ro_len HSUB.out
  cases e9
  obtain ⟨W1, hW1⟩ : ∃ W1, W1 = w1.alloc (.cells #[.string r.name, .bool r.choice, .slice q r.fields.length kq] 34) := ⟨_, rfl⟩
  have HN1 : Hid (W1.heap[w1.heap.size]? = some (.cells #[.string r.name, .bool r.choice, .slice q r.fields.length kq] 34 (0, 0))) := Lib.hid (by rw [hW1]; exact heap_alloc_new w1 _)
  have HB2 : Hid (Below W0.heap.size W0 W1) := Lib.hid (by rw [hW1]; exact HB1.out.trans ((tk_alloc w1 _).mono HB1.out.size))
  have HL1 : Hid (w1.heap.size < W1.heap.size) := Lib.hid (Array.getElem?_eq_some_iff.1 HN1.out).1
  obtain ⟨y0, y1, y2⟩ := cells3 HN1.out
  go_upto_region 2 with fail
  rw [← hW1]
  clear hW1
  cases hch : r.choice with
  | true =>
    have HF : Hid (Ck.orderR r = false) := Lib.hid (by unfold Ck.orderR; rw [hch]; rfl)
    rw [hch] at y1
    clear hch
    go_wp2_with fail
    go_ret
    exact ⟨by rw [HO.out, HF.out]; rfl, (HX.out _ HB2.out).2⟩
  | false =>
  have HF : Hid (Ck.orderR r = (r.fields.any pA && r.fields.any pM)) := Lib.hid (by unfold Ck.orderR; rw [hch]; rfl)
  rw [hch] at y1
  clear hch
  go_wp2_with fail
  clear y0 y1 y2
  go_loopw [7, 8, 9, 10] (fun av mv kv _ wr => ∃ (k : Nat) (a m : Bool), k ≤ r.fields.length ∧ kv = .int .i64 (k : Nat) ∧ av = .bool a ∧ mv = .bool m ∧ Hid (Below W1.heap.size W1 wr ∧ (r.fields.take k).any pA = a ∧ (r.fields.take k).any pM = m)) (fun _ _ kv _ _ => r.fields.length - (intOf kv).toNat)
  case atStart => exact ⟨0, false, false, Nat.zero_le _, rfl, rfl, rfl, Lib.hid ⟨Below.refl _ _, by rw [List.take_zero]; rfl, by rw [List.take_zero]; rfl⟩⟩
  case round =>
  obtain ⟨k, a, m, hk, rfl, rfl, rfl, HJ⟩ := hrel
  have HBQ : Hid (Below W0.heap.size W0 wr) := Lib.hid (HB2.out.trans (HJ.out.1.mono HB2.out.size))
  obtain ⟨y0, y1, y2⟩ := cells3 ((HJ.out.1.block _ HL1.out).trans HN1.out)
  by_cases hlk : k < r.fields.length
  · have j1 : (k : Int) < (r.fields.length : Int) := by omega
    have j2 : (0 : Int) ≤ (k : Int) := by omega
    have HKQ := Lib.hid (HU.out.below HBQ.out)
    obtain ⟨B, cb, pp, kp, e5, hB, g0, g1, hpin, hss, hss2⟩ := fld_at (HSUB.out.kp HKQ.out) hlk
    cases e5
    have HSS := Lib.hid hss
    have HA1 : Hid (∀ b, pA r.fields[k] = b → (r.fields.take (k + 1)).any pA = (a || b)) := Lib.hid fun b hb => any_next hlk HJ.out.2.1 hb
    have HM1 : Hid (∀ b, pM r.fields[k] = b → (r.fields.take (k + 1)).any pM = (m || b)) := Lib.hid fun b hb => any_next hlk HJ.out.2.2 hb
    clear hB hpin hss
    generalize r.fields[k] = f at *
    obtain ⟨W2, hW2⟩ : ∃ W2, W2 = wr.alloc (.cells #[.string f.name, .slice pp f.type.length kp] 39) := ⟨_, rfl⟩
    have HN2 : Hid (W2.heap[wr.heap.size]? = some (.cells #[.string f.name, .slice pp f.type.length kp] 39 (0, 0))) := Lib.hid (by rw [hW2]; exact heap_alloc_new wr _)
    have HB3 : Hid (Below wr.heap.size wr W2) := Lib.hid (by rw [hW2]; exact tk_alloc wr _)
    have HJ2 : Hid (Below W1.heap.size W1 W2) := Lib.hid (HJ.out.1.trans (HB3.out.mono HJ.out.1.size))
    go_upto_region 9 with fail
    rw [← hW2]
    clear hW2 g0 g1 y0 y1 y2
    obtain ⟨z0, z1⟩ := cells2 HN2.out
    by_cases hl1 : f.type.length = 1
    · have i4 : ((f.type.length : Int) == 1) = true := by rw [beq_iff_eq]; omega
      have i0 : (0 : Int) < (f.type.length : Int) := by omega
      obtain ⟨A2, c2', e6, hA2, s0, s1, -⟩ := so_at (HSS.out.kp (Kp.of_below HB3.out)) (show 0 < f.type.length by omega)
      cases e6
      have HT1 : Hid (f.type = [f.type[0]]) := Lib.hid (one_is hl1 (by omega))
      have HPA := Lib.hid (alone_one (n := Ck.nAccount) (k := 4) HT1.out)
      have HPM := Lib.hid (alone_one (n := Ck.nAmount) (k := 3) HT1.out)
      clear HT1 hA2
      generalize f.type[0] = x at *
      clear hl1
      obtain ⟨xk, xn⟩ := x
      have na := is_nAccount f.name
      have nm := is_nAmount f.name
      have s2 : W2.cell? A2 = some (.int .u8 (xk : Nat)) := s0
      have s3 : W2.cell? (A2.add 0) = some (.int .u8 (xk : Nat)) := s0
      clear s1
      cases qa : Ip.eqB f.name Ck.nAccount with
      | true =>
        have qm : Ip.eqB f.name Ck.nAmount = false := by rw [Ip.eqB_iff.1 qa]; kernel_rfl
        rw [qa] at na
        rw [qm] at nm
        have HM2 := Lib.hid (HM1.out false (by unfold pM; rw [HPM.out, qm]; rfl))
        by_cases e4 : xk = 4
        · have i5 : ((xk : Int) == 4) = true := by rw [beq_iff_eq]; omega
          have HA2 := Lib.hid (HA1.out true (by unfold pA; rw [HPA.out, qa]; simp [e4]))
          clear qa qm e4
          go_wp2_with fail
          go_roundw
          case rel => exact ⟨k + 1, _, _, by omega, by go_num, rfl, rfl, Lib.hid ⟨HJ2.out, by rw [HA2.out, Bool.or_true], by rw [HM2.out, Bool.or_false]⟩⟩
          case measure => simp [intOf]; omega
        · have i5 : ((xk : Int) == 4) = false := by rw [beq_eq_false_iff_ne]; omega
          have HA2 := Lib.hid (HA1.out false (by unfold pA; rw [HPA.out, qa]; simp [e4]))
          clear qa qm e4
          go_wp2_with fail
          go_roundw
          case rel => exact ⟨k + 1, _, _, by omega, by go_num, rfl, rfl, Lib.hid ⟨HJ2.out, by rw [HA2.out, Bool.or_false], by rw [HM2.out, Bool.or_false]⟩⟩
          case measure => simp [intOf]; omega
      | false =>
      rw [qa] at na
      have HA2 := Lib.hid (HA1.out false (by unfold pA; rw [HPA.out, qa]; rfl))
      clear qa
      cases qm : Ip.eqB f.name Ck.nAmount with
      | true =>
        rw [qm] at nm
        by_cases e4 : xk = 3
        · have i5 : ((xk : Int) == 3) = true := by rw [beq_iff_eq]; omega
          have HM2 := Lib.hid (HM1.out true (by unfold pM; rw [HPM.out, qm]; simp [e4]))
          clear qm e4
          go_wp2_with fail
          go_roundw
          case rel => exact ⟨k + 1, _, _, by omega, by go_num, rfl, rfl, Lib.hid ⟨HJ2.out, by rw [HA2.out, Bool.or_false], by rw [HM2.out, Bool.or_true]⟩⟩
          case measure => simp [intOf]; omega
        · have i5 : ((xk : Int) == 3) = false := by rw [beq_eq_false_iff_ne]; omega
          have HM2 := Lib.hid (HM1.out false (by unfold pM; rw [HPM.out, qm]; simp [e4]))
          clear qm e4
          go_wp2_with fail
          go_roundw
          case rel => exact ⟨k + 1, _, _, by omega, by go_num, rfl, rfl, Lib.hid ⟨HJ2.out, by rw [HA2.out, Bool.or_false], by rw [HM2.out, Bool.or_false]⟩⟩
          case measure => simp [intOf]; omega
      | false =>
        rw [qm] at nm
        have HM2 := Lib.hid (HM1.out false (by unfold pM; rw [HPM.out, qm]; rfl))
        clear qm
        go_wp2_with fail
        go_roundw
        case rel => exact ⟨k + 1, _, _, by omega, by go_num, rfl, rfl, Lib.hid ⟨HJ2.out, by rw [HA2.out, Bool.or_false], by rw [HM2.out, Bool.or_false]⟩⟩
        case measure => simp [intOf]; omega
    · have i4 : ((f.type.length : Int) == 1) = false := by rw [beq_eq_false_iff_ne]; omega
      have HA2 := Lib.hid (HA1.out false (alone_len hl1))
      have HM2 := Lib.hid (HM1.out false (alone_len hl1))
      clear hl1
      go_wp2_with fail
      go_roundw
      case rel => exact ⟨k + 1, _, _, by omega, by go_num, rfl, rfl, Lib.hid ⟨HJ2.out, by rw [HA2.out, Bool.or_false], by rw [HM2.out, Bool.or_false]⟩⟩
      case measure => simp [intOf]; omega
  · obtain rfl : k = r.fields.length := by omega
    have j1 : ¬ (r.fields.length : Int) < (r.fields.length : Int) := by omega
    have HR : Hid (Ck.order s n = (a && m)) := Lib.hid (by have h1 := HJ.out.2.1; have h2 := HJ.out.2.2; rw [List.take_length] at h1 h2; rw [HO.out, HF.out, h1, h2])
    clear hlk
    cases a with
    | true =>
      go_wp2_with fail
      go_ret
      exact ⟨by rw [HR.out]; cases m <;> rfl, (HX.out _ HBQ.out).2⟩
    | false =>
      go_wp2_with fail
      go_ret
      exact ⟨by rw [HR.out]; rfl, (HX.out _ HBQ.out).2⟩
end Go.Proofs.YtnkdhmoocomjfaaGreatDoor
set_option linter.unusedSimpArgs false
set_option linter.unusedVariables false
namespace Go.Proofs.YtnkdhmoocomjfaaGreatDoor
open Go.RowKit
def m4 (_ : Ip.Sch) (_ : Ip.Srv) (m : Ip.Mth) : Bool := decide (m.result = 1 ∨ m.result = 3)
def m6 (s : Ip.Sch) (_ : Ip.Srv) (m : Ip.Mth) : Bool := (Ip.eqB m.effect Ip.kGive || Ip.eqB m.effect Ip.kTake || Ip.eqB m.effect Ip.kNote) && Ck.order s m.arg
def mF (P : Ip.Sch → Ip.Srv → Ip.Mth → Bool) (s : Ip.Sch) (v : Ip.Srv) (m : Ip.Mth) : Option ByteArray := if P s v m then none else some (Ck.dot v.name m.name)
def mV (P : Ip.Sch → Ip.Srv → Ip.Mth → Bool) (s : Ip.Sch) (v : Ip.Srv) : Option ByteArray := v.methods.findSome? (mF P s v)
theorem mF_yes {P : Ip.Sch → Ip.Srv → Ip.Mth → Bool} {s : Ip.Sch} {v : Ip.Srv} {m : Ip.Mth} (h : P s v m = true) : mF P s v m = none := by unfold mF; rw [if_pos h]
theorem mF_no {P : Ip.Sch → Ip.Srv → Ip.Mth → Bool} {s : Ip.Sch} {v : Ip.Srv} {m : Ip.Mth} (h : P s v m = false) : mF P s v m = some (Ck.dot v.name m.name) := by unfold mF; rw [if_neg (by rw [h]; decide)]
set_option maxRecDepth 100000 in
set_option maxHeartbeats 16000000 in
theorem refMethods4_any {u w : World} {sv : Value} {s : Ip.Sch} (h : RoSch u sv s) (hu : Kp u w) (hS : Ck.Small s) : Calls Tryz.prog 49 #[sv, .int .i64 4] w (RuleR (s.services.findSome? (mV m4 s)) w) := by
  obtain ⟨p1, c1, p2, c2, p3, c3, rfl, -, -, hs, -, l1, l2, l3⟩ := sch_parts h
  obtain ⟨W0, hW0⟩ : ∃ W0, W0 = allocs w [schO s p1 c1 p2 c2 p3 c3] := ⟨_, rfl⟩
  have HX : Hid (∀ W, Below W0.heap.size W0 W → W.heap[w.heap.size]? = some (schO s p1 c1 p2 c2 p3 c3) ∧ Below w.heap.size w W) := Lib.hid (by subst hW0; exact fun W hW => ⟨allocs_box (i := 0) rfl hW, allocs_on hW⟩)
  obtain ⟨b0, B0⟩ := HX.out W0 (Below.refl _ _)
  have H := Lib.hid h
  have HU := Lib.hid (hu.below B0)
  have HV := Lib.hid hs
  have HSM := Lib.hid hS
  have m1 : s.services.length ≤ 100 := hS.ns
  clear h hu hS hs b0 B0 l1 l2 l3
  simp only [allocs, schO] at hW0
  go_enter Tryz.func49, Tryz.ntmps49
  go_upto_region 1 with fail
  rw [← hW0]
  clear hW0
  go_wp2_with fail
  go_loopw [6, 7, 8, 9, 10, 11, 12] (fun iv _ _ _ _ _ _ wr => ∃ i : Nat, i ≤ s.services.length ∧ iv = .int .i64 (i : Nat) ∧ Hid (Below W0.heap.size W0 wr ∧ s.services.findSome? (mV m4 s) = (s.services.drop i).findSome? (mV m4 s))) (fun iv _ _ _ _ _ _ _ => s.services.length - (intOf iv).toNat)
  case atStart => exact ⟨0, Nat.zero_le _, rfl, Lib.hid ⟨Below.refl _ _, by rw [List.drop_zero]⟩⟩
  case round =>
  obtain ⟨i, hi, rfl, HQ⟩ := hrel
  obtain ⟨x0, x1, x2, x3⟩ := cells4' (HX.out _ HQ.out.1).1
  by_cases hlt : i < s.services.length
  · have i1 : (i : Int) < (s.services.length : Int) := by omega
    have i2 : (0 : Int) ≤ (i : Int) := by omega
    obtain ⟨A, cc, p, kq, e3, hA, d0, d1, hin, hsub⟩ := srv_at2 HV.out (HU.out.below HQ.out.1) hlt
    cases e3
    obtain ⟨_, _, e9, hsl⟩ := ro_len hsub
    cases e9
    have HSUB := Lib.hid hsub
    have HZ := Lib.hid (HSM.out.v _ (List.getElem_mem hlt))
    have HY : Hid (∀ y, mV m4 s s.services[i] = some y → s.services.findSome? (mV m4 s) = some y) := Lib.hid fun y hy => HQ.out.2.trans (Ck.some_at hlt hy)
    have HN : Hid (mV m4 s s.services[i] = none → s.services.findSome? (mV m4 s) = (s.services.drop (i + 1)).findSome? (mV m4 s)) := Lib.hid fun hy => HQ.out.2.trans (Ck.none_at hlt hy)
    clear hsub hin hA
    generalize s.services[i] = r at *
    obtain ⟨W1, hW1⟩ : ∃ W1, W1 = wr.alloc (.cells #[.string r.name, .slice p r.methods.length kq] 98) := ⟨_, rfl⟩
    have HN1 : Hid (W1.heap[wr.heap.size]? = some (.cells #[.string r.name, .slice p r.methods.length kq] 98 (0, 0))) := Lib.hid (by rw [hW1]; exact heap_alloc_new wr _)
    have HB1 : Hid (Below W0.heap.size W0 W1) := Lib.hid (by rw [hW1]; exact HQ.out.1.trans ((tk_alloc wr _).mono HQ.out.1.size))
    have HL1 : Hid (wr.heap.size < W1.heap.size) := Lib.hid (Array.getElem?_eq_some_iff.1 HN1.out).1
    go_upto_region 5 with fail
    rw [← hW1]
    clear hW1 x0 x1 x2 x3 d0 d1
    go_wp2_with fail
    go_loopw [8, 9, 10, 11, 12] (fun kv _ _ _ _ wq => ∃ k : Nat, k ≤ r.methods.length ∧ kv = .int .i64 (k : Nat) ∧ Hid (Below W1.heap.size W1 wq ∧ mV m4 s r = (r.methods.drop k).findSome? (mF m4 s r))) (fun kv _ _ _ _ _ => r.methods.length - (intOf kv).toNat)
    case atStart => exact ⟨0, Nat.zero_le _, rfl, Lib.hid ⟨Below.refl _ _, by rw [List.drop_zero]; rfl⟩⟩
    case round =>
    obtain ⟨k, hk, rfl, HJ⟩ := hrel
    have HBQ : Hid (Below W0.heap.size W0 wr) := Lib.hid (HB1.out.trans (HJ.out.1.mono HB1.out.size))
    obtain ⟨y0, y1⟩ := cells2 ((HJ.out.1.block _ HL1.out).trans HN1.out)
    by_cases hlk : k < r.methods.length
    · have j1 : (k : Int) < (r.methods.length : Int) := by omega
      have j2 : (0 : Int) ≤ (k : Int) := by omega
      have HKQ := Lib.hid (HU.out.below HBQ.out)
      obtain ⟨B, cb, e5, hB, g0, g1, g2, g3, g4, hpin⟩ := mth_at (HSUB.out.kp HKQ.out) hlk
      cases e5
      have HY2 : Hid (∀ y, mF m4 s r r.methods[k] = some y → mV m4 s r = some y) := Lib.hid fun y hy => HJ.out.2.trans (Ck.some_at hlk hy)
      have HN2 : Hid (mF m4 s r r.methods[k] = none → mV m4 s r = (r.methods.drop (k + 1)).findSome? (mF m4 s r)) := Lib.hid fun hy => HJ.out.2.trans (Ck.none_at hlk hy)
      have HZ1 : Hid (r.name.size ≤ 200) := Lib.hid HZ.out.1
      have HZ2 : Hid (r.methods[k].name.size ≤ 200) := Lib.hid (HZ.out.2.2 _ (List.getElem_mem hlk)).1
      clear hB hpin
      generalize r.methods[k] = f at *
      obtain ⟨W2, hW2⟩ : ∃ W2, W2 = wr.alloc (.cells #[.string f.name, .string f.arg, .int .u8 (f.result : Nat), .string f.effect, .string f.undo] 100) := ⟨_, rfl⟩
      have HN3 : Hid (W2.heap[wr.heap.size]? = some (.cells #[.string f.name, .string f.arg, .int .u8 (f.result : Nat), .string f.effect, .string f.undo] 100 (0, 0))) := Lib.hid (by rw [hW2]; exact heap_alloc_new wr _)
      have HB3 : Hid (Below wr.heap.size wr W2) := Lib.hid (by rw [hW2]; exact tk_alloc wr _)
      have HL3 : Hid (wr.heap.size < W2.heap.size) := Lib.hid (Array.getElem?_eq_some_iff.1 HN3.out).1
      have HJ2 : Hid (Below W1.heap.size W1 W2) := Lib.hid (HJ.out.1.trans (HB3.out.mono HJ.out.1.size))
      have HQ2 : Hid (Below W0.heap.size W0 W2) := Lib.hid (HBQ.out.trans (HB3.out.mono HBQ.out.size))
      go_upto_region 9 with fail
      rw [← hW2]
      clear hW2 g0 g1 g2 g3 g4 y0 y1
      have hz1 := HZ1.out
      have hz2 := HZ2.out
      have k4 : ¬ 9223372036854775807 < r.name.size + 1 := by omega
      have k5 : ¬ 9223372036854775807 < r.name.size + 1 + f.name.size := by omega
      have k7 : ¬ 9223372036854775807 < (r.name ++ ⟨#[46]⟩).size + f.name.size := by rw [ByteArray.size_append]; show ¬ 9223372036854775807 < r.name.size + 1 + f.name.size; omega
      clear hz1 hz2
      obtain ⟨y0, y1⟩ := cells2 ((HJ2.out.block _ HL1.out).trans HN1.out)
      obtain ⟨z0, z1, z2, z3, z4⟩ := cells5 HN3.out
      by_cases q1 : f.result = 1
      · have i5 : ((f.result : Int) == 1) = true := by rw [beq_iff_eq]; omega
        have HO := Lib.hid (HN2.out (mF_yes (by simp [m4, q1])))
        go_wp2_with fail
        go_roundw
        case rel => exact ⟨k + 1, by omega, by go_num, Lib.hid ⟨HJ2.out, HO.out⟩⟩
        case measure => simp [intOf]; omega
      have i5 : ((f.result : Int) == 1) = false := by rw [beq_eq_false_iff_ne]; omega
      by_cases q3 : f.result = 3
      · have i6 : ((f.result : Int) == 3) = true := by rw [beq_iff_eq]; omega
        have HO := Lib.hid (HN2.out (mF_yes (by simp [m4, q3])))
        go_wp2_with fail
        go_roundw
        case rel => exact ⟨k + 1, by omega, by go_num, Lib.hid ⟨HJ2.out, HO.out⟩⟩
        case measure => simp [intOf]; omega
      have i6 : ((f.result : Int) == 3) = false := by rw [beq_eq_false_iff_ne]; omega
      have HO := Lib.hid (HY.out _ (HY2.out _ (mF_no (by simp [m4, q1, q3]))))
      go_wp2_with fail
      go_ret2
      exact ruleR_some HO.out (HX.out _ HQ2.out).2
    · obtain rfl : k = r.methods.length := by omega
      have j1 : ¬ (r.methods.length : Int) < (r.methods.length : Int) := by omega
      have HO := Lib.hid (HN.out (HJ.out.2.trans (Ck.none_end (Nat.le_refl _))))
      clear hlk
      go_wp2_with fail
      go_roundw
      case rel => exact ⟨i + 1, by omega, by go_num, Lib.hid ⟨HBQ.out, HO.out⟩⟩
      case measure => simp [intOf]; omega
  · obtain rfl : i = s.services.length := by omega
    have i1 : ¬ (s.services.length : Int) < (s.services.length : Int) := by omega
    have HO := Lib.hid (HQ.out.2.trans (Ck.none_end (Nat.le_refl _)))
    clear hlt hi
    go_wp2_with fail
    go_ret2
    exact ruleR_none HO.out (HX.out _ HQ.out.1).2
end Go.Proofs.YtnkdhmoocomjfaaGreatDoor
