/-
  Walks over package check: contrary, place, which sorts are a type, order records, what is undone. Conditions: those in the theorems.
-/
import Derived.Test.YtnkdhmoocomjfaaGreatDoorCkLook
import Derived.Test.YtnkdhmoocomjfaaGreatDoorCkMath
import Derived.StillTailTactics
set_option linter.unusedSimpArgs false
set_option linter.unusedVariables false
namespace Go.Proofs.YtnkdhmoocomjfaaGreatDoor
open Go.RowKit

theorem empty_is (x : ByteArray) : x.toList.isEmpty = Ck.empty x := by
  rw [Go.Lib.toList_data]
  unfold Ck.empty Ip.eqB
  show x.data.toList.isEmpty = (x.data.toList == [])
  cases x.data.toList <;> rfl
theorem contrary_any (a : ByteArray) (w : World) : Calls Tryz.prog 130 #[.string a] w fun e w' => e = .returned (.string (Ck.contraryOf a)) ∧ w' = w := by
  have hg := is_kGive a
  have ht := is_kTake a
  have hn := is_kNote a
  unfold Ck.contraryOf
  cases h1 : Ip.eqB a Ip.kGive with
  | true =>
    rw [h1] at hg
    clear ht hn h1
    go_enter Tryz.func130, Tryz.ntmps130
    go_wp2_with fail
    go_ret
    exact ⟨rfl, rfl⟩
  | false =>
    rw [h1] at hg
    cases h2 : Ip.eqB a Ip.kTake with
    | true =>
      rw [h2] at ht
      clear hn h1 h2
      go_enter Tryz.func130, Tryz.ntmps130
      go_wp2_with fail
      go_ret
      exact ⟨rfl, rfl⟩
    | false =>
      rw [h2] at ht
      cases h3 : Ip.eqB a Ip.kNote with
      | true =>
        rw [h3] at hn
        clear h1 h2 h3
        go_enter Tryz.func130, Tryz.ntmps130
        go_wp2_with fail
        go_ret
        exact ⟨rfl, rfl⟩
      | false =>
        rw [h3] at hn
        clear h1 h2 h3
        go_enter Tryz.func130, Tryz.ntmps130
        go_wp2_with fail
        go_ret
        exact ⟨rfl, rfl⟩
theorem place_any (a b : ByteArray) (w : World) (ha : a.size ≤ 1000000) (hb : b.size ≤ 1000000) : Calls Tryz.prog 125 #[.string a, .string b] w fun e w' => e = .returned (.string (Ck.dot a b)) ∧ w' = w := by
  go_enter Tryz.func125, Tryz.ntmps125
  go_wp2_with fail
  go_ret
  exact ⟨rfl, rfl⟩
set_option maxRecDepth 100000 in
set_option maxHeartbeats 4000000 in
theorem isLast_any {u w : World} {sv : Value} {s : Ip.Sch} (h : RoSch u sv s) (hu : Kp u w) (x : Ip.So) : Calls Tryz.prog 170 #[sv, .agg #[.int .u8 (x.kind : Nat), .string x.name]] w fun e w' => e = .returned (.bool (Ck.lastB s x)) ∧ Below w.heap.size w w' := by
  obtain ⟨p1, c1, p2, c2, p3, c3, rfl, hm, hr, hs, hg, l1, l2, l3⟩ := sch_parts h
  obtain ⟨xk, xn⟩ := x
  obtain ⟨W0, hW0⟩ : ∃ W0, W0 = allocs w [.cells #[.string s.name, .slice p1 s.records.length c1, .slice p2 s.services.length c2, .slice p3 s.sagas.length c3] 26, .cells #[.int .u8 (xk : Nat), .string xn] 41] := ⟨_, rfl⟩
  have HX : Hid (∀ W, Below W0.heap.size W0 W → W.heap[w.heap.size]? = some (.cells #[.string s.name, .slice p1 s.records.length c1, .slice p2 s.services.length c2, .slice p3 s.sagas.length c3] 26 (0, 0)) ∧ W.heap[w.heap.size + 1]? = some (.cells #[.int .u8 (xk : Nat), .string xn] 41 (0, 0)) ∧
      Below w.heap.size w W) := Lib.hid (by subst hW0; exact fun W hW => ⟨allocs_box (i := 0) rfl hW, allocs_box (i := 1) rfl hW, allocs_on hW⟩)
  have H := Lib.hid h
  obtain ⟨b0, b1, B0⟩ := HX.out W0 (Below.refl _ _)
  obtain ⟨x0, x1, x2, x3⟩ := cells4' b0
  obtain ⟨y0, y1⟩ := cells2 b1
  have HU0 := Lib.hid (hu.below B0)
  have HB0 := Lib.hid B0
  clear h hr hs hg hu b0 b1 B0 hm
  simp only [allocs] at hW0
  have he := empty_is xn
  unfold Ck.lastB
  by_cases e1 : xk = 1
  · have i1 : ((xk : Int) == 1) = true := by rw [beq_iff_eq]; omega
    rw [if_neg (by omega : ¬ xk = 7), show (decide (1 ≤ xk) && decide (xk ≤ 4)) = true by rw [Bool.and_eq_true, decide_eq_true_iff, decide_eq_true_iff]; omega, Bool.true_and, ← he]
    clear he e1
    go_enter Tryz.func170, Tryz.ntmps170
    go_upto_region 1 with fail
    rw [← hW0]
    clear hW0
    go_wp2_with fail
    go_ret
    exact ⟨rfl, HB0.out⟩
  by_cases e2 : xk = 2
  · have i2 : ((xk : Int) == 2) = true := by rw [beq_iff_eq]; omega
    have i1 : ((xk : Int) == 1) = false := by rw [beq_eq_false_iff_ne]; omega
    rw [if_neg (by omega : ¬ xk = 7), show (decide (1 ≤ xk) && decide (xk ≤ 4)) = true by rw [Bool.and_eq_true, decide_eq_true_iff, decide_eq_true_iff]; omega, Bool.true_and, ← he]
    clear he e1 e2
    go_enter Tryz.func170, Tryz.ntmps170
    go_upto_region 1 with fail
    rw [← hW0]
    clear hW0
    go_wp2_with fail
    go_ret
    exact ⟨rfl, HB0.out⟩
  by_cases e3 : xk = 3
  · have i3 : ((xk : Int) == 3) = true := by rw [beq_iff_eq]; omega
    have i1 : ((xk : Int) == 1) = false := by rw [beq_eq_false_iff_ne]; omega
    have i2 : ((xk : Int) == 2) = false := by rw [beq_eq_false_iff_ne]; omega
    rw [if_neg (by omega : ¬ xk = 7), show (decide (1 ≤ xk) && decide (xk ≤ 4)) = true by rw [Bool.and_eq_true, decide_eq_true_iff, decide_eq_true_iff]; omega, Bool.true_and, ← he]
    clear he e1 e2 e3
    go_enter Tryz.func170, Tryz.ntmps170
    go_upto_region 1 with fail
    rw [← hW0]
    clear hW0
    go_wp2_with fail
    go_ret
    exact ⟨rfl, HB0.out⟩
  by_cases e4 : xk = 4
  · have i4 : ((xk : Int) == 4) = true := by rw [beq_iff_eq]; omega
    have i1 : ((xk : Int) == 1) = false := by rw [beq_eq_false_iff_ne]; omega
    have i2 : ((xk : Int) == 2) = false := by rw [beq_eq_false_iff_ne]; omega
    have i3 : ((xk : Int) == 3) = false := by rw [beq_eq_false_iff_ne]; omega
    rw [if_neg (by omega : ¬ xk = 7), show (decide (1 ≤ xk) && decide (xk ≤ 4)) = true by rw [Bool.and_eq_true, decide_eq_true_iff, decide_eq_true_iff]; omega, Bool.true_and, ← he]
    clear he e1 e2 e3 e4
    go_enter Tryz.func170, Tryz.ntmps170
    go_upto_region 1 with fail
    rw [← hW0]
    clear hW0
    go_wp2_with fail
    go_ret
    exact ⟨rfl, HB0.out⟩
  have i1 : ((xk : Int) == 1) = false := by rw [beq_eq_false_iff_ne]; omega
  have i2 : ((xk : Int) == 2) = false := by rw [beq_eq_false_iff_ne]; omega
  have i3 : ((xk : Int) == 3) = false := by rw [beq_eq_false_iff_ne]; omega
  have i4 : ((xk : Int) == 4) = false := by rw [beq_eq_false_iff_ne]; omega
  by_cases e7 : xk = 7
  · have i7 : ((xk : Int) == 7) = true := by rw [beq_iff_eq]; omega
    rw [if_pos e7]
    clear he e1 e2 e3 e4 e7
    go_enter Tryz.func170, Tryz.ntmps170
    go_upto_region 1 with fail
    rw [← hW0]
    clear hW0
    go_wp2_with fail
    refine (ckRecord_any H.out HU0.out xn).mono ?_
    rintro e w1 ⟨v, rfl, ⟨q, k, rfl, -, -⟩, hb1⟩
    obtain ⟨-, -, hB⟩ := HX.out _ hb1
    generalize (Ck.find s xn).getD noRcd = y at *
    have HB := Lib.hid hB
    have hz1 := Lib.hid (hB.size)
    clear hB hb1 x0 x1 x2 x3 y0 y1
    go_wp2_with fail
    go_ret
    exact ⟨rfl, HB.out.trans ((tk_alloc _ _).mono hz1.out)⟩
  · have i7 : ((xk : Int) == 7) = false := by rw [beq_eq_false_iff_ne]; omega
    rw [if_neg e7, show (decide (1 ≤ xk) && decide (xk ≤ 4)) = false by rw [Bool.and_eq_false_iff, decide_eq_false_iff_not, decide_eq_false_iff_not]; omega]
    clear he e1 e2 e3 e4 e7
    go_enter Tryz.func170, Tryz.ntmps170
    go_upto_region 1 with fail
    rw [← hW0]
    clear hW0
    go_wp2_with fail
    go_ret
    exact ⟨rfl, HB0.out⟩

set_option maxRecDepth 100000 in
set_option maxHeartbeats 4000000 in
theorem isType_any {u w : World} {sv v : Value} {s : Ip.Sch} {t : List Ip.So} (h : RoSch u sv s) (ht : RoSo u v t) (hu : Kp u w) : Calls Tryz.prog 126 #[sv, v] w fun e w' => e = .returned (.bool (Ck.right s t)) ∧ Below w.heap.size w w' := by
  obtain ⟨p1, c1, p2, c2, p3, c3, rfl, hm, hr, hs, hg, l1, l2, l3⟩ := sch_parts h
  obtain ⟨p, c, rfl, hc1, hc2⟩ := RoIs.shape ht
  obtain ⟨W0, hW0⟩ : ∃ W0, W0 = allocs w [.cells #[.string s.name, .slice p1 s.records.length c1, .slice p2 s.services.length c2, .slice p3 s.sagas.length c3] 26] := ⟨_, rfl⟩
  have HX : Hid (∀ W, Below W0.heap.size W0 W → W.heap[w.heap.size]? = some (.cells #[.string s.name, .slice p1 s.records.length c1, .slice p2 s.services.length c2, .slice p3 s.sagas.length c3] 26 (0, 0)) ∧ Below w.heap.size w W) := Lib.hid (by subst hW0; exact fun W hW => ⟨allocs_box (i := 0) rfl hW, allocs_on hW⟩)
  have H := Lib.hid h
  have HT := Lib.hid ht
  obtain ⟨b0, B0⟩ := HX.out W0 (Below.refl _ _)
  have HU0 := Lib.hid (hu.below B0)
  have HB0 := Lib.hid B0
  clear h hr hs hg hu b0 B0 hm ht
  simp only [allocs] at hW0
  have ht0 : (t.length : Int) ≤ 9223372036854775807 := by unfold maxLen at hc2; omega
  by_cases e0 : t.length = 0
  · rw [Ck.right_len (.inl e0)]
    have i0 : ((t.length : Int) == 0) = true := by rw [beq_iff_eq]; omega
    clear e0 hc1 hc2
    go_enter Tryz.func126, Tryz.ntmps126
    go_upto_region 1 with fail
    rw [← hW0]
    clear hW0
    go_wp2_with fail
    go_ret
    exact ⟨rfl, HB0.out⟩
  have i0 : ((t.length : Int) == 0) = false := by rw [beq_eq_false_iff_ne]; omega
  by_cases e12 : 12 < t.length
  · rw [Ck.right_len (.inr e12)]
    have i1 : (12 : Int) < (t.length : Int) := by omega
    clear e0 e12 hc1 hc2
    go_enter Tryz.func126, Tryz.ntmps126
    go_upto_region 1 with fail
    rw [← hW0]
    clear hW0
    go_wp2_with fail
    go_ret
    exact ⟨rfl, HB0.out⟩
  have i1 : ¬ (12 : Int) < (t.length : Int) := by omega
  obtain ⟨n, hn⟩ : ∃ n : Nat, t.length = n + 1 := ⟨t.length - 1, by omega⟩
  have hn12 : n < 12 := by omega
  have HR : Hid (∀ x, t[n]? = some x → Ck.right s t = ((t.take n).all Ck.headB && Ck.lastB s x)) := Lib.hid fun x hx => Ck.right_n hn hn12 hx
  have HN := Lib.hid hn
  have hcn : n + 1 ≤ c := by omega
  have hcm : c ≤ 9223372036854775807 := by unfold maxLen at hc2; omega
  have i0 : ((n : Int) + 1 == 0) = false := by rw [beq_eq_false_iff_ne]; omega
  have i1 : ¬ (12 : Int) < (n : Int) + 1 := by omega
  clear hc1 hc2 e0 e12
  go_enter Tryz.func126, Tryz.ntmps126
  go_upto_region 1 with fail
  rw [← hW0]
  clear hW0
  go_upto_region 3 with fail
  clear i0 i1
  go_upto_region 5 with fail
  go_loopw [23] (fun kv wr => ∃ k : Nat, k ≤ n ∧ kv = .int .i64 (k : Nat) ∧ Hid (Below W0.heap.size W0 wr ∧ ∀ j x, t[j]? = some x → j < k → Ck.headB x = true)) (fun kv _ => n - (intOf kv).toNat)
  case atStart => exact ⟨0, Nat.zero_le _, rfl, Lib.hid ⟨Below.refl _ _, fun j _ _ hj => absurd hj (Nat.not_lt_zero _)⟩⟩
  case round =>
    obtain ⟨k, hk, rfl, H9⟩ := hrel
    have HBR := Lib.hid H9.out.1
    have HA := Lib.hid H9.out.2
    have HBW : Hid (∀ o, Below w.heap.size w (wr.alloc o)) := Lib.hid fun o => HB0.out.trans ((HBR.out.trans ((tk_alloc wr o).mono HBR.out.size)).mono HB0.out.size)
    clear H9
    by_cases hlt : k < n
    · have i1 : (k : Int) < (n : Int) := by omega
      have i2 : (0 : Int) ≤ (k : Int) := by omega
      have hkt : k < t.length := by omega
      obtain ⟨A, cc, e3, hA, x0, x1, -⟩ := so_at (HT.out.kp (HU0.out.below HBR.out)) hkt
      cases e3
      have HX9 := Lib.hid (List.getElem?_eq_getElem hkt)
      have HN9 := Lib.hid (List.getElem?_eq_getElem (l := t) (i := n) (by omega))
      generalize t[k] = x at x0 x1 HX9
      obtain ⟨xk, xn⟩ := x
      generalize t[n] = z at HN9
      have he := empty_is xn
      clear hn hA
      by_cases hcase : xk = 5
      · have i5 : ((xk : Int) != 5) = false := by rw [bne_eq_false_iff_eq]; omega
        cases hq : Ck.empty xn with
        | true =>
          rw [hq] at he
          have HH : Hid (Ck.headB ⟨xk, xn⟩ = true) := Lib.hid (by unfold Ck.headB; rw [hq]; simp [hcase])
          clear hq hcase
          go_wp2_with fail
          go_roundw
          case rel => exact ⟨k + 1, by omega, by go_num, Lib.hid ⟨HBR.out.trans ((tk_alloc wr _).mono HBR.out.size), fun j x hj hjk => by
              by_cases e : j < k
              · exact HA.out j x hj e
              · obtain rfl : j = k := by omega
                rw [HX9.out] at hj
                cases hj
                exact HH.out⟩⟩
          case measure => simp [intOf]; omega
        | false =>
          rw [hq] at he
          have HH : Hid (Ck.headB ⟨xk, xn⟩ = false) := Lib.hid (by unfold Ck.headB; rw [hq]; simp [hcase])
          clear hq hcase
          go_wp2_with fail
          go_ret
          exact ⟨by rw [HR.out _ HN9.out, Ck.all_stop HX9.out hlt HH.out, Bool.false_and]; rfl, HBW.out _⟩
      have hc5 := hcase
      clear hcase
      by_cases hcase : xk = 6
      · have i5 : ((xk : Int) != 5) = true := by rw [bne_iff_ne]; omega
        have i6 : ((xk : Int) != 6) = false := by rw [bne_eq_false_iff_eq]; omega
        clear hc5
        cases hq : Ck.empty xn with
        | true =>
          rw [hq] at he
          have HH : Hid (Ck.headB ⟨xk, xn⟩ = true) := Lib.hid (by unfold Ck.headB; rw [hq]; simp [hcase])
          clear hq hcase
          go_wp2_with fail
          go_roundw
          case rel => exact ⟨k + 1, by omega, by go_num, Lib.hid ⟨HBR.out.trans ((tk_alloc wr _).mono HBR.out.size), fun j x hj hjk => by
              by_cases e : j < k
              · exact HA.out j x hj e
              · obtain rfl : j = k := by omega
                rw [HX9.out] at hj
                cases hj
                exact HH.out⟩⟩
          case measure => simp [intOf]; omega
        | false =>
          rw [hq] at he
          have HH : Hid (Ck.headB ⟨xk, xn⟩ = false) := Lib.hid (by unfold Ck.headB; rw [hq]; simp [hcase])
          clear hq hcase
          go_wp2_with fail
          go_ret
          exact ⟨by rw [HR.out _ HN9.out, Ck.all_stop HX9.out hlt HH.out, Bool.false_and]; rfl, HBW.out _⟩
      have hc6 := hcase
      clear hcase
      have i5 : ((xk : Int) != 5) = true := by rw [bne_iff_ne]; omega
      have i6 : ((xk : Int) != 6) = true := by rw [bne_iff_ne]; omega
      have HH : Hid (Ck.headB ⟨xk, xn⟩ = false) := Lib.hid (by unfold Ck.headB; simp [hc5, hc6])
      clear hc5 hc6 he
      go_wp2_with fail
      go_ret
      exact ⟨by rw [HR.out _ HN9.out, Ck.all_stop HX9.out hlt HH.out, Bool.false_and]; rfl, HBW.out _⟩
    · obtain rfl : k = n := by omega
      have i1 : ¬ (k : Int) < (k : Int) := by omega
      have i2 : (0 : Int) ≤ (k : Int) := by omega
      have i3 : (k : Int) < (k : Int) + 1 := by omega
      have hkt : k < t.length := by omega
      obtain ⟨A, cc, e3, hA, x0, x1, -⟩ := so_at (HT.out.kp (HU0.out.below HBR.out)) hkt
      cases e3
      obtain ⟨hbx, -⟩ := HX.out _ HBR.out
      obtain ⟨y0, y1, y2, y3⟩ := cells4' hbx
      have HK := Lib.hid (List.getElem?_eq_getElem hkt)
      clear hbx hn
      generalize t[k] = x at x0 x1 HK
      go_wp2_with fail
      go_still_tail 5, (by kernel_rfl)
      change wpList _ _ _ _ _ wr.drew
      have hdr : Below wr.heap.size wr wr.drew := (Below.refl _ _).drew
      generalize wr.drew = w5 at *
      have HD := Lib.hid (HBR.out.trans (hdr.mono HBR.out.size))
      clear hdr
      go_wp2_with fail
      refine (isLast_any H.out (HU0.out.below HD.out) x).mono ?_
      rintro e w6 ⟨rfl, hb6⟩
      have HB6 := Lib.hid (HD.out.trans (hb6.mono HD.out.size))
      clear hb6 y0 y1 y2 y3 x0 x1 hkt hA
      go_wp2_with fail
      go_ret
      exact ⟨by rw [HR.out _ HK.out, Ck.all_done HA.out, Bool.true_and]; rfl, HB0.out.trans (HB6.out.mono HB0.out.size)⟩
end Go.Proofs.YtnkdhmoocomjfaaGreatDoor
