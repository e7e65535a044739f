/-
  Walks over package value: the finder of a schema, which sorts are a type, finding. Conditions: those in the theorems.
-/
import Derived.Test.YtnkdhmoocomjfaaGreatDoorVaFind
set_option linter.unusedSimpArgs false
set_option linter.unusedVariables false
namespace Go.Proofs.YtnkdhmoocomjfaaGreatDoor
open Go.RowKit
set_option maxRecDepth 100000 in
set_option maxHeartbeats 4000000 in
theorem finderOf_any {u w : World} {sv : Value} {s : Ip.Sch} (h : RoSch u sv s) (hu : Kp u w) (hS : Ck.Small s) (hn : (s.records.map (·.name)).Nodup) : Calls Tryz.prog 115 #[sv] w fun e w' => ∃ fv, e = .returned fv ∧ FinderIs u s w' fv ∧ Below w.heap.size w w' := by
  obtain ⟨p1, c1, p2, c2, p3, c3, rfl, -, hr, -, -, l1, l2, l3⟩ := sch_parts h
  obtain ⟨W0, hW0⟩ : ∃ W0, W0 = allocs w [schO s p1 c1 p2 c2 p3 c3] := ⟨_, rfl⟩
  have HX : Hid (∀ W, Below W0.heap.size W0 W → W.heap[w.heap.size]? = some (schO s p1 c1 p2 c2 p3 c3) ∧ Below w.heap.size w W) := Lib.hid (by subst hW0; exact fun W hW => ⟨allocs_box (i := 0) rfl hW, allocs_on hW⟩)
  obtain ⟨b0, B0⟩ := HX.out W0 (Below.refl _ _)
  obtain ⟨W1, hW1⟩ : ∃ W, W = allocs W0 [.map #[] 0, .cells #[.map (some W0.heap.size)] 210] := ⟨_, rfl⟩
  have hs1 : W1.heap.size = W0.heap.size + 2 := by rw [hW1, allocs_size]; rfl
  have hB1 : Below W0.heap.size W0 W1 := by rw [hW1]; exact allocs_below _ _
  have hm1 : MapIs W1 W0.heap.size 0 fun _ => none := by
    rw [hW1]
    exact (MapIs.made W0).below (tk_alloc _ _)
  have hc1 : W1.heap[W0.heap.size + 1]? = some (.cells #[.map (some W0.heap.size)] 210 (0, 0)) := by rw [hW1]; exact allocs_at _ W0 1 _ rfl
  obtain ⟨m, hm⟩ : ∃ m, m = W0.heap.size := ⟨_, rfl⟩
  rw [← hm] at hm1 hc1 hs1
  have HU := Lib.hid (hu.below B0)
  have HR := Lib.hid hr
  have HND := Lib.hid hn
  have HB1 := Lib.hid hB1
  have HM0 : Hid (m = W0.heap.size) := Lib.hid hm
  have HI0 := Lib.hid hm1
  have HC0 := Lib.hid hc1
  have HS1 : Hid (m + 2 ≤ W1.heap.size) := Lib.hid (Nat.le_of_eq hs1.symm)
  have m1 : s.records.length ≤ 100 := hS.nr
  have HSN : Hid (∀ r ∈ s.records, r.name.size ≤ 200) := Lib.hid fun r hr => (hS.r r hr).1
  obtain ⟨x0, x1, x2, x3⟩ := cells4' (box_keep hB1 b0)
  clear h hu hr hn hS b0 B0 hB1 hm1 hc1 hs1 l1 l2 l3
  have hmm := @run_makeMap Tryz.prog
  simp only [allocs, schO] at hW0 hW1
  go_enter Tryz.func115, Tryz.ntmps115
  go_upto_region 1 with fail
  rw [← hW0]
  clear hW0
  go_upto_region 2 with fail
  rw [← hW1, ← hm]
  clear hW1 hmm hm
  go_wp2_with fail
  go_loopw [10] (fun iv wr => ∃ i : Nat, i ≤ s.records.length ∧ iv = .int .i64 (i : Nat) ∧ Hid (Below W0.heap.size W0 wr ∧ m + 2 ≤ wr.heap.size ∧ wr.heap[m + 1]? = some (.cells #[.map (some m)] 210 (0, 0)) ∧ ∃ n g, n ≤ i ∧ MapIs wr m n g ∧ Finds u (s.records.take i) g)) (fun iv _ => s.records.length - (intOf iv).toNat)
  case atStart => exact ⟨0, Nat.zero_le _, rfl, Lib.hid ⟨HB1.out, HS1.out, HC0.out, 0, _, Nat.le_refl _, HI0.out, Finds.nil u⟩⟩
  case round =>
  obtain ⟨i, hi, rfl, HQ⟩ := hrel
  by_cases hlt : i < s.records.length
  · have i1 : (i : Int) < (s.records.length : Int) := by omega
    have i2 : (0 : Int) ≤ (i : Int) := by omega
    obtain ⟨A, cc, p, kq, e3, hA, d0, d1, d2, hin, hsub⟩ := rcd_at2 HR.out (HU.out.below HQ.out.1) hlt
    cases e3
    have HV : Hid (RcdV u (.agg #[.string s.records[i].name, .bool s.records[i].choice, .slice p s.records[i].fields.length kq]) s.records[i]) := Lib.hid ⟨_, _, rfl, hin, hsub⟩
    have HNO : Hid (∀ q ∈ s.records.take i, q.name ≠ s.records[i].name) := Lib.hid fun q hq e => by
      have e1 : s.records.take i ++ s.records[i] :: s.records.drop (i + 1) = s.records := by rw [← List.drop_eq_getElem_cons hlt, List.take_append_drop]
      have h1 : ((s.records.take i ++ s.records[i] :: s.records.drop (i + 1)).map (·.name)).Nodup := by rw [e1]; exact HND.out
      rw [List.map_append, List.nodup_append] at h1
      exact h1.2.2 q.name (List.mem_map_of_mem hq) s.records[i].name (List.mem_map_of_mem List.mem_cons_self) e
    have HSNI := Lib.hid (HSN.out _ (List.getElem_mem hlt))
    have HTK : Hid (s.records.take (i + 1) = s.records.take i ++ [s.records[i]]) := Lib.hid (List.take_succ_eq_append_getElem hlt)
    clear hin hsub hA
    generalize s.records[i] = r at *
    obtain ⟨W2, hW2⟩ : ∃ W, W = wr.alloc (.cells #[.string r.name, .bool r.choice, .slice p r.fields.length kq] 34) := ⟨_, rfl⟩
    obtain ⟨y, hy⟩ : ∃ y, y = wr.heap.size := ⟨_, rfl⟩
    have hB2 : Below wr.heap.size wr W2 := by rw [hW2]; exact tk_alloc wr _
    have HN2 : Hid (W2.heap[y]? = some (.cells #[.string r.name, .bool r.choice, .slice p r.fields.length kq] 34 (0, 0))) := Lib.hid (by rw [hW2, hy]; exact heap_alloc_new wr _)
    obtain ⟨hb, hs2, hc, n, g, hn, hM, hF⟩ := HQ.out
    obtain ⟨W3, hrun, hM3, hgr⟩ := (hM.below hB2).put Tryz.underlying210 (x := r.name) (Nat.le_trans HSNI.out (by unfold maxLen; omega)) (by omega) (.agg #[.string r.name, .bool r.choice, .slice p r.fields.length kq])
    have hc2 := cells1' (box_keep hB2 hc)
    have HB3 : Hid (Below W0.heap.size W0 W3) := Lib.hid ((hb.trans (hB2.mono hb.size)).grown hgr (hb.trans (hB2.mono hb.size)).size (fun k hk => by cases hk; have := HM0.out; omega))
    have HS3 : Hid (m + 2 ≤ W3.heap.size) := Lib.hid (Nat.le_trans hs2 (Nat.le_trans hB2.size hgr.size))
    have HC3 : Hid (W3.heap[m + 1]? = some (.cells #[.map (some m)] 210 (0, 0))) := Lib.hid ((hgr.block _ (by have := hB2.size; omega) (by simp)).trans (box_keep hB2 hc))
    have HI3 := Lib.hid hM3
    have HF3 := Lib.hid (hF.snoc HV.out HNO.out)
    have HN3 : Hid ((if (g r.name).isSome = true then n else n + 1) ≤ i + 1) := Lib.hid (by split <;> omega)
    clear hM hF hM3 hgr hc hs2 hb hn hB2
    go_upto_region 5 with fail
    rw [← hW2, ← hy]
    clear hW2 hy d0 d1 d2
    obtain ⟨y0, y1, y2⟩ := cells3 HN2.out
    go_wp2_with fail
    go_roundw
    case rel => exact ⟨i + 1, by omega, by go_num, Lib.hid ⟨HB3.out, HS3.out, HC3.out, _, _, HN3.out, HI3.out, by rw [HTK.out]; exact HF3.out⟩⟩
    case measure => simp [intOf]; omega
  · obtain rfl : i = s.records.length := by omega
    have i1 : ¬ (s.records.length : Int) < (s.records.length : Int) := by omega
    obtain ⟨hb, hs2, hc, n, g, hn, hM, hF⟩ := HQ.out
    rw [List.take_length] at hF
    have HI := Lib.hid hM
    have HF := Lib.hid hF
    have HC := Lib.hid hc
    have HB := Lib.hid hb
    clear hM hF hc hb hs2 hn
    go_wp2_with fail
    go_ret
    exact ⟨_, rfl, ⟨m + 1, m, n, g, rfl, HC.out, HI.out, HF.out⟩, (HX.out _ HB.out).2⟩
set_option maxRecDepth 100000 in
set_option maxHeartbeats 4000000 in
theorem vIsLast_any {u w : World} {s : Ip.Sch} {fv : Value} (h : FinderIs u s w fv) (x : Ip.So) (hx : x.name.size ≤ maxLen) : Calls Tryz.prog 157 #[fv, .agg #[.int .u8 (x.kind : Nat), .string x.name]] w fun e w' => e = .returned (.bool (Ck.lastB s x)) ∧ Below w.heap.size w w' := by
  obtain ⟨c, b, n, g, rfl, h2, h3, h4⟩ := h
  obtain ⟨xk, xn⟩ := x
  obtain ⟨W0, hW0⟩ : ∃ W0, W0 = allocs w [.cells #[.int .u8 (xk : Nat), .string xn] 41] := ⟨_, rfl⟩
  have HX : Hid (∀ V, Below W0.heap.size W0 V → V.heap[w.heap.size]? = some (.cells #[.int .u8 (xk : Nat), .string xn] 41 (0, 0)) ∧ Below w.heap.size w V) := Lib.hid (by subst hW0; exact fun V hV => ⟨allocs_box (i := 0) rfl hV, allocs_on hV⟩)
  obtain ⟨b0, B0⟩ := HX.out W0 (Below.refl _ _)
  obtain ⟨y0, y1⟩ := cells2 b0
  have HF := Lib.hid (find1_any (box_keep B0 h2) (h3.below B0) h4 (x := xn) hx)
  have HE : Hid (Ck.lastB s ⟨xk, xn⟩ = if xk = 7 then (Ck.find s xn).isSome else decide (1 ≤ xk) && decide (xk ≤ 4) && Ck.empty xn) := Lib.hid rfl
  have HB := Lib.hid B0
  clear h2 h3 h4 b0 B0
  simp only [allocs] at hW0
  simp only
  go_enter Tryz.func157, Tryz.ntmps157
  go_upto_region 1 with fail
  rw [← hW0]
  clear hW0
  have he := empty_is xn
  have plain : ∀ k : Nat, 1 ≤ k → k ≤ 4 → xk = k → Hid (Ck.lastB s ⟨xk, xn⟩ = Ck.empty xn) := fun k h1 h2 e => Lib.hid (by rw [HE.out, if_neg (by omega)]; simp; omega)
  have HP := Lib.hid plain
  clear plain
  by_cases h1 : xk = 1
  · have HQ := HP.out 1 (by omega) (by omega) h1
    subst h1
    generalize Ck.empty xn = em at *
    go_wp2_with fail
    go_ret
    exact ⟨by rw [HQ.out]; rfl, HB.out⟩
  by_cases h2 : xk = 2
  · have HQ := HP.out 2 (by omega) (by omega) h2
    subst h2
    generalize Ck.empty xn = em at *
    go_wp2_with fail
    go_ret
    exact ⟨by rw [HQ.out]; rfl, HB.out⟩
  by_cases h3 : xk = 3
  · have HQ := HP.out 3 (by omega) (by omega) h3
    subst h3
    generalize Ck.empty xn = em at *
    go_wp2_with fail
    go_ret
    exact ⟨by rw [HQ.out]; rfl, HB.out⟩
  by_cases h4 : xk = 4
  · have HQ := HP.out 4 (by omega) (by omega) h4
    subst h4
    generalize Ck.empty xn = em at *
    go_wp2_with fail
    go_ret
    exact ⟨by rw [HQ.out]; rfl, HB.out⟩
  by_cases h7 : xk = 7
  · have HQ : Hid (Ck.lastB s ⟨xk, xn⟩ = (Ck.find s xn).isSome) := Lib.hid (by rw [HE.out, if_pos h7])
    subst h7
    clear h1 h2 h3 h4
    go_wp2_with fail
    refine Calls.mono HF.out ?_
    rintro e w2 ⟨v, rfl, ⟨p, k, rfl, -, -⟩, hb2⟩
    have HB2 := Lib.hid (HX.out _ hb2).2
    clear hb2 y0 y1
    generalize (Ck.find s xn).getD noRcd = r at *
    generalize (Ck.find s xn).isSome = bs at *
    go_wp2_with fail
    go_ret
    exact ⟨by rw [HQ.out]; rfl, HB2.out.trans ((tk_alloc w2 _).mono HB2.out.size)⟩
  · have HQ : Hid (Ck.lastB s ⟨xk, xn⟩ = false) := Lib.hid (by rw [HE.out, if_neg h7]; simp; intro _ _; omega)
    have e1 : (((xk : Nat) : Int) == 1) = false := by rw [beq_eq_false_iff_ne]; omega
    have e2 : (((xk : Nat) : Int) == 2) = false := by rw [beq_eq_false_iff_ne]; omega
    have e3 : (((xk : Nat) : Int) == 3) = false := by rw [beq_eq_false_iff_ne]; omega
    have e4 : (((xk : Nat) : Int) == 4) = false := by rw [beq_eq_false_iff_ne]; omega
    have e7 : (((xk : Nat) : Int) == 7) = false := by rw [beq_eq_false_iff_ne]; omega
    clear h1 h2 h3 h4 h7
    go_wp2_with fail
    go_ret
    exact ⟨by rw [HQ.out]; rfl, HB.out⟩
set_option maxRecDepth 100000 in
set_option maxHeartbeats 4000000 in
theorem vIsType_any {u w : World} {s : Ip.Sch} {fv v : Value} {t : List Ip.So} (h : FinderIs u s w fv) (ht : RoSo u v t) (hu : Kp u w) : Calls Tryz.prog 116 #[fv, v] w fun e w' => e = .returned (.bool (Ck.right s t)) ∧ Below w.heap.size w w' := by
  obtain ⟨p, c, rfl, hc1, hc2⟩ := RoIs.shape ht
  have H := Lib.hid h
  have HT := Lib.hid ht
  have HSZ : Hid (∀ x ∈ t, x.name.size ≤ maxLen) := Lib.hid fun x hx => (RoIs.ok ht x hx).2
  have HU0 := Lib.hid hu
  have HB0 := Lib.hid (Below.refl w.heap.size w)
  clear h hu ht
  have ht0 : (t.length : Int) ≤ 9223372036854775807 := by unfold maxLen at hc2; omega
  by_cases e0 : t.length = 0
  · rw [Ck.right_len (.inl e0)]
    have i0 : ((t.length : Int) == 0) = true := by rw [beq_iff_eq]; omega
    clear e0 hc1 hc2
    go_enter Tryz.func116, Tryz.ntmps116
    go_wp2_with fail
    go_ret
    exact ⟨rfl, HB0.out⟩
  have i0 : ((t.length : Int) == 0) = false := by rw [beq_eq_false_iff_ne]; omega
  by_cases e12 : 12 < t.length
  · rw [Ck.right_len (.inr e12)]
    have i1 : (12 : Int) < (t.length : Int) := by omega
    clear e0 e12 hc1 hc2
    go_enter Tryz.func116, Tryz.ntmps116
    go_wp2_with fail
    go_ret
    exact ⟨rfl, HB0.out⟩
  have i1 : ¬ (12 : Int) < (t.length : Int) := by omega
  obtain ⟨n, hn⟩ : ∃ n : Nat, t.length = n + 1 := ⟨t.length - 1, by omega⟩
  have hn12 : n < 12 := by omega
  have HR : Hid (∀ x, t[n]? = some x → Ck.right s t = ((t.take n).all Ck.headB && Ck.lastB s x)) := Lib.hid fun x hx => Ck.right_n hn hn12 hx
  have HN := Lib.hid hn
  have hcn : n + 1 ≤ c := by omega
  have hcm : c ≤ 9223372036854775807 := by unfold maxLen at hc2; omega
  have i0 : ((n : Int) + 1 == 0) = false := by rw [beq_eq_false_iff_ne]; omega
  have i1 : ¬ (12 : Int) < (n : Int) + 1 := by omega
  clear hc1 hc2 e0 e12
  go_enter Tryz.func116, Tryz.ntmps116
  go_upto_region 3 with fail
  clear i0 i1
  go_upto_region 5 with fail
  go_loopw [23] (fun kv wr => ∃ k : Nat, k ≤ n ∧ kv = .int .i64 (k : Nat) ∧ Hid (Below w.heap.size w wr ∧ ∀ j x, t[j]? = some x → j < k → Ck.headB x = true)) (fun kv _ => n - (intOf kv).toNat)
  case atStart => exact ⟨0, Nat.zero_le _, rfl, Lib.hid ⟨Below.refl _ _, fun j _ _ hj => absurd hj (Nat.not_lt_zero _)⟩⟩
  case round =>
    obtain ⟨k, hk, rfl, H9⟩ := hrel
    have HBR := Lib.hid H9.out.1
    have HA := Lib.hid H9.out.2
    have HBW : Hid (∀ o, Below w.heap.size w (wr.alloc o)) := Lib.hid fun o => HB0.out.trans ((HBR.out.trans ((tk_alloc wr o).mono HBR.out.size)).mono HB0.out.size)
    clear H9
    by_cases hlt : k < n
    · have i1 : (k : Int) < (n : Int) := by omega
      have i2 : (0 : Int) ≤ (k : Int) := by omega
      have hkt : k < t.length := by omega
      obtain ⟨A, cc, e3, hA, x0, x1, -⟩ := so_at (HT.out.kp (HU0.out.below HBR.out)) hkt
      cases e3
      have HX9 := Lib.hid (List.getElem?_eq_getElem hkt)
      have HN9 := Lib.hid (List.getElem?_eq_getElem (l := t) (i := n) (by omega))
      generalize t[k] = x at x0 x1 HX9
      obtain ⟨xk, xn⟩ := x
      generalize t[n] = z at HN9
      have he := empty_is xn
      clear hn hA
      by_cases hcase : xk = 5
      · have i5 : ((xk : Int) != 5) = false := by rw [bne_eq_false_iff_eq]; omega
        cases hq : Ck.empty xn with
        | true =>
          rw [hq] at he
          have HH : Hid (Ck.headB ⟨xk, xn⟩ = true) := Lib.hid (by unfold Ck.headB; rw [hq]; simp [hcase])
          clear hq hcase
          go_wp2_with fail
          go_roundw
          case rel => exact ⟨k + 1, by omega, by go_num, Lib.hid ⟨HBR.out.trans ((tk_alloc wr _).mono HBR.out.size), fun j x hj hjk => by
              by_cases e : j < k
              · exact HA.out j x hj e
              · obtain rfl : j = k := by omega
                rw [HX9.out] at hj
                cases hj
                exact HH.out⟩⟩
          case measure => simp [intOf]; omega
        | false =>
          rw [hq] at he
          have HH : Hid (Ck.headB ⟨xk, xn⟩ = false) := Lib.hid (by unfold Ck.headB; rw [hq]; simp [hcase])
          clear hq hcase
          go_wp2_with fail
          go_ret
          exact ⟨by rw [HR.out _ HN9.out, Ck.all_stop HX9.out hlt HH.out, Bool.false_and]; rfl, HBW.out _⟩
      have hc5 := hcase
      clear hcase
      by_cases hcase : xk = 6
      · have i5 : ((xk : Int) != 5) = true := by rw [bne_iff_ne]; omega
        have i6 : ((xk : Int) != 6) = false := by rw [bne_eq_false_iff_eq]; omega
        clear hc5
        cases hq : Ck.empty xn with
        | true =>
          rw [hq] at he
          have HH : Hid (Ck.headB ⟨xk, xn⟩ = true) := Lib.hid (by unfold Ck.headB; rw [hq]; simp [hcase])
          clear hq hcase
          go_wp2_with fail
          go_roundw
          case rel => exact ⟨k + 1, by omega, by go_num, Lib.hid ⟨HBR.out.trans ((tk_alloc wr _).mono HBR.out.size), fun j x hj hjk => by
              by_cases e : j < k
              · exact HA.out j x hj e
              · obtain rfl : j = k := by omega
                rw [HX9.out] at hj
                cases hj
                exact HH.out⟩⟩
          case measure => simp [intOf]; omega
        | false =>
          rw [hq] at he
          have HH : Hid (Ck.headB ⟨xk, xn⟩ = false) := Lib.hid (by unfold Ck.headB; rw [hq]; simp [hcase])
          clear hq hcase
          go_wp2_with fail
          go_ret
          exact ⟨by rw [HR.out _ HN9.out, Ck.all_stop HX9.out hlt HH.out, Bool.false_and]; rfl, HBW.out _⟩
      have hc6 := hcase
      clear hcase
      have i5 : ((xk : Int) != 5) = true := by rw [bne_iff_ne]; omega
      have i6 : ((xk : Int) != 6) = true := by rw [bne_iff_ne]; omega
      have HH : Hid (Ck.headB ⟨xk, xn⟩ = false) := Lib.hid (by unfold Ck.headB; simp [hc5, hc6])
      clear hc5 hc6 he
      go_wp2_with fail
      go_ret
      exact ⟨by rw [HR.out _ HN9.out, Ck.all_stop HX9.out hlt HH.out, Bool.false_and]; rfl, HBW.out _⟩
    · obtain rfl : k = n := by omega
      have i1 : ¬ (k : Int) < (k : Int) := by omega
      have i2 : (0 : Int) ≤ (k : Int) := by omega
      have i3 : (k : Int) < (k : Int) + 1 := by omega
      have hkt : k < t.length := by omega
      obtain ⟨A, cc, e3, hA, x0, x1, -⟩ := so_at (HT.out.kp (HU0.out.below HBR.out)) hkt
      cases e3
      have HK := Lib.hid (List.getElem?_eq_getElem hkt)
      have HSX := Lib.hid (HSZ.out _ (List.getElem_mem hkt))
      clear hn
      generalize t[k] = x at x0 x1 HK HSX
      go_wp2_with fail
      refine (vIsLast_any (H.out.below HBR.out) x HSX.out).mono ?_
      rintro e w6 ⟨rfl, hb6⟩
      have HB6 := Lib.hid (HBR.out.trans (hb6.mono HBR.out.size))
      clear hb6 x0 x1 hkt hA
      go_wp2_with fail
      go_ret
      exact ⟨by rw [HR.out _ HK.out, Ck.all_done HA.out, Bool.true_and]; rfl, HB6.out⟩
set_option maxRecDepth 100000 in
set_option maxHeartbeats 4000000 in
theorem finding_any {u w : World} {sv v : Value} {s : Ip.Sch} {t : List Ip.So} (h : RoSch u sv s) (ht : RoSo u v t) (hu : Kp u w) (hkw : KwIs u) (hS : Ck.Small s) : Calls Tryz.prog 66 #[sv, v] w fun e w' => ∃ fv, e = .returned (.tuple #[fv, .int .i64 (Vl.types s t : Nat)]) ∧ (Vl.types s t = 0 → FinderIs u s w' fv) ∧ Below w.heap.size w w' := by
  obtain ⟨p1, c1, p2, c2, p3, c3, rfl, -, hr, -, -, l1, l2, l3⟩ := sch_parts h
  obtain ⟨W0, hW0⟩ : ∃ W0, W0 = allocs w [schO s p1 c1 p2 c2 p3 c3] := ⟨_, rfl⟩
  have HX : Hid (∀ W, Below W0.heap.size W0 W → W.heap[w.heap.size]? = some (schO s p1 c1 p2 c2 p3 c3) ∧ Below w.heap.size w W) := Lib.hid (by subst hW0; exact fun W hW => ⟨allocs_box (i := 0) rfl hW, allocs_on hW⟩)
  obtain ⟨b0, B0⟩ := HX.out W0 (Below.refl _ _)
  obtain ⟨x0, x1, x2, x3⟩ := cells4' b0
  have H := Lib.hid h
  have HT := Lib.hid ht
  have HU := Lib.hid (hu.below B0)
  have HKW := Lib.hid hkw
  have HSM := Lib.hid hS
  clear h ht hu hkw hr hS b0 B0 l1 l2 l3
  simp only [allocs, schO] at hW0
  go_enter Tryz.func66, Tryz.ntmps66
  go_upto_region 1 with fail
  rw [← hW0]
  clear hW0
  go_wp2_with fail
  refine Calls.mono (Check_any H.out HU.out HKW.out HSM.out) ?_
  rintro e w1 ⟨rfl, hb1⟩
  have HB1 := Lib.hid hb1
  clear hb1 x0 x1 x2 x3
  by_cases hz : (Ck.check s).2 = 0
  · have HOK := Lib.hid (Ck.check_ok.1 hz)
    have HTY : Hid (Vl.types s t = if Ck.right s t then 0 else 131) := Lib.hid (by unfold Vl.types; rw [if_pos hz])
    rw [hz]
    clear hz
    generalize (Ck.check s).1 = cp
    obtain ⟨x0, x1, x2, x3⟩ := cells4' (HX.out _ HB1.out).1
    go_wp2_with fail
    refine Calls.mono (finderOf_any H.out (HU.out.below HB1.out) HSM.out (Ck.nodup_recs (HOK.out (130, Ck.doubles) (by simp [Ck.rules])))) ?_
    rintro e w2 ⟨fv, rfl, hf, hb2⟩
    have HF := Lib.hid hf
    have HB2 := Lib.hid (HB1.out.trans (hb2.mono HB1.out.size))
    clear hf hb2 x0 x1 x2 x3
    go_wp2_with fail
    refine Calls.mono (vIsType_any HF.out HT.out (HU.out.below HB2.out)) ?_
    rintro e w3 ⟨rfl, hb3⟩
    have HF3 := Lib.hid (HF.out.below hb3)
    have HB3 := Lib.hid (HB2.out.trans (hb3.mono HB2.out.size))
    clear hb3
    cases hr : Ck.right s t with
    | true =>
      have HE : Hid (Vl.types s t = 0) := Lib.hid (by rw [HTY.out, hr]; rfl)
      clear hr
      go_wp2_with fail
      go_ret2
      exact ⟨_, by rw [HE.out]; rfl, fun _ => HF3.out, (HX.out _ HB3.out).2⟩
    | false =>
      have HE : Hid (Vl.types s t = 131) := Lib.hid (by rw [HTY.out, hr]; rfl)
      clear hr
      go_wp2_with fail
      go_ret2
      exact ⟨_, by rw [HE.out]; rfl, fun h => (by rw [HE.out] at h; cases h), (HX.out _ HB3.out).2⟩
  · have HE : Hid (Vl.types s t = (Ck.check s).2) := Lib.hid (by unfold Vl.types; rw [if_neg hz])
    have HZ : Hid ((Ck.check s).2 ≠ 0) := Lib.hid hz
    generalize (Ck.check s).1 = cp at *
    generalize (Ck.check s).2 = cn at *
    have i1 : ((cn : Int) != 0) = true := by rw [bne_iff_ne]; omega
    clear hz
    go_wp2_with fail
    go_ret2
    exact ⟨_, by rw [HE.out]; rfl, fun h => absurd (HE.out.symm.trans h) HZ.out, (HX.out _ HB1.out).2⟩
end Go.Proofs.YtnkdhmoocomjfaaGreatDoor
