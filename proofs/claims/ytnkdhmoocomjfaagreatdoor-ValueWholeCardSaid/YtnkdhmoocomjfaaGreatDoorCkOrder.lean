/-
  Walks over package check: sorts held against one another, order records, what is undone. Conditions: those in the theorems.
-/
import Derived.Test.YtnkdhmoocomjfaaGreatDoorCkTypes
set_option linter.unusedSimpArgs false
set_option linter.unusedVariables false
namespace Go.Proofs.YtnkdhmoocomjfaaGreatDoor
open Go.RowKit

set_option maxRecDepth 100000 in
set_option maxHeartbeats 4000000 in
theorem equalSo_any {w : World} {v1 v2 : Value} {L M : List Ip.So} (h1 : RoSo w v1 L) (h2 : RoSo w v2 M) : Calls Tryz.prog 186 #[v1, v2] w fun e w' => e = .returned (.bool (Ck.sameL L M)) ∧ Below w.heap.size w w' := by
  obtain ⟨p1, c1, rfl, l1⟩ := ro_len h1
  obtain ⟨p2, c2, rfl, l2⟩ := ro_len h2
  by_cases hl : L.length = M.length
  · have i0 : ((L.length : Int) != (M.length : Int)) = false := by rw [bne_eq_false_iff_eq]; omega
    have HL := Lib.hid hl
    have H1 := Lib.hid h1
    have H2 := Lib.hid h2
    clear h1 h2 hl
    go_enter Tryz.func186, Tryz.ntmps186
    go_wp2_with fail
    clear i0
    go_loopw [13] (fun kv wr => ∃ k : Nat, k ≤ L.length ∧ kv = .int .i64 (k : Nat) ∧ Hid (Below w.heap.size w wr ∧ Ck.sameL (L.drop k) (M.drop k) = Ck.sameL L M)) (fun kv _ => L.length - (intOf kv).toNat)
    case atStart => exact ⟨0, Nat.zero_le _, rfl, Lib.hid ⟨Below.refl _ _, rfl⟩⟩
    case round =>
      obtain ⟨k, hk, rfl, H9⟩ := hrel
      have HBR := Lib.hid H9.out.1
      have HA := Lib.hid H9.out.2
      clear H9
      by_cases hlt : k < L.length
      · have i1 : (k : Int) < (L.length : Int) := by omega
        have i2 : (0 : Int) ≤ (k : Int) := by omega
        have i3 : (k : Int) < (M.length : Int) := by have := HL.out; omega
        have hlm : k < M.length := by have := HL.out; omega
        obtain ⟨A, cc, e3, hA, x0, x1, -⟩ := so_at (H1.out.kp (Kp.of_below HBR.out)) hlt
        cases e3
        obtain ⟨B, cd, e4, hB, y0, y1, -⟩ := so_at (H2.out.kp (Kp.of_below HBR.out)) hlm
        cases e4
        have HS : Hid (Ck.sameL L M = (Ck.eqSo L[k] M[k] && Ck.sameL (L.drop (k + 1)) (M.drop (k + 1)))) := Lib.hid (by rw [← HA.out]; exact Ck.sameL_at hlt hlm)
        generalize L[k] = x at x0 x1 HS
        generalize M[k] = y at y0 y1 HS
        obtain ⟨xk, xn⟩ := x
        obtain ⟨yk, yn⟩ := y
        have hn := eqB_list xn yn
        have HD : Hid (∀ n, Below w.heap.size w (wr.drewN n)) := Lib.hid fun n => HBR.out.trans ((dn_below wr n).mono HBR.out.size)
        clear hA hB
        by_cases ek : xk = yk
        · have i4 : ((xk : Int) == (yk : Int)) = true := by rw [beq_iff_eq]; omega
          cases en : Ip.eqB xn yn with
          | true =>
            rw [en] at hn
            have HQ : Hid (Ck.eqSo ⟨xk, xn⟩ ⟨yk, yn⟩ = true) := Lib.hid (by unfold Ck.eqSo; simp [ek, en])
            clear en ek
            go_wp2_with fail
            go_quiet (fail)
            go_wp2_with fail
            go_roundw
            case rel => exact ⟨k + 1, by omega, by go_num, Lib.hid ⟨HD.out _, by rw [HS.out, HQ.out, Bool.true_and]⟩⟩
            case measure => simp [intOf]; omega
          | false =>
            rw [en] at hn
            have HQ : Hid (Ck.eqSo ⟨xk, xn⟩ ⟨yk, yn⟩ = false) := Lib.hid (by unfold Ck.eqSo; simp [en])
            clear en ek
            go_wp2_with fail
            go_quiet (fail)
            go_wp2_with fail
            go_ret
            exact ⟨by rw [HS.out, HQ.out, Bool.false_and]; rfl, HD.out _⟩
        · have i4 : ((xk : Int) == (yk : Int)) = false := by rw [beq_eq_false_iff_ne]; omega
          have HQ : Hid (Ck.eqSo ⟨xk, xn⟩ ⟨yk, yn⟩ = false) := Lib.hid (by unfold Ck.eqSo; simp [ek])
          clear ek hn
          go_wp2_with fail
          go_quiet (fail)
          go_wp2_with fail
          go_ret
          exact ⟨by rw [HS.out, HQ.out, Bool.false_and]; rfl, HD.out _⟩
      · obtain rfl : k = L.length := by omega
        have i1 : ¬ (L.length : Int) < (L.length : Int) := by omega
        go_wp2_with fail
        go_ret
        exact ⟨by rw [← HA.out, List.drop_of_length_le (Nat.le_refl _), List.drop_of_length_le (by have := HL.out; omega)]; rfl, HBR.out⟩
  · rw [Ck.sameL_len hl]
    have i0 : ((L.length : Int) != (M.length : Int)) = true := by rw [bne_iff_ne]; omega
    clear h1 h2 hl
    go_enter Tryz.func186, Tryz.ntmps186
    go_wp2_with fail
    go_ret
    exact ⟨rfl, Below.refl _ _⟩
set_option maxRecDepth 100000 in
set_option maxHeartbeats 4000000 in
theorem roSo_lit (w : World) {k : Nat} {n : ByteArray} (hk : k < 256) (hn : n.size ≤ maxLen) : RoSo (w.alloc (.cells #[.int .u8 (k : Nat), .string n] 41)) (.slice (some ⟨w.heap.size, 0, none⟩) 1 1) [⟨k, n⟩] := by
  have hb := heap_alloc_new w (.cells #[.int .u8 (k : Nat), .string n] 41)
  obtain ⟨c0, c1⟩ := cells2 hb
  refine ⟨_, _, rfl, Nat.le_refl _, by decide, fun i hi => ?_⟩
  have : i = 0 := by simp at hi; omega
  subst this
  refine ⟨_, .bool false, rfl, by simp, trivial, ⟨hk, hn⟩, fun j hj => ?_⟩
  have hj2 : j = 0 ∨ j = 1 := by have : j < 2 := hj; omega
  rcases hj2 with rfl | rfl
  · exact c0
  · exact c1
set_option maxRecDepth 100000 in
set_option maxHeartbeats 4000000 in
theorem hasField_any {u w : World} {rv : Value} {x : Ip.Rcd} (h : RcdV u rv x) (hu : Kp u w) (n : ByteArray) {k : Nat} (hk : k < 256) : Calls Tryz.prog 173 #[rv, .string n, .int .u8 (k : Nat)] w fun e w' => e = .returned (.bool (Ck.hasF x n k)) ∧ Below w.heap.size w w' := by
  obtain ⟨p1, c1, rfl, -, hr⟩ := h
  obtain ⟨W0, hW0⟩ : ∃ W0, W0 = allocs w [.cells #[.string x.name, .bool x.choice, .slice p1 x.fields.length c1] 34, .cells #[.string n] 9] := ⟨_, rfl⟩
  have HX : Hid (∀ W, Below W0.heap.size W0 W → W.heap[w.heap.size + 1]? = some (.cells #[.string n] 9 (0, 0)) ∧ Below w.heap.size w W) := Lib.hid (by subst hW0; exact fun W hW => ⟨allocs_box (i := 1) rfl hW, allocs_on hW⟩)
  have hb0 : W0.heap[w.heap.size]? = some (.cells #[.string x.name, .bool x.choice, .slice p1 x.fields.length c1] 34 (0, 0)) := by subst hW0; exact allocs_box (i := 0) rfl (Below.refl _ _)
  have H := Lib.hid hr
  obtain ⟨b1, B0⟩ := HX.out W0 (Below.refl _ _)
  obtain ⟨x0, x1, x2⟩ := cells3 hb0
  have HB1 := Lib.hid b1
  have HU0 := Lib.hid (hu.below B0)
  have HK := Lib.hid hk
  clear hr hu b1 B0 hb0 hk
  simp only [allocs] at hW0
  go_enter Tryz.func173, Tryz.ntmps173
  go_upto_region 1 with fail
  rw [← hW0]
  clear hW0
  go_wp2_with fail
  refine (firstF_any H.out HU0.out n HB1.out).mono ?_
  rintro e w1 ⟨v, rfl, hv, hb1⟩
  have HB9 := Lib.hid hb1
  cases ho : x.fields.find? (fun f => Ip.eqB f.name n) with
  | none =>
    rw [ho] at hv
    obtain ⟨q, c, rfl, -, -⟩ := hv
    have HBZ : Hid (∀ o, Below w.heap.size w (w1.alloc o)) := Lib.hid fun o => by
      obtain ⟨-, B1⟩ := HX.out _ HB9.out
      exact B1.trans ((tk_alloc _ _).mono B1.size)
    have HQ : Hid (Ck.hasF x n k = false) := Lib.hid (by unfold Ck.hasF Ck.fieldOf; rw [ho])
    clear ho hb1 x0 x1 x2
    simp only [Option.getD_none, Option.isSome_none]
    go_wp2_with fail
    go_ret
    exact ⟨by rw [HQ.out]; rfl, HBZ.out _⟩
  | some f =>
    rw [ho] at hv
    obtain ⟨q, c, rfl, -, hf⟩ := hv
    simp only [Option.getD_some, Option.isSome_some] at hf ⊢
    have HF := Lib.hid hf
    have HQ : Hid (Ck.hasF x n k = Ck.just f.type k) := Lib.hid (by unfold Ck.hasF Ck.fieldOf; rw [ho])
    obtain ⟨_, _, e1, hlf⟩ := ro_len hf
    cases e1
    clear ho hf hb1 x0 x1 x2
    obtain ⟨W2, hW2⟩ : ∃ W2, W2 = w1.alloc (.cells #[.string f.name, .slice q f.type.length c] 39) := ⟨_, rfl⟩
    have hb2 : Below W0.heap.size W0 W2 := by rw [hW2]; exact HB9.out.trans ((tk_alloc w1 _).mono HB9.out.size)
    have hn2 : W2.heap[w1.heap.size]? = some (.cells #[.string f.name, .slice q f.type.length c] 39 (0, 0)) := by rw [hW2]; exact heap_alloc_new w1 _
    obtain ⟨y0, y1⟩ := cells2 hn2
    have H2 := Lib.hid hb2
    clear hn2 hb2
    go_upto_region 2 with fail
    rw [← hW2]
    clear hW2
    go_wp2_with fail
    obtain ⟨W3, hW3⟩ : ∃ W3, W3 = W2.alloc (.cells #[.int .u8 (k : Nat), .string ⟨#[]⟩] 41) := ⟨_, rfl⟩
    have hb3 : Below W0.heap.size W0 W3 := by rw [hW3]; exact H2.out.trans ((tk_alloc W2 _).mono H2.out.size)
    have hl3 : RoSo W3 (.slice (some ⟨W2.heap.size, 0, none⟩) 1 1) [⟨k, ⟨#[]⟩⟩] := by rw [hW3]; exact roSo_lit W2 HK.out (Nat.zero_le _)
    rw [← hW3]
    clear hW3
    refine (equalSo_any (HF.out.kp (HU0.out.below hb3)) hl3).mono ?_
    rintro e w4 ⟨rfl, hb4⟩
    have HB4 := Lib.hid (HX.out _ (hb3.trans (hb4.mono hb3.size))).2
    clear hb3 hb4 hl3 y0 y1
    go_wp2_with fail
    go_ret
    exact ⟨by rw [HQ.out, ← Ck.sameL_just]; rfl, HB4.out⟩

set_option maxRecDepth 100000 in
set_option maxHeartbeats 8000000 in
theorem isOrder_any {u w : World} {sv : Value} {s : Ip.Sch} (h : RoSch u sv s) (hu : Kp u w) (n : ByteArray) : Calls Tryz.prog 131 #[sv, .string n] w fun e w' => e = .returned (.bool (Ck.isOrder s n)) ∧ Below w.heap.size w w' := by
  obtain ⟨p1, c1, p2, c2, p3, c3, rfl, -, -, -, -, l1, l2, l3⟩ := sch_parts h
  obtain ⟨W0, hW0⟩ : ∃ W0, W0 = allocs w [.cells #[.string s.name, .slice p1 s.records.length c1, .slice p2 s.services.length c2, .slice p3 s.sagas.length c3] 26] := ⟨_, rfl⟩
  have HX : Hid (∀ W, Below W0.heap.size W0 W → Below w.heap.size w W) := Lib.hid (by subst hW0; exact fun W hW => allocs_on hW)
  have hb0 : W0.heap[w.heap.size]? = some (.cells #[.string s.name, .slice p1 s.records.length c1, .slice p2 s.services.length c2, .slice p3 s.sagas.length c3] 26 (0, 0)) := by subst hW0; exact allocs_box (i := 0) rfl (Below.refl _ _)
  obtain ⟨x0, x1, x2, x3⟩ := cells4' hb0
  have H := Lib.hid h
  have HU0 := Lib.hid (hu.below (HX.out W0 (Below.refl _ _)))
  clear h hu hb0
  simp only [allocs] at hW0
  go_enter Tryz.func131, Tryz.ntmps131
  go_upto_region 1 with fail
  rw [← hW0]
  clear hW0
  go_wp2_with fail
  refine (ckRecord_any H.out HU0.out n).mono ?_
  rintro e w1 ⟨v, rfl, hv, hb1⟩
  have HB9 := Lib.hid hb1
  have hor : Ck.isOrder s n = (match Ck.find s n with
    | some r => !r.choice && Ck.hasF r Ck.nAccount 4 && Ck.hasF r Ck.nAmount 3
    | none => false) := rfl
  cases ho : Ck.find s n with
  | none =>
    rw [ho] at hv hor
    have HQ := Lib.hid hor
    obtain ⟨q, c, rfl, -, -⟩ := hv
    have HBZ : Hid (∀ o, Below w.heap.size w (w1.alloc o)) := Lib.hid fun o => HX.out _ (HB9.out.trans ((tk_alloc _ _).mono HB9.out.size))
    clear ho hor hb1 x0 x1 x2 x3
    simp only [Option.getD_none, Option.isSome_none]
    go_wp2_with fail
    go_ret
    exact ⟨by rw [HQ.out]; rfl, HBZ.out _⟩
  | some r =>
    rw [ho] at hv hor
    simp only [Option.getD_some, Option.isSome_some] at hv hor ⊢
    have HV0 := Lib.hid hv
    obtain ⟨q, c, rfl, -, hf⟩ := hv
    obtain ⟨_, _, e1, hlf⟩ := ro_len hf
    cases e1
    obtain ⟨W2, hW2⟩ : ∃ W2, W2 = w1.alloc (.cells #[.string r.name, .bool r.choice, .slice q r.fields.length c] 34) := ⟨_, rfl⟩
    have hb2 : Below W0.heap.size W0 W2 := by rw [hW2]; exact HB9.out.trans ((tk_alloc w1 _).mono HB9.out.size)
    have hn2 : W2.heap[w1.heap.size]? = some (.cells #[.string r.name, .bool r.choice, .slice q r.fields.length c] 34 (0, 0)) := by rw [hW2]; exact heap_alloc_new w1 _
    have HN2 : Hid (∀ W, Below W2.heap.size W2 W → W.heap[w1.heap.size]? = some (.cells #[.string r.name, .bool r.choice, .slice q r.fields.length c] 34 (0, 0))) := Lib.hid fun W hW => box_keep hW hn2
    obtain ⟨y0, y1, y2⟩ := cells3 hn2
    have H2 := Lib.hid hb2
    clear ho hf hb1 x0 x1 x2 x3 hn2 hb2
    go_upto_region 2 with fail
    rw [← hW2]
    clear hW2
    cases hch : r.choice with
    | true =>
      rw [hch] at y1 hor
      have HQ := Lib.hid hor
      clear hor hch
      go_wp2_with fail
      go_ret
      exact ⟨by rw [HQ.out]; rfl, HX.out _ H2.out⟩
    | false =>
      rw [hch] at y1 hor HN2 HV0
      have HO := Lib.hid hor
      clear hor hch
      go_wp2_with fail
      refine (hasField_any HV0.out (HU0.out.below H2.out) Ck.nAccount (k := 4) (by decide)).mono ?_
      rintro e w3 ⟨rfl, hb3⟩
      obtain ⟨y0', y1', y2'⟩ := cells3 (HN2.out _ hb3)
      have H3 := Lib.hid (H2.out.trans (hb3.mono H2.out.size))
      clear hb3 y0 y1 y2
      cases h4 : Ck.hasF r Ck.nAccount 4 with
      | false =>
        have HQ : Hid (Ck.isOrder s n = false) := Lib.hid (by rw [HO.out, h4]; rfl)
        clear h4
        go_wp2_with fail
        go_ret
        exact ⟨by rw [HQ.out]; rfl, HX.out _ H3.out⟩
      | true =>
        have HQ : Hid (Ck.isOrder s n = Ck.hasF r Ck.nAmount 3) := Lib.hid (by rw [HO.out, h4]; rfl)
        clear h4
        go_wp2_with fail
        refine (hasField_any HV0.out (HU0.out.below H3.out) Ck.nAmount (k := 3) (by decide)).mono ?_
        rintro e w4 ⟨rfl, hb4⟩
        have H4 := Lib.hid (H3.out.trans (hb4.mono H3.out.size))
        clear hb4 y0' y1' y2'
        go_wp2_with fail
        go_ret
        exact ⟨by rw [HQ.out]; rfl, HX.out _ H4.out⟩
end Go.Proofs.YtnkdhmoocomjfaaGreatDoor
