/-
  Walks over package value: which parts may be of a type. Conditions: those in the theorems.
-/
import Derived.Test.YtnkdhmoocomjfaaGreatDoorVaIs7
set_option linter.unusedSimpArgs false
set_option linter.unusedVariables false
namespace Go.Proofs.YtnkdhmoocomjfaaGreatDoor
open Go.RowKit
set_option maxRecDepth 100000 in
set_option maxHeartbeats 4000000 in
theorem is_any {u w : World} {s : Ip.Sch} {fv tv : Value} {t : List Ip.So} (hf : FinderIs u s w fv) (ht : RoSo u tv t) (hu : Kp u w) (h0 : t ≠ []) (hk : ∀ x l, t = x :: l → 1 ≤ x.kind ∧ x.kind ≤ 7) (h7r : ∀ x l, t = x :: l → x.kind = 7 → ∃ r, Ck.find s x.name = some r ∧ r.fields.length ≤ 1000) (n : Vl.Nd) : Calls Tryz.prog 159 #[fv, ndV n, tv] w fun e w' => e = .returned (.bool (Vl.kidsOf s t n).isSome) ∧ Below w.heap.size w w' := by
  obtain ⟨p, c, rfl, -, -⟩ := RoIs.shape ht
  cases t with
  | nil => exact absurd rfl h0
  | cons x l =>
  by_cases e7 : x.kind = 7
  · obtain ⟨r, hr, hl⟩ := h7r x l rfl e7
    exact is7_any hf ht hu e7 hr hl n
  obtain ⟨W0, hW0⟩ : ∃ W0, W0 = allocs w [ndO n] := ⟨_, rfl⟩
  have HX : Hid (∀ V, Below W0.heap.size W0 V → V.heap[w.heap.size]? = some (ndO n) ∧ Below w.heap.size w V) := Lib.hid (by subst hW0; exact fun V hV => ⟨allocs_box (i := 0) rfl hV, allocs_on hV⟩)
  obtain ⟨b0, B0⟩ := HX.out W0 (Below.refl _ _)
  obtain ⟨y0, y1, y2, y3⟩ := cells4' b0
  obtain ⟨C, c3, e3, hC, g0, g1, hin⟩ := so_at (i := 0) (ht.kp (hu.below B0)) (by simp)
  cases e3
  have hkk := hk x l rfl
  have k0 : W0.cell? C = some (.int .u8 (x.kind : Nat)) := by have := g0; unfold Addr.add at this; simpa using this
  have k1 : W0.cell? (C.add 0) = some (.int .u8 (x.kind : Nat)) := k0
  have hl0 : (0 : Int) < ((x :: l).length : Int) := by simp
  have HB := Lib.hid B0
  have HF := Lib.hid (hf.below B0)
  have HE := Lib.hid (Vl.kidsOf_cons s x l n)
  have HN : Hid (x.name.size ≤ maxLen) := Lib.hid hin.2
  have G1 : Hid (W0.cell? ⟨C.block, C.off + 1, none⟩ = some (.string x.name)) := Lib.hid (by have := g1; unfold Addr.add at this; simpa using this)
  clear hf hu h0 hk h7r b0 B0 ht g0 g1 hin
  simp only [allocs, ndO] at hW0
  unfold ndV
  go_enter Tryz.func159, Tryz.ntmps159
  go_upto_region 1 with fail
  rw [← hW0]
  clear hW0
  obtain ⟨h1, h7⟩ := hkk
  by_cases e1 : x.kind = 1
  · rw [e1] at k0 k1
    by_cases a0 : n.kind = 1
    · have b0 : (n.kind : Int) = 1 := by omega
      by_cases a1 : n.int = 0
      · have b1 : n.int = 0 := by omega
        cases a2 : Ck.empty n.text with
        | false =>
          have b2 : ¬ n.text.toList = [] := fun e => by have := empty_is n.text; rw [e, a2] at this; cases this
          have HQ : Hid ((Vl.kidsOf s (x :: l) n).isSome = false) := Lib.hid (by rw [HE.out]; simp [Vl.plain, Vl.wraps, Vl.wholeOf, e1, a0, a1, a2])
          clear HE HF HN G1 HX h1 h7
          go_wp2_with fail
          go_ret
          exact ⟨by rw [HQ.out]; rfl, HB.out⟩
        | true =>
        have b2 : n.text.toList = [] := List.isEmpty_iff.1 ((empty_is n.text).trans a2)
        by_cases a3 : n.kids = 0
        · have b3 : n.kids = 0 := by omega
          have HQ : Hid ((Vl.kidsOf s (x :: l) n).isSome = true) := Lib.hid (by rw [HE.out]; simp [Vl.plain, Vl.wraps, Vl.wholeOf, e1, a0, a1, a2, a3])
          clear HE HF HN G1 HX h1 h7
          go_wp2_with fail
          go_ret
          exact ⟨by rw [HQ.out]; rfl, HB.out⟩
        · have b3 : ¬ n.kids = 0 := by omega
          have HQ : Hid ((Vl.kidsOf s (x :: l) n).isSome = false) := Lib.hid (by rw [HE.out]; simp [Vl.plain, Vl.wraps, Vl.wholeOf, e1, a0, a1, a2, a3])
          clear HE HF HN G1 HX h1 h7
          go_wp2_with fail
          go_ret
          exact ⟨by rw [HQ.out]; rfl, HB.out⟩
      · have b1 : ¬ n.int = 0 := by omega
        have HQ : Hid ((Vl.kidsOf s (x :: l) n).isSome = false) := Lib.hid (by rw [HE.out]; simp [Vl.plain, Vl.wraps, Vl.wholeOf, e1, a0, a1])
        clear HE HF HN G1 HX h1 h7
        go_wp2_with fail
        go_ret
        exact ⟨by rw [HQ.out]; rfl, HB.out⟩
    · have b0 : ¬ (n.kind : Int) = 1 := by omega
      have HQ : Hid ((Vl.kidsOf s (x :: l) n).isSome = false) := Lib.hid (by rw [HE.out]; simp [Vl.plain, Vl.wraps, Vl.wholeOf, e1, a0])
      clear HE HF HN G1 HX h1 h7
      go_wp2_with fail
      go_ret
      exact ⟨by rw [HQ.out]; rfl, HB.out⟩
  by_cases e2 : x.kind = 2
  · rw [e2] at k0 k1
    by_cases a0 : n.kind = 2
    · have b0 : (n.kind : Int) = 2 := by omega
      cases a1 : Ck.empty n.text with
      | false =>
        have b1 : ¬ n.text.toList = [] := fun e => by have := empty_is n.text; rw [e, a1] at this; cases this
        have HQ : Hid ((Vl.kidsOf s (x :: l) n).isSome = false) := Lib.hid (by rw [HE.out]; simp [Vl.plain, Vl.wraps, Vl.wholeOf, e2, a0, a1])
        clear HE HF HN G1 HX h1 h7
        go_wp2_with fail
        go_ret
        exact ⟨by rw [HQ.out]; rfl, HB.out⟩
      | true =>
      have b1 : n.text.toList = [] := List.isEmpty_iff.1 ((empty_is n.text).trans a1)
      by_cases a2 : n.kids = 0
      · have b2 : n.kids = 0 := by omega
        by_cases c0 : n.int = 0
        · have d0 : (n.int == 0) = true := by rw [beq_iff_eq]; exact c0
          have HQ : Hid ((Vl.kidsOf s (x :: l) n).isSome = true) := Lib.hid (by rw [HE.out]; simp [Vl.plain, Vl.wraps, Vl.wholeOf, e2, a0, a1, a2, c0])
          clear HE HF HN G1 HX h1 h7
          go_wp2_with fail
          go_ret
          exact ⟨by rw [HQ.out]; rfl, HB.out⟩
        · have d0 : (n.int == 0) = false := by rw [beq_eq_false_iff_ne]; exact c0
          by_cases c1 : n.int = 1
          · have d1 : (n.int == 1) = true := by rw [beq_iff_eq]; exact c1
            have HQ : Hid ((Vl.kidsOf s (x :: l) n).isSome = true) := Lib.hid (by rw [HE.out]; simp [Vl.plain, Vl.wraps, Vl.wholeOf, e2, a0, a1, a2, c1])
            clear HE HF HN G1 HX h1 h7
            go_wp2_with fail
            go_ret
            exact ⟨by rw [HQ.out]; rfl, HB.out⟩
          · have d1 : (n.int == 1) = false := by rw [beq_eq_false_iff_ne]; exact c1
            have HQ : Hid ((Vl.kidsOf s (x :: l) n).isSome = false) := Lib.hid (by rw [HE.out]; simp [Vl.plain, Vl.wraps, Vl.wholeOf, e2, a0, a1, a2, c0, c1])
            clear HE HF HN G1 HX h1 h7
            go_wp2_with fail
            go_ret
            exact ⟨by rw [HQ.out]; rfl, HB.out⟩
      · have b2 : ¬ n.kids = 0 := by omega
        have HQ : Hid ((Vl.kidsOf s (x :: l) n).isSome = false) := Lib.hid (by rw [HE.out]; simp [Vl.plain, Vl.wraps, Vl.wholeOf, e2, a0, a1, a2])
        clear HE HF HN G1 HX h1 h7
        go_wp2_with fail
        go_ret
        exact ⟨by rw [HQ.out]; rfl, HB.out⟩
    · have b0 : ¬ (n.kind : Int) = 2 := by omega
      have HQ : Hid ((Vl.kidsOf s (x :: l) n).isSome = false) := Lib.hid (by rw [HE.out]; simp [Vl.plain, Vl.wraps, Vl.wholeOf, e2, a0])
      clear HE HF HN G1 HX h1 h7
      go_wp2_with fail
      go_ret
      exact ⟨by rw [HQ.out]; rfl, HB.out⟩
  by_cases e3 : x.kind = 3
  · rw [e3] at k0 k1
    by_cases a0 : n.kind = 3
    · have b0 : (n.kind : Int) = 3 := by omega
      cases a1 : Ck.empty n.text with
      | false =>
        have b1 : ¬ n.text.toList = [] := fun e => by have := empty_is n.text; rw [e, a1] at this; cases this
        have HQ : Hid ((Vl.kidsOf s (x :: l) n).isSome = false) := Lib.hid (by rw [HE.out]; simp [Vl.plain, Vl.wraps, Vl.wholeOf, e3, a0, a1])
        clear HE HF HN G1 HX h1 h7
        go_wp2_with fail
        go_ret
        exact ⟨by rw [HQ.out]; rfl, HB.out⟩
      | true =>
      have b1 : n.text.toList = [] := List.isEmpty_iff.1 ((empty_is n.text).trans a1)
      by_cases a2 : n.kids = 0
      · have b2 : n.kids = 0 := by omega
        have HQ : Hid ((Vl.kidsOf s (x :: l) n).isSome = true) := Lib.hid (by rw [HE.out]; simp [Vl.plain, Vl.wraps, Vl.wholeOf, e3, a0, a1, a2])
        clear HE HF HN G1 HX h1 h7
        go_wp2_with fail
        go_ret
        exact ⟨by rw [HQ.out]; rfl, HB.out⟩
      · have b2 : ¬ n.kids = 0 := by omega
        have HQ : Hid ((Vl.kidsOf s (x :: l) n).isSome = false) := Lib.hid (by rw [HE.out]; simp [Vl.plain, Vl.wraps, Vl.wholeOf, e3, a0, a1, a2])
        clear HE HF HN G1 HX h1 h7
        go_wp2_with fail
        go_ret
        exact ⟨by rw [HQ.out]; rfl, HB.out⟩
    · have b0 : ¬ (n.kind : Int) = 3 := by omega
      have HQ : Hid ((Vl.kidsOf s (x :: l) n).isSome = false) := Lib.hid (by rw [HE.out]; simp [Vl.plain, Vl.wraps, Vl.wholeOf, e3, a0])
      clear HE HF HN G1 HX h1 h7
      go_wp2_with fail
      go_ret
      exact ⟨by rw [HQ.out]; rfl, HB.out⟩
  by_cases e4 : x.kind = 4
  · rw [e4] at k0 k1
    by_cases a0 : n.kind = 4
    · have b0 : (n.kind : Int) = 4 := by omega
      by_cases a1 : n.int = 0
      · have b1 : n.int = 0 := by omega
        by_cases a2 : n.kids = 0
        · have b2 : n.kids = 0 := by omega
          have HQ : Hid ((Vl.kidsOf s (x :: l) n).isSome = true) := Lib.hid (by rw [HE.out]; simp [Vl.plain, Vl.wraps, Vl.wholeOf, e4, a0, a1, a2])
          clear HE HF HN G1 HX h1 h7
          go_wp2_with fail
          go_ret
          exact ⟨by rw [HQ.out]; rfl, HB.out⟩
        · have b2 : ¬ n.kids = 0 := by omega
          have HQ : Hid ((Vl.kidsOf s (x :: l) n).isSome = false) := Lib.hid (by rw [HE.out]; simp [Vl.plain, Vl.wraps, Vl.wholeOf, e4, a0, a1, a2])
          clear HE HF HN G1 HX h1 h7
          go_wp2_with fail
          go_ret
          exact ⟨by rw [HQ.out]; rfl, HB.out⟩
      · have b1 : ¬ n.int = 0 := by omega
        have HQ : Hid ((Vl.kidsOf s (x :: l) n).isSome = false) := Lib.hid (by rw [HE.out]; simp [Vl.plain, Vl.wraps, Vl.wholeOf, e4, a0, a1])
        clear HE HF HN G1 HX h1 h7
        go_wp2_with fail
        go_ret
        exact ⟨by rw [HQ.out]; rfl, HB.out⟩
    · have b0 : ¬ (n.kind : Int) = 4 := by omega
      have HQ : Hid ((Vl.kidsOf s (x :: l) n).isSome = false) := Lib.hid (by rw [HE.out]; simp [Vl.plain, Vl.wraps, Vl.wholeOf, e4, a0])
      clear HE HF HN G1 HX h1 h7
      go_wp2_with fail
      go_ret
      exact ⟨by rw [HQ.out]; rfl, HB.out⟩
  by_cases e5 : x.kind = 5
  · rw [e5] at k0 k1
    by_cases a0 : n.kind = 5
    · have b0 : (n.kind : Int) = 5 := by omega
      by_cases a1 : n.int = 0
      · have b1 : n.int = 0 := by omega
        cases a2 : Ck.empty n.text with
        | false =>
          have b2 : ¬ n.text.toList = [] := fun e => by have := empty_is n.text; rw [e, a2] at this; cases this
          have HQ : Hid ((Vl.kidsOf s (x :: l) n).isSome = false) := Lib.hid (by rw [HE.out]; simp [Vl.plain, Vl.wraps, Vl.wholeOf, e5, a0, a1, a2])
          clear HE HF HN G1 HX h1 h7
          go_wp2_with fail
          go_ret
          exact ⟨by rw [HQ.out]; rfl, HB.out⟩
        | true =>
        have b2 : n.text.toList = [] := List.isEmpty_iff.1 ((empty_is n.text).trans a2)
        by_cases c0 : 0 ≤ n.kids
        · have HQ : Hid ((Vl.kidsOf s (x :: l) n).isSome = true) := Lib.hid (by rw [HE.out]; simp [Vl.plain, Vl.wraps, Vl.wholeOf, e5, a0, a1, a2, c0])
          clear HE HF HN G1 HX h1 h7
          go_wp2_with fail
          go_ret
          exact ⟨by rw [HQ.out]; rfl, HB.out⟩
        · have HQ : Hid ((Vl.kidsOf s (x :: l) n).isSome = false) := Lib.hid (by rw [HE.out]; simp [Vl.plain, Vl.wraps, Vl.wholeOf, e5, a0, a1, a2, c0])
          clear HE HF HN G1 HX h1 h7
          go_wp2_with fail
          go_ret
          exact ⟨by rw [HQ.out]; rfl, HB.out⟩
      · have b1 : ¬ n.int = 0 := by omega
        have HQ : Hid ((Vl.kidsOf s (x :: l) n).isSome = false) := Lib.hid (by rw [HE.out]; simp [Vl.plain, Vl.wraps, Vl.wholeOf, e5, a0, a1])
        clear HE HF HN G1 HX h1 h7
        go_wp2_with fail
        go_ret
        exact ⟨by rw [HQ.out]; rfl, HB.out⟩
    · have b0 : ¬ (n.kind : Int) = 5 := by omega
      have HQ : Hid ((Vl.kidsOf s (x :: l) n).isSome = false) := Lib.hid (by rw [HE.out]; simp [Vl.plain, Vl.wraps, Vl.wholeOf, e5, a0])
      clear HE HF HN G1 HX h1 h7
      go_wp2_with fail
      go_ret
      exact ⟨by rw [HQ.out]; rfl, HB.out⟩
  by_cases e6 : x.kind = 6
  · rw [e6] at k0 k1
    by_cases a0 : n.kind = 6
    · have b0 : (n.kind : Int) = 6 := by omega
      by_cases a1 : n.int = 0
      · have b1 : n.int = 0 := by omega
        cases a2 : Ck.empty n.text with
        | false =>
          have b2 : ¬ n.text.toList = [] := fun e => by have := empty_is n.text; rw [e, a2] at this; cases this
          have HQ : Hid ((Vl.kidsOf s (x :: l) n).isSome = false) := Lib.hid (by rw [HE.out]; simp [Vl.plain, Vl.wraps, Vl.wholeOf, e6, a0, a1, a2])
          clear HE HF HN G1 HX h1 h7
          go_wp2_with fail
          go_ret
          exact ⟨by rw [HQ.out]; rfl, HB.out⟩
        | true =>
        have b2 : n.text.toList = [] := List.isEmpty_iff.1 ((empty_is n.text).trans a2)
        by_cases c0 : n.kids = 0
        · have d0 : (n.kids == 0) = true := by rw [beq_iff_eq]; exact c0
          have HQ : Hid ((Vl.kidsOf s (x :: l) n).isSome = true) := Lib.hid (by rw [HE.out]; simp [Vl.plain, Vl.wraps, Vl.wholeOf, e6, a0, a1, a2, c0])
          clear HE HF HN G1 HX h1 h7
          go_wp2_with fail
          go_ret
          exact ⟨by rw [HQ.out]; rfl, HB.out⟩
        · have d0 : (n.kids == 0) = false := by rw [beq_eq_false_iff_ne]; exact c0
          by_cases c1 : n.kids = 1
          · have d1 : (n.kids == 1) = true := by rw [beq_iff_eq]; exact c1
            have HQ : Hid ((Vl.kidsOf s (x :: l) n).isSome = true) := Lib.hid (by rw [HE.out]; simp [Vl.plain, Vl.wraps, Vl.wholeOf, e6, a0, a1, a2, c1])
            clear HE HF HN G1 HX h1 h7
            go_wp2_with fail
            go_ret
            exact ⟨by rw [HQ.out]; rfl, HB.out⟩
          · have d1 : (n.kids == 1) = false := by rw [beq_eq_false_iff_ne]; exact c1
            have HQ : Hid ((Vl.kidsOf s (x :: l) n).isSome = false) := Lib.hid (by rw [HE.out]; simp [Vl.plain, Vl.wraps, Vl.wholeOf, e6, a0, a1, a2, show ¬ (0 ≤ n.kids ∧ n.kids ≤ 1) by omega])
            clear HE HF HN G1 HX h1 h7
            go_wp2_with fail
            go_ret
            exact ⟨by rw [HQ.out]; rfl, HB.out⟩
      · have b1 : ¬ n.int = 0 := by omega
        have HQ : Hid ((Vl.kidsOf s (x :: l) n).isSome = false) := Lib.hid (by rw [HE.out]; simp [Vl.plain, Vl.wraps, Vl.wholeOf, e6, a0, a1])
        clear HE HF HN G1 HX h1 h7
        go_wp2_with fail
        go_ret
        exact ⟨by rw [HQ.out]; rfl, HB.out⟩
    · have b0 : ¬ (n.kind : Int) = 6 := by omega
      have HQ : Hid ((Vl.kidsOf s (x :: l) n).isSome = false) := Lib.hid (by rw [HE.out]; simp [Vl.plain, Vl.wraps, Vl.wholeOf, e6, a0])
      clear HE HF HN G1 HX h1 h7
      go_wp2_with fail
      go_ret
      exact ⟨by rw [HQ.out]; rfl, HB.out⟩
  exact absurd (show x.kind = 7 by omega) e7
end Go.Proofs.YtnkdhmoocomjfaaGreatDoor
