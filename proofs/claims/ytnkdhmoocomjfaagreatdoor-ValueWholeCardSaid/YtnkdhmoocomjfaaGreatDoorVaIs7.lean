/-
  Walks over package value: which parts may be of a record's or choice's type. Conditions: those in the theorems.
-/
import Derived.Test.YtnkdhmoocomjfaaGreatDoorVaType
set_option linter.unusedSimpArgs false
set_option linter.unusedVariables false
namespace Go.Proofs.YtnkdhmoocomjfaaGreatDoor
open Go.RowKit
def ndV (n : Vl.Nd) : Value := .agg #[.int .u8 (n.kind : Nat), .int .i64 n.int, .string n.text, .int .i64 n.kids]
def ndO (n : Vl.Nd) : Obj := .cells #[.int .u8 (n.kind : Nat), .int .i64 n.int, .string n.text, .int .i64 n.kids] 71 (0, 0)
set_option maxRecDepth 100000 in
set_option maxHeartbeats 4000000 in
theorem is7_any {u w : World} {s : Ip.Sch} {fv tv : Value} {x : Ip.So} {l : List Ip.So} (hf : FinderIs u s w fv) (ht : RoSo u tv (x :: l)) (hu : Kp u w) (h7 : x.kind = 7) {r : Ip.Rcd} (hr : Ck.find s x.name = some r) (hrl : r.fields.length ≤ 1000) (n : Vl.Nd) : Calls Tryz.prog 159 #[fv, ndV n, tv] w fun e w' => e = .returned (.bool (Vl.kidsOf s (x :: l) n).isSome) ∧ Below w.heap.size w w' := by
  obtain ⟨p, c, rfl, -, -⟩ := RoIs.shape ht
  obtain ⟨W0, hW0⟩ : ∃ W0, W0 = allocs w [ndO n] := ⟨_, rfl⟩
  have HX : Hid (∀ V, Below W0.heap.size W0 V → V.heap[w.heap.size]? = some (ndO n) ∧ Below w.heap.size w V) := Lib.hid (by subst hW0; exact fun V hV => ⟨allocs_box (i := 0) rfl hV, allocs_on hV⟩)
  obtain ⟨b0, B0⟩ := HX.out W0 (Below.refl _ _)
  obtain ⟨C, c3, e3, hC, g0, g1, hin⟩ := so_at (i := 0) (ht.kp (hu.below B0)) (by simp)
  cases e3
  have k0 : W0.cell? C = some (.int .u8 7) := by have := g0; unfold Addr.add at this; simpa [h7] using this
  have k1 : W0.cell? (C.add 0) = some (.int .u8 7) := k0
  have g2 : W0.cell? ⟨C.block, C.off + 1, none⟩ = some (.string x.name) := by have := g1; unfold Addr.add at this; simpa using this
  have g3 : W0.cell? ⟨(C.add 0).block, (C.add 0).off + 1, none⟩ = some (.string x.name) := g2
  have hl0 : (0 : Int) < ((x :: l).length : Int) := by simp
  have HB := Lib.hid B0
  obtain ⟨cf, bf, nf, gf, rfl, f2, f3, f4⟩ := hf.below B0
  have HF := Lib.hid (find1_any f2 f3 f4 (x := x.name) hin.2)
  rw [hr] at HF
  have HE : Hid (Vl.kidsOf s (x :: l) n = if Ck.empty n.text = false then none else Vl.wholeOf r n) := Lib.hid (by
    rw [Vl.kidsOf_cons, if_neg (by omega)]
    split
    · rfl
    · rw [if_neg (by omega), hr]; rfl)
  clear hf hu b0 B0 ht g0 g1 hin h7 hr f2 f3 f4
  simp only [allocs, ndO] at hW0
  unfold ndV
  go_enter Tryz.func159, Tryz.ntmps159
  go_upto_region 1 with fail
  rw [← hW0]
  clear hW0
  go_wp2_with fail
  refine Calls.mono HF.out ?_
  rintro e w2 ⟨v, rfl, ⟨p2, k2, rfl, -, -⟩, hb2⟩
  simp only [Option.getD_some, Option.isSome_some]
  obtain ⟨bn, hb0⟩ := HX.out _ hb2
  obtain ⟨W3, hW3⟩ : ∃ W, W = w2.alloc (.cells #[.string r.name, .bool r.choice, .slice p2 r.fields.length k2] 34) := ⟨_, rfl⟩
  have hb3 : Below w2.heap.size w2 W3 := by rw [hW3]; exact tk_alloc w2 _
  have HN3 : Hid (W3.heap[w2.heap.size]? = some (.cells #[.string r.name, .bool r.choice, .slice p2 r.fields.length k2] 34 (0, 0))) := Lib.hid (by rw [hW3]; exact heap_alloc_new w2 _)
  have HB3 := Lib.hid (hb0.trans (hb3.mono hb0.size))
  obtain ⟨y0, y1, y2, y3⟩ := cells4' (box_keep hb3 bn)
  clear bn hb0 hb2 hb3 k0 k1 g2 g3 HF HX HB
  go_upto_region 15 with fail
  rw [← hW3]
  clear hW3
  obtain ⟨z0, z1, z2⟩ := cells3 HN3.out
  cases hc : r.choice with
  | true =>
    rw [hc] at z1
    by_cases a0 : n.kind = 8
    · have b0 : (n.kind : Int) = 8 := by omega
      cases a1 : Ck.empty n.text with
      | false =>
        have b1 : ¬ n.text.toList = [] := fun e => by have := empty_is n.text; rw [e, a1] at this; cases this
        have HQ : Hid ((Vl.kidsOf s (x :: l) n).isSome = false) := Lib.hid (by rw [HE.out]; simp [Vl.wholeOf, hc, a0, a1])
        clear HE
        go_wp2_with fail
        go_ret
        exact ⟨by rw [HQ.out]; rfl, HB3.out⟩
      | true =>
      have b1 : n.text.toList = [] := List.isEmpty_iff.1 ((empty_is n.text).trans a1)
      by_cases a2 : n.kids = 1
      · have b2 : n.kids = 1 := by omega
        by_cases c0 : 0 ≤ n.int
        · by_cases c1 : n.int < (r.fields.length : Int)
          · have c2 : n.int.toNat < r.fields.length := by omega
            have HQ : Hid ((Vl.kidsOf s (x :: l) n).isSome = true) := Lib.hid (by rw [HE.out]; simp [Vl.wholeOf, hc, a0, a1, a2, c0, c2])
            clear HE
            go_wp2_with fail
            go_ret
            exact ⟨by rw [HQ.out]; rfl, HB3.out⟩
          · have c2 : ¬ n.int.toNat < r.fields.length := by omega
            have HQ : Hid ((Vl.kidsOf s (x :: l) n).isSome = false) := Lib.hid (by rw [HE.out]; simp [Vl.wholeOf, hc, a0, a1, a2, c0, c2])
            clear HE
            go_wp2_with fail
            go_ret
            exact ⟨by rw [HQ.out]; rfl, HB3.out⟩
        · skip
          have HQ : Hid ((Vl.kidsOf s (x :: l) n).isSome = false) := Lib.hid (by rw [HE.out]; simp [Vl.wholeOf, hc, a0, a1, a2, c0])
          clear HE
          go_wp2_with fail
          go_ret
          exact ⟨by rw [HQ.out]; rfl, HB3.out⟩
      · have b2 : ¬ n.kids = 1 := by omega
        have HQ : Hid ((Vl.kidsOf s (x :: l) n).isSome = false) := Lib.hid (by rw [HE.out]; simp [Vl.wholeOf, hc, a0, a1, a2])
        clear HE
        go_wp2_with fail
        go_ret
        exact ⟨by rw [HQ.out]; rfl, HB3.out⟩
    · have b0 : ¬ (n.kind : Int) = 8 := by omega
      have HQ : Hid ((Vl.kidsOf s (x :: l) n).isSome = false) := Lib.hid (by rw [HE.out]; simp [Vl.wholeOf, hc, a0])
      clear HE
      go_wp2_with fail
      go_ret
      exact ⟨by rw [HQ.out]; rfl, HB3.out⟩
  | false =>
    rw [hc] at z1
    by_cases a0 : n.kind = 7
    · have b0 : (n.kind : Int) = 7 := by omega
      by_cases a1 : n.int = 0
      · have b1 : n.int = 0 := by omega
        cases a2 : Ck.empty n.text with
        | false =>
          have b2 : ¬ n.text.toList = [] := fun e => by have := empty_is n.text; rw [e, a2] at this; cases this
          have HQ : Hid ((Vl.kidsOf s (x :: l) n).isSome = false) := Lib.hid (by rw [HE.out]; simp [Vl.wholeOf, hc, a0, a1, a2])
          clear HE
          go_wp2_with fail
          go_ret
          exact ⟨by rw [HQ.out]; rfl, HB3.out⟩
        | true =>
        have b2 : n.text.toList = [] := List.isEmpty_iff.1 ((empty_is n.text).trans a2)
        by_cases a3 : n.kids = (r.fields.length : Int)
        · have b3 : n.kids = (r.fields.length : Int) := by omega
          have HQ : Hid ((Vl.kidsOf s (x :: l) n).isSome = true) := Lib.hid (by rw [HE.out]; simp [Vl.wholeOf, hc, a0, a1, a2, a3])
          clear HE
          go_wp2_with fail
          go_ret
          exact ⟨by rw [HQ.out]; rfl, HB3.out⟩
        · have b3 : ¬ n.kids = (r.fields.length : Int) := by omega
          have HQ : Hid ((Vl.kidsOf s (x :: l) n).isSome = false) := Lib.hid (by rw [HE.out]; simp [Vl.wholeOf, hc, a0, a1, a2, a3])
          clear HE
          go_wp2_with fail
          go_ret
          exact ⟨by rw [HQ.out]; rfl, HB3.out⟩
      · have b1 : ¬ n.int = 0 := by omega
        have HQ : Hid ((Vl.kidsOf s (x :: l) n).isSome = false) := Lib.hid (by rw [HE.out]; simp [Vl.wholeOf, hc, a0, a1])
        clear HE
        go_wp2_with fail
        go_ret
        exact ⟨by rw [HQ.out]; rfl, HB3.out⟩
    · have b0 : ¬ (n.kind : Int) = 7 := by omega
      have HQ : Hid ((Vl.kidsOf s (x :: l) n).isSome = false) := Lib.hid (by rw [HE.out]; simp [Vl.wholeOf, hc, a0])
      clear HE
      go_wp2_with fail
      go_ret
      exact ⟨by rw [HQ.out]; rfl, HB3.out⟩
end Go.Proofs.YtnkdhmoocomjfaaGreatDoor
