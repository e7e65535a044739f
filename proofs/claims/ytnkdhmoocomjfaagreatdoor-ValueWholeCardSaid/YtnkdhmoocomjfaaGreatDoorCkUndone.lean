/-
  Walks over package check: undone; a number's text. Conditions: those in the theorems.
-/
import Derived.Test.YtnkdhmoocomjfaaGreatDoorCkOrder
set_option linter.unusedSimpArgs false
set_option linter.unusedVariables false
namespace Go.Proofs.YtnkdhmoocomjfaaGreatDoor
open Go.RowKit
set_option maxRecDepth 100000 in
set_option maxHeartbeats 8000000 in
theorem undone_any {u w : World} {vv : Value} {x : Ip.Srv} (h : SrvV u vv x) (hu : Kp u w) (m : Ip.Mth) : Calls Tryz.prog 132 #[vv, mthV m] w fun e w' => e = .returned (.bool (Ck.undone x m)) ∧ Below w.heap.size w w' := by
  have HV := Lib.hid h
  obtain ⟨p1, c1, rfl, -, hr⟩ := h
  obtain ⟨_, _, e1, l1⟩ := ro_len hr
  cases e1
  obtain ⟨mn, ma, mr, me, mu⟩ := m
  unfold mthV
  simp only
  obtain ⟨W0, hW0⟩ : ∃ W0, W0 = allocs w [.cells #[.string x.name, .slice p1 x.methods.length c1] 98, .cells #[.string mn, .string ma, .int .u8 (mr : Nat), .string me, .string mu] 100] := ⟨_, rfl⟩
  have HX : Hid (∀ W, Below W0.heap.size W0 W → W.heap[w.heap.size + 1]? = some (.cells #[.string mn, .string ma, .int .u8 (mr : Nat), .string me, .string mu] 100 (0, 0)) ∧ Below w.heap.size w W) := Lib.hid (by subst hW0; exact fun W hW => ⟨allocs_box (i := 1) rfl hW, allocs_on hW⟩)
  have hb0 : W0.heap[w.heap.size]? = some (.cells #[.string x.name, .slice p1 x.methods.length c1] 98 (0, 0)) := by subst hW0; exact allocs_box (i := 0) rfl (Below.refl _ _)
  obtain ⟨x0, x1⟩ := cells2 hb0
  obtain ⟨hb1, B0⟩ := HX.out W0 (Below.refl _ _)
  obtain ⟨y0, y1, y2, y3, y4⟩ := cells5 hb1
  have HU0 := Lib.hid (hu.below B0)
  clear hr hu hb0 hb1 B0
  simp only [allocs] at hW0
  go_enter Tryz.func132, Tryz.ntmps132
  go_upto_region 1 with fail
  rw [← hW0]
  clear hW0
  go_wp2_with fail
  refine (methodOf_any HV.out HU0.out mu).mono ?_
  rintro e w1 ⟨v, rfl, ⟨rfl, -⟩, hb1⟩
  have HB9 := Lib.hid hb1
  clear hb1 x0 x1 y0 y1 y2 y3 y4
  have HO : Hid (Ck.undone x ⟨mn, ma, mr, me, mu⟩ = (match Ck.methodOf x mu with
    | some z => Ip.eqB z.arg ma && Ck.empty z.undo && decide (z.result = 1) && Ip.eqB z.effect (Ck.contraryOf me)
    | none => false)) := Lib.hid rfl
  generalize hso : (Ck.methodOf x mu).isSome = so
  generalize hgo : (Ck.methodOf x mu).getD noMth = z
  obtain ⟨zn, za, zr, ze, zu⟩ := z
  unfold mthV
  simp only
  obtain ⟨W2, hW2⟩ : ∃ W2, W2 = w1.alloc (.cells #[.string zn, .string za, .int .u8 (zr : Nat), .string ze, .string zu] 100) := ⟨_, rfl⟩
  have hb2 : Below W0.heap.size W0 W2 := by rw [hW2]; exact HB9.out.trans ((tk_alloc w1 _).mono HB9.out.size)
  have hn2 : W2.heap[w1.heap.size]? = some (.cells #[.string zn, .string za, .int .u8 (zr : Nat), .string ze, .string zu] 100 (0, 0)) := by rw [hW2]; exact heap_alloc_new w1 _
  obtain ⟨z0, z1, z2, z3, z4⟩ := cells5 hn2
  obtain ⟨hm2, B2⟩ := HX.out _ hb2
  obtain ⟨y0, y1, y2, y3, y4⟩ := cells5 hm2
  have HBD : Hid (∀ n, Below w.heap.size w (W2.drewN n)) := Lib.hid fun n => B2.trans ((dn_below W2 n).mono B2.size)
  clear hn2 hb2 hm2 B2
  go_upto_region 2 with fail
  rw [← hW2]
  clear hW2
  cases ho : Ck.methodOf x mu with
  | none =>
    rw [ho] at hso
    have HQ : Hid (Ck.undone x ⟨mn, ma, mr, me, mu⟩ = false) := Lib.hid (by rw [HO.out, ho])
    have hsf : so = false := hso.symm
    subst hsf
    clear ho hso hgo HO
    go_wp2_with fail
    go_quiet (fail)
    go_wp2_with fail
    go_ret
    exact ⟨by rw [HQ.out]; rfl, HBD.out _⟩
  | some z =>
    rw [ho] at hso hgo
    have hsf : so = true := hso.symm
    subst hsf
    have hz : z = ⟨zn, za, zr, ze, zu⟩ := hgo
    subst hz
    have HQ : Hid (Ck.undone x ⟨mn, ma, mr, me, mu⟩ = (Ip.eqB za ma && Ck.empty zu && decide (zr = 1) && Ip.eqB ze (Ck.contraryOf me))) := Lib.hid (by rw [HO.out, ho])
    clear ho hso hgo HO
    have ha := eqB_list za ma
    have hu := empty_is zu
    have hE := eqB_list ze (Ck.contraryOf me)
    cases q1 : Ip.eqB za ma with
    | false =>
      rw [q1] at ha
      have HR : Hid (Ck.undone x ⟨mn, ma, mr, me, mu⟩ = false) := Lib.hid (by rw [HQ.out, q1]; rfl)
      clear hu hE q1
      go_wp2_with fail
      go_quiet (fail)
      go_wp2_with fail
      go_ret
      exact ⟨by rw [HR.out]; rfl, HBD.out _⟩
    | true =>
      rw [q1] at ha
      cases q2 : Ck.empty zu with
      | false =>
        rw [q2] at hu
        have HR : Hid (Ck.undone x ⟨mn, ma, mr, me, mu⟩ = false) := Lib.hid (by rw [HQ.out, q1, q2]; rfl)
        clear hE q1 q2
        go_wp2_with fail
        go_quiet (fail)
        go_wp2_with fail
        go_ret
        exact ⟨by rw [HR.out]; rfl, HBD.out _⟩
      | true =>
        rw [q2] at hu
        by_cases q3 : zr = 1
        · have i3 : ((zr : Int) == 1) = true := by rw [beq_iff_eq]; omega
          have HR : Hid (Ck.undone x ⟨mn, ma, mr, me, mu⟩ = Ip.eqB ze (Ck.contraryOf me)) := Lib.hid (by rw [HQ.out, q1, q2]; simp [q3])
          cases q4 : Ip.eqB ze (Ck.contraryOf me) with
          | true =>
            rw [q4] at hE
            rw [q4] at HR
            clear q1 q2 q3 q4
            go_wp2_with fail
            go_quiet ((go_at_call 130; exact Calls.quiet_of_same (contrary_any me _)))
            go_wp2_with fail
            go_ret
            exact ⟨by rw [HR.out]; rfl, HBD.out _⟩
          | false =>
            rw [q4] at hE
            rw [q4] at HR
            clear q1 q2 q3 q4
            go_wp2_with fail
            go_quiet ((go_at_call 130; exact Calls.quiet_of_same (contrary_any me _)))
            go_wp2_with fail
            go_ret
            exact ⟨by rw [HR.out]; rfl, HBD.out _⟩
        · have i3 : ((zr : Int) == 1) = false := by rw [beq_eq_false_iff_ne]; omega
          have HR : Hid (Ck.undone x ⟨mn, ma, mr, me, mu⟩ = false) := Lib.hid (by rw [HQ.out, q1, q2]; simp [q3])
          clear hE q1 q2 q3
          go_wp2_with fail
          go_quiet (fail)
          go_wp2_with fail
          go_ret
          exact ⟨by rw [HR.out]; rfl, HBD.out _⟩
/-! ### one digit's text -/
theorem small_any {k : Nat} (hk : k < 10) (w : World) : Calls Tryz.prog 194 #[.int .i64 (k : Nat)] w fun e w' => e = .returned (.string (Ck.num k)) ∧ w' = w := by
  have hk2 : k = 0 ∨ k = 1 ∨ k = 2 ∨ k = 3 ∨ k = 4 ∨ k = 5 ∨ k = 6 ∨ k = 7 ∨ k = 8 ∨ k = 9 := by omega
  clear hk
  rcases hk2 with rfl | rfl | rfl | rfl | rfl | rfl | rfl | rfl | rfl | rfl <;> (go_enter Tryz.func194, Tryz.ntmps194; go_wp2_with fail; go_ret; exact ⟨by kernel_rfl, rfl⟩)
theorem format_any {k : Nat} (hk : k < 10) (w : World) : Calls Tryz.prog 190 #[.int .i64 (k : Nat), .int .i64 10] w fun e w' => e = .returned (.string (Ck.num k)) ∧ w' = w := by
  have HC := Lib.hid (small_any hk w)
  have i0 : (0 : Int) ≤ (k : Int) := by omega
  have i1 : (k : Int) < 100 := by omega
  clear hk
  go_enter Tryz.func190, Tryz.ntmps190
  go_wp2_with fail
  refine HC.out.mono ?_
  rintro e w' ⟨rfl, rfl⟩
  go_wp2_with fail
  go_ret
  exact ⟨rfl, rfl⟩
theorem itoa1_any {k : Nat} (hk : k < 10) (w : World) : Calls Tryz.prog 178 #[.int .i64 (k : Nat)] w fun e w' => e = .returned (.string (Ck.num k)) ∧ w' = w := by
  have HC := Lib.hid (format_any hk w)
  have i0 : (0 : Int) ≤ (k : Int) := by omega
  have i1 : (k : Int) < 100 := by omega
  clear hk
  go_enter Tryz.func178, Tryz.ntmps178
  go_wp2_with fail
  refine HC.out.mono ?_
  rintro e w' ⟨rfl, rfl⟩
  go_wp2_with fail
  go_ret
  exact ⟨rfl, rfl⟩
theorem itoa_any {k : Nat} (hk : k < 10) (w : World) : Calls Tryz.prog 135 #[.int .i64 (k : Nat)] w fun e w' => e = .returned (.string (Ck.num k)) ∧ w' = w := by
  have HC := Lib.hid (itoa1_any hk w)
  have i0 : (0 : Int) ≤ (k : Int) := by omega
  have i1 : (k : Int) < 100 := by omega
  clear hk
  go_enter Tryz.func135, Tryz.ntmps135
  go_wp2_with fail
  refine HC.out.mono ?_
  rintro e w' ⟨rfl, rfl⟩
  go_wp2_with fail
  go_ret
  exact ⟨rfl, rfl⟩
end Go.Proofs.YtnkdhmoocomjfaaGreatDoor
