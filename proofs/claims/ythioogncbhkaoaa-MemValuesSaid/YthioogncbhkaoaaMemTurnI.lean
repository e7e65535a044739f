/-
  Walks over a table's tree, values of type int: turnLeft, turnRight, balance. Conditions: those in the theorems.
-/
import Derived.Test.YthioogncbhkaoaaMemNodeI
namespace Go.Proofs.Ythioogncbhkaoaa.MI
open Go.RowKit

theorem cell_below {w w' : World} {a j : Nat} {v : Value} (h : w.cell? ⟨a, j, none⟩ = some v) (hb : Below w.heap.size w w') : w'.cell? ⟨a, j, none⟩ = some v := by
  have hlt : a < w.heap.size := by
    unfold World.cell? at h
    cases ho : w.heap[a]? with
    | none => simp [ho] at h
    | some o => exact (Array.getElem?_eq_some_iff.1 ho).1
  exact (hb.cell (p := ⟨a, j, none⟩) hlt).trans h
theorem kept_drewN (w : World) (n : Nat) : Kept w (w.drewN n) := ⟨Nat.le_refl _, fun _ _ => rfl⟩
theorem kept_drew (w : World) : Kept w w.drew := ⟨Nat.le_refl _, fun _ _ => rfl⟩
theorem below_two {w w1 w2 : World} (h : Below w.heap.size w w1) (k : Below w1.heap.size w1 w2) : Below w.heap.size w w2 := h.trans (k.mono h.size)

theorem sees2 {w w2 : World} {a b i j : Nat} {x y : Value} (h : w.cell? ⟨a, i, none⟩ = some x) (k : w.cell? ⟨b, j, none⟩ = some y) (hB : Below w.heap.size w w2) :
    w2.cell? ⟨a, i, none⟩ = some x ∧ w2.cell? ⟨b, j, none⟩ = some y ∧ Below w.heap.size w w2 := ⟨cell_below h hB, cell_below k hB, hB⟩
theorem sees5 {w w2 : World} {a b i i' i'' j j' : Nat} {x x' x'' y y' : Value} (h : w.cell? ⟨a, i, none⟩ = some x) (h' : w.cell? ⟨a, i', none⟩ = some x') (h'' : w.cell? ⟨a, i'', none⟩ = some x'') (k : w.cell? ⟨b, j, none⟩ = some y)
    (k' : w.cell? ⟨b, j', none⟩ = some y') (hB : Below w.heap.size w w2) :
    w2.cell? ⟨a, i, none⟩ = some x ∧ w2.cell? ⟨a, i', none⟩ = some x' ∧ w2.cell? ⟨a, i'', none⟩ = some x'' ∧ w2.cell? ⟨b, j, none⟩ = some y ∧ w2.cell? ⟨b, j', none⟩ = some y' ∧ Below w.heap.size w w2 :=
  ⟨cell_below h hB, cell_below h' hB, cell_below h'' hB, cell_below k hB, cell_below k' hB, hB⟩
theorem weight_drew {w : World} {t : Mm.Tr} {p : Value} (h : At w t p) (ht : t.count ≤ 1000000000) {q : Int} (hq : ((t.count + 1 : Nat) : Int) = q) (n : Nat) :
    Calls Try.prog 73 #[p] (w.drewN n) fun e w' => e = .returned (.int .i64 q) ∧ w' = w.drewN n := by
  rw [← hq]; exact (weight_at (h.kept (kept_drewN w n)) ht).mono fun _ _ ⟨x, y⟩ => ⟨x, y.symm⟩
theorem below_drewN (w : World) (n : Nat) : Below w.heap.size w (w.drewN n) := ⟨rfl, rfl, rfl, Nat.le_refl _, fun _ _ => rfl⟩
theorem count_node (l : Mm.Tr) (k : ByteArray) (v : Value) (r : Mm.Tr) : (Mm.Tr.node l k v r).count = l.count + 1 + r.count := rfl

set_option maxRecDepth 100000 in
set_option maxHeartbeats 4000000 in
theorem turnLeft_one {w : World} {near m far : Mm.Tr} {pn ph : Value} {i : Nat} {k hk : ByteArray} {v hv : Value} (hl : At w near pn) (hr : At w (.node m hk hv far) ph) (hi : Item w i k v) (hn : near.count + (m.count + 1 + far.count) ≤ 1000000)
    (hlt : m.count + 1 < 2 * (far.count + 1)) :
    Calls Try.prog 74 #[pn, .pointer (some ⟨i, 0, none⟩), ph] w (Gives w (.node (.node near k v m) hk hv far)) := by
  obtain ⟨a, ri, p1, p2, rfl, hrow, hri, q1, q2⟩ := hr
  obtain ⟨c0, c1, c2, -⟩ := cells4 hrow
  obtain ⟨o1, rfl⟩ := q1.ptr
  obtain ⟨o2, rfl⟩ := q2.ptr
  obtain ⟨ol, rfl⟩ := hl.ptr
  have HL := Lib.hid hl
  have HM := Lib.hid q1
  have HR := Lib.hid q2
  have HI := Lib.hid hi
  have HRI := Lib.hid hri
  clear hl q1 q2 hi hri hrow
  have d1 : decide (((m.count + 1 : Nat) : Int) < 2 * ((far.count + 1 : Nat) : Int)) = true := decide_eq_true (by omega)
  have HN := Lib.hid hn
  have b1 : (0 : Int) ≤ ((far.count + 1 : Nat) : Int) := by omega
  have b2 : ((far.count + 1 : Nat) : Int) ≤ 1000001 := by omega
  clear hn hlt
  generalize hq1 : ((far.count + 1 : Nat) : Int) = z1 at *
  generalize hq2 : ((m.count + 1 : Nat) : Int) = z2 at *
  have HW1 := Lib.hid (weight_drew HR.out (by have := HN.out; omega) hq1)
  have HW2 := Lib.hid (weight_drew HM.out (by have := HN.out; omega) hq2)
  clear hq1 hq2
  have d2 : IntKind.i64.wrap (2 * z1) = 2 * z1 := IntWalk.i64_in _ (by omega)
  go_enter Try.func74, Try.ntmps74
  go_wp2_with fail
  go_quiet ((go_at_call 73; (first | exact Calls.quiet_of_same (HW2.out _) | exact Calls.quiet_of_same (HW1.out _))))
  go_wp2_with fail
  have hB0 : Below w.heap.size w (w.drewN nq) := below_drewN w nq
  generalize w.drewN nq = W at *
  have e0 := cell_below c0 hB0
  have e2 := cell_below c2 hB0
  have HC0 := Lib.hid c0
  have HC2 := Lib.hid c2
  clear c0 c1 c2 d1 d2 b1 b2 HW1 HW2
  go_region_held3 (fun w' => w'.cell? ⟨a, 0, none⟩ = some (.pointer (some ⟨ri, 0, none⟩)) ∧ w'.cell? ⟨a, 2, none⟩ = some (.pointer o2) ∧ Below w.heap.size w w')
    (first | exact ⟨e0, e2, hB0.drew⟩ | exact sees2 HC0.out HC2.out (below_two hB0.drew hb3) | exact sees2 HC0.out HC2.out (below_two (below_two hB0.drew hb3) hb4))
    (first
      | (go_at_call 63; (with_reducible refine (join_at (HL.out.below hB0.drew) (HM.out.below hB0.drew) (HI.out.below hB0.drew) (by have := HN.out; omega)).mono ?_); rintro e w3 ⟨p3, rfl, ha3, hb3⟩)
      | (go_at_call 63; (with_reducible refine (join_at ha3 (HR.out.below (below_two hB0.drew hb3)) (HRI.out.below (below_two hB0.drew hb3)) (by have := HN.out; simp only [count_node]; omega)).mono ?_); rintro e w4 ⟨p4, rfl, ha4, hb4⟩)
      | fail)
  go_wp2_with fail
  go_ret
  exact ⟨_, rfl, ha4, below_two (below_two hB0.drew hb3) hb4⟩
set_option maxRecDepth 100000 in
set_option maxHeartbeats 8000000 in
theorem turnLeft_two {w : World} {near x y far : Mm.Tr} {pn ph : Value} {i : Nat} {k hk mk : ByteArray} {v hv mv : Value} (hl : At w near pn) (hr : At w (.node (.node x mk mv y) hk hv far) ph) (hi : Item w i k v)
    (hn : near.count + (x.count + 1 + y.count + 1 + far.count) ≤ 1000000) (hlt : ¬ x.count + 1 + y.count + 1 < 2 * (far.count + 1)) :
    Calls Try.prog 74 #[pn, .pointer (some ⟨i, 0, none⟩), ph] w (Gives w (.node (.node near k v x) mk mv (.node y hk hv far))) := by
  obtain ⟨a, ri, p1, p2, rfl, hrow, hri, q1, q2⟩ := hr
  obtain ⟨c0, c1, c2, -⟩ := cells4 hrow
  have q1' := q1
  obtain ⟨b, mi, px, py, e, hrow2, hmi, qx, qy⟩ := q1'
  subst e
  obtain ⟨x0, x1, x2, -⟩ := cells4 hrow2
  obtain ⟨o2, rfl⟩ := q2.ptr
  obtain ⟨ox, rfl⟩ := qx.ptr
  obtain ⟨oy, rfl⟩ := qy.ptr
  obtain ⟨ol, rfl⟩ := hl.ptr
  have HL := Lib.hid hl
  have HM := Lib.hid q1
  have HR := Lib.hid q2
  have HX := Lib.hid qx
  have HY := Lib.hid qy
  have HI := Lib.hid hi
  have HRI := Lib.hid hri
  have HMI := Lib.hid hmi
  clear hl q1 q2 hi hri hrow hrow2 hmi qx qy
  have d1 : decide (((x.count + 1 + y.count + 1 : Nat) : Int) < 2 * ((far.count + 1 : Nat) : Int)) = false := decide_eq_false (by omega)
  have HN := Lib.hid hn
  have b1 : (0 : Int) ≤ ((far.count + 1 : Nat) : Int) := by omega
  have b2 : ((far.count + 1 : Nat) : Int) ≤ 1000001 := by omega
  clear hn hlt
  generalize hq1 : ((far.count + 1 : Nat) : Int) = z1 at *
  generalize hq2 : ((x.count + 1 + y.count + 1 : Nat) : Int) = z2 at *
  have HW1 := Lib.hid (weight_drew HR.out (by have := HN.out; omega) hq1)
  have HW2 := Lib.hid (weight_drew HM.out (by have := HN.out; simp only [count_node]; omega) hq2)
  clear hq1 hq2
  have d2 : IntKind.i64.wrap (2 * z1) = 2 * z1 := IntWalk.i64_in _ (by omega)
  go_enter Try.func74, Try.ntmps74
  go_wp2_with fail
  go_quiet ((go_at_call 73; (first | exact Calls.quiet_of_same (HW2.out _) | exact Calls.quiet_of_same (HW1.out _))))
  go_wp2_with fail
  have hB0 : Below w.heap.size w (w.drewN nq) := below_drewN w nq
  generalize w.drewN nq = W at *
  have e0 := cell_below c0 hB0
  have e2 := cell_below c2 hB0
  have f0 := cell_below x0 hB0
  have f1 := cell_below x1 hB0
  have f2 := cell_below x2 hB0
  have HC0 := Lib.hid c0
  have HC2 := Lib.hid c2
  have HX0 := Lib.hid x0
  have HX1 := Lib.hid x1
  have HX2 := Lib.hid x2
  clear c0 c1 c2 d1 d2 b1 b2 HW1 HW2 x0 x1 x2 HM
  go_region_held3 (fun w' => w'.cell? ⟨b, 0, none⟩ = some (.pointer (some ⟨mi, 0, none⟩)) ∧ w'.cell? ⟨b, 1, none⟩ = some (.pointer ox) ∧ w'.cell? ⟨b, 2, none⟩ = some (.pointer oy) ∧ w'.cell? ⟨a, 0, none⟩ = some (.pointer (some ⟨ri, 0, none⟩)) ∧ w'.cell? ⟨a, 2, none⟩ = some (.pointer o2) ∧ Below w.heap.size w w')
    (first
      | exact ⟨f0, f1, f2, e0, e2, hB0.drew⟩
      | exact sees5 HX0.out HX1.out HX2.out HC0.out HC2.out (below_two hB0.drew hb3) | exact sees5 HX0.out HX1.out HX2.out HC0.out HC2.out (below_two hB0.drew hb4)
      | exact sees5 HX0.out HX1.out HX2.out HC0.out HC2.out (below_two (below_two hB0.drew hb3) hb4) | exact sees5 HX0.out HX1.out HX2.out HC0.out HC2.out (below_two (below_two hB0.drew hb4) hb3)
      | exact sees5 HX0.out HX1.out HX2.out HC0.out HC2.out (below_two (below_two (below_two hB0.drew hb3) hb4) hb5) | exact sees5 HX0.out HX1.out HX2.out HC0.out HC2.out (below_two (below_two (below_two hB0.drew hb4) hb3) hb5))
    (first
      | (go_at_call 63; (with_reducible refine (join_at (HL.out.below hB0.drew) (HX.out.below hB0.drew) (HI.out.below hB0.drew) (by have := HN.out; omega)).mono ?_); rintro e w3 ⟨p3, rfl, ha3, hb3⟩)
      | (go_at_call 63; (with_reducible refine (join_at (HL.out.below (below_two hB0.drew hb4)) (HX.out.below (below_two hB0.drew hb4)) (HI.out.below (below_two hB0.drew hb4)) (by have := HN.out; omega)).mono ?_); rintro e w3 ⟨p3, rfl, ha3, hb3⟩)
      | (go_at_call 63; (with_reducible refine (join_at (HY.out.below hB0.drew) (HR.out.below hB0.drew) (HRI.out.below hB0.drew) (by have := HN.out; omega)).mono ?_); rintro e w4 ⟨p4, rfl, ha4, hb4⟩)
      | (go_at_call 63; (with_reducible refine (join_at (HY.out.below (below_two hB0.drew hb3)) (HR.out.below (below_two hB0.drew hb3)) (HRI.out.below (below_two hB0.drew hb3)) (by have := HN.out; omega)).mono ?_); rintro e w4 ⟨p4, rfl, ha4, hb4⟩)
      | (go_at_call 63; (with_reducible refine (join_at (ha3.below hb4) ha4 (HMI.out.below (below_two (below_two hB0.drew hb3) hb4)) (by have := HN.out; simp only [count_node]; omega)).mono ?_); rintro e w5 ⟨p5, rfl, ha5, hb5⟩)
      | (go_at_call 63; (with_reducible refine (join_at ha3 (ha4.below hb3) (HMI.out.below (below_two (below_two hB0.drew hb4) hb3)) (by have := HN.out; simp only [count_node]; omega)).mono ?_); rintro e w5 ⟨p5, rfl, ha5, hb5⟩)
      | fail)
  all_goals
    go_wp2_with fail
    go_ret
    first
      | exact ⟨_, rfl, ha5, below_two (below_two (below_two hB0.drew hb3) hb4) hb5⟩
      | exact ⟨_, rfl, ha5, below_two (below_two (below_two hB0.drew hb4) hb3) hb5⟩
set_option maxRecDepth 100000 in
set_option maxHeartbeats 4000000 in
theorem turnRight_one {w : World} {near m far : Mm.Tr} {pn ph : Value} {i : Nat} {k hk : ByteArray} {v hv : Value} (hl : At w near pn) (hr : At w (.node far hk hv m) ph) (hi : Item w i k v) (hn : near.count + (m.count + 1 + far.count) ≤ 1000000)
    (hlt : m.count + 1 < 2 * (far.count + 1)) :
    Calls Try.prog 75 #[ph, .pointer (some ⟨i, 0, none⟩), pn] w (Gives w (.node far hk hv (.node m k v near))) := by
  obtain ⟨a, ri, p1, p2, rfl, hrow, hri, q1, q2⟩ := hr
  obtain ⟨c0, c1, c2, -⟩ := cells4 hrow
  obtain ⟨o1, rfl⟩ := q1.ptr
  obtain ⟨o2, rfl⟩ := q2.ptr
  obtain ⟨ol, rfl⟩ := hl.ptr
  have HL := Lib.hid hl
  have HM := Lib.hid q2
  have HR := Lib.hid q1
  have HI := Lib.hid hi
  have HRI := Lib.hid hri
  clear hl q1 q2 hi hri hrow
  have d1 : decide (((m.count + 1 : Nat) : Int) < 2 * ((far.count + 1 : Nat) : Int)) = true := decide_eq_true (by omega)
  have HN := Lib.hid hn
  have b1 : (0 : Int) ≤ ((far.count + 1 : Nat) : Int) := by omega
  have b2 : ((far.count + 1 : Nat) : Int) ≤ 1000001 := by omega
  clear hn hlt
  generalize hq1 : ((far.count + 1 : Nat) : Int) = z1 at *
  generalize hq2 : ((m.count + 1 : Nat) : Int) = z2 at *
  have HW1 := Lib.hid (weight_drew HR.out (by have := HN.out; omega) hq1)
  have HW2 := Lib.hid (weight_drew HM.out (by have := HN.out; omega) hq2)
  clear hq1 hq2
  have d2 : IntKind.i64.wrap (2 * z1) = 2 * z1 := IntWalk.i64_in _ (by omega)
  go_enter Try.func75, Try.ntmps75
  go_wp2_with fail
  go_quiet ((go_at_call 73; (first | exact Calls.quiet_of_same (HW2.out _) | exact Calls.quiet_of_same (HW1.out _))))
  go_wp2_with fail
  have hB0 : Below w.heap.size w (w.drewN nq) := below_drewN w nq
  generalize w.drewN nq = W at *
  have e0 := cell_below c0 hB0
  have e2 := cell_below c1 hB0
  have HC0 := Lib.hid c0
  have HC2 := Lib.hid c1
  clear c0 c1 c2 d1 d2 b1 b2 HW1 HW2
  go_region_held3 (fun w' => w'.cell? ⟨a, 0, none⟩ = some (.pointer (some ⟨ri, 0, none⟩)) ∧ w'.cell? ⟨a, 1, none⟩ = some (.pointer o1) ∧ Below w.heap.size w w')
    (first | exact ⟨e0, e2, hB0.drew⟩ | exact sees2 HC0.out HC2.out (below_two hB0.drew hb3) | exact sees2 HC0.out HC2.out (below_two (below_two hB0.drew hb3) hb4))
    (first
      | (go_at_call 63; (with_reducible refine (join_at (HM.out.below hB0.drew) (HL.out.below hB0.drew) (HI.out.below hB0.drew) (by have := HN.out; omega)).mono ?_); rintro e w3 ⟨p3, rfl, ha3, hb3⟩)
      | (go_at_call 63; (with_reducible refine (join_at (HR.out.below (below_two hB0.drew hb3)) ha3 (HRI.out.below (below_two hB0.drew hb3)) (by have := HN.out; simp only [count_node]; omega)).mono ?_); rintro e w4 ⟨p4, rfl, ha4, hb4⟩)
      | fail)
  go_wp2_with fail
  go_ret
  exact ⟨_, rfl, ha4, below_two (below_two hB0.drew hb3) hb4⟩
set_option maxRecDepth 100000 in
set_option maxHeartbeats 8000000 in
theorem turnRight_two {w : World} {near x y far : Mm.Tr} {pn ph : Value} {i : Nat} {k hk mk : ByteArray} {v hv mv : Value} (hl : At w near pn) (hr : At w (.node far hk hv (.node x mk mv y)) ph) (hi : Item w i k v)
    (hn : near.count + (x.count + 1 + y.count + 1 + far.count) ≤ 1000000) (hlt : ¬ x.count + 1 + y.count + 1 < 2 * (far.count + 1)) :
    Calls Try.prog 75 #[ph, .pointer (some ⟨i, 0, none⟩), pn] w (Gives w (.node (.node far hk hv x) mk mv (.node y k v near))) := by
  obtain ⟨a, ri, p1, p2, rfl, hrow, hri, q1, q2⟩ := hr
  obtain ⟨c0, c1, c2, -⟩ := cells4 hrow
  have q2' := q2
  obtain ⟨b, mi, px, py, e, hrow2, hmi, qx, qy⟩ := q2'
  subst e
  obtain ⟨x0, x1, x2, -⟩ := cells4 hrow2
  obtain ⟨o1, rfl⟩ := q1.ptr
  obtain ⟨ox, rfl⟩ := qx.ptr
  obtain ⟨oy, rfl⟩ := qy.ptr
  obtain ⟨ol, rfl⟩ := hl.ptr
  have HL := Lib.hid hl
  have HM := Lib.hid q2
  have HR := Lib.hid q1
  have HX := Lib.hid qx
  have HY := Lib.hid qy
  have HI := Lib.hid hi
  have HRI := Lib.hid hri
  have HMI := Lib.hid hmi
  clear hl q1 q2 hi hri hrow hrow2 hmi qx qy
  have d1 : decide (((x.count + 1 + y.count + 1 : Nat) : Int) < 2 * ((far.count + 1 : Nat) : Int)) = false := decide_eq_false (by omega)
  have HN := Lib.hid hn
  have b1 : (0 : Int) ≤ ((far.count + 1 : Nat) : Int) := by omega
  have b2 : ((far.count + 1 : Nat) : Int) ≤ 1000001 := by omega
  clear hn hlt
  generalize hq1 : ((far.count + 1 : Nat) : Int) = z1 at *
  generalize hq2 : ((x.count + 1 + y.count + 1 : Nat) : Int) = z2 at *
  have HW1 := Lib.hid (weight_drew HR.out (by have := HN.out; omega) hq1)
  have HW2 := Lib.hid (weight_drew HM.out (by have := HN.out; simp only [count_node]; omega) hq2)
  clear hq1 hq2
  have d2 : IntKind.i64.wrap (2 * z1) = 2 * z1 := IntWalk.i64_in _ (by omega)
  go_enter Try.func75, Try.ntmps75
  go_wp2_with fail
  go_quiet ((go_at_call 73; (first | exact Calls.quiet_of_same (HW2.out _) | exact Calls.quiet_of_same (HW1.out _))))
  go_wp2_with fail
  have hB0 : Below w.heap.size w (w.drewN nq) := below_drewN w nq
  generalize w.drewN nq = W at *
  have e0 := cell_below c0 hB0
  have e2 := cell_below c1 hB0
  have f0 := cell_below x0 hB0
  have f1 := cell_below x1 hB0
  have f2 := cell_below x2 hB0
  have HC0 := Lib.hid c0
  have HC2 := Lib.hid c1
  have HX0 := Lib.hid x0
  have HX1 := Lib.hid x1
  have HX2 := Lib.hid x2
  clear c0 c1 c2 d1 d2 b1 b2 HW1 HW2 x0 x1 x2 HM
  go_region_held3 (fun w' => w'.cell? ⟨b, 0, none⟩ = some (.pointer (some ⟨mi, 0, none⟩)) ∧ w'.cell? ⟨b, 1, none⟩ = some (.pointer ox) ∧ w'.cell? ⟨b, 2, none⟩ = some (.pointer oy) ∧ w'.cell? ⟨a, 0, none⟩ = some (.pointer (some ⟨ri, 0, none⟩)) ∧ w'.cell? ⟨a, 1, none⟩ = some (.pointer o1) ∧ Below w.heap.size w w')
    (first
      | exact ⟨f0, f1, f2, e0, e2, hB0.drew⟩
      | exact sees5 HX0.out HX1.out HX2.out HC0.out HC2.out (below_two hB0.drew hb3) | exact sees5 HX0.out HX1.out HX2.out HC0.out HC2.out (below_two hB0.drew hb4)
      | exact sees5 HX0.out HX1.out HX2.out HC0.out HC2.out (below_two (below_two hB0.drew hb3) hb4) | exact sees5 HX0.out HX1.out HX2.out HC0.out HC2.out (below_two (below_two hB0.drew hb4) hb3)
      | exact sees5 HX0.out HX1.out HX2.out HC0.out HC2.out (below_two (below_two (below_two hB0.drew hb3) hb4) hb5) | exact sees5 HX0.out HX1.out HX2.out HC0.out HC2.out (below_two (below_two (below_two hB0.drew hb4) hb3) hb5))
    (first
      | (go_at_call 63; (with_reducible refine (join_at (HR.out.below hB0.drew) (HX.out.below hB0.drew) (HRI.out.below hB0.drew) (by have := HN.out; omega)).mono ?_); rintro e w3 ⟨p3, rfl, ha3, hb3⟩)
      | (go_at_call 63; (with_reducible refine (join_at (HR.out.below (below_two hB0.drew hb4)) (HX.out.below (below_two hB0.drew hb4)) (HRI.out.below (below_two hB0.drew hb4)) (by have := HN.out; omega)).mono ?_); rintro e w3 ⟨p3, rfl, ha3, hb3⟩)
      | (go_at_call 63; (with_reducible refine (join_at (HY.out.below hB0.drew) (HL.out.below hB0.drew) (HI.out.below hB0.drew) (by have := HN.out; omega)).mono ?_); rintro e w4 ⟨p4, rfl, ha4, hb4⟩)
      | (go_at_call 63; (with_reducible refine (join_at (HY.out.below (below_two hB0.drew hb3)) (HL.out.below (below_two hB0.drew hb3)) (HI.out.below (below_two hB0.drew hb3)) (by have := HN.out; omega)).mono ?_); rintro e w4 ⟨p4, rfl, ha4, hb4⟩)
      | (go_at_call 63; (with_reducible refine (join_at (ha3.below hb4) ha4 (HMI.out.below (below_two (below_two hB0.drew hb3) hb4)) (by have := HN.out; simp only [count_node]; omega)).mono ?_); rintro e w5 ⟨p5, rfl, ha5, hb5⟩)
      | (go_at_call 63; (with_reducible refine (join_at ha3 (ha4.below hb3) (HMI.out.below (below_two (below_two hB0.drew hb4) hb3)) (by have := HN.out; simp only [count_node]; omega)).mono ?_); rintro e w5 ⟨p5, rfl, ha5, hb5⟩)
      | fail)
  all_goals
    go_wp2_with fail
    go_ret
    first
      | exact ⟨_, rfl, ha5, below_two (below_two (below_two hB0.drew hb3) hb4) hb5⟩
      | exact ⟨_, rfl, ha5, below_two (below_two (below_two hB0.drew hb4) hb3) hb5⟩
end Go.Proofs.Ythioogncbhkaoaa.MI
