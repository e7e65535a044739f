/-
  Walks over a table's tree, values of type int: balance, with, first, without, both. Conditions: those in the theorems.
-/
import Derived.Test.YthioogncbhkaoaaMemTurnI
import Derived.Laws.Cover1
namespace Go.Proofs.Ythioogncbhkaoaa.MI
open Go.RowKit

theorem turnLeft_any {w : World} {l r : Mm.Tr} {pl pr : Value} {i : Nat} {k : ByteArray} {v : Value} (hl : At w l pl) (hr : At w r pr) (hi : Item w i k v) (hn : l.count + r.count ≤ 1000000) (h0 : r ≠ .nil) :
    Calls Try.prog 74 #[pl, .pointer (some ⟨i, 0, none⟩), pr] w (Gives w (Mm.turnLeft l k v r)) := by
  cases r with
  | nil => exact absurd rfl h0
  | node m rk rv rr =>
    by_cases hlt : m.count + 1 < 2 * (rr.count + 1)
    · rw [Mm.turnLeft_one _ _ _ _ _ hlt]
      exact turnLeft_one hl hr hi hn hlt
    · cases m with
      | nil => simp only [Mm.Tr.count] at hlt; omega
      | node x mk mv y =>
        rw [Mm.turnLeft_two _ _ _ _ _ _ _ hlt]
        exact turnLeft_two hl hr hi hn hlt
theorem turnRight_any {w : World} {l r : Mm.Tr} {pl pr : Value} {i : Nat} {k : ByteArray} {v : Value} (hl : At w l pl) (hr : At w r pr) (hi : Item w i k v) (hn : l.count + r.count ≤ 1000000) (h0 : l ≠ .nil) :
    Calls Try.prog 75 #[pl, .pointer (some ⟨i, 0, none⟩), pr] w (Gives w (Mm.turnRight l k v r)) := by
  cases l with
  | nil => exact absurd rfl h0
  | node ll lk lv m =>
    by_cases hlt : m.count + 1 < 2 * (ll.count + 1)
    · rw [Mm.turnRight_one _ _ _ _ _ hlt]
      exact turnRight_one hr hl hi (by simp only [count_node] at hn; omega) hlt
    · cases m with
      | nil => simp only [Mm.Tr.count] at hlt; omega
      | node x mk mv y =>
        rw [Mm.turnRight_two _ _ _ _ _ _ _ hlt]
        exact turnRight_two hr hl hi (by simp only [count_node] at hn; omega) hlt

theorem weight_is {w : World} {t : Mm.Tr} {p : Value} (h : At w t p) (ht : t.count ≤ 1000000000) {q : Int} (hq : ((t.count + 1 : Nat) : Int) = q) :
    Calls Try.prog 73 #[p] w fun e w' => e = .returned (.int .i64 q) ∧ w = w' := by
  rw [← hq]; exact weight_at h ht

set_option maxHeartbeats 4000000 in
theorem balance_at {w : World} {l r : Mm.Tr} {pl pr : Value} {i : Nat} {k : ByteArray} {v : Value} (hl : At w l pl) (hr : At w r pr) (hi : Item w i k v) (hn : l.count + r.count ≤ 1000000) :
    Calls Try.prog 64 #[pl, .pointer (some ⟨i, 0, none⟩), pr] w (Gives w (Mm.balance l k v r)) := by
  obtain ⟨ol, rfl⟩ := hl.ptr
  obtain ⟨orr, rfl⟩ := hr.ptr
  have hwl := weight_is hl (by omega) rfl
  have hwr := weight_is hr (by omega) rfl
  have b1 : (0 : Int) ≤ ((l.count + 1 : Nat) : Int) := by omega
  have b2 : ((l.count + 1 : Nat) : Int) ≤ 1000001 := by omega
  have b3 : (0 : Int) ≤ ((r.count + 1 : Nat) : Int) := by omega
  have b4 : ((r.count + 1 : Nat) : Int) ≤ 1000001 := by omega
  by_cases h1 : 3 * (l.count + 1) < r.count + 1
  · have HT := Lib.hid (turnLeft_any hl hr hi hn (fun e => by rw [e] at h1; simp only [Mm.Tr.count] at h1; omega))
    have d1 : decide (3 * ((l.count + 1 : Nat) : Int) < ((r.count + 1 : Nat) : Int)) = true := decide_eq_true (by omega)
    unfold Mm.balance
    rw [if_pos h1]
    clear hl hr hi hn h1
    generalize ((l.count + 1 : Nat) : Int) = z1 at *
    generalize ((r.count + 1 : Nat) : Int) = z2 at *
    go_enter Try.func64, Try.ntmps64
    go_wp2_with fail
    refine hwr.mono ?_
    rintro e w' ⟨rfl, rfl⟩
    go_wp2_with fail
    refine hwl.mono ?_
    rintro e w' ⟨rfl, rfl⟩
    clear hwl hwr
    go_wp2_with fail
    refine HT.out.mono ?_
    rintro e w' ⟨p, rfl, hp⟩
    have HP := Lib.hid hp
    clear hp
    go_wp2_with fail
    go_ret
    exact ⟨_, rfl, HP.out⟩
  · have d1 : decide (3 * ((l.count + 1 : Nat) : Int) < ((r.count + 1 : Nat) : Int)) = false := decide_eq_false (by omega)
    by_cases h2 : 3 * (r.count + 1) < l.count + 1
    · have HT := Lib.hid (turnRight_any hl hr hi hn (fun e => by rw [e] at h2; simp only [Mm.Tr.count] at h2; omega))
      have d2 : decide (3 * ((r.count + 1 : Nat) : Int) < ((l.count + 1 : Nat) : Int)) = true := decide_eq_true (by omega)
      unfold Mm.balance
      rw [if_neg h1, if_pos h2]
      clear hl hr hi hn h1 h2
      generalize ((l.count + 1 : Nat) : Int) = z1 at *
      generalize ((r.count + 1 : Nat) : Int) = z2 at *
      go_enter Try.func64, Try.ntmps64
      go_wp2_with fail
      refine hwr.mono ?_
      rintro e w' ⟨rfl, rfl⟩
      go_wp2_with fail
      refine hwl.mono ?_
      rintro e w' ⟨rfl, rfl⟩
      go_wp2_with fail
      refine hwl.mono ?_
      rintro e w' ⟨rfl, rfl⟩
      go_wp2_with fail
      refine hwr.mono ?_
      rintro e w' ⟨rfl, rfl⟩
      clear hwl hwr
      go_wp2_with fail
      refine HT.out.mono ?_
      rintro e w' ⟨p, rfl, hp⟩
      have HP := Lib.hid hp
      clear hp
      go_wp2_with fail
      go_ret
      exact ⟨_, rfl, HP.out⟩
    · have HT := Lib.hid (join_at hl hr hi (by omega))
      have d2 : decide (3 * ((r.count + 1 : Nat) : Int) < ((l.count + 1 : Nat) : Int)) = false := decide_eq_false (by omega)
      unfold Mm.balance
      rw [if_neg h1, if_neg h2]
      clear hl hr hi hn h1 h2
      generalize ((l.count + 1 : Nat) : Int) = z1 at *
      generalize ((r.count + 1 : Nat) : Int) = z2 at *
      go_enter Try.func64, Try.ntmps64
      go_wp2_with fail
      refine hwr.mono ?_
      rintro e w' ⟨rfl, rfl⟩
      go_wp2_with fail
      refine hwl.mono ?_
      rintro e w' ⟨rfl, rfl⟩
      go_wp2_with fail
      refine hwl.mono ?_
      rintro e w' ⟨rfl, rfl⟩
      go_wp2_with fail
      refine hwr.mono ?_
      rintro e w' ⟨rfl, rfl⟩
      clear hwl hwr
      go_wp2_with fail
      refine HT.out.mono ?_
      rintro e w' ⟨p, rfl, hp⟩
      have HP := Lib.hid hp
      clear hp
      go_wp2_with fail
      go_ret
      exact ⟨_, rfl, HP.out⟩

theorem sees3 {w w2 : World} {a : Nat} {x0 x1 x2 : Value} (h0 : w.cell? ⟨a, 0, none⟩ = some x0) (h1 : w.cell? ⟨a, 1, none⟩ = some x1) (h2 : w.cell? ⟨a, 2, none⟩ = some x2) (hB : Below w.heap.size w w2) :
    w2.cell? ⟨a, 0, none⟩ = some x0 ∧ w2.cell? ⟨a, 1, none⟩ = some x1 ∧ w2.cell? ⟨a, 2, none⟩ = some x2 ∧ Below w.heap.size w w2 := ⟨cell_below h0 hB, cell_below h1 hB, cell_below h2 hB, hB⟩

theorem lt_eqs {a b : ByteArray} : (Mm.lt a b = true → Op.bytesLess a.toList b.toList = true ∧ Op.bytesLess b.toList a.toList = false ∧ (a.toList == b.toList) = false ∧ (b.toList == a.toList) = false) ∧ (Mm.lt a b = false → Op.bytesLess a.toList b.toList = false) := by
  refine ⟨fun h => ⟨h, Mm.lt_asymm h, beq_eq_false_iff_ne.2 fun e => Mm.lt_ne h (Mm.toList_inj e), beq_eq_false_iff_ne.2 fun e => Mm.lt_ne h (Mm.toList_inj e.symm)⟩, fun h => h⟩

set_option maxRecDepth 100000 in
set_option maxHeartbeats 8000000 in
theorem with_all (t : Mm.Tr) (i : Nat) (k : ByteArray) (v : Value) : ∀ (w : World) (p : Value), At w t p → Item w i k v → t.count ≤ 999999 →
    Calls Try.prog 48 #[p, .pointer (some ⟨i, 0, none⟩)] w (Gives w (t.with k v)) := by
  induction t with
  | nil =>
    intro w p h hi hn
    obtain rfl : p = .pointer none := h
    have HT := Lib.hid (join_at (w := w) (l := .nil) (r := .nil) rfl rfl hi (by simp only [Mm.Tr.count]; omega))
    clear hi hn
    show Calls _ _ _ _ (Gives w (.node .nil k v .nil))
    go_enter Try.func48, Try.ntmps48
    go_wp2_with fail
    refine HT.out.mono ?_
    rintro e w' ⟨p, rfl, hp⟩
    have HP := Lib.hid hp
    clear hp
    go_wp2_with fail
    go_ret
    exact ⟨_, rfl, HP.out⟩
  | node l k' v' r ih1 ih2 =>
    intro w p h hi hn
    obtain ⟨a, i', pl, pr, rfl, hrow, hi', hl, hr⟩ := h
    obtain ⟨c0, c1, c2, -⟩ := cells4 hrow
    obtain ⟨ol, rfl⟩ := hl.ptr
    obtain ⟨orr, rfl⟩ := hr.ptr
    have hi0 := hi
    obtain ⟨hks, x, hx, hirow⟩ := hi0
    have hi0' := hi'
    obtain ⟨hks', x', hx', hirow'⟩ := hi0'
    obtain ⟨k0, -, -⟩ := cells2 hirow
    obtain ⟨m0, -, -⟩ := cells2 hirow'
    have HI := Lib.hid hi
    have HI' := Lib.hid hi'
    have HL := Lib.hid hl
    have HR := Lib.hid hr
    have HN := Lib.hid (show l.count + 1 + r.count ≤ 999999 from hn)
    have IH1 := Lib.hid ih1
    have IH2 := Lib.hid ih2
    have HC0 := Lib.hid c0
    have HC1 := Lib.hid c1
    have HC2 := Lib.hid c2
    have HM1 := Lib.hid (Mm.count_with_le l k v)
    have HM2 := Lib.hid (Mm.count_with_le r k v)
    clear hi hi' hl hr hn ih1 ih2 hrow hirow hirow' hks hks' hx hx'
    unfold Mm.Tr.with
    by_cases h1 : Mm.lt k k' = true
    · rw [if_pos h1]
      obtain ⟨d1, d2, d3, d4⟩ := lt_eqs.1 h1
      clear h1
      go_enter Try.func48, Try.ntmps48
      go_wp2_with fail
      go_quiet (fail)
      go_wp2_with fail
      clear k0 m0 d1 d2 d3 d4
      have hB0 : Below w.heap.size w (w.drewN nq) := below_drewN w nq
      generalize w.drewN nq = W at *
      have e0 := cell_below c0 hB0
      have e1 := cell_below c1 hB0
      have e2 := cell_below c2 hB0
      clear c0 c1 c2
      go_region_held3 (fun w' => w'.cell? ⟨a, 0, none⟩ = some (.pointer (some ⟨i', 0, none⟩)) ∧ w'.cell? ⟨a, 1, none⟩ = some (.pointer ol) ∧ w'.cell? ⟨a, 2, none⟩ = some (.pointer orr) ∧ Below w.heap.size w w')
        (first
          | exact ⟨e0, e1, e2, hB0.drew⟩ | exact sees3 HC0.out HC1.out HC2.out (below_two hB0.drew hb3) | exact sees3 HC0.out HC1.out HC2.out (below_two (below_two hB0.drew hb3) hb4))
        (first
          | (go_at_call 48; (with_reducible refine (IH1.out _ _ (HL.out.below hB0.drew) (HI.out.below hB0.drew) (by have := HN.out; omega)).mono ?_); rintro e w3 ⟨p3, rfl, ha3, hb3⟩)
          | (go_at_call 64; (with_reducible refine (balance_at ha3 (HR.out.below (below_two hB0.drew hb3)) (HI'.out.below (below_two hB0.drew hb3)) (by have := HN.out; have := HM1.out; omega)).mono ?_); rintro e w4 ⟨p4, rfl, ha4, hb4⟩)
          | fail)
      go_wp2_with fail
      go_ret
      exact ⟨_, rfl, ha4, below_two (below_two hB0.drew hb3) hb4⟩
    · rw [if_neg h1]
      have d1 : Op.bytesLess k.toList k'.toList = false := by simpa [Mm.lt] using h1
      by_cases h2 : Mm.lt k' k = true
      · rw [if_pos h2]
        obtain ⟨d2, -, d3, d4⟩ := lt_eqs.1 h2
        clear h1 h2
        go_enter Try.func48, Try.ntmps48
        go_wp2_with fail
        go_quiet (fail)
        go_wp2_with fail
        generalize hW1 : w.drewN nq = W1 at *
        have hB1 : Below w.heap.size w W1 := hW1 ▸ below_drewN w nq
        have k1 := cell_below k0 hB1
        have m1 := cell_below m0 hB1
        have g0 := cell_below c0 hB1
        clear hW1 k0 m0 c0
        go_quiet (fail)
        go_wp2_with fail
        clear k1 m1 d1 d2 d3 d4
        have hB0 : Below w.heap.size w (W1.drewN nq) := below_two hB1 (below_drewN W1 nq)
        generalize W1.drewN nq = W at *
        have e0 := cell_below HC0.out hB0
        have e1 := cell_below c1 hB0
        have e2 := cell_below c2 hB0
        clear g0 c1 c2
        go_region_held3 (fun w' => w'.cell? ⟨a, 0, none⟩ = some (.pointer (some ⟨i', 0, none⟩)) ∧ w'.cell? ⟨a, 1, none⟩ = some (.pointer ol) ∧ w'.cell? ⟨a, 2, none⟩ = some (.pointer orr) ∧ Below w.heap.size w w')
          (first
            | exact ⟨e0, e1, e2, hB0.drew⟩ | exact sees3 HC0.out HC1.out HC2.out (below_two hB0.drew hb3) | exact sees3 HC0.out HC1.out HC2.out (below_two (below_two hB0.drew hb3) hb4))
          (first
            | (go_at_call 48; (with_reducible refine (IH2.out _ _ (HR.out.below hB0.drew) (HI.out.below hB0.drew) (by have := HN.out; omega)).mono ?_); rintro e w3 ⟨p3, rfl, ha3, hb3⟩)
            | (go_at_call 64; (with_reducible refine (balance_at (HL.out.below (below_two hB0.drew hb3)) ha3 (HI'.out.below (below_two hB0.drew hb3)) (by have := HN.out; have := HM2.out; omega)).mono ?_); rintro e w4 ⟨p4, rfl, ha4, hb4⟩)
            | fail)
        go_wp2_with fail
        go_ret
        exact ⟨_, rfl, ha4, below_two (below_two hB0.drew hb3) hb4⟩
      · rw [if_neg h2]
        obtain rfl : k = k' := Mm.eq_of_not (by simpa using h1) (by simpa using h2)
        clear h1 h2
        go_enter Try.func48, Try.ntmps48
        go_wp2_with fail
        go_quiet (fail)
        go_wp2_with fail
        generalize hW1 : w.drewN nq = W1 at *
        have hB1 : Below w.heap.size w W1 := hW1 ▸ below_drewN w nq
        have k1 := cell_below k0 hB1
        have m1 := cell_below m0 hB1
        have g0 := cell_below c0 hB1
        clear hW1 k0 m0 c0
        go_quiet (fail)
        go_wp2_with fail
        clear k1 m1 d1
        have hB0 : Below w.heap.size w (W1.drewN nq) := below_two hB1 (below_drewN W1 nq)
        generalize W1.drewN nq = W at *
        have e0 := cell_below HC0.out hB0
        have e1 := cell_below c1 hB0
        have e2 := cell_below c2 hB0
        clear g0 c1 c2
        go_region_held3 (fun w' => w'.cell? ⟨a, 1, none⟩ = some (.pointer ol) ∧ w'.cell? ⟨a, 2, none⟩ = some (.pointer orr) ∧ Below w.heap.size w w')
          (first
            | exact ⟨e1, e2, hB0.drew⟩ | exact sees2 HC1.out HC2.out (below_two hB0.drew hb3))
          (first
            | (go_at_call 63; (with_reducible refine (join_at (HL.out.below hB0.drew) (HR.out.below hB0.drew) (HI.out.below hB0.drew) (by have := HN.out; omega)).mono ?_); rintro e w3 ⟨p3, rfl, ha3, hb3⟩)
            | fail)
        go_wp2_with fail
        go_ret
        exact ⟨_, rfl, ha3, below_two hB0.drew hb3⟩
end Go.Proofs.Ythioogncbhkaoaa.MI
