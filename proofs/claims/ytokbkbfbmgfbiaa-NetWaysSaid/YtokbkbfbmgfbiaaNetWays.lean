/-
  Walks over the laws of package net: NetWays. No condition.
-/
import Derived.Test.YtokbkbfbmgfbiaaNetTwo
import Derived.Test.YtokbkbfbmgfbiaaNetWaysMath
namespace Go.Proofs.Ytokbkbfbmgfbiaa
open Go.RowKit Go.Maps

/-- Three boxes, one behind the other. -/
def three (k : Nat) (p q r : Nm.Pk) : List (Nat × Obj) := [(k, boxPk p), (k + 1, boxPk q), (k + 2, boxPk r)]
theorem three_in {w0 w : World} {x : Nat} {N : Nm.Net} {p q r : Nm.Pk} (h : In w0 w x N []) :
    In w0 (((w.alloc (.cells #[.int .i64 p.f, .int .i64 p.t, .string p.d] 23)).alloc (.cells #[.int .i64 q.f, .int .i64 q.t, .string q.d] 23)).alloc (.cells #[.int .i64 r.f, .int .i64 r.t, .string r.d] 23)) x N (three w.heap.size p q r) := by
  refine (((h.alloc _).alloc _).alloc _).sub fun y hy => ?_
  unfold three at hy
  simp only [List.mem_cons, List.not_mem_nil, or_false] at hy
  rcases hy with rfl | rfl | rfl
  · exact List.mem_cons_of_mem _ (List.mem_cons_of_mem _ List.mem_cons_self)
  · refine List.mem_cons_of_mem _ ?_
    rw [World.size_alloc]; exact List.mem_cons_self
  · rw [World.size_alloc, World.size_alloc]; exact List.mem_cons_self
theorem three_cells {w : World} {k : Nat} {f t f' t' f2 t2 : Int} {d d' d2 : ByteArray} {B : List (Nat × Obj)} (h : ∀ p ∈ B, w.heap[p.1]? = some p.2) (hs : ∀ x ∈ three k ⟨f, t, d⟩ ⟨f', t', d'⟩ ⟨f2, t2, d2⟩, x ∈ B) :
    w.cell? ⟨k, 0, none⟩ = some (.int .i64 f) ∧ w.cell? ⟨k, 1, none⟩ = some (.int .i64 t) ∧ w.cell? ⟨k, 2, none⟩ = some (.string d) ∧
    w.cell? ⟨k + 1, 0, none⟩ = some (.int .i64 f') ∧ w.cell? ⟨k + 1, 1, none⟩ = some (.int .i64 t') ∧ w.cell? ⟨k + 1, 2, none⟩ = some (.string d') ∧
    w.cell? ⟨k + 2, 0, none⟩ = some (.int .i64 f2) ∧ w.cell? ⟨k + 2, 1, none⟩ = some (.int .i64 t2) ∧ w.cell? ⟨k + 2, 2, none⟩ = some (.string d2) := by
  obtain ⟨a0, a1, a2, -⟩ := cells3 (v0 := .int .i64 f) (v1 := .int .i64 t) (v2 := .string d) (h (k, boxPk ⟨f, t, d⟩) (hs _ List.mem_cons_self))
  obtain ⟨b0, b1, b2, -⟩ := cells3 (v0 := .int .i64 f') (v1 := .int .i64 t') (v2 := .string d') (h (k + 1, boxPk ⟨f', t', d'⟩) (hs _ (List.mem_cons_of_mem _ List.mem_cons_self)))
  obtain ⟨c0, c1, c2, -⟩ := cells3 (v0 := .int .i64 f2) (v1 := .int .i64 t2) (v2 := .string d2) (h (k + 2, boxPk ⟨f2, t2, d2⟩) (hs _ (List.mem_cons_of_mem _ (List.mem_cons_of_mem _ List.mem_cons_self))))
  exact ⟨a0, a1, a2, b0, b1, b2, c0, c1, c2⟩
theorem pk_eq_lit (f t : Int) (d : ByteArray) (w : World) : (Op.equalIn 10000 23 (.agg #[.int .i64 f, .int .i64 t, .string d]) (.agg #[.int .i64 f, .int .i64 t, .string d])).run Try.prog w = .ok true w := by
  have h := pk_eq ⟨f, t, d⟩ ⟨f, t, d⟩ w
  rw [Nm.same_self] at h; exact h

set_option maxRecDepth 100000 in
set_option maxHeartbeats 16000000 in
theorem netWays_any (a b c : Int) (one two : ByteArray) (ha : Nm.Wf a) (hb : Nm.Wf b) (hc : Nm.Wf c) (h1 : one.size ≤ maxLen) (h2 : two.size ≤ maxLen) (w : World) :
    Calls Try.prog 9 #[.int .i64 a, .int .i64 b, .int .i64 c, .string one, .string two] w fun e w' => e = .returned (.bool true) ∧ Below w.heap.size w w' := by
  have hg := pkGuard
  have ep := pk_eq_lit a b one
  have eq := pk_eq_lit b a two
  have er := pk_eq_lit a c two
  have HW := Lib.hid (And.intro ha (And.intro hb (And.intro hc (And.intro h1 h2))))
  unfold maxLen at h1 h2
  clear ha hb hc
  by_cases hq : 8192 < one.size ∨ 8192 < two.size ∨ c = a ∨ c = b
  · have fin : ∀ w1, Below w.heap.size w w1 → Below w.heap.size w w1 := fun _ h => h
    have d1 : decide ((8192 : Int) < (one.size : Int)) = true ∨ (decide ((8192 : Int) < (one.size : Int)) = false ∧ (decide ((8192 : Int) < (two.size : Int)) = true ∨ (decide ((8192 : Int) < (two.size : Int)) = false ∧ ((c == a) = true ∨ ((c == a) = false ∧ (c == b) = true))))) := by
      rcases hq with hq | hq | hq | hq
      · exact .inl (decide_eq_true (by omega))
      · by_cases h : 8192 < one.size
        · exact .inl (decide_eq_true (by omega))
        · exact .inr ⟨decide_eq_false (by omega), .inl (decide_eq_true (by omega))⟩
      · by_cases h : 8192 < one.size
        · exact .inl (decide_eq_true (by omega))
        · by_cases h' : 8192 < two.size
          · exact .inr ⟨decide_eq_false (by omega), .inl (decide_eq_true (by omega))⟩
          · exact .inr ⟨decide_eq_false (by omega), .inr ⟨decide_eq_false (by omega), .inl (beq_iff_eq.2 hq)⟩⟩
      · by_cases h : 8192 < one.size
        · exact .inl (decide_eq_true (by omega))
        · by_cases h' : 8192 < two.size
          · exact .inr ⟨decide_eq_false (by omega), .inl (decide_eq_true (by omega))⟩
          · by_cases h3 : c = a
            · exact .inr ⟨decide_eq_false (by omega), .inr ⟨decide_eq_false (by omega), .inl (beq_iff_eq.2 h3)⟩⟩
            · exact .inr ⟨decide_eq_false (by omega), .inr ⟨decide_eq_false (by omega), .inr ⟨beq_eq_false_iff_ne.2 h3, beq_iff_eq.2 hq⟩⟩⟩
    clear hq HW ep eq er fin
    rcases d1 with d1 | ⟨d1, d2 | ⟨d2, d3 | ⟨d3, d4⟩⟩⟩
    all_goals
      go_enter Try.func9, Try.ntmps9
      go_wp2_with fail
      refine (netAwake_any _).mono ?_
      rintro e w1 ⟨rfl, hb1⟩
      go_wp2_with fail
      go_ret
      exact ⟨rfl, hb1⟩
  · have d1 : decide ((8192 : Int) < (one.size : Int)) = false := decide_eq_false (by omega)
    have d2 : decide ((8192 : Int) < (two.size : Int)) = false := decide_eq_false (by omega)
    have d3 : (c == a) = false := by rw [beq_eq_false_iff_ne]; omega
    have d4 : (c == b) = false := by rw [beq_eq_false_iff_ne]; omega
    have HY := Lib.hid (Nm.ways_of (a := a) (b := b) (c := c) (p := ⟨a, b, one⟩) (q := ⟨b, a, two⟩) (r := ⟨a, c, two⟩) ⟨rfl, rfl⟩ ⟨rfl, rfl⟩ ⟨rfl, rfl⟩ (by show one.size ≤ 8192; omega) (by show two.size ≤ 8192; omega) (by show two.size ≤ 8192; omega) (by omega) (by omega))
    clear hq
    go_enter Try.func9, Try.ntmps9
    go_wp2_with fail
    refine (netAwake_any _).mono ?_
    rintro e w1 ⟨rfl, hb1⟩
    go_wp2_with fail
    refine (new_in (B := []) hb1 (fun _ h => nomatch h)).mono ?_
    rintro e w2 ⟨x, rfl, h2⟩
    clear hb1
    have h3 := three_in (p := ⟨a, b, one⟩) (q := ⟨b, a, two⟩) (r := ⟨a, c, two⟩) h2
    simp only at h3
    clear h2
    generalize hk : w2.heap.size = k at *
    obtain ⟨p0, p1, p2, -, -, -, -, -, -⟩ := three_cells h3.box (fun _ hp => hp)
    go_wp2_with fail
    refine (send_lit h3 a b one HW.out.1 HW.out.2.1 HW.out.2.2.2.1 HY.out.s1).mono ?_
    rintro e w4 ⟨rfl, h4⟩
    clear h3 p0 p1 p2
    obtain ⟨-, -, -, q0, q1, q2, -, -, -⟩ := three_cells h4.box (fun _ hp => hp)
    go_wp2_with fail
    refine (send_lit h4 b a two HW.out.2.1 HW.out.1 HW.out.2.2.2.2 HY.out.s2).mono ?_
    rintro e w5 ⟨rfl, h5⟩
    clear h4 q0 q1 q2
    obtain ⟨-, -, -, -, -, -, r0, r1, r2⟩ := three_cells h5.box (fun _ hp => hp)
    go_wp2_with fail
    refine (send_lit h5 a c two HW.out.1 HW.out.2.2.1 HW.out.2.2.2.2 HY.out.s3).mono ?_
    rintro e w6 ⟨rfl, h6⟩
    clear h5 r0 r1 r2
    obtain ⟨p0, p1, p2, -, -, -, -, -, -⟩ := three_cells h6.box (fun _ hp => hp)
    go_wp2_with fail
    refine (cut_in h6 b a true HW.out.2.1 HW.out.1 (by show 0 < 1000000; omega)).mono ?_
    rintro e w7 ⟨rfl, h7⟩
    clear h6 p0 p1 p2
    obtain ⟨p0, p1, p2, -, -, -, -, -, -⟩ := three_cells h7.box (fun _ hp => hp)
    go_wp2_with fail
    refine (send_lit h7 a b one HW.out.1 HW.out.2.1 HW.out.2.2.2.1 HY.out.s4).mono ?_
    rintro e w8 ⟨rfl, h8⟩
    clear h7 p0 p1 p2
    obtain ⟨-, -, -, q0, q1, q2, -, -, -⟩ := three_cells h8.box (fun _ hp => hp)
    go_wp2_with fail
    refine (send_lit h8 b a two HW.out.2.1 HW.out.1 HW.out.2.2.2.2 HY.out.s5).mono ?_
    rintro e w9 ⟨rfl, h9⟩
    clear h8 q0 q1 q2
    go_wp2_with fail
    refine (twin_in h9).mono ?_
    rintro e w10 ⟨y, rfl, h10⟩
    clear h9
    go_wp2_with fail
    refine (waiting_two h10 (c := 3) rfl).mono ?_
    rintro e w11 ⟨rfl, rfl⟩
    go_wp2_with fail
    refine (come_two h10 0 ⟨by decide, by decide⟩ HY.out.c1).mono ?_
    rintro e w12 ⟨rfl, h12⟩
    clear h10
    have h13 := (h12.alloc (.cells #[.int .i64 0, .int .i64 0, .string ⟨#[]⟩] 23)).sub (B' := three k ⟨a, b, one⟩ ⟨b, a, two⟩ ⟨a, c, two⟩) (fun _ hp => List.mem_cons_of_mem _ hp)
    clear h12
    go_wp2_with fail
    refine (come_two h13 0 ⟨by decide, by decide⟩ HY.out.c2).mono ?_
    rintro e w14 ⟨rfl, h14⟩
    clear h13
    have h15 := (h14.alloc (.cells #[.int .i64 0, .int .i64 0, .string ⟨#[]⟩] 23)).sub (B' := three k ⟨a, b, one⟩ ⟨b, a, two⟩ ⟨a, c, two⟩) (fun _ hp => List.mem_cons_of_mem _ hp)
    clear h14
    go_wp2_with fail
    refine (come_two h15 0 ⟨by decide, by decide⟩ HY.out.c3).mono ?_
    rintro e w16 ⟨rfl, h16⟩
    clear h15
    have h17 := h16.alloc (.cells #[.int .i64 a, .int .i64 c, .string two] 23)
    clear h16
    have h18 := h17.swap
    clear h17
    go_wp2_with fail
    refine (cut_two h18 a b false HW.out.1 HW.out.2.1 (by show 1 < 1000000; omega)).mono ?_
    rintro e w19 ⟨rfl, h19⟩
    clear h18 
    go_wp2_with fail
    refine (come_two h19 0 ⟨by decide, by decide⟩ HY.out.c4).mono ?_
    rintro e w20 ⟨rfl, h20⟩
    clear h19
    have h21 := h20.alloc (.cells #[.int .i64 a, .int .i64 b, .string one] 23)
    clear h20
    go_wp2_with fail
    refine (come_two h21 0 ⟨by decide, by decide⟩ HY.out.c5).mono ?_
    rintro e w22 ⟨rfl, h22⟩
    clear h21
    have h23 := h22.alloc (.cells #[.int .i64 b, .int .i64 a, .string two] 23)
    clear h22
    obtain ⟨p0, p1, p2, q0, q1, q2, r0, r1, r2⟩ := three_cells h23.box (fun _ hp => (List.mem_cons_of_mem _ (List.mem_cons_of_mem _ (List.mem_cons_of_mem _ hp))))
    obtain ⟨u0, u1, u2, -⟩ := cells3 (h23.box _ List.mem_cons_self)
    obtain ⟨t0, t1, t2, -⟩ := cells3 (h23.box _ (List.mem_cons_of_mem _ List.mem_cons_self))
    obtain ⟨s0, s1, s2, -⟩ := cells3 (h23.box _ (List.mem_cons_of_mem _ (List.mem_cons_of_mem _ List.mem_cons_self)))
    go_wp2_with fail
    refine (waiting_two h23.swap (c := 0) rfl).mono ?_
    rintro e w24 ⟨rfl, rfl⟩
    go_wp2_with fail
    refine (waiting_two h23 (c := 1) rfl).mono ?_
    rintro e w25 ⟨rfl, rfl⟩
    have hB := h23.below
    clear h23
    go_wp2_with fail
    go_ret
    exact ⟨rfl, hB⟩
end Go.Proofs.Ytokbkbfbmgfbiaa
