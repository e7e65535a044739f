/-
  Walks over the laws of package net: NetKnown. No condition.
-/
import Derived.Test.YtokbkbfbmgfbiaaNetLaw
namespace Go.Proofs.Ytokbkbfbmgfbiaa
open Go.RowKit Go.Maps

def pkB : Nm.Pk := ⟨1, 2, ⟨#[98]⟩⟩
def pkC : Nm.Pk := ⟨1, 2, ⟨#[99]⟩⟩
/-- The boxes of a, b and c. -/
def abc (k : Nat) : List (Nat × Obj) := [(k, boxPk pkA), (k + 1, boxPk pkB), (k + 2, boxPk pkC)]
theorem abc_made (w : World) : (∀ p ∈ abc w.heap.size, (((w.alloc (.cells #[.int .i64 1, .int .i64 2, .string ⟨#[97]⟩] 23)).alloc (.cells #[.int .i64 1, .int .i64 2, .string ⟨#[98]⟩] 23)).alloc (.cells #[.int .i64 1, .int .i64 2, .string ⟨#[99]⟩] 23)).heap[p.1]? = some p.2) ∧ Below w.heap.size w (((w.alloc (.cells #[.int .i64 1, .int .i64 2, .string ⟨#[97]⟩] 23)).alloc (.cells #[.int .i64 1, .int .i64 2, .string ⟨#[98]⟩] 23)).alloc (.cells #[.int .i64 1, .int .i64 2, .string ⟨#[99]⟩] 23)) := by
  refine ⟨fun p hp => ?_, (((Below.refl _ w).alloc (Nat.le_refl _) _).alloc (by simp) _).alloc (by simp; omega) _⟩
  unfold abc at hp
  simp only [List.mem_cons, List.not_mem_nil, or_false] at hp
  rcases hp with rfl | rfl | rfl
  · exact (Below.heap_alloc _ _ _ (by simp; omega)).trans ((Below.heap_alloc _ _ _ (by simp)).trans (heap_alloc_new w _))
  · refine (Below.heap_alloc _ _ _ (by simp)).trans ?_
    have := heap_alloc_new (w.alloc (.cells #[.int .i64 1, .int .i64 2, .string ⟨#[97]⟩] 23)) (.cells #[.int .i64 1, .int .i64 2, .string ⟨#[98]⟩] 23)
    rw [World.size_alloc] at this; exact this
  · have := heap_alloc_new ((w.alloc (.cells #[.int .i64 1, .int .i64 2, .string ⟨#[97]⟩] 23)).alloc (.cells #[.int .i64 1, .int .i64 2, .string ⟨#[98]⟩] 23)) (.cells #[.int .i64 1, .int .i64 2, .string ⟨#[99]⟩] 23)
    rw [World.size_alloc, World.size_alloc] at this; exact this
theorem In.abc {w0 w : World} {a k : Nat} {N : Nm.Net} {B : List (Nat × Obj)} (h : In w0 w a N B) (hs : ∀ p ∈ abc k, p ∈ B) :
    w.cell? ⟨k, 0, none⟩ = some (.int .i64 1) ∧ w.cell? ⟨k, 1, none⟩ = some (.int .i64 2) ∧ w.cell? ⟨k, 2, none⟩ = some (.string ⟨#[97]⟩) ∧
    w.cell? ⟨k + 1, 0, none⟩ = some (.int .i64 1) ∧ w.cell? ⟨k + 1, 1, none⟩ = some (.int .i64 2) ∧ w.cell? ⟨k + 1, 2, none⟩ = some (.string ⟨#[98]⟩) ∧
    w.cell? ⟨k + 2, 0, none⟩ = some (.int .i64 1) ∧ w.cell? ⟨k + 2, 1, none⟩ = some (.int .i64 2) ∧ w.cell? ⟨k + 2, 2, none⟩ = some (.string ⟨#[99]⟩) := by
  obtain ⟨a0, a1, a2, -⟩ := cells3 (v0 := .int .i64 1) (v1 := .int .i64 2) (v2 := .string ⟨#[97]⟩) (h.box (k, boxPk pkA) (hs _ List.mem_cons_self))
  obtain ⟨b0, b1, b2, -⟩ := cells3 (v0 := .int .i64 1) (v1 := .int .i64 2) (v2 := .string ⟨#[98]⟩) (h.box (k + 1, boxPk pkB) (hs _ (List.mem_cons_of_mem _ List.mem_cons_self)))
  obtain ⟨c0, c1, c2, -⟩ := cells3 (v0 := .int .i64 1) (v1 := .int .i64 2) (v2 := .string ⟨#[99]⟩) (h.box (k + 2, boxPk pkC) (hs _ (List.mem_cons_of_mem _ (List.mem_cons_of_mem _ List.mem_cons_self))))
  exact ⟨a0, a1, a2, b0, b1, b2, c0, c1, c2⟩
set_option maxRecDepth 100000 in
set_option maxHeartbeats 16000000 in
theorem netKnown_any (w : World) : Calls Try.prog 3 #[] w fun e w' => e = .returned (.bool true) ∧ Below w.heap.size w w' := by
  have hg := pkGuard
  have ecc := pk_eq pkC pkC
  rw [Nm.same_self] at ecc
  unfold pkV pkC at ecc
  simp only at ecc
  have eaa := pk_eq pkA pkA
  rw [Nm.same_self] at eaa
  unfold pkV pkA at eaa
  simp only at eaa
  have ebb := pk_eq pkB pkB
  rw [Nm.same_self] at ebb
  unfold pkV pkB at ebb
  simp only at ebb
  have HBX := Lib.hid (abc_made w)
  go_enter Try.func3, Try.ntmps3
  go_wp2_with fail
  refine (new_in HBX.out.2 HBX.out.1).mono ?_
  rintro e w1 ⟨a, rfl, h1⟩
  obtain ⟨a0, a1, a2, b0, b1, b2, c0, c1, c2⟩ := h1.abc (k := w.heap.size) (fun _ hp => hp)
  go_wp2_with fail
  refine (send_in h1 pkA ⟨by decide, by decide⟩ ⟨by decide, by decide⟩ (by decide) (N' := nets [pkA]) (b := true) rfl).mono ?_
  rintro e w2 ⟨rfl, h2⟩
  clear h1 a0 a1 a2 b0 b1 b2 c0 c1 c2
  obtain ⟨a0, a1, a2, b0, b1, b2, c0, c1, c2⟩ := h2.abc (k := w.heap.size) (fun _ hp => hp)
  go_wp2_with fail
  refine (send_in h2 pkB ⟨by decide, by decide⟩ ⟨by decide, by decide⟩ (by decide) (N' := nets [pkA, pkB]) (b := true) rfl).mono ?_
  rintro e w3 ⟨rfl, h3⟩
  clear h2 a0 a1 a2 b0 b1 b2 c0 c1 c2
  obtain ⟨a0, a1, a2, b0, b1, b2, c0, c1, c2⟩ := h3.abc (k := w.heap.size) (fun _ hp => hp)
  go_wp2_with fail
  refine (send_in h3 pkC ⟨by decide, by decide⟩ ⟨by decide, by decide⟩ (by decide) (N' := nets [pkA, pkB, pkC]) (b := true) rfl).mono ?_
  rintro e w4 ⟨rfl, h4⟩
  clear h3 a0 a1 a2 b0 b1 b2 c0 c1 c2
  obtain ⟨a0, a1, a2, b0, b1, b2, c0, c1, c2⟩ := h4.abc (k := w.heap.size) (fun _ hp => hp)
  go_wp2_with fail
  refine (come_in h4 (-1) ⟨by decide, by decide⟩ (p := pkC) (b := true) (N' := nets [pkA, pkB]) rfl).mono ?_
  rintro e w5 ⟨rfl, h5⟩
  clear h4 a0 a1 a2 b0 b1 b2 c0 c1 c2
  have h6 := h5.alloc (.cells #[.int .i64 1, .int .i64 2, .string ⟨#[99]⟩] 23)
  clear h5
  obtain ⟨a0, a1, a2, b0, b1, b2, c0, c1, c2⟩ := h6.abc (k := w.heap.size) (fun _ hp => (List.mem_cons_of_mem _ hp))
  obtain ⟨p0, p1, p2, -⟩ := cells3 (h6.box _ List.mem_cons_self)
  unfold pkV pkC
  go_wp2_with fail
  refine (dup_in h6 0 ⟨by decide, by decide⟩ (b := true) (N' := nets [pkA, pkB, pkA]) rfl).mono ?_
  rintro e w7 ⟨rfl, h7⟩
  clear h6 a0 a1 a2 b0 b1 b2 c0 c1 c2 p0 p1 p2
  obtain ⟨a0, a1, a2, b0, b1, b2, c0, c1, c2⟩ := h7.abc (k := w.heap.size) (fun _ hp => (List.mem_cons_of_mem _ hp))
  obtain ⟨p0, p1, p2, -⟩ := cells3 (h7.box _ List.mem_cons_self)
  go_wp2_with fail
  refine (waiting_in h7 (c := 3) rfl).mono ?_
  rintro e w8 ⟨rfl, rfl⟩
  have h9 := h7.sub (B' := abc w.heap.size) (fun _ hp => (List.mem_cons_of_mem _ hp))
  clear h7 a0 a1 a2 b0 b1 b2 c0 c1 c2 p0 p1 p2
  obtain ⟨a0, a1, a2, b0, b1, b2, c0, c1, c2⟩ := h9.abc (k := w.heap.size) (fun _ hp => hp)
  go_wp2_with fail
  refine (come_in h9 0 ⟨by decide, by decide⟩ (p := pkA) (b := true) (N' := nets [pkB, pkA]) rfl).mono ?_
  rintro e w10 ⟨rfl, h10⟩
  clear h9 a0 a1 a2 b0 b1 b2 c0 c1 c2
  have h11 := h10.alloc (.cells #[.int .i64 1, .int .i64 2, .string ⟨#[97]⟩] 23)
  clear h10
  obtain ⟨a0, a1, a2, b0, b1, b2, c0, c1, c2⟩ := h11.abc (k := w.heap.size) (fun _ hp => (List.mem_cons_of_mem _ hp))
  obtain ⟨q0, q1, q2, -⟩ := cells3 (h11.box _ List.mem_cons_self)
  unfold pkV pkA
  go_wp2_with fail
  refine (come_in h11 3 ⟨by decide, by decide⟩ (p := pkA) (b := true) (N' := nets [pkB]) rfl).mono ?_
  rintro e w12 ⟨rfl, h12⟩
  clear h11 a0 a1 a2 b0 b1 b2 c0 c1 c2 q0 q1 q2
  have h13 := h12.alloc (.cells #[.int .i64 1, .int .i64 2, .string ⟨#[97]⟩] 23)
  clear h12
  obtain ⟨a0, a1, a2, b0, b1, b2, c0, c1, c2⟩ := h13.abc (k := w.heap.size) (fun _ hp => (List.mem_cons_of_mem _ (List.mem_cons_of_mem _ hp)))
  obtain ⟨r0, r1, r2, -⟩ := cells3 (h13.box _ List.mem_cons_self)
  obtain ⟨q0, q1, q2, -⟩ := cells3 (h13.box _ (List.mem_cons_of_mem _ List.mem_cons_self))
  unfold pkV pkA
  go_wp2_with fail
  refine (come_in h13 0 ⟨by decide, by decide⟩ (p := pkB) (b := true) (N' := nets []) rfl).mono ?_
  rintro e w14 ⟨rfl, h14⟩
  clear h13 a0 a1 a2 b0 b1 b2 c0 c1 c2 r0 r1 r2 q0 q1 q2
  have h15 := h14.alloc (.cells #[.int .i64 1, .int .i64 2, .string ⟨#[98]⟩] 23)
  clear h14
  obtain ⟨a0, a1, a2, b0, b1, b2, c0, c1, c2⟩ := h15.abc (k := w.heap.size) (fun _ hp => (List.mem_cons_of_mem _ (List.mem_cons_of_mem _ (List.mem_cons_of_mem _ hp))))
  obtain ⟨s0, s1, s2, -⟩ := cells3 (h15.box _ List.mem_cons_self)
  obtain ⟨r0, r1, r2, -⟩ := cells3 (h15.box _ (List.mem_cons_of_mem _ List.mem_cons_self))
  obtain ⟨q0, q1, q2, -⟩ := cells3 (h15.box _ (List.mem_cons_of_mem _ (List.mem_cons_of_mem _ List.mem_cons_self)))
  unfold pkV pkB
  go_wp2_with fail
  refine (lose_in h15 0 ⟨by decide, by decide⟩ (b := false) (N' := nets []) rfl).mono ?_
  rintro e w16 ⟨rfl, h16⟩
  clear h15 a0 a1 a2 b0 b1 b2 c0 c1 c2 s0 s1 s2 r0 r1 r2 q0 q1 q2
  obtain ⟨a0, a1, a2, b0, b1, b2, c0, c1, c2⟩ := h16.abc (k := w.heap.size) (fun _ hp => (List.mem_cons_of_mem _ (List.mem_cons_of_mem _ (List.mem_cons_of_mem _ hp))))
  obtain ⟨s0, s1, s2, -⟩ := cells3 (h16.box _ List.mem_cons_self)
  obtain ⟨r0, r1, r2, -⟩ := cells3 (h16.box _ (List.mem_cons_of_mem _ List.mem_cons_self))
  obtain ⟨q0, q1, q2, -⟩ := cells3 (h16.box _ (List.mem_cons_of_mem _ (List.mem_cons_of_mem _ List.mem_cons_self)))
  have h17 := h16.sub (B' := abc w.heap.size) (fun _ hp => (List.mem_cons_of_mem _ (List.mem_cons_of_mem _ (List.mem_cons_of_mem _ hp))))
  clear h16 a0 a1 a2 b0 b1 b2 c0 c1 c2 s0 s1 s2 r0 r1 r2 q0 q1 q2
  obtain ⟨a0, a1, a2, b0, b1, b2, c0, c1, c2⟩ := h17.abc (k := w.heap.size) (fun _ hp => hp)
  go_wp2_with fail
  refine (new_in h17.below h17.box).mono ?_
  rintro e w18 ⟨b, rfl, h18⟩
  clear h17 a0 a1 a2 b0 b1 b2 c0 c1 c2
  obtain ⟨a0, a1, a2, b0, b1, b2, c0, c1, c2⟩ := h18.abc (k := w.heap.size) (fun _ hp => hp)
  go_wp2_with fail
  refine (cut_in h18 2 1 true ⟨by decide, by decide⟩ ⟨by decide, by decide⟩ (by decide)).mono ?_
  rintro e w19 ⟨rfl, h19⟩
  clear h18 a0 a1 a2 b0 b1 b2 c0 c1 c2
  obtain ⟨a0, a1, a2, b0, b1, b2, c0, c1, c2⟩ := h19.abc (k := w.heap.size) (fun _ hp => hp)
  go_wp2_with fail
  refine (send_in h19 pkA ⟨by decide, by decide⟩ ⟨by decide, by decide⟩ (by decide) (N' := Nm.cutTo Nm.new 2 1 true) (b := true) rfl).mono ?_
  rintro e w20 ⟨rfl, h20⟩
  clear h19 a0 a1 a2 b0 b1 b2 c0 c1 c2
  obtain ⟨a0, a1, a2, b0, b1, b2, c0, c1, c2⟩ := h20.abc (k := w.heap.size) (fun _ hp => hp)
  go_wp2_with fail
  refine (waiting_in h20 (c := 0) rfl).mono ?_
  rintro e w21 ⟨rfl, rfl⟩
  go_wp2_with fail
  refine (cut_in h20 1 2 false ⟨by decide, by decide⟩ ⟨by decide, by decide⟩ (by decide)).mono ?_
  rintro e w22 ⟨rfl, h22⟩
  clear h20 a0 a1 a2 b0 b1 b2 c0 c1 c2
  obtain ⟨a0, a1, a2, b0, b1, b2, c0, c1, c2⟩ := h22.abc (k := w.heap.size) (fun _ hp => hp)
  go_wp2_with fail
  refine (send_in h22 pkB ⟨by decide, by decide⟩ ⟨by decide, by decide⟩ (by decide) (N' := { Nm.cutTo (Nm.cutTo Nm.new 2 1 true) 1 2 false with row := [pkB] }) (b := true) rfl).mono ?_
  rintro e w23 ⟨rfl, h23⟩
  clear h22 a0 a1 a2 b0 b1 b2 c0 c1 c2
  obtain ⟨a0, a1, a2, b0, b1, b2, c0, c1, c2⟩ := h23.abc (k := w.heap.size) (fun _ hp => hp)
  go_wp2_with fail
  refine (cut_in h23 1 2 true ⟨by decide, by decide⟩ ⟨by decide, by decide⟩ (by decide)).mono ?_
  rintro e w24 ⟨rfl, h24⟩
  clear h23 a0 a1 a2 b0 b1 b2 c0 c1 c2
  obtain ⟨a0, a1, a2, b0, b1, b2, c0, c1, c2⟩ := h24.abc (k := w.heap.size) (fun _ hp => hp)
  go_wp2_with fail
  refine (come_in h24 0 ⟨by decide, by decide⟩ (p := Nm.zero) (b := false) (N' := { Nm.cutTo { Nm.cutTo (Nm.cutTo Nm.new 2 1 true) 1 2 false with row := [pkB] } 1 2 true with row := [] }) rfl).mono ?_
  rintro e w25 ⟨rfl, h25⟩
  clear h24 a0 a1 a2 b0 b1 b2 c0 c1 c2
  have h26 := (h25.alloc (.cells #[.int .i64 0, .int .i64 0, .string ⟨#[]⟩] 23)).sub (B' := abc w.heap.size) (fun _ hp => List.mem_cons_of_mem _ hp)
  clear h25
  obtain ⟨a0, a1, a2, b0, b1, b2, c0, c1, c2⟩ := h26.abc (k := w.heap.size) (fun _ hp => hp)
  unfold pkV Nm.zero
  go_wp2_with fail
  refine (cut_none 1 2 true _).mono ?_
  rintro e w27 ⟨rfl, rfl⟩
  go_wp2_with fail
  refine (come_none 0 _).mono ?_
  rintro e w28 ⟨rfl, hb⟩
  have h28 := ((h26.same hb).alloc (.cells #[.int .i64 0, .int .i64 0, .string ⟨#[]⟩] 23)).sub (B' := abc w.heap.size) (fun _ hp => List.mem_cons_of_mem _ hp)
  clear h26 hb a0 a1 a2 b0 b1 b2 c0 c1 c2
  obtain ⟨a0, a1, a2, b0, b1, b2, c0, c1, c2⟩ := h28.abc (k := w.heap.size) (fun _ hp => hp)
  unfold pkV Nm.zero
  go_wp2_with fail
  refine (netAwake_any _).mono ?_
  rintro e w29 ⟨rfl, hb⟩
  have h29 := h28.same hb
  clear h28 hb a0 a1 a2 b0 b1 b2 c0 c1 c2
  obtain ⟨a0, a1, a2, b0, b1, b2, c0, c1, c2⟩ := h29.abc (k := w.heap.size) (fun _ hp => hp)
  go_wp2_with fail
  refine (waiting_in h29 (c := 0) rfl).mono ?_
  rintro e w30 ⟨rfl, rfl⟩
  go_wp2_with fail
  refine (send_none pkA _).mono ?_
  rintro e w31 ⟨rfl, hb⟩
  have h31 := h29.same hb
  clear h29 hb a0 a1 a2 b0 b1 b2 c0 c1 c2
  obtain ⟨a0, a1, a2, b0, b1, b2, c0, c1, c2⟩ := h31.abc (k := w.heap.size) (fun _ hp => hp)
  go_wp2_with fail
  refine (lose_none 0 _).mono ?_
  rintro e w32 ⟨rfl, hb⟩
  have h32 := h31.same hb
  clear h31 hb a0 a1 a2 b0 b1 b2 c0 c1 c2
  go_wp2_with fail
  refine (dup_none 0 _).mono ?_
  rintro e w33 ⟨rfl, rfl⟩
  go_wp2_with fail
  refine (waiting_none _).mono ?_
  rintro e w34 ⟨rfl, rfl⟩
  go_wp2_with fail
  refine (twin_none _).mono ?_
  rintro e w35 ⟨rfl, rfl⟩
  have hB := h32.below
  clear h32
  go_wp2_with fail
  go_ret
  exact ⟨rfl, hB⟩
end Go.Proofs.Ytokbkbfbmgfbiaa
