/-
  Walks over package net: Come. Conditions: those in the theorems.
-/
import Derived.Test.YtcfhfamdcdkgjaaNetWalkD
namespace Go.Proofs.Ytcfhfamdcdkgjaa
open Go.RowKit Go.Maps

set_option maxHeartbeats 400000 in
theorem come_none (i : Int) (w : World) : Calls Try.prog 12 #[.pointer none, .int .i64 i] w fun e w' => e = .returned (.tuple #[pkV Nm.zero, .bool false]) ∧ Below w.heap.size w w' := by
  have h0 := heap_alloc_new w (.cells #[.int .i64 0, .int .i64 0, .string ⟨#[]⟩] 23)
  have HB := Lib.hid ((Below.refl _ w).alloc (Nat.le_refl _) (.cells #[.int .i64 0, .int .i64 0, .string ⟨#[]⟩] 23))
  have hz : w.heap.size < (w.alloc (.cells #[.int .i64 0, .int .i64 0, .string ⟨#[]⟩] 23)).heap.size := by simp
  have H0 := Lib.hid h0
  clear h0
  go_enter Try.func12, Try.ntmps12
  go_wp2_with fail
  refine (take_none i _).mono ?_
  rintro e w1 ⟨rfl, hb⟩
  have q0 := (hb.block _ hz).trans H0.out
  have HB1 := Lib.hid (HB.out.trans (hb.mono (Nat.le_of_lt hz)))
  have hz1 : w.heap.size < w1.heap.size := Nat.lt_of_lt_of_le hz hb.size
  obtain ⟨x0, x1, x2, x3⟩ := cells3 q0
  clear hb q0 HB H0 hz
  unfold pkV Nm.zero
  go_wp2_with fail
  refine bodyPost_ret (v := .tuple #[.agg #[.int .i64 0, .int .i64 0, .string ⟨#[]⟩], .bool false]) (by simp [results, Try.results12, go_sem, *]) rfl ⟨rfl, ?_⟩
  exact (((HB1.out.setCell (Nat.le_refl _) _).setCell (Nat.le_refl _) _).setCell (Nat.le_refl _) _).alloc (by simp [World.setCell]; omega) _

set_option maxRecDepth 100000 in
set_option maxHeartbeats 4000000 in
theorem come_net {w : World} {a : Nat} {N : Nm.Net} {S : Nat → Prop} (h : Net w a N S) (i : Int) (hi : Nm.Wf i) :
    Calls Try.prog 12 #[.pointer (some ⟨a, 0, none⟩), .int .i64 i] w fun e w' =>
      e = .returned (.tuple #[pkV (Nm.come N i).1, .bool (Nm.come N i).2.1]) ∧ Net w' a (Nm.come N i).2.2 S ∧ Turned S w w' := by
  obtain ⟨rv, mv, hR, hS⟩ := h
  have hlt := hR.lt
  have hR1 := hR.alloc (.cells #[.int .i64 0, .int .i64 0, .string ⟨#[]⟩] 23)
  have ht := take_rep hR1 i hi
  have h0 := heap_alloc_new w (.cells #[.int .i64 0, .int .i64 0, .string ⟨#[]⟩] 23)
  obtain ⟨W1, hW1⟩ : ∃ W1, w.alloc (.cells #[.int .i64 0, .int .i64 0, .string ⟨#[]⟩] 23) = W1 := ⟨_, rfl⟩
  have hT1 : Turned S w W1 := by rw [← hW1]; exact turned_alloc (S := S) w _
  have hz : w.heap.size < W1.heap.size := by rw [← hW1]; simp
  rw [hW1] at ht h0
  have keep : ∀ w2, Turned (fun k => k = a ∨ k ∈ rowBlk rv) W1 w2 → w2.heap[w.heap.size]? = some (.cells #[.int .i64 0, .int .i64 0, .string ⟨#[]⟩] 23 (0, 0)) ∧ w.heap.size < w2.heap.size := fun w2 hT =>
    ⟨(hT.block _ hz (by rintro (e | e); · have := hlt.1; omega
                        · have := hlt.2.1 _ e; omega)).trans h0, Nat.lt_of_lt_of_le hz hT.size⟩
  have fin : ∀ N' w2 W rv', Turned (fun k => k = a ∨ k ∈ rowBlk rv) W1 w2 → Rep w2 a N' rv' mv → rowBlk rv' = rowBlk rv → Below w2.heap.size w2 W → ∀ x y z, Net (((W.setCell ⟨w.heap.size, 0, none⟩ x).setCell ⟨w.heap.size, 1, none⟩ y).setCell ⟨w.heap.size, 2, none⟩ z) a N' S ∧
      Turned S w (((W.setCell ⟨w.heap.size, 0, none⟩ x).setCell ⟨w.heap.size, 1, none⟩ y).setCell ⟨w.heap.size, 2, none⟩ z) := fun N' w2 W rv' hT hRep hrow hB x y z => by
    have hTW : Turned S w W := (hT1.trans (hT.mono (in_of hS)) fun _ e => .inl e).trans (turned_of_below (S := S) hB) fun _ e => .inl e
    have hRW : Net W a N' (fun k => S k ∧ k < w.heap.size) := ⟨rv', mv, hRep.below hB, ⟨hS.1, hlt.1⟩, fun k hk => by rw [hrow] at hk; exact ⟨hS.2.1 k hk, hlt.2.1 k hk⟩, fun k hk => ⟨hS.2.2 k hk, hlt.2.2 k hk⟩⟩
    have t3 : Turned (· = w.heap.size) W (((W.setCell ⟨w.heap.size, 0, none⟩ x).setCell ⟨w.heap.size, 1, none⟩ y).setCell ⟨w.heap.size, 2, none⟩ z) :=
      ((turned_setCell W ⟨w.heap.size, 0, none⟩ x (S := (· = w.heap.size)) rfl).trans (turned_setCell _ ⟨w.heap.size, 1, none⟩ y (S := (· = w.heap.size)) rfl) fun _ e => .inl e).trans (turned_setCell _ ⟨w.heap.size, 2, none⟩ z (S := (· = w.heap.size)) rfl) fun _ e => .inl e
    exact ⟨(hRW.stay t3 fun k hk e => by have := hk.2; omega).mono fun k hk => hk.1, hTW.trans t3 fun k e => .inr (by omega)⟩
  have hrt := hR.right
  by_cases hne : N.row = []
  · have hv : Nm.come N i = (Nm.zero, false, N) := by unfold Nm.come; rw [if_pos hne]
    have hv2 : Nm.take N i = (Nm.zero, false, N) := by unfold Nm.take; rw [if_pos hne]
    rw [hv]
    rw [hv2] at ht
    have HF := Lib.hid fin
    have HK := Lib.hid keep
    have HW := Lib.hid hW1
    clear hv hv2 hne fin keep hR hR1 hlt h0 hT1 hz hS hW1 hrt
    go_enter Try.func12, Try.ntmps12
    go_wp2_with fail
    rw [HW.out]
    refine ht.mono ?_
    rintro e w2 ⟨rfl, rv', q1, q2, q3⟩
    obtain ⟨k1, k2⟩ := HK.out w2 q3
    obtain ⟨x0, x1, x2, x3⟩ := cells3 k1
    have hq := HF.out _ w2 w2 rv' q3 q1 q2 (Below.refl _ w2)
    have HQ := Lib.hid (fun x y z o => And.intro ((hq x y z).1.below ((Below.refl _ _).alloc (Nat.le_refl _) o)) ((hq x y z).2.trans (turned_alloc (S := S) _ o) fun _ e => .inl e))
    clear hq
    clear HF HK q1 q2 q3 k1
    unfold pkV Nm.zero
    go_wp2_with fail
    refine bodyPost_ret (v := .tuple #[.agg #[.int .i64 0, .int .i64 0, .string ⟨#[]⟩], .bool false]) (by simp [results, Try.results12, go_sem, *]) rfl ⟨rfl, HQ.out _ _ _ _⟩
  · have hok := hrt.at_ i hne
    have hv2 : Nm.take N i = (Nm.at_ N i, true, Nm.drop N i) := by unfold Nm.take; rw [if_neg hne]
    have hv : Nm.come N i = if N.isCut (Nm.at_ N i) then (Nm.zero, false, Nm.drop N i) else (Nm.at_ N i, true, Nm.drop N i) := by unfold Nm.come; rw [if_neg hne]
    have hcut : ∀ p, (Nm.drop N i).isCut p = N.isCut p := fun _ => rfl
    rw [hv]
    rw [hv2] at ht
    have hlets : ∀ w2 rv' o, Rep w2 a (Nm.drop N i) rv' mv → Calls Try.prog 25 #[.pointer (some ⟨a, 0, none⟩), pkV (Nm.at_ N i)] (w2.alloc o) fun e w' => e = .returned (.bool (!N.isCut (Nm.at_ N i))) ∧ Below (w2.alloc o).heap.size (w2.alloc o) w' := fun w2 rv' o q1 => by
      rw [← hcut]; exact lets_rep (q1.alloc o) (Nm.at_ N i) hok.f hok.t
    generalize N.isCut (Nm.at_ N i) = b at *
    generalize Nm.at_ N i = p at *
    generalize Nm.drop N i = N' at *
    obtain ⟨f, t, d⟩ := p
    have HF := Lib.hid fin
    have HK := Lib.hid keep
    have HW := Lib.hid hW1
    have HL := Lib.hid hlets
    clear hv hv2 hne fin keep hR hR1 hlt h0 hT1 hz hS hW1 hrt hok hlets hcut
    cases b with
    | true =>
      rw [if_pos rfl]
      go_enter Try.func12, Try.ntmps12
      go_wp2_with fail
      rw [HW.out]
      refine ht.mono ?_
      rintro e w2 ⟨rfl, rv', q1, q2, q3⟩
      obtain ⟨k1, k2⟩ := HK.out w2 q3
      have HK1 := Lib.hid k1
      have HF2 := Lib.hid (HF.out _ w2 · rv' q3 q1 q2)
      have HL2 := Lib.hid (HL.out w2 rv' · q1)
      clear HF HK HL q1 q2 q3 k1
      unfold pkV
      go_wp2_with fail
      refine (HL2.out _).mono ?_
      rintro e w4 ⟨rfl, hb4⟩
      have q4 := (hb4.block _ (by simp; omega)).trans ((Below.heap_alloc _ _ _ k2).trans HK1.out)
      obtain ⟨x0, x1, x2, x3⟩ := cells3 q4
      have HQ := Lib.hid (HF2.out w4 (((Below.refl _ w2).alloc (Nat.le_refl _) _).trans (hb4.mono (by simp))))
      clear hb4 HL2 HF2 HK1 q4 k2
      go_wp2_with fail
      refine bodyPost_ret (v := .tuple #[.agg #[.int .i64 0, .int .i64 0, .string ⟨#[]⟩], .bool false]) (by simp [results, Try.results12, go_sem, *]) rfl ⟨rfl, HQ.out _ _ _⟩
    | false =>
      rw [if_neg (by simp)]
      go_enter Try.func12, Try.ntmps12
      go_wp2_with fail
      rw [HW.out]
      refine ht.mono ?_
      rintro e w2 ⟨rfl, rv', q1, q2, q3⟩
      obtain ⟨k1, k2⟩ := HK.out w2 q3
      have HK1 := Lib.hid k1
      have HF2 := Lib.hid (HF.out _ w2 · rv' q3 q1 q2)
      have HL2 := Lib.hid (HL.out w2 rv' · q1)
      clear HF HK HL q1 q2 q3 k1
      unfold pkV
      go_wp2_with fail
      refine (HL2.out _).mono ?_
      rintro e w4 ⟨rfl, hb4⟩
      have q4 := (hb4.block _ (by simp; omega)).trans ((Below.heap_alloc _ _ _ k2).trans HK1.out)
      obtain ⟨x0, x1, x2, x3⟩ := cells3 q4
      obtain ⟨y0, y1, y2, y3⟩ := cells3 ((hb4.block _ (by simp)).trans (heap_alloc_new w2 _))
      have HQ := Lib.hid (HF2.out w4 (((Below.refl _ w2).alloc (Nat.le_refl _) _).trans (hb4.mono (by simp))))
      have hne : w.heap.size ≠ w2.heap.size := by omega
      clear hb4 HL2 HF2 HK1 q4 k2
      go_wp2_with fail
      refine bodyPost_ret (v := .tuple #[.agg #[.int .i64 f, .int .i64 t, .string d], .bool true]) (by simp [results, Try.results12, go_sem, *]) rfl ⟨rfl, HQ.out _ _ _⟩
end Go.Proofs.Ytcfhfamdcdkgjaa
