/-
  Walks over package net: New, Twin. Conditions: those in the theorems.
-/
import Derived.Test.YtcfhfamdcdkgjaaNetWalkH
import Derived.Test.YtcfhfamdcdkgjaaNetShelf
namespace Go.Proofs.Ytcfhfamdcdkgjaa
open Go.RowKit Go.Maps

set_option maxHeartbeats 400000 in
theorem new_net (w : World) : Calls Try.prog 10 #[] w fun e w' => e = .returned (.pointer (some ⟨w.heap.size, 0, none⟩)) ∧ Net w' w.heap.size Nm.new (w.heap.size ≤ ·) ∧ Below w.heap.size w w' := by
  have hfin : Net (w.alloc (.cells #[.slice none 0 0, .map none] 50)) w.heap.size Nm.new (w.heap.size ≤ ·) ∧ Below w.heap.size w (w.alloc (.cells #[.slice none 0 0, .map none] 50)) :=
    ⟨⟨.slice none 0 0, .map none, ⟨Nm.Right.new, heap_alloc_new w _, World.ownsRow_nil _ _ _ _, .inl ⟨rfl, fun _ _ _ _ => rfl⟩, (fun h => nomatch h), (fun h => nomatch h), fun _ h => nomatch h⟩, ⟨Nat.le_refl _, (fun _ h => nomatch h), fun _ h => nomatch h⟩⟩, (Below.refl _ w).alloc (Nat.le_refl _) _⟩
  have HF := Lib.hid hfin
  clear hfin
  go_enter Try.func10, Try.ntmps10
  go_wp2_with fail
  go_ret
  exact ⟨rfl, HF.out⟩
set_option maxHeartbeats 400000 in
theorem twin_none (w : World) : Calls Try.prog 18 #[.pointer none] w fun e w' => e = .returned (.pointer none) ∧ w = w' := by
  go_enter Try.func18, Try.ntmps18
  go_wp2_with fail
  go_ret
  exact ⟨rfl, rfl⟩

/-- The net without its packets from the k-th on. -/
def upTo (N : Nm.Net) (k : Nat) : Nm.Net := { N with row := N.row.take k }
theorem upTo_right {N : Nm.Net} (h : Nm.Right N) (k : Nat) : Nm.Right (upTo N k) := ⟨Nat.le_trans (by unfold upTo; rw [List.length_take]; omega) h.few, fun p hp => h.ok p (List.mem_of_mem_take hp)⟩

set_option maxRecDepth 100000 in
set_option maxHeartbeats 4000000 in
theorem twin_net {w : World} {a : Nat} {N : Nm.Net} {S : Nat → Prop} (h : Net w a N S) :
    Calls Try.prog 18 #[.pointer (some ⟨a, 0, none⟩)] w fun e w' => ∃ b, e = .returned (.pointer (some ⟨b, 0, none⟩)) ∧ Net w' b N (w.heap.size ≤ ·) ∧ Below w.heap.size w w' := by
  obtain ⟨rv, mv, hR, hS⟩ := h
  clear hS
  obtain ⟨c0, c1, -⟩ := cells2 hR.cell
  have hcl := clone_cut hR.map
  have hlt := hR.lt
  have hrt := hR.right
  obtain ⟨p, cap, hrow, hnc, hcm⟩ := row_shape hR.row
  unfold maxLen at hcm
  have hmx := hrt.few
  -- the packets, in whatever world behind
  have hcell : ∀ W, Below w.heap.size w W → ∀ k (hk : k < N.row.length), ∃ g, p = some ⟨g, 0, none⟩ ∧ ∀ j, j < 3 → W.cell? ⟨g, k * 3 + j, none⟩ = (pkCells N.row[k])[j]? := fun W hW k hk => by
    obtain ⟨g, cap', cur, e, hg, h1, h2, h3, h4⟩ := row_open (hR.below hW).row (by omega)
    rw [hrow] at e
    cases e
    refine ⟨_, rfl, fun j hj => ?_⟩
    rw [cell_of_row W g _ cur _ _ hg, ← rowCells_get hk hj, ← h4, List.getElem?_take, if_pos (by omega)]; simp
  have c3 : w.cell? ⟨a, 0, none⟩ = some (.slice p N.row.length cap) := by rw [c0, hrow]
  clear c0
  have hrow0 : ∀ W, Below w.heap.size w W → W.cell? ⟨a, 0, none⟩ = some (.slice p N.row.length cap) := fun W hW => (cells2 (hR.below hW).cell).1.trans (by rw [hrow])
  have HC := Lib.hid hcell
  have HR0 := Lib.hid hrow0
  have HRT := Lib.hid hrt
  clear hcell hrow hrow0 hR hrt
  go_enter Try.func18, Try.ntmps18
  go_wp2_with fail
  refine hcl.mono ?_
  rintro e w1 ⟨mv', rfl, q1, q2, q3, q4⟩
  have c0 := fun o => HR0.out (w1.alloc o) (q3.alloc q3.size o)
  obtain ⟨mb, rfl⟩ : ∃ mb, mv' = .map mb := by
    rcases q4 with rfl | ⟨m, rfl⟩ <;> exact ⟨_, rfl⟩
  clear q4
  go_wp2_with fail
  have hstart : Net (w1.alloc (.cells #[.slice none 0 0, .map mb] 50)) w1.heap.size (upTo N 0) (w.heap.size ≤ ·) ∧ Below w.heap.size w (w1.alloc (.cells #[.slice none 0 0, .map mb] 50)) :=
    ⟨⟨.slice none 0 0, .map mb, ⟨upTo_right HRT.out 0, heap_alloc_new w1 _, World.ownsRow_nil _ _ _ _, q1.of fun k hk => Below.heap_alloc _ _ _ (q1.lt k hk), (fun h => nomatch h), (fun h => by have := q1.lt _ h; omega), fun _ h => nomatch h⟩, ⟨q3.size, (fun _ h => nomatch h), q2⟩⟩, q3.alloc q3.size _⟩
  have HST := Lib.hid hstart
  have hb0 : w.heap.size ≤ w1.heap.size := q3.size
  clear hstart q1 q2 q3 c0 c1 c3 hcl HR0
  generalize w1.heap.size = b at *
  go_loopw [20] (fun iv wr => ∃ k : Nat, k ≤ N.row.length ∧ iv = .int .i64 (k : Nat) ∧ Hid (Net wr b (upTo N k) (w.heap.size ≤ ·) ∧ Below w.heap.size w wr)) (fun iv _ => N.row.length - (intOf iv).toNat)
  case atStart => exact ⟨0, Nat.zero_le _, rfl, HST⟩
  case round =>
    obtain ⟨k, hk, rfl, HN⟩ := hrel
    by_cases hlt2 : k < N.row.length
    · have i1 : (k : Int) < (N.row.length : Int) := by omega
      have i2 : (0 : Int) ≤ (k : Int) := by omega
      have i3 : (N.row.length : Int) ≤ 1024 := by omega
      obtain ⟨g, rfl, hcl⟩ := HC.out wr HN.out.2 k hlt2
      have hok := HRT.out.ok N.row[k] (List.getElem_mem _)
      obtain ⟨rv2, mv2, hR2, hS2⟩ := HN.out.1
      have hup : ({ upTo N k with row := (upTo N k).row ++ [N.row[k]] } : Nm.Net) = upTo N (k + 1) := by unfold upTo; simp only [List.take_succ_eq_append_getElem hlt2]
      have hlk : ¬ 1024 ≤ (upTo N k).row.length := by unfold upTo; simp only [List.length_take]; omega
      have hbel := HN.out.2
      clear HN
      generalize N.row[k] = p at *
      obtain ⟨W1, hW1⟩ : ∃ W1, wr.alloc (.cells #[.int .i64 p.f, .int .i64 p.t, .string p.d] 23) = W1 := ⟨_, rfl⟩
      have hR3 : Rep W1 b (upTo N k) rv2 mv2 := by rw [← hW1]; exact hR2.alloc _
      have hB3 : Below w.heap.size w W1 := by rw [← hW1]; exact hbel.alloc hbel.size _
      have hq : W1.heap[wr.heap.size]? = some (.cells #[.int .i64 p.f, .int .i64 p.t, .string p.d] 23 (0, 0)) := by rw [← hW1]; exact heap_alloc_new wr _
      obtain ⟨x0, x1, x2, -⟩ := cells3 hq
      have hpush := fun W (hB : Below W1.heap.size W1 W) ty => push_facts hR3 (p := p) hok hlk W hB ty
      have hfin : ∀ v' w4, Pushed W1 w4 b (upTo N k) rv2 mv2 v' p → Net (w4.setCell ⟨b, 0, none⟩ v') b (upTo N (k + 1)) (w.heap.size ≤ ·) ∧ Below w.heap.size w (w4.setCell ⟨b, 0, none⟩ v') := fun v' w4 hP => by
        have hr := hP.rep
        rw [hup] at hr
        exact ⟨⟨v', mv2, hr, ⟨hS2.1, fun k hk => (hP.blk k hk).elim (hS2.2.1 k) fun e => Nat.le_trans hB3.size e, hS2.2.2⟩⟩, (hB3.trans (hP.turned.below hB3.size fun k hk => hS2.2.1 k hk)).setCell hb0 _⟩
      have hown := fun W => own_any p W (by have := hok.d; omega)
      have hblk : ∀ W, Below W1.heap.size W1 W → W.cell? ⟨b, 0, none⟩ = some rv2 := fun W hB => (cells2 (hR3.below hB).cell).1
      have b3 := hblk _ (Below.refl _ _)
      obtain ⟨f, t, d⟩ := p
      have g0 : wr.cell? ⟨g, k * 3, none⟩ = some (.int .i64 f) := hcl 0 (by omega)
      have g1 : wr.cell? ⟨g, k * 3 + 1, none⟩ = some (.int .i64 t) := hcl 1 (by omega)
      have g2 : wr.cell? ⟨g, k * 3 + 2, none⟩ = some (.string d) := hcl 2 (by omega)
      simp only at *
      unfold pkV at hown
      have HP := Lib.hid hpush
      have HF := Lib.hid hfin
      have HO := Lib.hid hown
      have HB := Lib.hid hblk
      have HD := Lib.hid (Below.refl W1.heap.size W1).drew
      have HW := Lib.hid hW1
      clear hpush hfin hown hblk hcl hS2 hR2 hR3 hB3 hq hW1 hup hlk hok hbel
      go_wp2_with fail
      rw [HW.out]
      go_region_law (first
        | (go_simp; go_at_call 26; refine (HO.out _).mono ?_; rintro e w3 ⟨rfl, hb3⟩; have HB3 := Lib.hid (HD.out.trans (hb3.mono HD.out.size)); clear hb3; have c3 := HB.out _ HB3.out; have c4 := fun o => (HB.out (w3.alloc o) (HB3.out.alloc HB3.out.size o)))
        | (obtain ⟨pv, cv, nl, w4, hrun, hP⟩ := HP.out w3 HB3.out 43; have q1 := hP.cell; have q2 := hP.free; have HP4 := Lib.hid hP; clear hP; refine step_append_run rfl (.tmp 28) (.tmp 31) 43 43 rfl _ _ (by simp [Act.eval, Act.put]) (by simp [Act.eval, Act.put]) _ _ hrun ?_))
      all_goals
        go_wp2_with fail
        go_roundw
        case rel => exact ⟨k + 1, by omega, by go_num, Lib.hid (HF.out _ w4 HP4.out)⟩
        case measure => simp [intOf]; omega
    · obtain rfl : k = N.row.length := by omega
      have i0 : ¬ (N.row.length : Int) < (N.row.length : Int) := by omega
      have e : upTo N N.row.length = N := by unfold upTo; rw [List.take_length]
      rw [e] at HN
      clear e
      go_wp2_with fail
      go_ret
      exact ⟨b, rfl, HN.out⟩
end Go.Proofs.Ytcfhfamdcdkgjaa
