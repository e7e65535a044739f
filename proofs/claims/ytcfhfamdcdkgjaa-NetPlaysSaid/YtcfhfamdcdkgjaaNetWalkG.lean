/-
  Walks over package net: Dup. Conditions: those in the theorems.
-/
import Derived.Test.YtcfhfamdcdkgjaaNetWalkF
namespace Go.Proofs.Ytcfhfamdcdkgjaa
open Go.RowKit Go.Maps

set_option maxHeartbeats 400000 in
theorem dup_none (i : Int) (w : World) : Calls Try.prog 13 #[.pointer none, .int .i64 i] w fun e w' => e = .returned (.bool false) ∧ w = w' := by
  go_enter Try.func13, Try.ntmps13
  go_wp2_with fail
  refine (place_none i _).mono ?_
  rintro e w' ⟨rfl, rfl⟩
  go_wp2_with fail
  go_ret
  exact ⟨rfl, rfl⟩

set_option maxRecDepth 100000 in
set_option maxHeartbeats 4000000 in
theorem dup_net {w : World} {a : Nat} {N : Nm.Net} {S : Nat → Prop} (h : Net w a N S) (i : Int) (hi : Nm.Wf i) :
    Calls Try.prog 13 #[.pointer (some ⟨a, 0, none⟩), .int .i64 i] w fun e w' => e = .returned (.bool (Nm.dup N i).1) ∧ Net w' a (Nm.dup N i).2 (Grow S w) ∧ Turned S w w' := by
  obtain ⟨rv, mv, hR, hS⟩ := h
  have hpl := place_rep hR i hi
  have hfull := full_rep hR
  have hsame : Net w a N (Grow S w) ∧ Turned S w w := ⟨⟨rv, mv, hR, hS.mono grow_old⟩, Turned.refl S w⟩
  by_cases hne : N.row = []
  · have hv : Nm.dup N i = (false, N) := by unfold Nm.dup; rw [if_pos hne]
    rw [hv]
    rw [if_pos (by rw [hne]; rfl)] at hpl
    have HS := Lib.hid hsame
    clear hR hS hfull hsame hne hv hi
    go_enter Try.func13, Try.ntmps13
    go_wp2_with fail
    refine hpl.mono ?_
    rintro e w' ⟨rfl, rfl⟩
    go_wp2_with fail
    go_ret
    exact ⟨rfl, HS.out⟩
  · have hn0 : N.row.length ≠ 0 := fun e => hne (List.eq_nil_of_length_eq_zero e)
    rw [if_neg hn0] at hpl
    by_cases hmost : 1024 ≤ N.row.length
    · have hv : Nm.dup N i = (false, N) := by unfold Nm.dup; rw [if_neg hne, if_pos hmost]
      rw [hv]
      rw [decide_eq_true hmost] at hfull
      have HS := Lib.hid hsame
      clear hR hS hsame hne hv hi hn0 hmost
      go_enter Try.func13, Try.ntmps13
      go_wp2_with fail
      refine hpl.mono ?_
      rintro e w' ⟨rfl, rfl⟩
      go_wp2_with fail
      refine hfull.mono ?_
      rintro e w' ⟨rfl, rfl⟩
      go_wp2_with fail
      go_ret
      exact ⟨rfl, HS.out⟩
    · rw [decide_eq_false hmost] at hfull
      have hv : Nm.dup N i = (true, { N with row := N.row ++ [Nm.at_ N i] }) := by unfold Nm.dup; rw [if_neg hne, if_neg hmost]
      rw [hv]
      have hlt := hR.lt
      have hok := hR.right.at_ i hne
      have hk := Nm.place_lt i (Nm.pos_of_ne hne)
      have hcells := fun (j : Nat) (hj : j < 3) => show (rowCells N.row)[Nm.place i N.row.length * 3 + j]? = (pkCells (Nm.at_ N i))[j]? from by
        rw [Nm.at_eq i hne]; exact rowCells_get hk hj
      obtain ⟨g, cap, cur, rfl, hg, hnc, hcm, hcs, hct⟩ := row_open hR.row hn0
      unfold maxLen at hcm
      have hpush := fun W (hB : Below w.heap.size w W) ty => push_facts hR (p := Nm.at_ N i) hok hmost W hB ty
      have hfin : ∀ v' w4, Pushed w w4 a N (.slice (some ⟨g, 0, none⟩) N.row.length cap) mv v' (Nm.at_ N i) → Net (w4.setCell ⟨a, 0, none⟩ v') a { N with row := N.row ++ [Nm.at_ N i] } (Grow S w) ∧ Turned S w (w4.setCell ⟨a, 0, none⟩ v') := fun v' w4 hP =>
        ⟨⟨v', mv, hP.rep, ⟨grow_old _ hS.1, fun k hk => (hP.blk k hk).elim (fun e => grow_old _ (hS.2.1 k e)) fun e => grow_new _ e, fun k hk => grow_old _ (hS.2.2 k hk)⟩⟩,
          (hP.turned.mono (hS.2.1)).trans (turned_setCell (S := S) _ _ _ hS.1) fun _ e => .inl e⟩
      have hown := fun W => own_any (Nm.at_ N i) W (by have := hok.d; omega)
      have hblk : ∀ W, Below w.heap.size w W → W.cell? ⟨a, 0, none⟩ = some (.slice (some ⟨g, 0, none⟩) N.row.length cap) := fun W hB => (cells2 (hR.below hB).cell).1
      have cellAt : ∀ j, j < 3 → w.cell? ⟨g, Nm.place i N.row.length * 3 + j, none⟩ = (pkCells (Nm.at_ N i))[j]? := fun j hj => by
        rw [cell_of_row w g _ cur _ _ hg, ← hcells j hj, ← hct, List.getElem?_take, if_pos (by omega)]; simp
      have b3 := hblk _ (Below.refl _ _)
      have i1 : (0 : Int) ≤ ((Nm.place i N.row.length : Nat) : Int) := by omega
      have i2 : ((Nm.place i N.row.length : Nat) : Int) < (N.row.length : Int) := by omega
      have i3 : (N.row.length : Int) ≤ 1024 := by omega
      clear hne hn0 hcells hct hcs hg hmost hv hR hsame hlt hi hok
      generalize Nm.at_ N i = p at *
      generalize Nm.place i N.row.length = k at *
      generalize hn : N.row.length = n at *
      obtain ⟨f, t, d⟩ := p
      have g0 : w.cell? ⟨g, k * 3, none⟩ = some (.int .i64 f) := cellAt 0 (by omega)
      have g1 : w.cell? ⟨g, k * 3 + 1, none⟩ = some (.int .i64 t) := cellAt 1 (by omega)
      have g2 : w.cell? ⟨g, k * 3 + 2, none⟩ = some (.string d) := cellAt 2 (by omega)
      simp only at *
      unfold pkV at hown
      have HP := Lib.hid hpush
      have HF := Lib.hid hfin
      have HO := Lib.hid hown
      have HB := Lib.hid hblk
      have HD := Lib.hid (Below.refl w.heap.size w).drew
      clear hpush hfin hown hblk cellAt hS hn
      go_enter Try.func13, Try.ntmps13
      go_wp2_with fail
      refine hpl.mono ?_
      rintro e w' ⟨rfl, rfl⟩
      go_wp2_with fail
      refine hfull.mono ?_
      rintro e w' ⟨rfl, rfl⟩
      go_wp2_with fail
      go_region_law (first
        | (go_simp; go_at_call 26; refine (HO.out _).mono ?_; rintro e w3 ⟨rfl, hb3⟩; have HB3 := Lib.hid (HD.out.trans (hb3.mono HD.out.size)); clear hb3; have c3 := HB.out _ HB3.out; have c4 := fun o => (HB.out (w3.alloc o) (HB3.out.alloc HB3.out.size o)))
        | (obtain ⟨pv, cv, nl, w4, hrun, hP⟩ := HP.out w3 HB3.out 43; have q1 := hP.cell; have q2 := hP.free; have HP4 := Lib.hid hP; clear hP; refine step_append_run rfl (.tmp 23) (.tmp 32) 43 43 rfl _ _ (by simp [Act.eval, Act.put]) (by simp [Act.eval, Act.put]) _ _ hrun ?_))
      all_goals
        go_wp2_with fail
        go_ret
        exact ⟨rfl, HF.out _ w4 HP4.out⟩
end Go.Proofs.Ytcfhfamdcdkgjaa
