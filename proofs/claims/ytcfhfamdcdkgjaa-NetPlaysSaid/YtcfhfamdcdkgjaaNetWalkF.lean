/-
  Walks over package net: Send. Conditions: those in the theorems.
-/
import Derived.Test.YtcfhfamdcdkgjaaNetWalkE
import Derived.Maps.AppendAt
import Derived.Lib.AppendZeros
namespace Go.Proofs.Ytcfhfamdcdkgjaa
open Go.RowKit Go.Maps

/-- What is so behind an append of one packet, and behind the store of the row that it gives. -/
structure Pushed (w1 w4 : World) (a : Nat) (N : Nm.Net) (rv mv v' : Value) (p : Nm.Pk) : Prop where
  rep : Rep (w4.setCell ⟨a, 0, none⟩ v') a { N with row := N.row ++ [p] } v' mv
  blk : ∀ k ∈ rowBlk v', k ∈ rowBlk rv ∨ w1.heap.size ≤ k
  turned : Turned (fun k => k ∈ rowBlk rv) w1 w4
  cell : w4.cell? ⟨a, 0, none⟩ = some rv
  free : w4.frozen? ⟨a, 0, none⟩ = false

theorem push_facts {w1 : World} {a : Nat} {N : Nm.Net} {rv mv : Value} (h : Rep w1 a N rv mv) {p : Nm.Pk} (hp : p.Ok) (hl : ¬ 1024 ≤ N.row.length) (W : World) (hW : Below w1.heap.size w1 W) (ty : TypeId) :
    ∃ (pv : Option Addr) (cv nl : Nat) (w4 : World), (Builtin.append_ #[43, 43] ty #[rv, .slice (some ⟨W.heap.size, 0, none⟩) 1 1]).run Try.prog (W.alloc (.cells #[.int .i64 p.f, .int .i64 p.t, .string p.d] 23)) = .ok (.slice pv nl cv) w4 ∧ Pushed w1 w4 a N rv mv (.slice pv nl cv) p := by
  obtain ⟨i0, hi0, hz0, hz1, hz2⟩ := info_parts infoPk
  have hRW := (h.below hW).alloc (.cells #[.int .i64 p.f, .int .i64 p.t, .string p.d] 23)
  have hsz := hW.size
  have hnews : ∀ j u, (pkCells p)[j]? = some u → (W.alloc (.cells #[.int .i64 p.f, .int .i64 p.t, .string p.d] 23)).cell? ((⟨W.heap.size, 0, none⟩ : Addr).add j) = some u := fun j u hu => by
    have hadd : (⟨W.heap.size, 0, none⟩ : Addr).add j = ⟨W.heap.size, j, none⟩ := by unfold Addr.add; split <;> simp_all
    rw [hadd, cell_of_row _ _ _ _ _ _ (heap_alloc_new W _)]
    simpa [pkCells] using hu
  obtain ⟨v', w4, hrun, ho, hg, hnil, hat⟩ := run_append_own_at (P := Try.prog) (W.alloc (.cells #[.int .i64 p.f, .int .i64 p.t, .string p.d] 23)) 0 43 ty 23 i0 _ 3 32 Try.underlying43 hi0 hz0 hz1 hz2 rfl (by decide) rv _ _ hRW.row
    ⟨W.heap.size, 0, none⟩ 1 1 (pkCells p) rfl hnews (fun u hu => by simp [pkCells] at hu; rcases hu with rfl | rfl | rfl <;> rfl) (by unfold maxLen; omega) (by omega) (Nat.zero_le _)
  have hlt := h.lt
  have hTa : Turned (fun k => k ∈ rowBlk rv) w1 (W.alloc (.cells #[.int .i64 p.f, .int .i64 p.t, .string p.d] 23)) :=
    (turned_of_below (S := fun k => k ∈ rowBlk rv) hW).trans (turned_alloc (S := fun k => k ∈ rowBlk rv) W _) fun _ e => .inl e
  have hT4 : Turned (fun k => k ∈ rowBlk rv) w1 w4 := hTa.trans (turned_grown (S := fun k => k ∈ rowBlk rv) hg fun k hk => ownBlock_row.1 hk) fun _ e => .inl e
  have hbk : ∀ k ∈ rowBlk v', k ∈ rowBlk rv ∨ w1.heap.size ≤ k := fun k hk => by
    rcases hat with e | e
    · exact .inl (ownBlock_row.1 (by rw [← e]; exact ownBlock_row.2 hk))
    · have := ownBlock_row.2 hk
      rw [e] at this
      have h2 := Option.some.inj this
      rw [World.size_alloc] at h2
      exact .inr (by omega)
  have ha4 : w4.heap[a]? = some (.cells #[rv, mv] 50 (0, 0)) := (hT4.block a hlt.1 h.ar).trans h.cell
  obtain ⟨c0, -, cf⟩ := cells2 ha4
  have hna : ∀ k ∈ rowBlk v', k ≠ a := fun k hk e => by
    rcases hbk k hk with h1 | h1
    · exact h.ar (e ▸ h1)
    · have := hlt.1; omega
  have hrep : Rep (w4.setCell ⟨a, 0, none⟩ v') a { N with row := N.row ++ [p] } v' mv := by
    refine ⟨h.right.add hp hl, by rw [set1 ha4]; rfl, ?_, ?_, fun e => hna a e rfl, h.am, ?_⟩
    · have h1 : w4.ownsRow 0 23 3 v' (N.row ++ [p]).length (rowCells (N.row ++ [p])) := by
        rw [rowCells_append, List.length_append]
        have e : rowCells [p] = pkCells p := by simp [rowCells]
        rw [e]; exact ho
      exact row_of h1 fun k hk => set_other _ _ _ _ _ (hna k hk)
    · exact (show CutAt _ mv N.cut N.cuts from h.map.of fun k hk => by
        rw [set_other _ _ _ _ _ (fun e : k = a => h.am (e ▸ hk))]
        exact hT4.block k (hlt.2.2 k hk) fun e => h.rm k e hk)
    · intro k hk hkm
      rcases hbk k hk with h1 | h1
      · exact h.rm k h1 hkm
      · have := hlt.2.2 k hkm; omega
  obtain ⟨pv, cv, nl, rfl⟩ : ∃ pv cv nl, v' = .slice pv nl cv := by
    rcases ho.2 with ⟨h1, h2⟩ | ⟨g, c, _, h1, _⟩
    · exact ⟨none, 0, 0, h1⟩
    · exact ⟨_, _, _, h1⟩
  exact ⟨pv, cv, nl, w4, hrun, hrep, hbk, hT4, c0, cf 0⟩

theorem step_append_run {P : Program} {ops : Array Oper} {o : Oper} {a : Act} {w : World} {K : Act → World → Prop} {Q : Exit → Act → World → Prop} {E : Prop}
    (hg : o.guard = none) (s x : Operand) (t tn : TypeId) (ho : o.op = .call { callee := .builtin .append, args := #[s, x], argTypes := #[t, tn] }) (vs vx : Value) (hs : a.eval s = vs) (hx : a.eval x = vx)
    (v' : Value) (w' : World) (hr : (Builtin.append_ #[t, tn] o.type #[vs, vx]).run P w = .ok v' w') (hK : K (a.put o.dst v') w') :
    if Region.wanted o (yielded ops a.tmps) = true then Oper.wp P o a w K Q else E := by
  have hw : Region.wanted o (yielded ops a.tmps) = true := by simp [Region.wanted, hg]
  rw [if_pos hw]
  exact Lib.wp_append_run w s x t tn ho vs vx hs hx v' w' hr hK
set_option maxHeartbeats 400000 in
theorem send_none (p : Nm.Pk) (w : World) : Calls Try.prog 11 #[.pointer none, pkV p] w fun e w' => e = .returned (.bool false) ∧ Below w.heap.size w w' := by
  obtain ⟨f, t, d⟩ := p
  have hB := Lib.hid ((Below.refl _ w).alloc (Nat.le_refl _) (.cells #[.int .i64 f, .int .i64 t, .string d] 23))
  unfold pkV
  go_enter Try.func11, Try.ntmps11
  go_wp2_with fail
  go_ret
  exact ⟨rfl, hB.out⟩

set_option maxRecDepth 100000 in
set_option maxHeartbeats 4000000 in
theorem send_net {w : World} {a : Nat} {N : Nm.Net} {S : Nat → Prop} (h : Net w a N S) (p : Nm.Pk) (hf : Nm.Wf p.f) (ht : Nm.Wf p.t) (hd : p.d.size ≤ maxLen) :
    Calls Try.prog 11 #[.pointer (some ⟨a, 0, none⟩), pkV p] w fun e w' => e = .returned (.bool (Nm.send N p).1) ∧ Net w' a (Nm.send N p).2 (Grow S w) ∧ Turned S w w' := by
  obtain ⟨rv, mv, hR, hS⟩ := h
  obtain ⟨W1, hW1⟩ : ∃ W1, w.alloc (.cells #[.int .i64 p.f, .int .i64 p.t, .string p.d] 23) = W1 := ⟨_, rfl⟩
  have hR1 : Rep W1 a N rv mv := by rw [← hW1]; exact hR.alloc _
  have hT1 : Turned S w W1 := by rw [← hW1]; exact turned_alloc (S := S) _ _
  have hq : W1.heap[w.heap.size]? = some (.cells #[.int .i64 p.f, .int .i64 p.t, .string p.d] 23 (0, 0)) := by rw [← hW1]; exact heap_alloc_new w _
  have hz : w.heap.size < W1.heap.size := by rw [← hW1]; simp
  have hlt := hR.lt
  have hsame : ∀ W, Below W1.heap.size W1 W → Net W a N (Grow S w) ∧ Turned S w W := fun W hB => ⟨⟨rv, mv, hR1.below hB, hS.mono grow_old⟩, hT1.trans (turned_of_below (S := S) hB) fun _ e => .inl e⟩
  obtain ⟨x0, x1, x2, x3⟩ := cells3 hq
  have HW := Lib.hid hW1
  have HS := Lib.hid hsame
  by_cases hlong : 8192 < p.d.size
  · have hv : Nm.send N p = (false, N) := by unfold Nm.send; rw [if_pos hlong]
    rw [hv]
    have d1 : decide ((8192 : Int) < (p.d.size : Int)) = true := decide_eq_true (by omega)
    obtain ⟨f, t, d⟩ := p
    simp only at *
    unfold maxLen at hd
    have hfin := Lib.hid (hsame _ (Below.refl _ _))
    clear hR hR1 hlt hT1 hq hsame hv hW1 hlong hS hf ht
    unfold pkV
    go_enter Try.func11, Try.ntmps11
    go_wp2_with fail
    rw [HW.out]
    go_wp2_with fail
    go_ret
    exact ⟨rfl, hfin.out⟩
  · have d1 : decide ((8192 : Int) < (p.d.size : Int)) = false := decide_eq_false (by omega)
    have hfull := full_rep hR1
    by_cases hmost : 1024 ≤ N.row.length
    · have hv : Nm.send N p = (false, N) := by unfold Nm.send; rw [if_neg hlong, if_pos hmost]
      rw [hv]
      rw [decide_eq_true hmost] at hfull
      obtain ⟨f, t, d⟩ := p
      simp only at *
      unfold maxLen at hd
      have hfin := Lib.hid (hsame _ (Below.refl _ _))
      clear hR hR1 hlt hT1 hq hsame hv hW1 hlong hmost hS hf ht
      unfold pkV
      go_enter Try.func11, Try.ntmps11
      go_wp2_with fail
      rw [HW.out]
      refine hfull.mono ?_
      rintro e w1 ⟨rfl, rfl⟩
      go_wp2_with fail
      go_ret
      exact ⟨rfl, hfin.out⟩
    · rw [decide_eq_false hmost] at hfull
      have hlets := lets_rep hR1 p hf ht
      cases hcut : N.isCut p with
      | true =>
        have hv : Nm.send N p = (true, N) := by unfold Nm.send; rw [if_neg hlong, if_neg hmost, hcut, if_pos rfl]
        rw [hv]
        rw [hcut] at hlets
        obtain ⟨f, t, d⟩ := p
        simp only at *
        unfold maxLen at hd
        unfold pkV at hlets ⊢
        clear hR hR1 hlt hT1 hq hsame hv hW1 hlong hmost hS hf ht hcut
        go_enter Try.func11, Try.ntmps11
        go_wp2_with fail
        rw [HW.out]
        refine hfull.mono ?_
        rintro e w1 ⟨rfl, rfl⟩
        go_wp2_with fail
        refine hlets.mono ?_
        rintro e w2 ⟨rfl, hb2⟩
        have HQ := Lib.hid (HS.out _ hb2)
        clear hb2
        go_wp2_with fail
        go_ret
        exact ⟨rfl, HQ.out⟩
      | false =>
        have hv : Nm.send N p = (true, { N with row := N.row ++ [p] }) := by unfold Nm.send; rw [if_neg hlong, if_neg hmost, hcut]; rfl
        rw [hv]
        rw [hcut] at hlets
        have hpush := fun W2 (hB2 : Below W1.heap.size W1 W2) W (hB : Below W2.heap.size W2 W) ty => push_facts (hR1.below hB2) (p := p) ⟨hf, ht, by omega⟩ hmost W hB ty
        have hfin : ∀ W2, Below W1.heap.size W1 W2 → ∀ v' w4, Pushed W2 w4 a N rv mv v' p → Net (w4.setCell ⟨a, 0, none⟩ v') a { N with row := N.row ++ [p] } (Grow S w) ∧ Turned S w (w4.setCell ⟨a, 0, none⟩ v') := fun W2 hB2 v' w4 hP =>
          ⟨⟨v', mv, hP.rep, ⟨grow_old _ hS.1, fun k hk => (hP.blk k hk).elim (fun e => grow_old _ (hS.2.1 k e)) fun e => grow_new _ (by have := hT1.size; have := hB2.size; omega), fun k hk => grow_old _ (hS.2.2 k hk)⟩⟩,
            ((hT1.trans (turned_of_below (S := S) hB2) fun _ e => .inl e).trans (hP.turned.mono (hS.2.1)) fun _ e => .inl e).trans (turned_setCell (S := S) _ _ _ hS.1) fun _ e => .inl e⟩
        have hown := fun W => own_any p W (by unfold maxLen at hd; omega)
        have hblk : ∀ W, Below W1.heap.size W1 W → W.cell? ⟨w.heap.size, 0, none⟩ = some (.int .i64 p.f) ∧ W.cell? ⟨w.heap.size, 1, none⟩ = some (.int .i64 p.t) ∧ W.cell? ⟨w.heap.size, 2, none⟩ = some (.string p.d) ∧ W.cell? ⟨a, 0, none⟩ = some rv := fun W hB => by
          obtain ⟨y0, y1, y2, -⟩ := cells3 ((hB.block _ hz).trans hq)
          exact ⟨y0, y1, y2, (cells2 (hR1.below hB).cell).1⟩
        have hna : w.heap.size ≠ a := by have := hlt.1; omega
        obtain ⟨f, t, d⟩ := p
        simp only at *
        unfold maxLen at hd
        unfold pkV at hlets hown ⊢
        have HP := Lib.hid hpush
        have HF := Lib.hid hfin
        have HO := Lib.hid hown
        have HB := Lib.hid hblk
        clear hR hR1 hlt hT1 hq hsame hv hW1 hlong hmost hS hf ht hcut hpush hfin hown hblk
        go_enter Try.func11, Try.ntmps11
        go_wp2_with fail
        rw [HW.out]
        refine hfull.mono ?_
        rintro e w1 ⟨rfl, rfl⟩
        go_wp2_with fail
        refine hlets.mono ?_
        rintro e w2 ⟨rfl, hb2⟩
        go_wp2_with fail
        obtain ⟨b0, b1, b2, b3⟩ := HB.out _ hb2
        have HD := Lib.hid hb2.drew
        have HB2 := Lib.hid hb2
        clear hb2
        go_region_law (first
          | (go_simp; go_at_call 26; refine (HO.out _).mono ?_; rintro e w3 ⟨rfl, hb3⟩; have HB3 := Lib.hid (HD.out.trans (hb3.mono HD.out.size)); have HB23 := Lib.hid ((Below.refl w2.heap.size w2).drew.trans hb3); clear hb3; obtain ⟨c0, c1, c2, c3⟩ := HB.out _ HB3.out; have c4 := fun o => (HB.out (w3.alloc o) (HB3.out.alloc HB3.out.size o)).2.2.2)
          | (obtain ⟨pv, cv, nl, w4, hrun, hP⟩ := HP.out w2 HB2.out w3 HB23.out 43; have q1 := hP.cell; have q2 := hP.free; have HP4 := Lib.hid hP; clear hP; refine step_append_run rfl (.tmp 24) (.tmp 27) 43 43 rfl _ _ (by simp [Act.eval, Act.put]) (by simp [Act.eval, Act.put]) _ _ hrun ?_))
        all_goals
          go_wp2_with fail
          go_ret
          exact ⟨rfl, HF.out w2 HB2.out _ w4 HP4.out⟩
end Go.Proofs.Ytcfhfamdcdkgjaa
