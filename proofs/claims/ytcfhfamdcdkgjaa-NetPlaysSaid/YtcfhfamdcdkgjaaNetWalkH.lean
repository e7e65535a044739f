/-
  Walks over package net: Cut, New. Conditions: those in the theorems.
-/
import Derived.Test.YtcfhfamdcdkgjaaNetWalkG
import Derived.Handy
import Derived.WalkSpells
namespace Go.Proofs.Ytcfhfamdcdkgjaa
open Go.RowKit Go.Maps

theorem mapBlk_turned {w w' : World} {m : Nat} (h : w.mapTurned w' m) : Turned (fun k => k ∈ mapBlk (.map (some m))) w w' := turned_grown h.grown fun k hk => by cases hk; simp [mapBlk]

theorem del_facts {w : World} {mv : Value} {cut : Int → Int → Bool} {n : Nat} (h : CutAt w mv cut n) {x y : Int} (hx : Nm.Wf x) (hy : Nm.Wf y) (ty : TypeId) :
    ∃ w', (Builtin.delete_ #[48, 55] ty #[mv, wayV x y]).run Try.prog w = .ok (.tuple #[]) w' ∧ CutAt w' mv (fun u v => if u = x ∧ v = y then false else cut u v) n ∧ Turned (fun k => k ∈ mapBlk mv) w w' := by
  rcases h with ⟨rfl, h⟩ | ⟨m, D, rfl, h1, h2⟩
  · exact ⟨w, Maps.drop_nil lawWay Try.underlying48 (keyOfW hx hy) ty, .inl ⟨rfl, fun u v hu hv => by
      show (if u = x ∧ v = y then false else cut u v) = false
      split
      · rfl
      · exact h u v hu hv⟩, Turned.refl _ w⟩
  · obtain ⟨w', hrun, h3, h4⟩ := h1.drop lawWay Try.underlying48 (keyOfW hx hy) ty
    refine ⟨w', hrun, .inr ⟨m, _, rfl, h3, fun u v hu hv => ?_⟩, mapBlk_turned h4⟩
    show _ = if u = x ∧ v = y then false else cut u v
    split
    · rename_i e; rw [e.1, e.2]; exact Maps.has_del_same
    · rename_i e
      rw [Maps.has_del_other (keyL_ne hx hy hu hv e)]; exact h2 u v hu hv
theorem put_facts {w : World} {m : Nat} {cut : Int → Int → Bool} {n : Nat} (h : CutAt w (.map (some m)) cut n) (hn : n < 1000000) {x y : Int} (hx : Nm.Wf x) (hy : Nm.Wf y) :
    ∃ w', (Instr.mapUpdate 48 (.map (some m)) (wayV x y) (.agg #[])).run Try.prog w = .ok () w' ∧ CutAt w' (.map (some m)) (fun u v => if u = x ∧ v = y then true else cut u v) (n + 1) ∧ Turned (fun k => k ∈ mapBlk (.map (some m))) w w' := by
  rcases h with ⟨h0, -⟩ | ⟨m', D, h0, h1, h2⟩
  · cases h0
  · cases h0
    have hM : Maps.IsMap D := h1.isMap
    obtain ⟨w', hrun, h3, h4⟩ := h1.store lawWay Try.underlying48 (by unfold maxLen; omega) (keyOfW hx hy) unitElem_mk
    refine ⟨w', hrun, .inr ⟨m, _, rfl, h3, fun u v hu hv => ?_⟩, mapBlk_turned h4⟩
    show _ = if u = x ∧ v = y then true else cut u v
    split
    · rename_i e; rw [e.1, e.2]; exact Maps.has_put_same hM keyL_key _
    · rename_i e
      rw [Maps.has_put_other (keyL_ne hx hy hu hv e)]; exact h2 u v hu hv
theorem made_facts (w : World) {cut : Int → Int → Bool} {n : Nat} (h : CutAt w (.map none) cut n) : CutAt (w.alloc (.map #[] 0)) (.map (some w.heap.size)) cut n := by
  rcases h with ⟨-, h⟩ | ⟨m', D, h0, -⟩
  · exact .inr ⟨_, _, rfl, (World.ownsMap_made w Try.prog 55 unitElem).mono (Nat.zero_le _), fun x y hx hy => by rw [h x y hx hy]; rfl⟩
  · cases h0
theorem step_delete_run {P : Program} {ops : Array Oper} {o : Oper} {a : Act} {w : World} {K : Act → World → Prop} {Q : Exit → Act → World → Prop} {E : Prop}
    (hg : o.guard = none) (s x : Operand) (t tn : TypeId) (ho : o.op = .call { callee := .builtin .delete, args := #[s, x], argTypes := #[t, tn] }) (vs vx : Value) (hs : a.eval s = vs) (hx : a.eval x = vx)
    (v' : Value) (w' : World) (hr : (Builtin.delete_ #[t, tn] o.type #[vs, vx]).run P w = .ok v' w') (hK : K (a.put o.dst v') w') :
    if Region.wanted o (yielded ops a.tmps) = true then Oper.wp P o a w K Q else E := by
  have hw : Region.wanted o (yielded ops a.tmps) = true := by simp [Region.wanted, hg]
  rw [if_pos hw]
  unfold Oper.wp execOp
  simp only [ho, resolve, invoke, builtin, Sem.run_bind, Sem.run_pure, Result.andThen_ok, List.map_toArray, List.map_cons, List.map_nil, hs, hx, hr]
  exact hK
theorem min_cut (N : Nm.Net) (a b : Int) (on : Bool) : (Nm.cutTo N a b on).cut = fun u v => if u = min a b ∧ v = max a b then on else N.cut u v := rfl

theorem put_fin {w W : World} {a : Nat} {N : Nm.Net} {rv : Value} {m : Nat} {S : Nat → Prop} (hR : Rep w a N rv (.map (some m))) (hS : Within S a rv (.map (some m))) (hB : Below w.heap.size w W) {x y : Int} (hx : Nm.Wf x) (hy : Nm.Wf y) (hn : N.cuts < 1000000) :
    ∃ w', (Instr.mapUpdate 48 (.map (some m)) (.agg #[.int .i64 (min x y), .int .i64 (max x y)]) (.agg #[])).run Try.prog W = .ok () w' ∧ Net w' a (Nm.cutTo N x y true) (Grow S w) ∧ Turned S w w' := by
  have hRW := hR.below hB
  obtain ⟨w', hrun, h1, h2⟩ := put_facts hRW.map hn (wf_min hx hy) (wf_max hx hy)
  refine ⟨w', hrun, ⟨rv, _, ⟨hRW.right.cutTo x y true, ?_, ?_, h1, hR.ar, hR.am, hR.rm⟩, hS.mono grow_old⟩, (turned_of_below (S := S) hB).trans (h2.mono hS.2.2) fun _ e => .inl e⟩
  · exact (h2.block a hRW.lt.1 hR.am).trans hRW.cell
  · exact row_of hRW.row fun k hk => h2.block k (hRW.lt.2.1 k hk) (hR.rm k hk)

set_option maxHeartbeats 400000 in
theorem cut_none (x y : Int) (on : Bool) (w : World) : Calls Try.prog 16 #[.pointer none, .int .i64 x, .int .i64 y, .bool on] w fun e w' => e = .returned (.tuple #[]) ∧ w = w' := by
  go_enter Try.func16, Try.ntmps16
  go_wp2_with fail
  go_returns
  exact ⟨rfl, rfl⟩

set_option maxRecDepth 100000 in
set_option maxHeartbeats 4000000 in
theorem cut_net {w : World} {a : Nat} {N : Nm.Net} {S : Nat → Prop} (h : Net w a N S) (x y : Int) (on : Bool) (hx : Nm.Wf x) (hy : Nm.Wf y) (hn : N.cuts < 1000000) :
    Calls Try.prog 16 #[.pointer (some ⟨a, 0, none⟩), .int .i64 x, .int .i64 y, .bool on] w fun e w' => e = .returned (.tuple #[]) ∧ Net w' a (Nm.cutTo N x y on) (Grow S w) ∧ Turned S w w' := by
  obtain ⟨rv, mv, hR, hS⟩ := h
  have hlt := hR.lt
  have hbw := fun W => between_any x y W
  unfold wayV at hbw
  have HBW := Lib.hid hbw
  clear hbw
  cases on with
  | false =>
    have hcell : ∀ W, Below w.heap.size w W → W.cell? ⟨a, 1, none⟩ = some mv := fun W hB => (cells2 (hR.below hB).cell).2.1
    have hdel : ∀ W, Below w.heap.size w W → ∃ w', (Builtin.delete_ #[48, 55] 0 #[mv, .agg #[.int .i64 (min x y), .int .i64 (max x y)]]).run Try.prog W = .ok (.tuple #[]) w' ∧ Net w' a (Nm.cutTo N x y false) (Grow S w) ∧ Turned S w w' := fun W hB => by
      have hRW := hR.below hB
      obtain ⟨w', hrun, h1, h2⟩ := del_facts hRW.map (wf_min hx hy) (wf_max hx hy) 0
      refine ⟨w', hrun, ⟨rv, mv, ⟨hRW.right.cutTo x y false, ?_, ?_, h1.mono (Nat.le_succ _), hR.ar, hR.am, hR.rm⟩, hS.mono grow_old⟩, (turned_of_below (S := S) hB).trans (h2.mono hS.2.2) fun _ e => .inl e⟩
      · exact (h2.block a hRW.lt.1 hR.am).trans hRW.cell
      · exact row_of hRW.row fun k hk => h2.block k (hRW.lt.2.1 k hk) (hR.rm k hk)
    have c0 := hcell _ (Below.refl _ _)
    have HC := Lib.hid hcell
    have HDL := Lib.hid hdel
    have HD := Lib.hid (Below.refl w.heap.size w).drew
    clear hcell hdel hR hS hlt hn hx hy
    go_enter Try.func16, Try.ntmps16
    go_wp2_with fail
    go_region_law (first
      | (go_simp; go_at_call 29; refine (HBW.out _).mono ?_; rintro e w3 ⟨rfl, hb3⟩; have HB3 := Lib.hid (HD.out.trans (hb3.mono HD.out.size)); clear hb3; have c3 := HC.out _ HB3.out)
      | (obtain ⟨w4, hrun, hP⟩ := HDL.out w3 HB3.out; have HP4 := Lib.hid hP; clear hP; refine step_delete_run rfl (.tmp 15) (.tmp 18) 48 55 rfl _ _ (by simp [Act.eval, Act.put]) (by simp [Act.eval, Act.put]) _ _ hrun ?_))
    all_goals
      go_wp2_with fail
      go_returns
      exact ⟨rfl, HP4.out⟩
  | true =>
    obtain ⟨mb, rfl⟩ : ∃ mb, mv = .map mb := by
      rcases hR.map with ⟨h1, -⟩ | ⟨m, -, h1, -⟩
      · exact ⟨_, h1⟩
      · exact ⟨_, h1⟩
    obtain ⟨c0, c1, cf⟩ := cells2 hR.cell
    have cf1 := cf 1
    have hq := fun w => run_eql_map_nil (P := Try.prog) w 48 _ _ mb Try.underlying48
    cases mb with
    | some m =>
      have hcell : ∀ W, Below w.heap.size w W → W.cell? ⟨a, 1, none⟩ = some (.map (some m)) := fun W hB => (cells2 (hR.below hB).cell).2.1
      have hput := fun (W : World) (hB : Below w.heap.size w W) => put_fin (N := N) hR hS hB hx hy hn
      have HC := Lib.hid hcell
      have HP := Lib.hid hput
      have HD := Lib.hid (Below.refl w.heap.size w).drew
      clear hcell hput hR hS hlt hn hx hy
      go_enter Try.func16, Try.ntmps16
      go_wp2_with fail
      go_region_law (first
        | (go_simp; go_at_call 29; refine (HBW.out _).mono ?_; rintro e w3 ⟨rfl, hb3⟩; have HB3 := Lib.hid (HD.out.trans (hb3.mono HD.out.size)); clear hb3; have c3 := HC.out _ HB3.out; obtain ⟨w4, hrun, hP⟩ := HP.out w3 HB3.out; have HP4 := Lib.hid hP; clear hP))
      all_goals
        go_wp2_with fail
        go_returns
        exact ⟨rfl, HP4.out⟩
    | none =>
      have hR1 := hR.alloc (.map #[] 0)
      have hR2 : Rep ((w.alloc (.map #[] 0)).setCell ⟨a, 1, none⟩ (.map (some w.heap.size))) a N rv (.map (some w.heap.size)) := by
        refine ⟨hR.right, by rw [set1 hR1.cell]; rfl, row_of hR1.row fun k hk => set_other _ _ _ _ _ (fun e : k = a => hR.ar (e ▸ hk)), ?_, hR.ar, ?_, ?_⟩
        · refine (made_facts w hR.map).of fun k hk => set_other _ _ _ _ _ ?_
          simp [mapBlk] at hk; have := hlt.1; omega
        · simp [mapBlk]; have := hlt.1; omega
        · intro k hk e; simp [mapBlk] at e; have := hlt.2.1 k hk; omega
      have hS2 : Within (Grow S w) a rv (.map (some w.heap.size)) := ⟨grow_old _ hS.1, fun k hk => grow_old _ (hS.2.1 k hk), fun k hk => by simp [mapBlk] at hk; exact grow_new _ (by omega)⟩
      have hT2 : Turned S w ((w.alloc (.map #[] 0)).setCell ⟨a, 1, none⟩ (.map (some w.heap.size))) := (turned_alloc (S := S) w _).trans (turned_setCell (S := S) _ _ _ hS.1) fun _ e => .inl e
      obtain ⟨-, e1, ef⟩ := cells2 hR1.cell
      have ef1 := ef 1
      have hmm := fun w => @run_makeMap Try.prog w
      obtain ⟨W2, hW2⟩ : ∃ W2, (w.alloc (.map #[] 0)).setCell ⟨a, 1, none⟩ (.map (some w.heap.size)) = W2 := ⟨_, rfl⟩
      rw [hW2] at hR2 hT2
      have hz2 : w.heap.size ≤ W2.heap.size := hT2.size
      have hcell : ∀ W, Below W2.heap.size W2 W → W.cell? ⟨a, 1, none⟩ = some (.map (some w.heap.size)) := fun W hB => (cells2 (hR2.below hB).cell).2.1
      have d1 := hcell _ (Below.refl _ _)
      have hput : ∀ W, Below W2.heap.size W2 W → ∃ w', (Instr.mapUpdate 48 (.map (some w.heap.size)) (.agg #[.int .i64 (min x y), .int .i64 (max x y)]) (.agg #[])).run Try.prog W = .ok () w' ∧ Net w' a (Nm.cutTo N x y true) (Grow S w) ∧ Turned S w w' := fun W hB => by
        obtain ⟨w', q1, q2, q3⟩ := put_fin (N := N) hR2 hS2 hB hx hy hn
        exact ⟨w', q1, q2.mono fun k hk => hk.elim id fun e => grow_new _ (by omega), hT2.trans q3 fun k hk => hk⟩
      have HC := Lib.hid hcell
      have HP := Lib.hid hput
      have HD := Lib.hid (Below.refl W2.heap.size W2).drew
      have HW := Lib.hid hW2
      clear hcell hput hR hS hlt hn hx hy hR1 hR2 hS2 hT2 hW2 cf ef
      go_enter Try.func16, Try.ntmps16
      go_wp2_with fail
      rw [HW.out]
      go_wp2_with fail
      go_region_law (first
        | (go_simp; go_at_call 29; refine (HBW.out _).mono ?_; rintro e w3 ⟨rfl, hb3⟩; have HB3 := Lib.hid (HD.out.trans (hb3.mono HD.out.size)); clear hb3; have c3 := HC.out _ HB3.out; obtain ⟨w4, hrun, hP⟩ := HP.out w3 HB3.out; have HP4 := Lib.hid hP; clear hP))
      all_goals
        go_wp2_with fail
        go_returns
        exact ⟨rfl, HP4.out⟩
end Go.Proofs.Ytcfhfamdcdkgjaa
