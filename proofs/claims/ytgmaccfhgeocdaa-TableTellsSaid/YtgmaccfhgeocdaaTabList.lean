/-
  Walks over package table: list. Condition: rows of at most 2^47 bytes.
-/
import Derived.Test.YtgmaccfhgeocdaaTabBehind
import Derived.Test.YtgmaccfhgeocdaaTabEnts
import Derived.OwnWalk
import Derived.OwnWalkIn
import Derived.Deep.WholeRow
import Derived.Shelf.Abstract
import Derived.Shelf.RegionOpen
namespace Go.Proofs.Ytgmaccfhgeocdaa
open Go.RowKit Go.Shelf Tb
attribute [local go_sem] Oper.semAt_some
theorem list_ents {R : List UInt8} (c : Nat) {p : Nat} {xs : List (En × Nat)} (h : Ents R p xs) : listN c p R = (xs.map Prod.fst).take c := by
  induction c generalizing p xs with
  | zero => simp [listN]
  | succ c ih =>
    cases xs with
    | nil => rw [listN, show atR R p = none from h]; simp
    | cons x r =>
      rw [listN, h.1]
      simp only [List.map_cons, List.take_succ_cons]
      rw [ih h.2]
theorem leaves_one {F : Fence} {n : Nat} {P : Program} {fn : Func} {tmps : Array Value} {R : Ending → World → Prop} {v : Value} {D : Nat} {W : World} (hres : ∀ W, (results fn tmps).run P W = .ok v W) (hK : W.heap[D]? = some (.deferred (some []))) (hR : R (.returned v) (W.putObj D (.deferred none))) :
    LeavesInM F n P fn tmps R [{ target := .collected D, args := #[] }] .returning W :=
  ⟨by simp, .inl ⟨_, _, rfl, run_takeDeferred hK, ⟨v, hres _, hR⟩⟩⟩
theorem OwnEnts.steps {A C : World} {B : Nat} {v : Value} {xs : List En} {S S' : Nat → Prop} (h : OwnEnts A B v xs) (st : StepsZ S S' A C) (hv : ∀ k, v.ownBlock = some k → ¬ S k) : OwnEnts C B v xs ∧ (∀ k, v.ownBlock = some k → ¬ S' k) :=
  ⟨h.stays fun k hk hb => st.block k hk (hv k hb), fun k hk hs => (st.new k hs).elim (hv k hk) fun e => by have := (h.lt k hk).2; omega⟩
theorem OwnEnts.mono {A : World} {B B' : Nat} {v : Value} {xs : List En} (h : OwnEnts A B v xs) (hb : B' ≤ B) : OwnEnts A B' v xs := by
  refine ⟨h.1, ?_⟩
  rcases h.2 with hn | ⟨g, cap, cur, rfl, h1, h2⟩
  · exact .inl hn
  · exact .inr ⟨g, cap, cur, rfl, Nat.le_trans hb h1, h2⟩
/-- A mark that is taken leaves a row as it is. -/
theorem OwnEnts.put {A : World} {B D : Nat} {v : Value} {xs : List En} {o : Obj} (h : OwnEnts A B v xs) (hD : A.heap[D]? = some (.deferred (some []))) : OwnEnts (A.putObj D o) B v xs := by
  refine ⟨h.1, ?_⟩
  rcases h.2 with hn | ⟨g, cap, cur, rfl, h1, h2, h3⟩
  · exact .inl hn
  · exact .inr ⟨g, cap, cur, rfl, h1, (World.putObj_heap_other fun e => by subst e; rw [hD] at h2; cases h2).trans h2, h3⟩

/-- append inside a fence, its run known. -/
theorem tabIn_append {F : Fence} {n : Nat} {P : Program} (w : World) {ops : Array Oper} {rest : List Oper} {o : Oper} {a : Act} {Q : Exit → Act → World → Prop} (hg : o.guard = none) (s x : Operand) (t tn : TypeId)
    (hop : o.op = .call { callee := .builtin .append, args := #[s, x], argTypes := #[t, tn] }) (vs vx : Value) (hs : a.eval s = vs) (hx : a.eval x = vx)
    (v' : Value) (w' : World) (hr : (Builtin.append_ #[t, tn] o.type #[vs, vx]).run P w = .ok v' w') (h : wpListIn F n P ops Q rest (a.put o.dst v') w') : wpListIn F n P ops Q (o :: rest) a w := by
  refine wpListIn_plain hg fun K hK' => ?_
  unfold Oper.wpIn
  refine ⟨by simp [Oper.about, hop, resolve, Target.leads, Sem.run_pure], ?_⟩
  rw [Oper.semAt_plain F _ _ (by rw [hop]; intro c hc'; cases hc')]
  simp [execOp, hop, resolve, invoke, builtin, hs, hx, hr, Result.andThen]
  exact hK' _ _ h
/-- A round's append: what it leaves. -/
theorem ents_step {w1 A W' : World} {gk : Nat} {v v' : Value} {es es' : List En} {S cap : Nat → Prop} (ho : Outs [gk] w1 A) (hgl : gk < w1.heap.size) (hgA : A.heap[gk]? = some (.cells #[v] 25 (0, 0))) (hov : OwnEnts A w1.heap.size v es)
    (hvS : ∀ k, v.ownBlock = some k → ¬ S k) (hS : ∀ k, S k → w1.heap.size ≤ k ∧ k < A.heap.size) (hcap : ∀ k, cap k → k < w1.heap.size) (hcg : ¬ cap gk) (o2 : OwnEnts W' w1.heap.size v' es') (g : Grew v v' A W') :
    W'.heap[gk]? = some (.cells #[v] 25 (0, 0)) ∧ Outs [gk] w1 (W'.setCell ⟨gk, 0, none⟩ v') ∧ (W'.setCell ⟨gk, 0, none⟩ v').heap[gk]? = some (.cells #[v'] 25 (0, 0)) ∧ OwnEnts (W'.setCell ⟨gk, 0, none⟩ v') w1.heap.size v' es' ∧
      (∀ k, v'.ownBlock = some k → ¬ S k) ∧ BodyZ cap S A (W'.setCell ⟨gk, 0, none⟩ v') := by
  have hlt := hov.lt
  have hA := ho.size
  have r1 : W'.heap[gk]? = some (.cells #[v] 25 (0, 0)) := (g.block gk (by omega) fun e => by have := (hlt gk e).1; omega).trans hgA
  have r2 : Outs [gk] w1 W' := ⟨g.os.trans ho.os, g.tape.trans ho.tape, g.output.trans ho.output, Nat.le_trans ho.size g.size, fun k hk hn => (g.block k (by omega) fun e => by have := (hlt k e).1; omega).trans (ho.block k hk hn)⟩
  refine ⟨r1, r2.set (by simp) 0 _, heap_setCell_same W' gk 0 _ _ _ r1, o2.stays fun k hk hb => Below.heap_setCell _ _ _ _ fun e => by have := (o2.lt k hb).1; simp at e; omega, fun k hk hs => ?_, ?_⟩
  · rcases g.own k hk with e | e
    · exact hvS k e hs
    · have := (hS k hs).2; omega
  · refine ⟨by simpa [World.setCell] using g.size, fun k hk hb => (Below.heap_setCell _ _ _ _ fun (e : k = gk) => ?_).trans (g.block k hk fun e => ?_)⟩
    · subst e
      rcases hb with hb | hb
      · exact hcg hb
      · have := (hS _ hb).1; omega
    · rcases hb with hb | hb
      · have := hcap k hb; have := (hlt k e).1; omega
      · exact hvS k e hb

set_option maxRecDepth 100000 in
set_option maxHeartbeats 8000000 in
theorem list_any {w : World} {a c : Nat} {I : List Blk} {R : List UInt8} (hT : TabAt w a c I R) (hR : R.length ≤ 70000000000000) (hc : c ≤ 65535) :
    Calls Try.prog 28 #[.pointer (some ⟨a, 0, none⟩)] w fun e w' => ∃ v, e = .returned v ∧ OwnEnts w' w.heap.size v (listN c 0 R) ∧ Below w.heap.size w w' := by
  refine (callsIn_wide (n := 9)).1 ?_
  refine callsIn_of_wp_marks Try.func28 rfl trivial ?_ rfl
  simp only [Try.ntmps28, List.size_toArray, List.length_cons, List.length_nil, Nat.reduceAdd, Nat.reduceSub, Array.replicate_succ, Array.replicate_zero, List.push_toArray, List.append_toArray, List.nil_append, List.cons_append]
  have h0 := ((now_start w).alloc (.cells #[.pointer (some ⟨a, 0, none⟩)] 27)).alloc (.cells #[.slice none 0 0] 25)
  obtain ⟨bk, hbk⟩ : ∃ bk, bk = w.heap.size := ⟨_, rfl⟩
  have hz : (w.alloc (.cells #[.pointer (some ⟨a, 0, none⟩)] 27)).heap.size = bk + 1 := by rw [hbk]; simp
  rw [hz, ← hbk] at h0
  clear hz
  gi_wp2_with fail
  refine ⟨trivial, ?_⟩
  refine (callsIn_wide.2 (behind_any _ _ _)).mono ?_
  rintro e w1 ⟨b1, b2, rfl, hb1, hb2, hl1, hl2, hbe⟩
  have H1 := Lib.hid (h0.same hbe)
  have hT1 := hT.below (H1.out.below)
  have hbk1 : w1.heap[bk]? = some (.cells #[.pointer (some ⟨a, 0, none⟩)] 27 (0, 0)) := H1.out.box (bk, _) (by simp)
  have hgk1 : w1.heap[bk + 1]? = some (.cells #[.slice none 0 0] 25 (0, 0)) := H1.out.box (bk + 1, _) (by simp)
  obtain ⟨xs, hx⟩ := ents_any R 0
  have HLE : Hid (listN c 0 R = (xs.map Prod.fst).take c) := Lib.hid (list_ents c hx)
  have hsq := behind1_seq 8 R hR 0 (by omega) xs hx a b1 b2 w1 hT1.rows hb1 hb2
  have l1 : b1 < w1.heap.size := (Array.getElem?_eq_some_iff.1 hb1).1
  have l2 : b2 < w1.heap.size := (Array.getElem?_eq_some_iff.1 hb2).1
  have l3 : bk < w1.heap.size := (Array.getElem?_eq_some_iff.1 hbk1).1
  have l4 : bk + 1 < w1.heap.size := (Array.getElem?_eq_some_iff.1 hgk1).1
  have l5 : a < w1.heap.size := hT1.cells.2.1
  have law : a < w.heap.size := hT.cells.2.1
  have hww : w.heap.size ≤ w1.heap.size := H1.out.below.size
  have HT1 := Lib.hid hT1
  have HBK := Lib.hid hbk1
  have HGK := Lib.hid hgk1
  have HX := Lib.hid hx
  have hzz : ((w.alloc (.cells #[.pointer (some ⟨a, 0, none⟩)] 27)).alloc (.cells #[.slice none 0 0] 25)).heap.size = bk + 2 := by rw [hbk]; simp
  rw [hzz] at hl1
  have hn1 : b1 ≠ bk + 1 := by omega
  have hn2 : b2 ≠ bk + 1 := by omega
  clear hT1 hbk1 hgk1 hx hT hb1 hb2 hbe h0 hzz
  gi_wp2_with fail
  rw [← hbk]
  apply wpIn_rangeZ rfl (by omega) (gf := 42) (lb := #[.pointer (some ⟨b1, 0, none⟩), .pointer (some ⟨b2, 0, none⟩)]) rfl trivial (enters_of Try.func42 (by kernel_rfl) rfl)
    (encs := fun x : En × Nat => #[.agg #[.string x.1.key, .string x.1.value, .bool x.1.gone]]) (xs := xs) (cap := fun k => k = b1 ∨ k = b2 ∨ k = a) hsq (fun k hk => by rcases hk with rfl | rfl | rfl <;> assumption) (fun _ => rfl)
    (fun S i A => Outs [bk + 1] w1 A ∧ (∀ k, S k → w1.heap.size ≤ k) ∧ i ≤ c ∧ ∃ v, A.heap[bk + 1]? = some (.cells #[v] 25 (0, 0)) ∧ OwnEnts A w1.heap.size v ((xs.map Prod.fst).take i) ∧ ∀ k, v.ownBlock = some k → ¬ S k)
    (fun cd S i A => cd = .exit 0 ∧ Outs [bk + 1] w1 A ∧ (∀ k, S k → w1.heap.size ≤ k) ∧ ∃ v, A.heap[bk + 1]? = some (.cells #[v] 25 (0, 0)) ∧ OwnEnts A w1.heap.size v ((xs.map Prod.fst).take c) ∧ ∀ k, v.ownBlock = some k → ¬ S k)
    (fun S S' i A C hs st => by
      obtain ⟨q1, q2, q3, v, q4, q5, q6⟩ := hs
      have hz := q1.size
      obtain ⟨q7, q8⟩ := q5.steps st q6
      exact ⟨q1.steps st q2, fun k hk => (st.new k hk).elim (q2 k) fun e => by omega, q3, v, (st.block _ (by omega) fun e => by have := q2 _ e; omega).trans q4, q7, q8⟩)
    (fun cd S S' i A C hs st => by
      obtain ⟨q0, q1, q2, v, q4, q5, q6⟩ := hs
      have hz := q1.size
      obtain ⟨q7, q8⟩ := q5.steps st q6
      exact ⟨q0, q1.steps st q2, fun k hk => (st.new k hk).elim (q2 k) fun e => by omega, v, (st.block _ (by omega) fun e => by have := q2 _ e; omega).trans q4, q7, q8⟩)
    ⟨Outs.refl _ _, fun k hk => hk.elim, Nat.zero_le _, _, HGK.out, OwnEnts.nil _ _, fun k hk => by simp [Value.ownBlock] at hk⟩
    (w₁ := fun x A => A.alloc (.cells #[.string x.1.key, .string x.1.value, .bool x.1.gone] 31)) (hw₁ := fun x A => below_alloc A _)
  case hassign =>
    intro l x W K hK
    gi_wp2
    exact hK
  case hstop =>
    rintro D S cd i A hD hSD hS hi ⟨rfl, ho, hS2, v, hgA, hov, hvS⟩ hK
    subst hbk
    obtain ⟨pv, cv, ev, -, -⟩ := hov.shape
    obtain ⟨nv, hnv⟩ : ∃ nv, nv = ((xs.map Prod.fst).take c).length := ⟨_, rfl⟩
    rw [← hnv] at ev
    subst ev
    have c3 := (cells1 hgA).1
    have HOV := Lib.hid hov
    have HO := Lib.hid ho
    clear hov hgA ho hsq hnv hvS
    gi_wp2_with fail
    refine leaves_one (fn := Try.f28) (fun W => results_tmp (t := 2) rfl _ _ W) hK ?_
    refine ⟨.slice pv nv cv, rfl, ?_, ?_⟩
    · rw [HLE.out]; exact (HOV.out.mono hww).put hK
    · exact below_putObjZ (Outs.upon H1.out.below HO.out (by omega)) (by omega) _
  case hdone =>
    rintro D S A hD hSD hS ⟨ho, hS2, hic, v, hgA, hov, hvS⟩ hK
    subst hbk
    have e1 : (xs.map Prod.fst).take c = (xs.map Prod.fst).take xs.length := by rw [List.take_of_length_le (by rw [List.length_map]; exact hic), List.take_of_length_le (by rw [List.length_map]; exact Nat.le_refl _)]
    rw [← e1] at hov
    clear e1
    obtain ⟨pv, cv, ev, -, -⟩ := hov.shape
    obtain ⟨nv, hnv⟩ : ∃ nv, nv = ((xs.map Prod.fst).take c).length := ⟨_, rfl⟩
    rw [← hnv] at ev
    subst ev
    have c3 := (cells1 hgA).1
    have HOV := Lib.hid hov
    have HO := Lib.hid ho
    clear hov hgA ho hsq hnv hvS
    gi_wp2_with fail
    refine leaves_one (fn := Try.f28) (fun W => results_tmp (t := 2) rfl _ _ W) hK ?_
    refine ⟨.slice pv nv cv, rfl, ?_, ?_⟩
    · rw [HLE.out]; exact (HOV.out.mono hww).put hK
    · exact below_putObjZ (Outs.upon H1.out.below HO.out (by omega)) (by omega) _
  case hbody =>
    rintro l S i hi A0 A hz0 hSA hzA hnew ⟨ho, hS2, hic, v, hgA, hov, hvS⟩
    subst hbk
    obtain ⟨p, cap, e1, -, -⟩ := hov.shape
    have hsz1 := ho.size
    have hlen : ((xs.map Prod.fst).take i).length = i := by rw [List.length_take, List.length_map]; omega
    have hgb : A.heap[w.heap.size]? = some (.cells #[.pointer (some ⟨a, 0, none⟩)] 27 (0, 0)) := (ho.block w.heap.size l3 (by simp)).trans HBK.out
    have hga : TabAt w1 a c I R := HT1.out
    obtain ⟨pt, ct, hta, -⟩ := hga
    have hta2 := (ho.block a l5 (by simp; omega)).trans hta
    have hbx : A.heap[A0.heap.size]? = some (entO xs[i].1) := (hnew _ (Nat.le_refl _)).trans (heap_alloc_new A0 _)
    have hzA0 : A0.heap.size < A.heap.size := by rw [hzA]; simp
    rw [hlen] at e1
    subst e1
    have hgx := cells1 hgA
    obtain ⟨cg, fg⟩ := hgx
    have fg0 := fg 0
    have cb := (cells1 hgb).1
    have ca := (cells3 hta2).1
    obtain ⟨d0, d1, d2⟩ := cells3 hbx
    have HTK := Lib.hid (List.take_succ_eq_append_getElem (l := xs.map Prod.fst) (i := i) (by rw [List.length_map]; exact hi))
    have HGX : Hid ((xs.map Prod.fst)[i]'(by rw [List.length_map]; exact hi) = xs[i].1) := Lib.hid (by simp)
    have HSB := Lib.hid hSA
    have HOUT := Lib.hid ho
    have HS2 := Lib.hid hS2
    have HVS := Lib.hid hvS
    obtain ⟨x, hx⟩ : ∃ x, x = xs[i].1 := ⟨_, rfl⟩
    rw [← hx] at d0 d1 d2 HGX ⊢
    obtain ⟨es, hes⟩ : ∃ es, es = (xs.map Prod.fst).take i := ⟨_, rfl⟩
    rw [← hes] at hov HTK hlen
    have HES := Lib.hid hes
    have HLN := Lib.hid hlen
    have HOV := Lib.hid hov
    have HGA := Lib.hid hgA
    clear fg hes hlen hov hx hta hta2 hgb hbx hnew hzA hSA hS2 hvS ho hgA
    by_cases hci : i = c
    · have dd : ((i : Int) == (c : Int)) = true := by rw [beq_iff_eq]; omega
      have mixed : Try.prog.follows .mixedOrders = true := by kernel_rfl
      gi_wp2_with fail
      gi_region_with_o (fail)
      all_goals
        gi_wp2_with fail
        refine ⟨BodyZ.of_below (below_drew A), rfl, HOUT.out.below (below_drew A), HS2.out, _, HGA.out, ?_, HVS.out⟩
        rw [← hci, ← HES.out]; exact HOV.out.below (below_drew A)
    · have dd : ((i : Int) == (c : Int)) = false := by rw [beq_eq_false_iff_ne]; omega
      have mixed : Try.prog.follows .mixedOrders = true := by kernel_rfl
      have hnx : es.length + 1 ≤ 1000000 := by rw [HLN.out]; omega
      obtain ⟨pv, cv, W', hrun, o2, g2⟩ := e_append (HOV.out.below (below_drew A)) (below_alloc A.drew (.cells #[.string x.key, .string x.value, .bool x.gone] 31)) ⟨A.heap.size, 0, none⟩ [x] 1 1 rfl (news_three A.drew _ _ _ _) hnx (show w1.heap.size ≤ A.heap.size by omega) 25
      have hst := ents_step (cap := fun k => k = b1 ∨ k = b2 ∨ k = a) (S := S) (HOUT.out.below (below_drew A)) l4 HGA.out (HOV.out.below (below_drew A)) HVS.out (fun k hk => by have := HSB.out k hk; exact ⟨this.1, show k < A.heap.size by omega⟩) (fun k hk => by rcases hk with rfl | rfl | rfl <;> assumption) (by simp; omega) o2 g2
      rw [HLN.out] at hrun hst
      have q := cells1 hst.1
      obtain ⟨q1, q2⟩ := q
      have q3 := q2 0
      have HST := Lib.hid hst
      clear hst o2 g2 q2
      gi_wp2_with fail
      gi_region_with_o (fail)
      all_goals
        gi_wp2_with (gi_at_builtin; refine tabIn_append _ rfl (.tmp 15) (.tmp 17) 25 25 rfl _ _ rfl rfl _ _ hrun ?_)
        refine ⟨(BodyZ.of_below (below_drew A)).trans HST.out.2.2.2.2.2, HST.out.2.1, HS2.out, by omega, _, HST.out.2.2.1, ?_, HST.out.2.2.2.2.1⟩
        rw [HTK.out, HGX.out]; exact HST.out.2.2.2.1
end Go.Proofs.Ytgmaccfhgeocdaa
