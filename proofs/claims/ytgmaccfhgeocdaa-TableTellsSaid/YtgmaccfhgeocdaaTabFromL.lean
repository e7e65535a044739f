/-
  Walks over the laws of package table: from (what is gone over, left behind so many). Condition: the receiver is a table.
-/
import Derived.Test.YtgmaccfhgeocdaaTabRefC
namespace Go.Proofs.Ytgmaccfhgeocdaa
open Go.RowKit Go.Shelf Tb
attribute [local go_sem] Oper.semAt_some
theorem OwnRef.steps {A C : World} {B : Nat} {v : Value} {xs : List En} {S S' : Nat → Prop} (h : OwnRef A B v xs) (st : StepsZ S S' A C) (hv : ∀ k, v.ownBlock = some k → ¬ S k) : OwnRef C B v xs ∧ (∀ k, v.ownBlock = some k → ¬ S' k) :=
  ⟨h.stays fun k hk hb => st.block k hk (hv k hb), fun k hk hs => (st.new k hs).elim (hv k hk) fun e => by have := (h.lt k hk).2; omega⟩
theorem OwnRef.mono {A : World} {B B' : Nat} {v : Value} {xs : List En} (h : OwnRef A B v xs) (hb : B' ≤ B) : OwnRef A B' v xs := by
  refine ⟨h.1, ?_⟩
  rcases h.2 with hn | ⟨g, cap, cur, rfl, h1, h2⟩
  · exact .inl hn
  · exact .inr ⟨g, cap, cur, rfl, Nat.le_trans hb h1, h2⟩
/-- A mark that is taken leaves a row as it is. -/
theorem OwnRef.put {A : World} {B D : Nat} {v : Value} {xs : List En} {o : Obj} (h : OwnRef A B v xs) (hD : A.heap[D]? = some (.deferred (some []))) : OwnRef (A.putObj D o) B v xs := by
  refine ⟨h.1, ?_⟩
  rcases h.2 with hn | ⟨g, cap, cur, rfl, h1, h2, h3⟩
  · exact .inl hn
  · exact .inr ⟨g, cap, cur, rfl, h1, (World.putObj_heap_other fun e => by subst e; rw [hD] at h2; cases h2).trans h2, h3⟩

/-- A round's append: what it leaves. -/
theorem refs_step {w1 A W' : World} {gk : Nat} {v v' : Value} {es es' : List En} {S cap : Nat → Prop} (ho : Outs [gk] w1 A) (hgl : gk < w1.heap.size) (hgA : A.heap[gk]? = some (.cells #[v] 43 (0, 0))) (hov : OwnRef A w1.heap.size v es)
    (hvS : ∀ k, v.ownBlock = some k → ¬ S k) (hS : ∀ k, S k → w1.heap.size ≤ k ∧ k < A.heap.size) (hcap : ∀ k, cap k → k < w1.heap.size) (hcg : ¬ cap gk) (o2 : OwnRef W' w1.heap.size v' es') (g : Grew v v' A W') :
    W'.heap[gk]? = some (.cells #[v] 43 (0, 0)) ∧ Outs [gk] w1 (W'.setCell ⟨gk, 0, none⟩ v') ∧ (W'.setCell ⟨gk, 0, none⟩ v').heap[gk]? = some (.cells #[v'] 43 (0, 0)) ∧ OwnRef (W'.setCell ⟨gk, 0, none⟩ v') w1.heap.size v' es' ∧
      (∀ k, v'.ownBlock = some k → ¬ S k) ∧ BodyZ cap S A (W'.setCell ⟨gk, 0, none⟩ v') := by
  have hlt := hov.lt
  have hA := ho.size
  have r1 : W'.heap[gk]? = some (.cells #[v] 43 (0, 0)) := (g.block gk (by omega) fun e => by have := (hlt gk e).1; omega).trans hgA
  have r2 : Outs [gk] w1 W' := ⟨g.os.trans ho.os, g.tape.trans ho.tape, g.output.trans ho.output, Nat.le_trans ho.size g.size, fun k hk hn => (g.block k (by omega) fun e => by have := (hlt k e).1; omega).trans (ho.block k hk hn)⟩
  refine ⟨r1, r2.set (by simp) 0 _, heap_setCell_same W' gk 0 _ _ _ r1, o2.stays fun k hk hb => Below.heap_setCell _ _ _ _ fun e => by have := (o2.lt k hb).1; simp at e; omega, fun k hk hs => ?_, ?_⟩
  · rcases g.own k hk with e | e
    · exact hvS k e hs
    · have := (hS k hs).2; omega
  · refine ⟨by simpa [World.setCell] using g.size, fun k hk hb => (Below.heap_setCell _ _ _ _ fun (e : k = gk) => ?_).trans (g.block k hk fun e => ?_)⟩
    · subst e
      rcases hb with hb | hb
      · exact hcg hb
      · have := (hS _ hb).1; omega
    · rcases hb with hb | hb
      · have := hcap k hb; have := (hlt k e).1; omega
      · exact hvS k e hb


/-- What is gone over, when it is left behind so many (below 1: never). -/
def partE (M : List En) (n : Int) : List En := if 0 < n ∧ n ≤ (M.length : Int) then M.take n.toNat else M
theorem from_drop {l : List En} (h : Right l) (key : ByteArray) : l.drop (below l key) = fromE l key := drop_below h key
set_option maxRecDepth 100000 in
set_option maxHeartbeats 8000000 in
theorem froml_any {w : World} {a : Nat} {l : List En} (hT : IsTab w a l) (key : ByteArray) (lv : Int) :
    Calls Try.prog 22 #[.pointer (some ⟨a, 0, none⟩), .string key, .int .i64 lv] w (Made (partE (fromE l key) lv) w) := by
  refine (callsIn_wide (n := 9)).1 ?_
  refine callsIn_of_wp_marks Try.func22 rfl trivial ?_ rfl
  simp only [Try.ntmps22, List.size_toArray, List.length_cons, List.length_nil, Nat.reduceAdd, Nat.reduceSub, Array.replicate_succ, Array.replicate_zero, List.push_toArray, List.append_toArray, List.nil_append, List.cons_append]
  have h0 := ((now_start w).alloc (.cells #[.int .i64 lv] 3)).alloc (.cells #[.slice none 0 0] 43)
  have hz : (w.alloc (.cells #[.int .i64 lv] 3)).heap.size = w.heap.size + 1 := by simp
  rw [hz] at h0
  have hzz : ((w.alloc (.cells #[.int .i64 lv] 3)).alloc (.cells #[.slice none 0 0] 43)).heap.size = w.heap.size + 2 := by simp
  have HT := Lib.hid hT
  have HFR := Lib.hid (from_any (hT.below h0.below) key)
  have HZZ := Lib.hid hzz
  have HLA := Lib.hid hT.1.cells.2.1
  clear hz hzz hT
  gi_wp2_with fail
  obtain ⟨gk, hgk⟩ : ∃ gk, gk = w.heap.size + 1 := ⟨_, rfl⟩
  rw [← hgk] at h0 ⊢
  obtain ⟨gb, hgb⟩ : ∃ gb, gb = w.heap.size := ⟨_, rfl⟩
  rw [← hgb] at h0 ⊢
  have H0 := Lib.hid h0
  have HG := Lib.hid (And.intro hgk hgb)
  clear h0 hgk hgb
  refine ⟨trivial, ?_⟩
  refine (callsIn_wide.2 HFR.out).mono ?_
  rintro e w1 ⟨b1, b2, rfl, hb1, hb2, hl1, hl2, hbe⟩
  have H1 := Lib.hid (H0.out.same hbe)
  have hT1 := HT.out.below H1.out.below
  have hen := fun (u : World) => eql_seqT u (.func 42) #[] #[.pointer (some ⟨b1, 0, none⟩), .pointer (some ⟨b2, 0, none⟩)]
  rw [HZZ.out] at hl1
  gi_wp2_with fail
  obtain ⟨xs, hx, hxl⟩ := ents_from hT1.2 (below l key) (below_le l key)
  rw [from_drop hT1.2] at hxl
  have hrs := rows_small hT1.2
  have hom := Nat.le_trans (off_le l (below l key)) hrs
  have hsq := behind1_seq 8 (rows l) (by omega) (off l (below l key)) (by omega) xs hx a b1 b2 w1 hT1.1.rows hb1 hb2
  have hgk1 : w1.heap[gk]? = some (.cells #[.slice none 0 0] 43 (0, 0)) := H1.out.head
  have hgb1 : w1.heap[gb]? = some (.cells #[.int .i64 lv] 3 (0, 0)) := H1.out.box (gb, .cells #[.int .i64 lv] 3 (0, 0)) (by simp)
  have l1 : b1 < w1.heap.size := (Array.getElem?_eq_some_iff.1 hb1).1
  have l2 : b2 < w1.heap.size := (Array.getElem?_eq_some_iff.1 hb2).1
  have l3 : gb < w1.heap.size := (Array.getElem?_eq_some_iff.1 hgb1).1
  have l4 : gk < w1.heap.size := (Array.getElem?_eq_some_iff.1 hgk1).1
  have l5 : a < w1.heap.size := hT1.1.cells.2.1
  have hww : w.heap.size ≤ w1.heap.size := H1.out.below.size
  have hn1 : b1 ≠ gk := by have := HG.out; omega
  have hn2 : b2 ≠ gk := by have := HG.out; omega
  have hn3 : a ≠ gk := by have := HG.out; have := HLA.out; omega
  have hn4 : gb ≠ gk := by have := HG.out; omega
  have hwk : w.heap.size ≤ gk := by have := HG.out; omega
  have hxn : xs.length ≤ 5000 := by
    have h1 := congrArg List.length hxl
    have h2 := List.length_filter_le (fun e => !Mm.lt e.key key) l
    have h3 := hT1.2.few
    unfold fromE at h1
    rw [List.length_map] at h1
    omega
  have HXL := Lib.hid hxl
  have HGK := Lib.hid hgk1
  have HGB := Lib.hid hgb1
  have HIN : Hid (∀ e ∈ fromE l key, EnIn e) := Lib.hid fun e he => by
    have := hT1.2.ok e (List.mem_filter.1 he).1
    exact ⟨Nat.le_trans this.2.1 (by decide), Nat.le_trans this.2.2.1 (by decide)⟩
  clear hx hxl hgk1 hgb1 hb1 hb2 hbe hen hl1 hl2 hT1 hrs hom
  apply wpIn_rangeZ rfl (by omega) (gf := 42) (lb := #[.pointer (some ⟨b1, 0, none⟩), .pointer (some ⟨b2, 0, none⟩)]) rfl trivial (enters_of Try.func42 (by kernel_rfl) rfl)
    (encs := fun x : En × Nat => #[.agg #[.string x.1.key, .string x.1.value, .bool x.1.gone]]) (xs := xs) (cap := fun k => k = b1 ∨ k = b2 ∨ k = a) hsq (fun k hk => by rcases hk with rfl | rfl | rfl <;> assumption) (fun _ => rfl)
    (fun S i A => Outs [gk] w1 A ∧ (∀ k, S k → w1.heap.size ≤ k) ∧ ¬ (0 < lv ∧ lv ≤ (i : Int)) ∧ ∃ v, A.heap[gk]? = some (.cells #[v] 43 (0, 0)) ∧ OwnRef A w1.heap.size v ((xs.map Prod.fst).take i) ∧ ∀ k, v.ownBlock = some k → ¬ S k)
    (fun cd S i A => cd = .exit 0 ∧ Outs [gk] w1 A ∧ (∀ k, S k → w1.heap.size ≤ k) ∧ (0 < lv ∧ lv ≤ (xs.length : Int)) ∧ ∃ v, A.heap[gk]? = some (.cells #[v] 43 (0, 0)) ∧ OwnRef A w1.heap.size v ((xs.map Prod.fst).take lv.toNat) ∧ ∀ k, v.ownBlock = some k → ¬ S k)
    (fun S S' i A C hs st => by
      obtain ⟨q1, q2, q3, v, q4, q5, q6⟩ := hs
      have hz := q1.size
      obtain ⟨q7, q8⟩ := q5.steps st q6
      exact ⟨q1.steps st q2, fun k hk => (st.new k hk).elim (q2 k) fun e => by omega, q3, v, (st.block _ (by omega) fun e => by have := q2 _ e; omega).trans q4, q7, q8⟩)
    (fun cd S S' i A C hs st => by
      obtain ⟨q0, q1, q2, q3, v, q4, q5, q6⟩ := hs
      have hz := q1.size
      obtain ⟨q7, q8⟩ := q5.steps st q6
      exact ⟨q0, q1.steps st q2, fun k hk => (st.new k hk).elim (q2 k) fun e => by omega, q3, v, (st.block _ (by omega) fun e => by have := q2 _ e; omega).trans q4, q7, q8⟩)
    ⟨Outs.refl _ _, fun k hk => hk.elim, by omega, _, HGK.out, OwnRef.nil _ _, fun k hk => by simp [Value.ownBlock] at hk⟩
    (w₁ := fun x A => A.alloc (.cells #[.string x.1.key, .string x.1.value, .bool x.1.gone] 31)) (hw₁ := fun x A => below_alloc A _)
  case hassign =>
    intro l x W K hK
    gi_wp2
    exact hK
  case hstop =>
    rintro D S cd i A hD hSD hS hi ⟨rfl, ho, hS2, hlv, v, hgA, hov, hvS⟩ hK
    have hov2 := (hov.mono hww).put (o := .deferred none) hK
    have hpe : partE (fromE l key) lv = (xs.map Prod.fst).take lv.toNat := by
      rw [HXL.out]; unfold partE
      have h1 := congrArg List.length HXL.out
      rw [List.length_map] at h1
      rw [if_pos (by omega)]
    rw [← hpe] at hov2
    obtain ⟨pv, cv, ev, hc1, hc2, hat⟩ := hov2.ents fun e he => HIN.out e (by
      unfold partE at he
      split at he
      · exact List.mem_of_mem_take he
      · exact he)
    subst ev
    have c3 := (cells1 hgA).1
    have HAT := Lib.hid hat
    have HC := Lib.hid (And.intro hc1 hc2)
    have HO := Lib.hid (below_putObjZ (Outs.upons H1.out.below ho (fun g hg => by rw [List.mem_singleton.1 hg]; exact hwk)) (show w.heap.size ≤ D by omega) (.deferred none))
    obtain ⟨nv, hnv⟩ : ∃ nv, nv = (partE (fromE l key) lv).length := ⟨_, rfl⟩
    rw [← hnv] at c3
    have HNV := Lib.hid hnv
    clear hc1 hc2 hov hov2 hat hgA ho hsq hvS hpe hnv
    gi_wp2_with fail
    refine leaves_one (fn := Try.f22) (fun W => results_tmp (t := 6) rfl _ _ W) hK ?_
    obtain rfl := HNV.out
    exact ⟨pv, cv, rfl, HAT.out, HO.out, HC.out⟩
  case hdone =>
    rintro D S A hD hSD hS ⟨ho, hS2, hlv, v, hgA, hov, hvS⟩ hK
    rw [List.take_of_length_le (by rw [List.length_map]; exact Nat.le_refl _)] at hov
    have hov2 := (hov.mono hww).put (o := .deferred none) hK
    have hpe : partE (fromE l key) lv = xs.map Prod.fst := by
      rw [HXL.out]; unfold partE
      have h1 := congrArg List.length HXL.out
      rw [List.length_map] at h1
      rw [if_neg (by omega)]
    rw [← hpe] at hov2
    obtain ⟨pv, cv, ev, hc1, hc2, hat⟩ := hov2.ents fun e he => HIN.out e (by
      unfold partE at he
      split at he
      · exact List.mem_of_mem_take he
      · exact he)
    subst ev
    have c3 := (cells1 hgA).1
    have HAT := Lib.hid hat
    have HC := Lib.hid (And.intro hc1 hc2)
    have HO := Lib.hid (below_putObjZ (Outs.upons H1.out.below ho (fun g hg => by rw [List.mem_singleton.1 hg]; exact hwk)) (show w.heap.size ≤ D by omega) (.deferred none))
    obtain ⟨nv, hnv⟩ : ∃ nv, nv = (partE (fromE l key) lv).length := ⟨_, rfl⟩
    rw [← hnv] at c3
    have HNV := Lib.hid hnv
    clear hc1 hc2 hov hov2 hat hgA ho hsq hvS hpe hnv
    gi_wp2_with fail
    refine leaves_one (fn := Try.f22) (fun W => results_tmp (t := 6) rfl _ _ W) hK ?_
    obtain rfl := HNV.out
    exact ⟨pv, cv, rfl, HAT.out, HO.out, HC.out⟩
  case hbody =>
    rintro l1 S i hi A0 A hz0 hSA hzA hnew ⟨ho, hS2, hlv, v, hgA, hov, hvS⟩
    obtain ⟨p, cap, e1, -, -⟩ := hov.shape
    have hsz1 := ho.size
    have hlen : ((xs.map Prod.fst).take i).length = i := by rw [List.length_take, List.length_map]; omega
    have hgbA : A.heap[gb]? = some (.cells #[.int .i64 lv] 3 (0, 0)) := (ho.block gb l3 (by simp; omega)).trans HGB.out
    have hbx : A.heap[A0.heap.size]? = some (entO xs[i].1) := (hnew _ (Nat.le_refl _)).trans (heap_alloc_new A0 _)
    have hzA0 : A0.heap.size < A.heap.size := by rw [hzA]; simp
    rw [hlen] at e1
    subst e1
    obtain ⟨cg, fg⟩ := cells1 hgA
    have fg0 := fg 0
    obtain ⟨d0, d1, d2⟩ := cells3 hbx
    have HTK := Lib.hid (List.take_succ_eq_append_getElem (l := xs.map Prod.fst) (i := i) (by rw [List.length_map]; exact hi))
    have HGX : Hid ((xs.map Prod.fst)[i]'(by rw [List.length_map]; exact hi) = xs[i].1) := Lib.hid (by simp)
    obtain ⟨x, hx⟩ : ∃ x, x = xs[i].1 := ⟨_, rfl⟩
    rw [← hx] at d0 d1 d2 HGX ⊢
    obtain ⟨es, hes⟩ : ∃ es, es = (xs.map Prod.fst).take i := ⟨_, rfl⟩
    rw [← hes] at hov HTK hlen
    have hnx : es.length + 1 ≤ 1000000 := by rw [hlen]; omega
    obtain ⟨pv, cv, W', hrun, o2, g2⟩ := r_append hov (below_alloc A (.cells #[.string x.key, .string x.value, .bool x.gone] 46)) ⟨A.heap.size, 0, none⟩ [x] 1 1 rfl (news_three A _ _ _ _) hnx (show w1.heap.size ≤ A.heap.size by omega) 43
    have hst := refs_step (cap := fun k => k = b1 ∨ k = b2 ∨ k = a) (S := S) ho l4 hgA hov hvS (fun k hk => by have := hSA k hk; exact ⟨this.1, by omega⟩) (fun k hk => by rcases hk with rfl | rfl | rfl <;> assumption) (by intro h; rcases h with h | h | h <;> omega) o2 g2
    rw [hlen] at hrun hst
    obtain ⟨q1, q2⟩ := cells1 hst.1
    have q3 := q2 0
    have q4 := (cells1 hst.2.2.1).1
    have q5 : (W'.setCell ⟨gk, 0, none⟩ (.slice pv (i + 1) cv)).cell? ⟨gb, 0, none⟩ = some (.int .i64 lv) := by
      have h1 := hst.2.1.block gb l3 (by simp; omega)
      exact (cells1 (h1.trans HGB.out)).1
    have HST := Lib.hid hst
    have HS2 := Lib.hid hS2
    have HLV := Lib.hid hlv
    have HNW : Hid ((xs.map Prod.fst).take (i + 1) = es ++ [x]) := Lib.hid (by rw [HTK.out, HGX.out])
    clear hst o2 g2 q2 hes hlen hov hx hbx hnew hzA hSA hS2 hvS ho hgA hgbA fg hnx HTK HGX hlv
    by_cases he : ((i : Int) + 1) = lv
    · have dd : (((i : Int) + 1) == lv) = true := by rw [beq_iff_eq]; exact he
      have HE := Lib.hid he
      clear he
      gi_wp2_with (gi_at_builtin; refine tabIn_append _ rfl (.tmp 17) (.tmp 19) 43 43 rfl _ _ rfl rfl _ _ hrun ?_)

      refine ⟨HST.out.2.2.2.2.2, rfl, HST.out.2.1, HS2.out, by have := HE.out; omega, _, HST.out.2.2.1, ?_, HST.out.2.2.2.2.1⟩
      have h1 : lv.toNat = i + 1 := by have := HE.out; omega
      rw [h1, HNW.out]; exact HST.out.2.2.2.1
    · have dd : (((i : Int) + 1) == lv) = false := by rw [beq_eq_false_iff_ne]; exact he
      have HE := Lib.hid he
      clear he
      gi_wp2_with (gi_at_builtin; refine tabIn_append _ rfl (.tmp 17) (.tmp 19) 43 43 rfl _ _ rfl rfl _ _ hrun ?_)
      refine ⟨HST.out.2.2.2.2.2, HST.out.2.1, HS2.out, by have := HE.out; have := HLV.out; omega, _, HST.out.2.2.1, ?_, HST.out.2.2.2.2.1⟩
      rw [HNW.out]; exact HST.out.2.2.2.1
end Go.Proofs.Ytgmaccfhgeocdaa
