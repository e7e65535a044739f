/-
  Walks over package sum: the law SumAlls. No condition.
-/
import Derived.Test.YtkaanffclpbiiaaRows
import Derived.Test.YtkaanffclpbiiaaSumWhole
import Derived.Test.YtkaanffclpbiiaaSumAll
import Derived.Test.YtkaanffclpbiiaaSumRefD
import Derived.Test.YtkaanffclpbiiaaSumWalkE
import Derived.Shelf.Abstract
import Derived.Shelf.RegionOpen
import Derived.WalkKit
import Derived.OwnWalkIn
import Derived.TacticsInMore
import Derived.LoopNIn
import Derived.LoopIn
import Derived.Maps.AppendAt
import Derived.Lib.Hide
import Derived.Deep.WholeRow
namespace Go.Proofs.Ytkaanffclpbiiaa
open Go.RowKit Go.Shelf
attribute [local go_sem] Oper.semAt_some

/-- The marks that ranges over functions leave. -/
def marks (Ds : List Nat) : List Deferred := Ds.map fun D => { target := .collected D, args := #[] }
def Marked (W : World) (base : Nat) (Ds : List Nat) : Prop := Ds.Nodup ∧ ∀ D ∈ Ds, base ≤ D ∧ W.heap[D]? = some (.deferred (some []))
theorem Marked.below {W W' : World} {base : Nat} {Ds : List Nat} (h : Marked W base Ds) (hb : ∀ D : Nat, W.heap[D]? = some (Obj.deferred (some [])) → W'.heap[D]? = W.heap[D]?) : Marked W' base Ds :=
  ⟨h.1, fun D hD => ⟨(h.2 D hD).1, (hb D (h.2 D hD).2).trans (h.2 D hD).2⟩⟩
theorem leaves_marks {F : Fence} {n : Nat} {P : Program} {fn : Func} {tmps : Array Value} {R : Ending → World → Prop} {v : Value} {base : Nat} (hres : ∀ W, (results fn tmps).run P W = .ok v W) :
    ∀ (Ds : List Nat) (W : World), Marked W base Ds → (∀ W', Below base W W' → R (.returned v) W') → LeavesInM F n P fn tmps R (marks Ds) .returning W
  | [], W, _, hR => ⟨v, hres W, hR W (Below.refl _ _)⟩
  | D :: Ds, W, hM, hR => by
    have hD := hM.2 D (by simp)
    refine ⟨by simp, .inl ⟨D, _, rfl, run_takeDeferred hD.2, ?_⟩⟩
    refine leaves_marks hres Ds _ ⟨(List.nodup_cons.1 hM.1).2, fun E hE => ⟨(hM.2 E (by simp [hE])).1, ?_⟩⟩ (fun W' h => hR W' ((below_putObj (Below.refl _ W) hD.1 _).trans h))
    rw [World.putObj_heap_other (fun (e : E = D) => (List.nodup_cons.1 hM.1).1 (by rw [← e]; exact hE))]
    exact (hM.2 E (by simp [hE])).2

theorem chain_len {l : List UInt8} {a : Nat} {es : List Nat} (h : Sm.Chain l a es) (ha : a ≤ l.length) : a + 8 * es.length ≤ l.length := by
  induction h with
  | stop _ => simpa using ha
  | go hb _ ih =>
    have h1 := Sm.behindAt_le hb
    have h2 := ih h1.2.1
    rw [List.length_cons]; omega

theorem OwnTexts.steps {A C : World} {T : Nat} {v : Value} {ss : List ByteArray} (h : OwnTexts A T v ss) (hb : ∀ k, k < A.heap.size → T ≤ k → C.heap[k]? = A.heap[k]?) : OwnTexts C T v ss := by
  refine ⟨h.1, ?_⟩
  rcases h.2 with hn | ⟨g, cap, cur, rfl, h1, h2, h3⟩
  · exact .inl hn
  · exact .inr ⟨g, cap, cur, rfl, h1, (hb g (Array.getElem?_eq_some_iff.1 h2).1 h1).trans h2, h3⟩
theorem OwnTexts.took {W : World} {base : Nat} {v : Value} {ss : List ByteArray} {j : Nat} (h : OwnTexts W base v (ss.take j)) (hj : j ≤ ss.length) : ∃ p cap, v = .slice p j cap ∧ j ≤ cap ∧ cap ≤ maxLen ∧ Texts W p (ss.take j) := by
  obtain ⟨p, cap, h1, h2, h3, h4⟩ := h.texts
  have e : (ss.take j).length = j := by rw [List.length_take]; omega
  rw [e] at h1 h2
  exact ⟨p, cap, h1, h2, h3, h4⟩
theorem keeps_grown {cap : Nat → Prop} {B T : Nat} {A W : World} {row : Option Nat} (h : A.grownBy W row) (hrow : ∀ k, row = some k → T ≤ k ∧ ¬ cap k) : BodyKeeps cap B T A W :=
  ⟨h.size, fun k hk hb => h.block k hk (fun e => by
    have := hrow k e.symm
    rcases hb with hb | hb
    · exact this.2 hb
    · omega)⟩
theorem grown_more {W0 A W : World} {row0 row : Option Nat} (h : W0.grownBy A row0) (hg : A.grownBy W row) (hrow : ∀ k, row = some k → W0.heap.size ≤ k) : W0.grownBy W row0 :=
  ⟨hg.os.trans h.os, hg.tape.trans h.tape, hg.output.trans h.output, Nat.le_trans h.size hg.size, fun k hk hne => (hg.block k (by have := h.size; omega) (fun e => by have := hrow k e.symm; omega)).trans (h.block k hk hne)⟩
theorem grown_set {W0 A : World} {lb : Nat} (v : Value) (h : W0.grownBy A (some lb)) : W0.grownBy (A.setCell ⟨lb, 0, none⟩ v) (some lb) :=
  ⟨h.os, h.tape, h.output, by simpa [World.setCell] using h.size, fun k hk hne => (Below.heap_setCell _ _ _ _ (fun e => hne (by simpa using e))).trans (h.block k hk hne)⟩
theorem grown_steps {W0 A C : World} {row : Option Nat} {T : Nat} (h : W0.grownBy A row) (st : ItSteps W0.heap.size T A C) : W0.grownBy C row :=
  ⟨st.os.trans h.os, st.tape.trans h.tape, st.output.trans h.output, Nat.le_trans h.size st.size, fun k hk hne => (st.block k (by have := h.size; omega) (.inl hk)).trans (h.block k hk hne)⟩

theorem wpIn_calm {F : Fence} {n : Nat} {P : Program} {c : Code} {Q : Exit → Act → World → Prop} {a : Act} {w : World}
    (h : c.wpIn F n P (fun e a' w' => match e with | .normal => Q .normal a' w' | _ => False) a w) : c.wpIn F n P Q a w :=
  wpIn_mono h (fun e a' w' h => by cases e <;> first | exact h | exact h.elim)

set_option maxRecDepth 100000 in
set_option maxHeartbeats 8000000 in
theorem alls_any (s : ByteArray) (lv : Int) (w : World) :
    Calls Try.prog 6 #[.string s, .int .i64 lv] w fun e w' => e = .returned (.bool true) ∧ Below w.heap.size w w' := by
  refine (callsIn_wide (n := 9)).1 ?_
  refine callsIn_of_wp_marks Try.func6 rfl trivial ?_ rfl
  simp only [Try.ntmps6, List.size_toArray, List.length_cons, List.length_nil, Nat.reduceAdd, Nat.reduceSub, Array.replicate_succ, Array.replicate_zero, List.push_toArray, List.append_toArray, List.nil_append, List.cons_append]
  gi_wp2_with fail
  refine ⟨trivial, ?_⟩
  refine (callsIn_wide.2 (awake_any _)).mono ?_
  rintro e w1 ⟨rfl, hb1⟩
  have hlx : w1.heap[w.heap.size]? = some (.cells #[.int .i64 lv] 3 (0, 0)) := (hb1.block _ (by simp)).trans (heap_alloc_new w _)
  have hbe : Below w.heap.size w w1 := ((Below.refl _ w).alloc (Nat.le_refl _) _).trans (hb1.mono (by simp))
  have hs1 : w.heap.size + 1 ≤ w1.heap.size := by have := hb1.size; simp at this; omega
  clear hb1
  by_cases hS : 70000 < s.size
  · have i0 : (70000 : Int) < (s.size : Int) := by omega
    gi_wp2_with fail
    exact ⟨_, results_tmp rfl _ _ _, rfl, hbe⟩
  · have i0 : decide ((70000 : Int) < (s.size : Int)) = false := by simp; omega
    obtain ⟨es, hc⟩ := Sm.chain_ex s.data.toList _ 0 (Nat.le_refl _)
    have hbl := Sm.bodiesOf_len s.data.toList es 0
    gi_wp2_with fail
    refine ⟨trivial, ?_⟩
    refine (callsIn_wide.2 (refAll_any s (by omega) es hc _)).mono ?_
    rintro e w2 ⟨v, rfl, hv, hb2⟩
    have hes : es.length ≤ s.size := by
      have h := chain_len hc (Nat.zero_le _)
      have e : s.data.toList.length = s.size := by simp
      omega
    have hsq := fun b W h => All1_seq 8 (by omega) s (by omega) es hc b W h
    have hWh : ∀ W, Calls Try.prog 16 #[.string s] W fun e w' => e = .returned (.int .i64 (Sm.at_ 0 es es.length : Nat)) ∧ Below W.heap.size W w' := fun W => Whole_any s (by unfold maxLen; omega) es hc W
    generalize Sm.bodiesOf s.data.toList 0 es = bs at *
    obtain ⟨wp, wcap, rfl, hwc, hwm, hwt⟩ := hv.texts
    have hbs : bs.length ≤ 70000 := by omega
    clear hbl hv hes hc
    gi_wp2_with fail
    refine ⟨trivial, ?_⟩
    refine (callsIn_wide.2 (All_any s _)).mono ?_
    rintro e w3 ⟨rfl, rfl⟩
    gi_wp2_with fail
    obtain ⟨i00, hi0, hz0, hz1, hz2⟩ := info_parts infoS
    refine wpIn_loop (fun a wr => ∃ (k g : Nat) (Ds : List Nat) (u9 u10 u23 u24 u25 u26 u27 u28 u29 u30 u31 u32 u33 u34 u35 u36 u37 u38 u39 u40 u41 u42 u43 u44 u45 u46 u47 u48 u49 u50 u51 u52 u53 u54 u55 u56 u57 u58 u59 u60 u61 u62 u63 : Value), (k ≤ 2 ∧ Ds.length = k ∧ w2.heap.size + 1 ≤ g ∧ wr.heap[g]? = some (.cells #[.int .i64 (k : Nat)] 3 (0, 0)) ∧ Below (w2.heap.size + 1) (w2.alloc (.cells #[.string s] 9)) wr ∧ Marked wr (w2.heap.size + 1) Ds) ∧ a = { tmps := #[.string s, .int .i64 lv, undef, .pointer (some ⟨w.heap.size, 0, none⟩), .bool false, .slice wp bs.length wcap, .int .i64 (Sm.at_ 0 es es.length : Nat), .func (.func 31) #[] #[.pointer (some ⟨w2.heap.size, 0, none⟩)], .pointer (some ⟨g, 0, none⟩), u9, u10, .bool true, .bool false, .string s, .int .i64 (s.size : Nat), .bool false, .tuple #[.slice wp bs.length wcap, .int .i64 (Sm.at_ 0 es es.length : Nat)], .string s, .tuple #[.slice wp bs.length wcap, .int .i64 (Sm.at_ 0 es es.length : Nat)], .slice wp bs.length wcap, .int .i64 (Sm.at_ 0 es es.length : Nat), .string s, .func (.func 31) #[] #[.pointer (some ⟨w2.heap.size, 0, none⟩)], u23, u24, u25, u26, u27, u28, u29, u30, u31, u32, u33, u34, u35, u36, u37, u38, u39, u40, u41, u42, u43, u44, u45, u46, u47, u48, u49, u50, u51, u52, u53, u54, u55, u56, u57, u58, u59, u60, u61, u62, u63, undef, undef, undef, undef], defers := marks Ds }) (fun a _ => 2 - a.defers.length) ?atStart ?round
    case atStart =>
      refine ⟨0, w2.heap.size + 1, [], ?_⟩
      (repeat apply Exists.intro)
      refine ⟨⟨by omega, rfl, Nat.le_refl _, ?_, (Below.refl _ _).alloc (by simp) _, List.nodup_nil, fun D hD => by cases hD⟩, rfl⟩
      have h := heap_alloc_new (w2.alloc (.cells #[.string s] 9)) (.cells #[.int .i64 0] 3)
      rw [World.size_alloc] at h
      exact h
    case round =>
      rintro _ wr ⟨k, g, Ds, u9, u10, u23, u24, u25, u26, u27, u28, u29, u30, u31, u32, u33, u34, u35, u36, u37, u38, u39, u40, u41, u42, u43, u44, u45, u46, u47, u48, u49, u50, u51, u52, u53, u54, u55, u56, u57, u58, u59, u60, u61, u62, u63, ⟨hk, hDs, hg1, hgb, hbk, hM⟩, rfl⟩
      have hsr : wr.heap[w2.heap.size]? = some (.cells #[.string s] 9 (0, 0)) := (hbk.block _ (by omega)).trans (heap_alloc_new w2 _)
      have h2s := hb2.size
      have hlr : wr.heap[w.heap.size]? = some (.cells #[.int .i64 lv] 3 (0, 0)) := (hbk.block _ (by omega)).trans ((Below.heap_alloc _ _ _ (by omega)).trans ((hb2.block _ (by omega)).trans hlx))
      have hb2k : Below w2.heap.size w2 wr := ((Below.refl _ w2).alloc (Nat.le_refl _) _).trans (hbk.mono (by omega))
      have hwr : Texts wr wp bs := hwt.below hb2k
      have hbr : Below w.heap.size w wr := hbe.trans ((hb2.mono (by omega)).trans (hb2k.mono (by omega)))
      have hzr := hb2k.size
      have hgz : g < wr.heap.size := (Array.getElem?_eq_some_iff.1 hgb).1
      have hcg : wr.cell? ⟨g, 0, none⟩ = some (.int .i64 (k : Nat)) := by rw [cell_of_row _ _ _ _ _ _ hgb]; rfl
      by_cases hk2 : k < 2
      · have i1 : (k : Int) < 2 := by omega
        gi_wp2_with fail
        have h01 : k = 0 ∨ k = 1 := by omega
        rcases h01 with rfl | rfl
        · clear i1
          clear hcg
          obtain ⟨W0, hW0⟩ : ∃ W0, wr.alloc (.cells #[.slice none 0 0] 40) = W0 := ⟨_, rfl⟩
          have hz0' : W0.heap.size = wr.heap.size + 1 := by rw [← hW0]; simp
          have hl0 : W0.heap[wr.heap.size]? = some (.cells #[.slice none 0 0] 40 (0, 0)) := by rw [← hW0]; exact heap_alloc_new wr _
          have hbw : Below wr.heap.size wr W0 := by rw [← hW0]; exact (Below.refl _ wr).alloc (Nat.le_refl _) _
          have hs0 : W0.heap[w2.heap.size]? = some (.cells #[.string s] 9 (0, 0)) := (hbw.block _ (by omega)).trans hsr
          have hg0 : W0.heap[g]? = some (.cells #[.int .i64 0] 3 (0, 0)) := (hbw.block _ (by omega)).trans hgb
          have hx0 : W0.heap[w.heap.size]? = some (.cells #[.int .i64 lv] 3 (0, 0)) := (hbw.block _ (by omega)).trans hlr
          rw [hW0]
          clear hW0
          apply wpIn_rangeX rfl (by omega) (gf := 31) (lb := #[.pointer (some ⟨w2.heap.size, 0, none⟩)]) rfl trivial (enters_of Try.func31 (by kernel_rfl) rfl)
            (encs := fun x : ByteArray => #[.string x]) (xs := bs) (cap := fun k => k = w2.heap.size) (hsq w2.heap.size W0 hs0) (fun k hk => by omega) (Below.refl _ _) (fun _ => rfl)
            (fun T i A => W0.grownBy A (some wr.heap.size) ∧ ∃ v, A.heap[wr.heap.size]? = some (.cells #[v] 40 (0, 0)) ∧ OwnTexts A T v (bs.take i) ∧ ¬ (1 ≤ lv ∧ lv ≤ (i : Nat)))
            (fun c T i A => c = .exit 2 ∧ lv = (i : Nat) ∧ 1 ≤ i ∧ W0.grownBy A (some wr.heap.size) ∧ ∃ v, A.heap[wr.heap.size]? = some (.cells #[v] 40 (0, 0)) ∧ OwnTexts A T v (bs.take i))
            (fun T i A C hs hT st => ⟨grown_steps hs.1 st, hs.2.elim fun v hv => ⟨v, (st.block _ (Array.getElem?_eq_some_iff.1 hv.1).1 (.inl (by omega))).trans hv.1, hv.2.1.steps (fun k hk hkT => st.block k hk (.inr hkT)), hv.2.2⟩⟩)
            (fun c T i A C hs hT st => ⟨hs.1, hs.2.1, hs.2.2.1, grown_steps hs.2.2.2.1 st, hs.2.2.2.2.elim fun v hv => ⟨v, (st.block _ (Array.getElem?_eq_some_iff.1 hv.1).1 (.inl (by omega))).trans hv.1, hv.2.steps (fun k hk hkT => st.block k hk (.inr hkT))⟩⟩)
            (fun T hT => ⟨World.grownBy.refl _ _, _, hl0, World.ownsRow_nil _ _ _ _, by omega⟩)
          case hassign =>
            intro l x W K hK
            gi_wp2
            exact hK
          case hbody =>
            rintro l2 T i hi A hT1 hT2 ⟨hgr, v, hlv, hov, hnot⟩
            have hgA : A.heap[g]? = some (.cells #[.int .i64 0] 3 (0, 0)) := (hgr.block g (by omega) (by simp; omega)).trans hg0
            have hxA : A.heap[w.heap.size]? = some (.cells #[.int .i64 lv] 3 (0, 0)) := (hgr.block _ (by omega) (by simp; omega)).trans hx0
            have hcl : A.cell? ⟨wr.heap.size, 0, none⟩ = some v := by rw [cell_of_row _ _ _ _ _ _ hlv]; rfl
            have ho2 := World.ownsRow.alloc hov (.cells #[.string bs[i]] 9)
            have hol := hov.lt
            have hti : (bs.take i).length = i := by rw [List.length_take]; omega
            have happ : ∀ v' W', OwnTexts W' T v' (bs.take (i + 1)) = W'.ownsRow T 9 1 v' ((bs.take i).length + 1) ((bs.take i).map Value.string ++ [.string bs[i]]) := fun v' W' => by
              rw [List.take_succ_eq_append_getElem hi]; unfold OwnTexts; rw [List.length_append, List.map_append]; rfl
            by_cases hq : lv = ((i + 1 : Nat) : Int)
            · have hd1 : (((i : Int) + 1) == lv) = true := by simp; omega
              gi_wp2_with (first | (gi_at_builtin; refine wpListIn_append_own _ rfl _ _ 40 rfl T 9 i00 (.string ⟨#[]⟩) 1 16 Try.underlying40 hi0 hz0 hz1 hz2 rfl (by decide) _ _ _ rfl ho2 ⟨A.heap.size, 0, none⟩ 1 1 [.string bs[i]] rfl rfl (cell_one_new _ _ _) (fun u hu => by simp at hu; subst hu; rfl) (by unfold maxLen; omega) (by omega) (by simp; omega) ?_; intro v' W' ho hg _; rw [← happ v' W'] at ho; have hgs := hg.size; simp at hgs; obtain ⟨p', cap', hve, hpc, hcm, -⟩ := OwnTexts.took (W := W') (base := T) (v := v') ho (by omega); have hlW : W'.heap[wr.heap.size]? = some (.cells #[v] 40 (0, 0)) := (hg.block _ (by simp; omega) (fun e => by have := hol _ e.symm; omega)).trans ((Below.heap_alloc _ _ _ (by omega)).trans hlv); have hgW : W'.heap[g]? = some (.cells #[.int .i64 0] 3 (0, 0)) := (hg.block _ (by simp; omega) (fun e => by have := hol _ e.symm; omega)).trans ((Below.heap_alloc _ _ _ (by omega)).trans hgA); have hxW : W'.heap[w.heap.size]? = some (.cells #[.int .i64 lv] 3 (0, 0)) := (hg.block _ (by simp; omega) (fun e => by have := hol _ e.symm; omega)).trans ((Below.heap_alloc _ _ _ (by omega)).trans hxA); subst hve; have hcW := cell_of_row _ _ 0 _ _ _ hlW; have hfW := frozen_of_row W' wr.heap.size 0 _ _ hlW; have hc1 : (W'.setCell ⟨wr.heap.size, 0, none⟩ (.slice p' (i + 1) cap')).cell? ⟨wr.heap.size, 0, none⟩ = some (.slice p' (i + 1) cap') := (cell_of_row _ _ _ _ _ _ (heap_setCell_same W' wr.heap.size 0 _ _ _ hlW)).trans rfl; have hc2 : (W'.setCell ⟨wr.heap.size, 0, none⟩ (.slice p' (i + 1) cap')).cell? ⟨g, 0, none⟩ = some (.int .i64 0) := (cell_of_row _ _ _ _ _ _ ((heap_setCell_other _ _ _ _ (by simp; omega)).trans hgW)).trans rfl; have hc3 : (W'.setCell ⟨wr.heap.size, 0, none⟩ (.slice p' (i + 1) cap')).cell? ⟨w.heap.size, 0, none⟩ = some (.int .i64 lv) := (cell_of_row _ _ _ _ _ _ ((heap_setCell_other _ _ _ _ (by simp; omega)).trans hxW)).trans rfl) | gi_in)
              exact ⟨((BodyKeeps.of_below ((Below.refl _ A).alloc (Nat.le_refl _) _)).trans (keeps_grown hg (fun k hk => ⟨(hol k hk).1, by have := (hol k hk).1; omega⟩))).trans (BodyKeeps.setCell _ (by simp; omega) (by simp; omega)), rfl, hq, by omega, grown_set _ (grown_more (grown_more hgr (World.grownBy_alloc A _ none) (fun k hk => by cases hk)) hg (fun k hk => by have := (hol k hk).1; omega)), _, heap_setCell_same W' wr.heap.size 0 _ _ _ hlW, ho.steps (fun k hk hkT => heap_setCell_other _ _ _ _ (by simp; omega))⟩
            · have hd1 : (((i : Int) + 1) == lv) = false := by simp; omega
              gi_wp2_with (first | (gi_at_builtin; refine wpListIn_append_own _ rfl _ _ 40 rfl T 9 i00 (.string ⟨#[]⟩) 1 16 Try.underlying40 hi0 hz0 hz1 hz2 rfl (by decide) _ _ _ rfl ho2 ⟨A.heap.size, 0, none⟩ 1 1 [.string bs[i]] rfl rfl (cell_one_new _ _ _) (fun u hu => by simp at hu; subst hu; rfl) (by unfold maxLen; omega) (by omega) (by simp; omega) ?_; intro v' W' ho hg _; rw [← happ v' W'] at ho; have hgs := hg.size; simp at hgs; obtain ⟨p', cap', hve, hpc, hcm, -⟩ := OwnTexts.took (W := W') (base := T) (v := v') ho (by omega); have hlW : W'.heap[wr.heap.size]? = some (.cells #[v] 40 (0, 0)) := (hg.block _ (by simp; omega) (fun e => by have := hol _ e.symm; omega)).trans ((Below.heap_alloc _ _ _ (by omega)).trans hlv); have hgW : W'.heap[g]? = some (.cells #[.int .i64 0] 3 (0, 0)) := (hg.block _ (by simp; omega) (fun e => by have := hol _ e.symm; omega)).trans ((Below.heap_alloc _ _ _ (by omega)).trans hgA); have hxW : W'.heap[w.heap.size]? = some (.cells #[.int .i64 lv] 3 (0, 0)) := (hg.block _ (by simp; omega) (fun e => by have := hol _ e.symm; omega)).trans ((Below.heap_alloc _ _ _ (by omega)).trans hxA); subst hve; have hcW := cell_of_row _ _ 0 _ _ _ hlW; have hfW := frozen_of_row W' wr.heap.size 0 _ _ hlW; have hc1 : (W'.setCell ⟨wr.heap.size, 0, none⟩ (.slice p' (i + 1) cap')).cell? ⟨wr.heap.size, 0, none⟩ = some (.slice p' (i + 1) cap') := (cell_of_row _ _ _ _ _ _ (heap_setCell_same W' wr.heap.size 0 _ _ _ hlW)).trans rfl; have hc2 : (W'.setCell ⟨wr.heap.size, 0, none⟩ (.slice p' (i + 1) cap')).cell? ⟨g, 0, none⟩ = some (.int .i64 0) := (cell_of_row _ _ _ _ _ _ ((heap_setCell_other _ _ _ _ (by simp; omega)).trans hgW)).trans rfl; have hc3 : (W'.setCell ⟨wr.heap.size, 0, none⟩ (.slice p' (i + 1) cap')).cell? ⟨w.heap.size, 0, none⟩ = some (.int .i64 lv) := (cell_of_row _ _ _ _ _ _ ((heap_setCell_other _ _ _ _ (by simp; omega)).trans hxW)).trans rfl) | gi_in)
              exact ⟨((BodyKeeps.of_below ((Below.refl _ A).alloc (Nat.le_refl _) _)).trans (keeps_grown hg (fun k hk => ⟨(hol k hk).1, by have := (hol k hk).1; omega⟩))).trans (BodyKeeps.setCell _ (by simp; omega) (by simp; omega)), grown_set _ (grown_more (grown_more hgr (World.grownBy_alloc A _ none) (fun k hk => by cases hk)) hg (fun k hk => by have := (hol k hk).1; omega)), _, heap_setCell_same W' wr.heap.size 0 _ _ _ hlW, ho.steps (fun k hk hkT => heap_setCell_other _ _ _ _ (by simp; omega)), by omega⟩
          case hdone =>
            rintro D T W hD hDT ⟨hgr, v, hlv, hov, hnot⟩ hmk
            have hgW : W.heap[g]? = some (.cells #[.int .i64 0] 3 (0, 0)) := (hgr.block g (by omega) (by simp; omega)).trans hg0
            have hxW : W.heap[w.heap.size]? = some (.cells #[.int .i64 lv] 3 (0, 0)) := (hgr.block _ (by omega) (by simp; omega)).trans hx0
            obtain ⟨p', cap', rfl, hpc, hcm, hTW⟩ := hov.took (j := bs.length) (by omega)
            have hcl : W.cell? ⟨wr.heap.size, 0, none⟩ = some (.slice p' bs.length cap') := by rw [cell_of_row _ _ _ _ _ _ hlv]; rfl
            have hcg : W.cell? ⟨g, 0, none⟩ = some (.int .i64 0) := by rw [cell_of_row _ _ _ _ _ _ hgW]; rfl
            have hcx : W.cell? ⟨w.heap.size, 0, none⟩ = some (.int .i64 lv) := by rw [cell_of_row _ _ _ _ _ _ hxW]; rfl
            have hbW : Below wr.heap.size wr W := hbw.grown hgr (by omega) (fun k hk => by cases hk; omega)
            have hwW : Texts W wp bs := hwr.below hbW
            have hDW : D < W.heap.size := (Array.getElem?_eq_some_iff.1 hmk).1
            have hMW : Marked W (w2.heap.size + 1) Ds := hM.below fun E hE => hbW.block E (Array.getElem?_eq_some_iff.1 hE).1
            have hDs1 : D ∉ Ds := fun h => by
              have h1 := (Array.getElem?_eq_some_iff.1 (hM.2 D h).2).1
              omega
            rw [List.take_length] at hTW
            by_cases hp : 0 < lv
            · have hp2 : ¬ lv < (bs.length : Int) := by omega
              gi_wp2_with fail
              refine ⟨trivial, ?_⟩
              refine (callsIn_wide.2 (refSame_any p' wp cap' wcap bs (by omega) _ hTW hwW)).mono ?_
              rintro e w5 ⟨rfl, hb5⟩
              have hcg5 : w5.cell? ⟨g, 0, none⟩ = some (.int .i64 0) := (hb5.cell (by have := hbW.size; simp; omega)).trans hcg
              have hb5r : Below wr.heap.size wr w5 := hbW.trans (hb5.mono hbW.size)
              clear hcg hcl hcx
              gi_wp2_with fail
              refine ⟨⟨1, w5.heap.size, D :: Ds, ?_⟩, by simp [marks, hDs]⟩
              (repeat apply Exists.intro)
              refine ⟨⟨by omega, by simp [hDs], by have := hb5r.size; omega, heap_alloc_new w5 _, (hbk.trans (hb5r.mono (by omega))).alloc (by have := hb5r.size; omega) _, ?_⟩, rfl⟩
              exact ⟨List.nodup_cons.2 ⟨hDs1, hMW.1⟩, fun E hE => by
                rcases List.mem_cons.1 hE with rfl | hE
                · exact ⟨by omega, (Below.heap_alloc _ _ _ (by have := hb5.size; omega)).trans ((hb5.block _ (by omega)).trans hmk)⟩
                · have hE2 := (hMW.2 E hE).2
                  have hE3 := (Array.getElem?_eq_some_iff.1 hE2).1
                  exact ⟨(hMW.2 E hE).1, (Below.heap_alloc _ _ _ (by have := hb5.size; omega)).trans ((hb5.block _ (by omega)).trans hE2)⟩⟩
            · gi_wp2_with fail
              refine ⟨trivial, ?_⟩
              refine (callsIn_wide.2 (refSame_any p' wp cap' wcap bs (by omega) _ hTW hwW)).mono ?_
              rintro e w5 ⟨rfl, hb5⟩
              have hcg5 : w5.cell? ⟨g, 0, none⟩ = some (.int .i64 0) := (hb5.cell (by have := hbW.size; simp; omega)).trans hcg
              have hb5r : Below wr.heap.size wr w5 := hbW.trans (hb5.mono hbW.size)
              clear hcg hcl hcx
              gi_wp2_with fail
              refine ⟨⟨1, w5.heap.size, D :: Ds, ?_⟩, by simp [marks, hDs]⟩
              (repeat apply Exists.intro)
              refine ⟨⟨by omega, by simp [hDs], by have := hb5r.size; omega, heap_alloc_new w5 _, (hbk.trans (hb5r.mono (by omega))).alloc (by have := hb5r.size; omega) _, ?_⟩, rfl⟩
              exact ⟨List.nodup_cons.2 ⟨hDs1, hMW.1⟩, fun E hE => by
                rcases List.mem_cons.1 hE with rfl | hE
                · exact ⟨by omega, (Below.heap_alloc _ _ _ (by have := hb5.size; omega)).trans ((hb5.block _ (by omega)).trans hmk)⟩
                · have hE2 := (hMW.2 E hE).2
                  have hE3 := (Array.getElem?_eq_some_iff.1 hE2).1
                  exact ⟨(hMW.2 E hE).1, (Below.heap_alloc _ _ _ (by have := hb5.size; omega)).trans ((hb5.block _ (by omega)).trans hE2)⟩⟩
          case hstop =>
            rintro D T c i W hD hDT hi ⟨rfl, hlvi, hi1, hgr, v, hlv, hov⟩ hmk
            subst hlvi
            have hgW : W.heap[g]? = some (.cells #[.int .i64 0] 3 (0, 0)) := (hgr.block g (by omega) (by simp; omega)).trans hg0
            have hxW : W.heap[w.heap.size]? = some (.cells #[.int .i64 (i : Nat)] 3 (0, 0)) := (hgr.block _ (by omega) (by simp; omega)).trans hx0
            obtain ⟨p', cap', rfl, hpc, hcm, hTW⟩ := hov.took (j := i) (by omega)
            have hcl : W.cell? ⟨wr.heap.size, 0, none⟩ = some (.slice p' i cap') := by rw [cell_of_row _ _ _ _ _ _ hlv]; rfl
            have hcg : W.cell? ⟨g, 0, none⟩ = some (.int .i64 0) := by rw [cell_of_row _ _ _ _ _ _ hgW]; rfl
            have hcx : W.cell? ⟨w.heap.size, 0, none⟩ = some (.int .i64 (i : Nat)) := by rw [cell_of_row _ _ _ _ _ _ hxW]; rfl
            have hbW : Below wr.heap.size wr W := hbw.grown hgr (by omega) (fun k hk => by cases hk; omega)
            have hwW : Texts W wp bs := hwr.below hbW
            have hDW : D < W.heap.size := (Array.getElem?_eq_some_iff.1 hmk).1
            have hMW : Marked W (w2.heap.size + 1) Ds := hM.below fun E hE => hbW.block E (Array.getElem?_eq_some_iff.1 hE).1
            have hDs1 : D ∉ Ds := fun h => by
              have h1 := (Array.getElem?_eq_some_iff.1 (hM.2 D h).2).1
              omega
            have hp1 : (0 : Int) < (i : Int) := by omega
            have hp3 : (0 : Int) ≤ (i : Int) := by omega
            have hp4 : (i : Int) ≤ (wcap : Int) := by omega
            by_cases hp : i < bs.length
            · have hp2 : (i : Int) < (bs.length : Int) := by omega
              gi_wp2_with fail
              have hln : (bs.take i).length = i := by rw [List.length_take]; omega
              have hsame : ∀ u : World, u.heap = W.heap → Calls Try.prog 23 #[.slice p' i cap', .slice wp i wcap] u fun e w' => e = .returned (.bool true) ∧ Below u.heap.size u w' := fun u hu => by
                have h := refSame_any p' wp cap' wcap (bs.take i) (by omega) u (fun j hj => by obtain ⟨a, h1, h2, h3⟩ := hTW j hj; exact ⟨a, h1, by rw [hu]; exact h2, by unfold World.cell? at h3 ⊢; rw [hu]; exact h3⟩) (fun j hj => by obtain ⟨a, h1, h2, h3⟩ := (hwW.take i) j hj; exact ⟨a, h1, by rw [hu]; exact h2, by unfold World.cell? at h3 ⊢; rw [hu]; exact h3⟩)
                rw [hln] at h; exact h
              have mixed : Try.prog.follows .mixedOrders = true := by kernel_rfl
              refine wpIn_calm ?_
              gi_region_with_o (refine ⟨trivial, ?_⟩; gi_at_call 23; refine (callsIn_wide.2 (hsame W.drew rfl)).mono ?_; rintro e w5 ⟨rfl, hb5⟩; have hcg5 : w5.cell? ⟨g, 0, none⟩ = some (.int .i64 0) := (hb5.cell (by have := hbW.size; simp; omega)).trans hcg)
              all_goals
                have hb6 : Below W.heap.size W w5 := ((Below.refl _ W).drew).trans hb5
                clear hb5 hcg5
                dsimp only
                have hb5 := hb6
                have hcg5 : w5.cell? ⟨g, 0, none⟩ = some (.int .i64 0) := (hb5.cell (by have := hbW.size; simp; omega)).trans hcg
                have hb5r : Below wr.heap.size wr w5 := hbW.trans (hb5.mono hbW.size)
                clear hcg hcl hcx
                gi_wp2_with fail
                refine ⟨⟨1, w5.heap.size, D :: Ds, ?_⟩, by simp [marks, hDs]⟩
                (repeat apply Exists.intro)
                refine ⟨⟨by omega, by simp [hDs], by have := hb5r.size; omega, heap_alloc_new w5 _, (hbk.trans (hb5r.mono (by omega))).alloc (by have := hb5r.size; omega) _, ?_⟩, rfl⟩
                exact ⟨List.nodup_cons.2 ⟨hDs1, hMW.1⟩, fun E hE => by
                  rcases List.mem_cons.1 hE with rfl | hE
                  · exact ⟨by omega, (Below.heap_alloc _ _ _ (by have := hb5.size; omega)).trans ((hb5.block _ (by omega)).trans hmk)⟩
                  · have hE2 := (hMW.2 E hE).2
                    have hE3 := (Array.getElem?_eq_some_iff.1 hE2).1
                    exact ⟨(hMW.2 E hE).1, (Below.heap_alloc _ _ _ (by have := hb5.size; omega)).trans ((hb5.block _ (by omega)).trans hE2)⟩⟩
            · obtain rfl : i = bs.length := by omega
              have hp2 : ¬ (bs.length : Int) < (bs.length : Int) := by omega
              rw [List.take_length] at hTW
              gi_wp2_with fail
              refine ⟨trivial, ?_⟩
              refine (callsIn_wide.2 (refSame_any p' wp cap' wcap bs (by omega) _ hTW hwW)).mono ?_
              rintro e w5 ⟨rfl, hb5⟩
              have hcg5 : w5.cell? ⟨g, 0, none⟩ = some (.int .i64 0) := (hb5.cell (by have := hbW.size; simp; omega)).trans hcg
              have hb5r : Below wr.heap.size wr w5 := hbW.trans (hb5.mono hbW.size)
              clear hcg hcl hcx
              gi_wp2_with fail
              refine ⟨⟨1, w5.heap.size, D :: Ds, ?_⟩, by simp [marks, hDs]⟩
              (repeat apply Exists.intro)
              refine ⟨⟨by omega, by simp [hDs], by have := hb5r.size; omega, heap_alloc_new w5 _, (hbk.trans (hb5r.mono (by omega))).alloc (by have := hb5r.size; omega) _, ?_⟩, rfl⟩
              exact ⟨List.nodup_cons.2 ⟨hDs1, hMW.1⟩, fun E hE => by
                rcases List.mem_cons.1 hE with rfl | hE
                · exact ⟨by omega, (Below.heap_alloc _ _ _ (by have := hb5.size; omega)).trans ((hb5.block _ (by omega)).trans hmk)⟩
                · have hE2 := (hMW.2 E hE).2
                  have hE3 := (Array.getElem?_eq_some_iff.1 hE2).1
                  exact ⟨(hMW.2 E hE).1, (Below.heap_alloc _ _ _ (by have := hb5.size; omega)).trans ((hb5.block _ (by omega)).trans hE2)⟩⟩
        · clear i1
          clear hcg
          obtain ⟨W0, hW0⟩ : ∃ W0, wr.alloc (.cells #[.slice none 0 0] 40) = W0 := ⟨_, rfl⟩
          have hz0' : W0.heap.size = wr.heap.size + 1 := by rw [← hW0]; simp
          have hl0 : W0.heap[wr.heap.size]? = some (.cells #[.slice none 0 0] 40 (0, 0)) := by rw [← hW0]; exact heap_alloc_new wr _
          have hbw : Below wr.heap.size wr W0 := by rw [← hW0]; exact (Below.refl _ wr).alloc (Nat.le_refl _) _
          have hs0 : W0.heap[w2.heap.size]? = some (.cells #[.string s] 9 (0, 0)) := (hbw.block _ (by omega)).trans hsr
          have hg0 : W0.heap[g]? = some (.cells #[.int .i64 1] 3 (0, 0)) := (hbw.block _ (by omega)).trans hgb
          have hx0 : W0.heap[w.heap.size]? = some (.cells #[.int .i64 lv] 3 (0, 0)) := (hbw.block _ (by omega)).trans hlr
          rw [hW0]
          clear hW0
          apply wpIn_rangeX rfl (by omega) (gf := 31) (lb := #[.pointer (some ⟨w2.heap.size, 0, none⟩)]) rfl trivial (enters_of Try.func31 (by kernel_rfl) rfl)
            (encs := fun x : ByteArray => #[.string x]) (xs := bs) (cap := fun k => k = w2.heap.size) (hsq w2.heap.size W0 hs0) (fun k hk => by omega) (Below.refl _ _) (fun _ => rfl)
            (fun T i A => W0.grownBy A (some wr.heap.size) ∧ ∃ v, A.heap[wr.heap.size]? = some (.cells #[v] 40 (0, 0)) ∧ OwnTexts A T v (bs.take i))
            (fun _ _ _ _ => False)
            (fun T i A C hs hT st => ⟨grown_steps hs.1 st, hs.2.elim fun v hv => ⟨v, (st.block _ (Array.getElem?_eq_some_iff.1 hv.1).1 (.inl (by omega))).trans hv.1, hv.2.steps (fun k hk hkT => st.block k hk (.inr hkT))⟩⟩)
            (fun _ _ _ _ _ hs _ _ => hs)
            (fun T hT => ⟨World.grownBy.refl _ _, _, hl0, World.ownsRow_nil _ _ _ _⟩)
          case hassign =>
            intro l x W K hK
            gi_wp2
            exact hK
          case hbody =>
            rintro l2 T i hi A hT1 hT2 ⟨hgr, v, hlv, hov⟩
            have hgA : A.heap[g]? = some (.cells #[.int .i64 1] 3 (0, 0)) := (hgr.block g (by omega) (by simp; omega)).trans hg0
            have hxA : A.heap[w.heap.size]? = some (.cells #[.int .i64 lv] 3 (0, 0)) := (hgr.block _ (by omega) (by simp; omega)).trans hx0
            have hcl : A.cell? ⟨wr.heap.size, 0, none⟩ = some v := by rw [cell_of_row _ _ _ _ _ _ hlv]; rfl
            have ho2 := World.ownsRow.alloc hov (.cells #[.string bs[i]] 9)
            have hol := hov.lt
            have hti : (bs.take i).length = i := by rw [List.length_take]; omega
            have happ : ∀ v' W', OwnTexts W' T v' (bs.take (i + 1)) = W'.ownsRow T 9 1 v' ((bs.take i).length + 1) ((bs.take i).map Value.string ++ [.string bs[i]]) := fun v' W' => by
              rw [List.take_succ_eq_append_getElem hi]; unfold OwnTexts; rw [List.length_append, List.map_append]; rfl
            gi_wp2_with (first | (gi_at_builtin; refine wpListIn_append_own _ rfl _ _ 40 rfl T 9 i00 (.string ⟨#[]⟩) 1 16 Try.underlying40 hi0 hz0 hz1 hz2 rfl (by decide) _ _ _ rfl ho2 ⟨A.heap.size, 0, none⟩ 1 1 [.string bs[i]] rfl rfl (cell_one_new _ _ _) (fun u hu => by simp at hu; subst hu; rfl) (by unfold maxLen; omega) (by omega) (by simp; omega) ?_; intro v' W' ho hg _; rw [← happ v' W'] at ho; have hgs := hg.size; simp at hgs; obtain ⟨p', cap', hve, hpc, hcm, -⟩ := OwnTexts.took (W := W') (base := T) (v := v') ho (by omega); have hlW : W'.heap[wr.heap.size]? = some (.cells #[v] 40 (0, 0)) := (hg.block _ (by simp; omega) (fun e => by have := hol _ e.symm; omega)).trans ((Below.heap_alloc _ _ _ (by omega)).trans hlv); have hgW : W'.heap[g]? = some (.cells #[.int .i64 1] 3 (0, 0)) := (hg.block _ (by simp; omega) (fun e => by have := hol _ e.symm; omega)).trans ((Below.heap_alloc _ _ _ (by omega)).trans hgA); have hxW : W'.heap[w.heap.size]? = some (.cells #[.int .i64 lv] 3 (0, 0)) := (hg.block _ (by simp; omega) (fun e => by have := hol _ e.symm; omega)).trans ((Below.heap_alloc _ _ _ (by omega)).trans hxA); subst hve; have hcW := cell_of_row _ _ 0 _ _ _ hlW; have hfW := frozen_of_row W' wr.heap.size 0 _ _ hlW; have hc1 : (W'.setCell ⟨wr.heap.size, 0, none⟩ (.slice p' (i + 1) cap')).cell? ⟨wr.heap.size, 0, none⟩ = some (.slice p' (i + 1) cap') := (cell_of_row _ _ _ _ _ _ (heap_setCell_same W' wr.heap.size 0 _ _ _ hlW)).trans rfl; have hc2 : (W'.setCell ⟨wr.heap.size, 0, none⟩ (.slice p' (i + 1) cap')).cell? ⟨g, 0, none⟩ = some (.int .i64 1) := (cell_of_row _ _ _ _ _ _ ((heap_setCell_other _ _ _ _ (by simp; omega)).trans hgW)).trans rfl; have hc3 : (W'.setCell ⟨wr.heap.size, 0, none⟩ (.slice p' (i + 1) cap')).cell? ⟨w.heap.size, 0, none⟩ = some (.int .i64 lv) := (cell_of_row _ _ _ _ _ _ ((heap_setCell_other _ _ _ _ (by simp; omega)).trans hxW)).trans rfl) | gi_in)
            exact ⟨((BodyKeeps.of_below ((Below.refl _ A).alloc (Nat.le_refl _) _)).trans (keeps_grown hg (fun k hk => ⟨(hol k hk).1, by have := (hol k hk).1; omega⟩))).trans (BodyKeeps.setCell _ (by simp; omega) (by simp; omega)), grown_set _ (grown_more (grown_more hgr (World.grownBy_alloc A _ none) (fun k hk => by cases hk)) hg (fun k hk => by have := (hol k hk).1; omega)), _, heap_setCell_same W' wr.heap.size 0 _ _ _ hlW, ho.steps (fun k hk hkT => heap_setCell_other _ _ _ _ (by simp; omega))⟩
          case hdone =>
            rintro D T W hD hDT ⟨hgr, v, hlv, hov⟩ hmk
            have hgW : W.heap[g]? = some (.cells #[.int .i64 1] 3 (0, 0)) := (hgr.block g (by omega) (by simp; omega)).trans hg0
            have hxW : W.heap[w.heap.size]? = some (.cells #[.int .i64 lv] 3 (0, 0)) := (hgr.block _ (by omega) (by simp; omega)).trans hx0
            obtain ⟨p', cap', rfl, hpc, hcm, hTW⟩ := hov.took (j := bs.length) (by omega)
            have hcl : W.cell? ⟨wr.heap.size, 0, none⟩ = some (.slice p' bs.length cap') := by rw [cell_of_row _ _ _ _ _ _ hlv]; rfl
            have hcg : W.cell? ⟨g, 0, none⟩ = some (.int .i64 1) := by rw [cell_of_row _ _ _ _ _ _ hgW]; rfl
            have hcx : W.cell? ⟨w.heap.size, 0, none⟩ = some (.int .i64 lv) := by rw [cell_of_row _ _ _ _ _ _ hxW]; rfl
            have hbW : Below wr.heap.size wr W := hbw.grown hgr (by omega) (fun k hk => by cases hk; omega)
            have hwW : Texts W wp bs := hwr.below hbW
            have hDW : D < W.heap.size := (Array.getElem?_eq_some_iff.1 hmk).1
            have hMW : Marked W (w2.heap.size + 1) Ds := hM.below fun E hE => hbW.block E (Array.getElem?_eq_some_iff.1 hE).1
            have hDs1 : D ∉ Ds := fun h => by
              have h1 := (Array.getElem?_eq_some_iff.1 (hM.2 D h).2).1
              omega
            rw [List.take_length] at hTW
            gi_wp2_with fail
            refine ⟨trivial, ?_⟩
            refine (callsIn_wide.2 (refSame_any p' wp cap' wcap bs (by omega) _ hTW hwW)).mono ?_
            rintro e w5 ⟨rfl, hb5⟩
            have hcg5 : w5.cell? ⟨g, 0, none⟩ = some (.int .i64 1) := (hb5.cell (by have := hbW.size; simp; omega)).trans hcg
            have hb5r : Below wr.heap.size wr w5 := hbW.trans (hb5.mono hbW.size)
            clear hcg hcl hcx
            gi_wp2_with fail
            refine ⟨⟨2, w5.heap.size, D :: Ds, ?_⟩, by simp [marks, hDs]⟩
            (repeat apply Exists.intro)
            refine ⟨⟨by omega, by simp [hDs], by have := hb5r.size; omega, heap_alloc_new w5 _, (hbk.trans (hb5r.mono (by omega))).alloc (by have := hb5r.size; omega) _, ?_⟩, rfl⟩
            exact ⟨List.nodup_cons.2 ⟨hDs1, hMW.1⟩, fun E hE => by
              rcases List.mem_cons.1 hE with rfl | hE
              · exact ⟨by omega, (Below.heap_alloc _ _ _ (by have := hb5.size; omega)).trans ((hb5.block _ (by omega)).trans hmk)⟩
              · have hE2 := (hMW.2 E hE).2
                have hE3 := (Array.getElem?_eq_some_iff.1 hE2).1
                exact ⟨(hMW.2 E hE).1, (Below.heap_alloc _ _ _ (by have := hb5.size; omega)).trans ((hb5.block _ (by omega)).trans hE2)⟩⟩
          case hstop =>
            rintro D T c i W _ _ _ h _
            exact h.elim
      · obtain rfl : k = 2 := by omega
        have i1 : ¬ ((2 : Nat) : Int) < 2 := by omega
        gi_wp2_with fail
        refine ⟨trivial, ?_⟩
        refine (callsIn_wide.2 (hWh _)).mono ?_
        rintro e w4 ⟨rfl, hb4⟩
        gi_wp2_with fail
        have hM4 := hM.below (W' := w4) fun E hE => hb4.block E (Array.getElem?_eq_some_iff.1 hE).1
        exact leaves_marks (base := w2.heap.size + 1) (fun W => results_tmp rfl _ _ _) Ds _ hM4 (fun W' h => ⟨rfl, (hbr.trans (hb4.mono (by omega))).trans (h.mono (by omega))⟩)
end Go.Proofs.Ytkaanffclpbiiaa
