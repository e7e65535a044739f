/-
  Walks over package manifest: the library's Collect over a text's bodies; number. Conditions: those in the theorems.
-/
import Derived.Test.YtbhjpkejdkfenaaGreatDoorManTexts
import Derived.Test.YtbhjpkejdkfenaaGreatDoorManTextMath
import Derived.Test.YtbhjpkejdkfenaaGreatDoorSumAll
import Derived.Shelf.Abstract
import Derived.Shelf.RegionOpen
import Derived.WalkKit
import Derived.OwnWalkIn
import Derived.TacticsInMore
import Derived.LoopNIn
import Derived.LoopIn
import Derived.Maps.AppendAt
import Derived.Lib.Hide
import Derived.Deep.WholeRow
namespace Go.Proofs.YtbhjpkejdkfenaaGreatDoor
open Go.RowKit Go.Shelf
attribute [local go_sem] Oper.semAt_some

theorem OwnT.steps {A C : World} {T : Nat} {v : Value} {ss : List ByteArray} (h : OwnT A T v ss) (hb : ∀ k, k < A.heap.size → T ≤ k → C.heap[k]? = A.heap[k]?) : OwnT C T v ss := h.stays fun k hk e => hb k hk (h.lt k e).1
theorem mkeeps_grown {cap : Nat → Prop} {B T : Nat} {A W : World} {row : Option Nat} (h : A.grownBy W row) (hrow : ∀ k, row = some k → T ≤ k ∧ ¬ cap k) : BodyKeeps cap B T A W :=
  ⟨h.size, fun k hk hb => h.block k hk (fun e => by
    have := hrow k e.symm
    rcases hb with hb | hb
    · exact this.2 hb
    · omega)⟩
theorem msteps {B0 B T : Nat} {w A C : World} (h : Below B0 w A) (st : ItSteps B T A C) (hB : B0 ≤ B) (hz : B0 ≤ w.heap.size) : Below B0 w C :=
  ⟨st.os.trans h.os, st.tape.trans h.tape, st.output.trans h.output, Nat.le_trans h.size st.size, fun k hk => (st.block k (by have := h.size; omega) (.inl (by omega))).trans (h.block k hk)⟩
theorem grown_below {B0 : Nat} {w A C : World} {row : Option Nat} (h : Below B0 w A) (hz : B0 ≤ w.heap.size) (g : A.grownBy C row) (hrow : ∀ k, row = some k → B0 ≤ k) : Below B0 w C :=
  ⟨g.os.trans h.os, g.tape.trans h.tape, g.output.trans h.output, Nat.le_trans h.size g.size, fun k hk => (g.block k (by have := h.size; omega) (fun e => by have := hrow k e.symm; omega)).trans (h.block k hk)⟩
set_option maxRecDepth 100000 in
set_option maxHeartbeats 8000000 in
theorem AppendSeq_any (s : ByteArray) (hm : s.size ≤ 140737488355328) (es : List Nat) (hc : Sm.Chain s.data.toList 0 es) (bs : List ByteArray) (hbs : Sm.bodiesOf s.data.toList 0 es = bs) (hbl : bs.length ≤ 900000) (b : Nat) (w : World) (hb : w.heap[b]? = some (.cells #[.string s] 9 (0, 0))) :
    Calls Tryz.prog 109 #[.slice none 0 0, .func (.func 110) #[] #[.pointer (some ⟨b, 0, none⟩)]] w fun e w' => ∃ v, e = .returned v ∧ OwnT w' w.heap.size v bs ∧ Below w.heap.size w w' := by
  have hblt := (Array.getElem?_eq_some_iff.1 hb).1
  have hsq : SeqX Fence.wide 8 Tryz.prog 110 #[.pointer (some ⟨b, 0, none⟩)] (fun x : ByteArray => #[.string x]) bs (fun k => k = b) w := by rw [← hbs]; exact All1_seq 8 (by omega) s hm es hc b w hb
  obtain ⟨i00, hi0, hz0, hz1, hz2⟩ := info_parts infoTx
  refine (callsIn_wide (n := 9)).1 ?_
  refine callsIn_of_wp_marks Tryz.func109 rfl trivial ?_ rfl
  simp only [Tryz.ntmps109, List.size_toArray, List.length_cons, List.length_nil, Nat.reduceAdd, Nat.reduceSub, Array.replicate_succ, Array.replicate_zero, List.push_toArray, List.append_toArray, List.nil_append, List.cons_append]
  gi_wp2_with fail
  obtain ⟨W0, hW0⟩ : ∃ W0, w.alloc (.cells #[.slice none 0 0] 118) = W0 := ⟨_, rfl⟩
  have hz : W0.heap.size = w.heap.size + 1 := by rw [← hW0]; simp
  have hl0 : W0.heap[w.heap.size]? = some (.cells #[.slice none 0 0] 118 (0, 0)) := by rw [← hW0]; exact heap_alloc_new w _
  have hbw : Below w.heap.size w W0 := by rw [← hW0]; exact mbelow_alloc _ _
  rw [hW0]
  clear hW0 hc hbs
  apply wpIn_rangeX rfl (by omega) (gf := 110) (lb := #[.pointer (some ⟨b, 0, none⟩)]) rfl trivial (enters_of Tryz.func110 (by kernel_rfl) rfl)
    (encs := fun x : ByteArray => #[.string x]) (xs := bs) (cap := fun k => k = b) hsq (fun k hk => by omega) hbw (fun _ => rfl)
    (fun T i A => Below w.heap.size w A ∧ ∃ v, A.heap[w.heap.size]? = some (.cells #[v] 118 (0, 0)) ∧ OwnT A T v (bs.take i))
    (fun _ _ _ _ => False)
    (fun T i A C hs hT st => ⟨msteps hs.1 st (by omega) (Nat.le_refl _), hs.2.elim fun v hv => ⟨v, (st.block _ (Array.getElem?_eq_some_iff.1 hv.1).1 (.inl (by omega))).trans hv.1, hv.2.steps (fun k hk hkT => st.block k hk (.inr hkT))⟩⟩)
    (fun _ _ _ _ _ hs _ _ => hs)
    (fun T hT => ⟨hbw, _, hl0, World.ownsRow_nil _ _ _ _⟩)
  case hassign =>
    intro l x W K hK
    gi_wp2
    exact hK
  case hbody =>
    rintro l2 T i hi A hT1 hT2 ⟨hbA, v, hlv, hov⟩
    have hcl : A.cell? ⟨w.heap.size, 0, none⟩ = some v := by rw [cell_of_row _ _ _ _ _ _ hlv]; rfl
    have ho2 := World.ownsRow.alloc hov (.cells #[.string bs[i]] 9)
    have hol := hov.lt
    have hti : (bs.take i).length = i := by rw [List.length_take]; omega
    have happ : ∀ v' W', OwnT W' T v' (bs.take (i + 1)) = W'.ownsRow T 9 1 v' ((bs.take i).length + 1) (txCells (bs.take i) ++ [.string bs[i]]) := fun v' W' => by
      rw [List.take_succ_eq_append_getElem hi]; unfold OwnT txCells; rw [List.length_append, List.map_append]; rfl
    gi_wp2_with (first | (gi_at_builtin; refine wpListIn_append_own _ rfl _ _ 118 rfl T 9 i00 (.string ⟨#[]⟩) 1 16 Tryz.underlying118 hi0 hz0 hz1 hz2 rfl (by decide) _ _ _ rfl ho2 ⟨A.heap.size, 0, none⟩ 1 1 [.string bs[i]] rfl rfl (cell_one_new _ _ _) (fun u hu => by simp at hu; subst hu; rfl) (by unfold maxLen; omega) (by omega) (by simp; omega) ?_; intro v' W' ho hg _; rw [← happ v' W'] at ho; have hgs := hg.size; simp at hgs; obtain ⟨p', cap', hve, -, -⟩ := OwnT.shape ho; have hlW : W'.heap[w.heap.size]? = some (.cells #[v] 118 (0, 0)) := (hg.block _ (by simp; omega) (fun e => by have := hol _ e.symm; omega)).trans ((Below.heap_alloc _ _ _ (by omega)).trans hlv); subst hve; have hcW := cell_of_row _ _ 0 _ _ _ hlW; have hfW := frozen_of_row W' w.heap.size 0 _ _ hlW) | gi_in)
    refine ⟨((BodyKeeps.of_below (mbelow_alloc A _)).trans (mkeeps_grown hg (fun k hk => ⟨(hol k hk).1, by have := (hol k hk).1; omega⟩))).trans (BodyKeeps.setCell _ (by simp; omega) (by simp; omega)), ?_, _, heap_setCell_same W' w.heap.size 0 _ _ _ hlW, ?_⟩
    · exact (grown_below (hbA.alloc hbA.size _) (Nat.le_refl _) hg (fun k hk => by have := (hol k hk).1; omega)).setCell (Nat.le_refl _) _
    · have hml : (bs.take (i + 1)).length = min (i + 1) bs.length := List.length_take
      rw [← hml]
      exact ho.stays fun k hk e => Below.heap_setCell _ _ _ _ (by have := (ho.lt k e).1; simp; omega)
  case hdone =>
    rintro D T W hD hDT ⟨hbW, v, hlv, hov⟩ hK
    have hc1 : W.cell? ⟨w.heap.size, 0, none⟩ = some v := by rw [cell_of_row _ _ _ _ _ _ hlv]; rfl
    rw [List.take_length] at hov
    gi_wp2
    refine ⟨by simp, .inl ⟨_, _, rfl, run_takeDeferred hK, ?_⟩⟩
    refine ⟨_, results_tmp rfl _ _ _, _, rfl, ?_, below_putObj hbW (by omega) _⟩
    exact (hov.stays fun k hk e => World.putObj_heap_other (by have := (hov.lt k e).1; omega)).mono (by omega)
  case hstop =>
    rintro D T c i W _ _ _ h _
    exact h.elim
set_option maxHeartbeats 1000000 in
theorem Collect_any (s : ByteArray) (hm : s.size ≤ 140737488355328) (es : List Nat) (hc : Sm.Chain s.data.toList 0 es) (bs : List ByteArray) (hbs : Sm.bodiesOf s.data.toList 0 es = bs) (hbl : bs.length ≤ 900000) (b : Nat) (w : World) (hb : w.heap[b]? = some (.cells #[.string s] 9 (0, 0))) :
    Calls Tryz.prog 88 #[.func (.func 110) #[] #[.pointer (some ⟨b, 0, none⟩)]] w fun e w' => ∃ v, e = .returned v ∧ OwnT w' w.heap.size v bs ∧ Below w.heap.size w w' := by
  have HA := Lib.hid (AppendSeq_any s hm es hc bs hbs hbl b w hb)
  clear hc hbs hb
  go_enter Tryz.func88, Tryz.ntmps88
  go_wp2_with fail
  refine HA.out.mono ?_
  rintro e w2 ⟨v, rfl, ho, hb2⟩
  go_wp2_with fail
  go_ret
  exact ⟨_, rfl, ho, hb2⟩
set_option maxHeartbeats 1000000 in
theorem manNumber_any {n : Int} (h0 : 0 ≤ n) (h1 : n ≤ 1099511627776) (w : World) :
    Calls Tryz.prog 90 #[.string (numB n)] w fun e w' => e = .returned (.int .i64 n) ∧ Below w.heap.size w w' := by
  have hsz := numB_size h0 h1
  have HA : Hid (∀ W, Calls Tryz.prog 113 #[.string (numB n)] W fun e w' => e = .returned (.tuple #[.int .i64 n, .nilIface]) ∧ ∃ t, w' = Lib.bytesWorld W 5 t) := Lib.hid fun W => ml_strconv_Atoi (numB n) n (by omega) (by rw [numB_list]; exact Lib.atoi_itoa h0) W
  clear hsz
  go_enter Tryz.func90, Tryz.ntmps90
  go_wp2_with fail
  refine (HA.out _).mono ?_
  rintro e w2 ⟨rfl, t, rfl⟩
  go_wp2_with fail
  go_ret
  exact ⟨rfl, ⟨rfl, rfl, rfl, by rw [Lib.bytesWorld_size]; omega, fun k hk => Lib.bytesWorld_at_old w 5 t k hk⟩⟩
end Go.Proofs.YtbhjpkejdkfenaaGreatDoor
