/-
  Walks over package mem: answer (a function asked of a key, with a deferred recover), as MemOthers asks it. Condition: the function answers.
-/
import Derived.Test.YtnomjhfppmhmeaaMemRangeI
import Derived.Test.YtnomjhfppmhmeaaMemOwn
import Derived.Defers
import Derived.Recover
import Derived.Maps.AppendAt
namespace Go.Proofs.Ytnomjhfppmhmeaa
open Go.RowKit MI

theorem rec_idle (w : World) : CallsD Try.prog 85 #[] .returning w fun e u' w' => e = .returned (.tuple #[]) ∧ u' = .returning ∧ w' = w := by
  refine callsD_of_wpS Try.func85 rfl fun c₀ cs hu => ?_
  apply wpS_region
  simp [wpOpsS, go_sem, recoverD, hu, Try.ntmps85, bodyPostS, results, Try.results85]
  cases c₀
  simp_all

/-- What a call of the law's function leaves: the row that block g tells of has one text more; of what lay, below base, of nodes, and of what holds no cells, nothing else has turned. -/
structure Asked (g base : Nat) (ss : List ByteArray) (w w' : World) : Prop where
  os : w'.os = w.os
  tape : w'.tape = w.tape
  output : w'.output = w.output
  size : w.heap.size ≤ w'.heap.size
  row : ∃ v, w'.heap[g]? = some (.cells #[v] 67 (0, 0)) ∧ OwnTexts w' base v ss
  block : ∀ k, k < w.heap.size → k ≠ g → (k < base ∨ IsNode w k ∨ NoCells w k) → w'.heap[k]? = w.heap[k]?
theorem asked_of {w W' : World} {g base : Nat} {v v' : Value} {o : Obj} {ss ss' : List ByteArray} (hg : w.heap[g]? = some (.cells #[v] 67 (0, 0))) (hgb : g < base) (hov : OwnTexts w base v ss)
    (hgr : (w.alloc o).grownBy W' v.ownBlock) (hn : OwnTexts W' base v' ss') : W'.heap[g]? = some (.cells #[v] 67 (0, 0)) ∧ Asked g base ss' w (W'.setCell ⟨g, 0, none⟩ v') := by
  have hlt := hov.lt
  have hgl : g < w.heap.size := (Array.getElem?_eq_some_iff.1 hg).1
  have r1 : W'.heap[g]? = some (.cells #[v] 67 (0, 0)) :=
    (hgr.block g (by simp; omega) (fun e => by have := (hlt g e.symm).1; omega)).trans ((Below.heap_alloc _ _ _ hgl).trans hg)
  refine ⟨r1, hgr.os, hgr.tape, hgr.output, ?_, ⟨v', heap_setCell_same W' g 0 _ _ _ r1, hn.stays fun k hk hk2 _ => Below.heap_setCell _ _ _ _ (by simp; omega)⟩, fun k hk hkg hb => ?_⟩
  · have := hgr.size; simp [World.setCell] at this ⊢; omega
  · refine (Below.heap_setCell _ _ _ _ hkg).trans ((hgr.block k (by simp; omega) fun e => ?_).trans (Below.heap_alloc _ _ _ hk))
    have h1 := hlt k e.symm
    obtain ⟨cs, f, hc⟩ := hov.cells k e.symm
    rcases hb with hb | hb | hb
    · omega
    · obtain ⟨cs', T, hT, h'⟩ := hb
      rw [hc] at h'
      injection h' with h'
      injection h' with _ q2 _
      exact string_not (q2 ▸ hT)
    · exact hb _ _ _ hc

set_option maxHeartbeats 4000000 in
theorem ask_any {w : World} {g base : Nat} {v : Value} {ss : List ByteArray} (hg : w.heap[g]? = some (.cells #[v] 67 (0, 0))) (hgb : g < base) (hbz : base ≤ w.heap.size) (hov : OwnTexts w base v ss) (hss : ss.length ≤ 1000) (key : ByteArray) (hk : key.size ≤ 1000000) (x : Int) :
    Calls Try.prog 49 #[.string key, .int .i64 x, .pointer (some ⟨g, 0, none⟩)] w fun e w' => e = .returned (.tuple #[.string (key ++ ⟨#[33]⟩), .bool (x.tmod 2 == 0)]) ∧ Asked g base (ss ++ [key]) w w' := by
  obtain ⟨i00, hi0, hz0, hz1, hz2⟩ := info_parts infoS
  have HI := Lib.hid (And.intro hi0 (And.intro hz0 (And.intro hz1 hz2)))
  obtain ⟨T1, hT1⟩ : ∃ T1, T1 = ss ++ [key] := ⟨_, rfl⟩
  have happ : ∀ v' W', OwnTexts W' base v' T1 = W'.ownsRow base 9 1 v' (ss.length + 1) (ss.map Value.string ++ [.string key]) := fun v' W' => by
    rw [hT1]; unfold OwnTexts; rw [List.length_append, List.map_append]; rfl
  have ho2 := World.ownsRow.alloc hov (.cells #[.string key] 9)
  obtain ⟨c0, -⟩ := cells1 hg
  have HA := Lib.hid (fun (W' : World) (v' : Value) (hgr : (w.alloc (.cells #[.string key] 9)).grownBy W' v.ownBlock) (hn : OwnTexts W' base v' T1) => asked_of hg hgb hov hgr hn)
  have HAPP := Lib.hid happ
  have hadd := fun u => run_string_add_sum (P := Try.prog) u key ⟨#[33]⟩ (by show key.size + 1 ≤ _; omega)
  rw [← hT1]
  have HB := Lib.hid hbz
  clear hi0 hz0 hz1 hz2 hT1 happ hg hgb hbz hov
  go_enter Try.func49, Try.ntmps49
  go_wp2_with (first | (refine wpList_append_own _ rfl _ _ 67 rfl base 9 i00 (.string ⟨#[]⟩) 1 16 Try.underlying67 HI.out.1 HI.out.2.1 HI.out.2.2.1 HI.out.2.2.2 rfl (by decide) _ _ _ rfl ho2 ⟨w.heap.size, 0, none⟩ 1 1 [.string key] rfl rfl (cell_one_new _ _ _) (fun u hu => by simp at hu; subst hu; rfl) (by unfold maxLen; omega) (by omega) (by have := HB.out; simp; omega) ?_; intro v' W' hn hgr _; rw [← HAPP.out v' W'] at hn; have hs := HA.out W' v' hgr hn; obtain ⟨p', cap', hve, -, -, -⟩ := OwnTexts.texts hn; subst hve; obtain ⟨q1, q2⟩ := cells1 hs.1; have q3 := q2 0; have HS := Lib.hid hs; clear hs q2) | fail)
  go_ret2
  exact ⟨rfl, HS.out.2⟩

set_option maxRecDepth 100000 in
set_option maxHeartbeats 1000000 in
theorem answer_of {w : World} {g : Nat} {key s : ByteArray} {x : Int} {b : Bool} {Q : World → Prop}
    (h : Calls Try.prog 49 #[.string key, .int .i64 x, .pointer (some ⟨g, 0, none⟩)] w fun e w' => e = .returned (.tuple #[.string s, .bool b]) ∧ Q w') :
    Calls Try.prog 71 #[.func (.func 49) #[] #[.pointer (some ⟨g, 0, none⟩)], .string key, .int .i64 x] w fun e w' => e = .returned (.tuple #[.string s, .bool b]) ∧ Q w' := by
  have hmf : ∀ (fn : Fn) (first cap : Array Value) (w : World), (Instr.makeFunc fn first cap).run Try.prog w = .ok (.func fn first cap) w := fun _ _ _ _ => rfl
  have H := Lib.hid h
  clear h
  go_enter_defers Try.func71, Try.ntmps71
  go_wp2_with fail
  refine H.out.mono ?_
  rintro e w2 ⟨rfl, hq⟩
  have HQ := Lib.hid hq
  clear hq
  go_wp2_with fail
  refine leaves_cons (f := 85) (args := #[]) (by simp) (by simp [go_sem]) ?_
  refine (rec_idle _).mono ?_
  rintro e u' w'' ⟨rfl, rfl, rfl⟩
  exact ⟨.tuple #[.string s, .bool b], by simp [results, Try.results71, go_sem], rfl, HQ.out⟩
end Go.Proofs.Ytnomjhfppmhmeaa
