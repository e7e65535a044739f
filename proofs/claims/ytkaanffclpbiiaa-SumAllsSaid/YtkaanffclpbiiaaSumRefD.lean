/-
  Walks over the reference of package sum: All, Same. Condition: texts of at most 70000 bytes.
-/
import Derived.Test.YtkaanffclpbiiaaRows
import Derived.Test.YtkaanffclpbiiaaSumRefC
import Derived.Test.YtkaanffclpbiiaaSumEnds
import Derived.Maps.AppendAt
import Derived.WalkKit
import Derived.OwnWalk
import Derived.Lib.Hide
import Derived.BigQuiet

namespace Go.Proofs.Ytkaanffclpbiiaa
open Go.RowKit Go.Shelf

/-- A slice of texts, as a walk wants it: cell i holds ss[i]. -/
def Texts (W : World) (p : Option Addr) (ss : List ByteArray) : Prop := ∀ i (h : i < ss.length), ∃ a, p = some a ∧ a.block < W.heap.size ∧ W.cell? (a.add i) = some (.string ss[i])
theorem add_block' (a : Addr) (i : Nat) : (a.add i).block = a.block := by unfold Addr.add; split <;> rfl
theorem Texts.below {W W' : World} {p : Option Addr} {ss : List ByteArray} (h : Texts W p ss) (hb : Below W.heap.size W W') : Texts W' p ss := fun i hi => by
  obtain ⟨a, h1, h2, h3⟩ := h i hi
  exact ⟨a, h1, Nat.lt_of_lt_of_le h2 hb.size, (hb.cell (by rw [add_block']; exact h2)).trans h3⟩
theorem Texts.take {W : World} {p : Option Addr} {ss : List ByteArray} (h : Texts W p ss) (k : Nat) : Texts W p (ss.take k) := fun i hi => by
  rw [List.length_take] at hi
  obtain ⟨a, h1, h2, h3⟩ := h i (by omega)
  exact ⟨a, h1, h2, by rw [h3, List.getElem_take]⟩

/-- A row of texts that a call has built. -/
def OwnTexts (W : World) (base : Nat) (v : Value) (ss : List ByteArray) : Prop := W.ownsRow base 9 1 v ss.length (ss.map Value.string)
theorem OwnTexts.texts {W : World} {base : Nat} {v : Value} {ss : List ByteArray} (h : OwnTexts W base v ss) : ∃ p cap, v = .slice p ss.length cap ∧ ss.length ≤ cap ∧ cap ≤ maxLen ∧ Texts W p ss := by
  have hc := World.ownsRow.cells (g := (v.ownBlock).getD 0) h
  have hlt := World.ownsRow.lt h
  rcases h.2 with ⟨rfl, hn⟩ | ⟨g, cap, cur, rfl, hb, hg, h1, h2, h3, h4⟩
  · rw [hn]; exact ⟨none, 0, rfl, Nat.le_refl _, Nat.zero_le _, fun i hi => by omega⟩
  · refine ⟨some ⟨g, 0, none⟩, cap, rfl, h1, h2, fun i hi => ⟨_, rfl, (hlt g rfl).2, ?_⟩⟩
    exact hc rfl i _ (by rw [List.getElem?_map, List.getElem?_eq_getElem hi]; rfl)

theorem infoS : (Try.prog.info? 9).map (fun i => (i.zero, i.size, i.bytes)) = some (some (.string ⟨#[]⟩), 1, 16) := by kernel_rfl
theorem texts_one (ss : List ByteArray) : ∀ u ∈ ss.map Value.string, u.oneCell' = true := by
  intro u hu
  obtain ⟨s, -, rfl⟩ := List.mem_map.1 hu
  rfl

theorem OwnTexts.below {W W' : World} {base : Nat} {v : Value} {ss : List ByteArray} (h : OwnTexts W base v ss) (hb : Below W.heap.size W W') : OwnTexts W' base v ss :=
  World.ownsRow.kept (row := none) h ⟨hb.os, hb.tape, hb.output, hb.size, fun k hk _ => hb.block k hk⟩ (by by_cases hq : v.ownBlock = none; exact .inl hq; exact .inr hq)
theorem OwnTexts.lt {W : World} {base : Nat} {v : Value} {ss : List ByteArray} (h : OwnTexts W base v ss) : ∀ k, v.ownBlock = some k → base ≤ k ∧ k < W.heap.size := World.ownsRow.lt h
theorem nextVal_some {l : List UInt8} {k e : Nat} (h : Sm.behindAt l k = some e) : nextVal l (k : Nat) = .tuple #[.string ⟨(Sm.bodyAt l k e).toArray⟩, .int .i64 (e : Nat), .bool true] := by
  unfold nextVal; rw [behind_nat, h]; rfl
theorem nextVal_none {l : List UInt8} {k : Nat} (h : Sm.behindAt l k = none) : nextVal l (k : Nat) = .tuple #[.string ⟨#[]⟩, .int .i64 0, .bool false] := by
  unfold nextVal; rw [behind_nat, h]

set_option maxHeartbeats 1000000 in
theorem refAll_any (s : ByteArray) (hm : s.size ≤ 70000) (es : List Nat) (hc : Sm.Chain s.data.toList 0 es) (w : World) :
    Calls Try.prog 21 #[.string s] w fun e w' => ∃ v, e = .returned (.tuple #[v, .int .i64 (Sm.at_ 0 es es.length : Nat)]) ∧ OwnTexts w' w.heap.size v (Sm.bodiesOf s.data.toList 0 es) ∧ Below w.heap.size w w' := by
  have hll : s.data.toList.length = s.size := by simp
  have hbl := Sm.bodiesOf_len s.data.toList es 0
  have hat := fun i hi h => Lib.hid (Sm.bodiesOf_at s.data.toList es 0 i hi h)
  generalize Sm.bodiesOf s.data.toList 0 es = bs at hbl hat ⊢
  obtain ⟨i0, hi0, hz0, hz1, hz2⟩ := info_parts infoS
  go_enter Try.func21, Try.ntmps21
  go_wp2_with fail
  go_loopw [4, 5] (fun l p wr => ∃ i : Nat, i ≤ es.length ∧ p = .int .i64 (Sm.at_ 0 es i : Nat) ∧ OwnTexts wr w.heap.size l (bs.take i) ∧ Below w.heap.size w wr ∧ 8 * i ≤ Sm.at_ 0 es i ∧ Sm.at_ 0 es i ≤ s.size)
    (fun _ p _ => s.size + 1 - (intOf p).toNat)
  case atStart => exact ⟨0, Nat.zero_le _, rfl, World.ownsRow_nil _ _ _ _, Below.refl _ _, Nat.zero_le _, Nat.zero_le _⟩
  case round =>
    obtain ⟨i, hi, rfl, hl, hb, h8, hle⟩ := hrel
    go_wp2_with fail
    refine (refNext_any s _ _ (by omega)).mono ?_
    rintro e w2 ⟨rfl, hb2⟩
    by_cases hlt : i < es.length
    · have hst := hc.step i hlt
      have hbe := Sm.behindAt_le hst
      have hlt2 : i < bs.length := by omega
      rw [nextVal_some hst, ← (hat i hlt hlt2).out]
      have ho2 := (hl.below hb2).alloc (.cells #[.string bs[i]] 9)
      have hlo := hl.lt
      have hti : (bs.take i).length = i := by rw [List.length_take]; omega
      clear hl
      go_wp2_with (first
        | (at_builtin; refine wpList_append_own _ rfl _ _ 40 rfl w.heap.size 9 i0 (.string ⟨#[]⟩) 1 16 Try.underlying40 hi0 hz0 hz1 hz2 rfl (by decide) _ _ _ rfl ho2 ⟨w2.heap.size, 0, none⟩ 1 1 [.string bs[i]] rfl rfl (cell_one_new _ _ _) (fun u hu => by simp at hu; subst hu; rfl) (by unfold maxLen; omega) (by omega) (by have := hb.size; have := hb2.size; simp; omega) ?_; intro v' W' ho hg hnil)
        | go_in)
      have ho : OwnTexts W' w.heap.size v' (bs.take (i + 1)) := by
        rw [List.take_succ_eq_append_getElem hlt2]
        unfold OwnTexts
        rw [List.length_append, List.map_append]
        exact ho
      go_roundw
      case rel =>
        refine ⟨i + 1, by omega, by rw [Sm.at_succ 0 es i hlt], ho, ?_, by rw [Sm.at_succ 0 es i hlt]; omega, by rw [Sm.at_succ 0 es i hlt]; omega⟩
        exact ((hb.trans (hb2.mono hb.size)).alloc (Nat.le_trans hb.size hb2.size) _).grown hg (by have := hb.size; have := hb2.size; simp; omega) (fun k hk => (hlo k hk).1)
      case measure => simp [intOf]; omega
    · obtain rfl : i = es.length := by omega
      rw [nextVal_none hc.done]
      go_wp2_with fail
      go_ret2
      refine ⟨_, rfl, ?_, hb.trans (hb2.mono hb.size)⟩
      have h := hl.below hb2
      rw [List.take_of_length_le (by omega)] at h
      exact h

set_option maxHeartbeats 1000000 in
theorem refSame_any (p q : Option Addr) (cap cap2 : Nat) (ss : List ByteArray) (hn : ss.length ≤ 1000000) (w : World) (hp : Texts w p ss) (hq : Texts w q ss) :
    Calls Try.prog 23 #[.slice p ss.length cap, .slice q ss.length cap2] w fun e w' => e = .returned (.bool true) ∧ Below w.heap.size w w' := by
  go_enter Try.func23, Try.ntmps23
  go_wp2_with fail
  go_loopw [5] (fun i wr => ∃ k : Nat, k ≤ ss.length ∧ i = .int .i64 (k : Nat) ∧ Below w.heap.size w wr) (fun i _ => ss.length - (intOf i).toNat)
  case atStart => exact ⟨0, Nat.zero_le _, rfl, Below.refl _ _⟩
  case round =>
    obtain ⟨k, hk, rfl, hb⟩ := hrel
    by_cases hlt : k < ss.length
    · obtain ⟨a, rfl, ha, hca⟩ := hp k hlt
      obtain ⟨b, rfl, hb2, hcb⟩ := hq k hlt
      have h1 : wr.cell? (a.add k) = some (.string ss[k]) := (hb.cell (by rw [add_block']; exact ha)).trans hca
      have h2 : wr.cell? (b.add k) = some (.string ss[k]) := (hb.cell (by rw [add_block']; exact hb2)).trans hcb
      have i0 : (k : Int) < (ss.length : Int) := by omega
      have i1 : (0 : Int) ≤ (k : Int) := by omega
      generalize ss[k] = c at *
      go_wp2_with fail
      go_quiet (fail)
      go_wp2_with fail
      go_roundw
      case rel => exact ⟨k + 1, by omega, rfl, below_drewN hb _⟩
      case measure => simp [intOf]; omega
    · obtain rfl : k = ss.length := by omega
      have i0 : ¬ (ss.length : Int) < (ss.length : Int) := by omega
      go_wp2_with fail
      go_ret
      exact ⟨rfl, hb⟩
end Go.Proofs.Ytkaanffclpbiiaa
