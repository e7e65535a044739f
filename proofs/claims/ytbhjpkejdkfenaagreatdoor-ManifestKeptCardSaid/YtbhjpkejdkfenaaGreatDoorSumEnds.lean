/-
  Walks over package sum: the iterator 'ends', and Whole. Condition: texts of at most 2^63 - 1 bytes.
-/
import Derived.Test.YtbhjpkejdkfenaaGreatDoorRows
import Derived.Test.YtbhjpkejdkfenaaGreatDoorSumMath
import Derived.Test.YtbhjpkejdkfenaaGreatDoorRangeX
import Derived.Test.YtbhjpkejdkfenaaGreatDoorSumWalkD
import Derived.Shelf.Abstract
import Derived.Shelf.RegionOpen
import Derived.WalkKit
import Derived.OwnWalkIn
import Derived.TacticsInMore
import Derived.LoopNIn
import Derived.LoopIn
import Derived.Lib.Hide
import Derived.Deep.WholeRow
namespace Go.Proofs.YtbhjpkejdkfenaaGreatDoor
open Go.RowKit Go.Shelf
attribute [local go_sem] Oper.semAt_some

theorem wideN {m : Nat} : Fence.wide.depth.isSome = true → 1 ≤ m := fun h => by simp [Fence.wide] at h
theorem tab_cells : (#[(fourTab 16)[0]'(by rw [fourTab_size]; omega), (fourTab 16)[1]'(by rw [fourTab_size]; omega), (fourTab 16)[2]'(by rw [fourTab_size]; omega), (fourTab 16)[3]'(by rw [fourTab_size]; omega), (fourTab 16)[4]'(by rw [fourTab_size]; omega), (fourTab 16)[5]'(by rw [fourTab_size]; omega), (fourTab 16)[6]'(by rw [fourTab_size]; omega), (fourTab 16)[7]'(by rw [fourTab_size]; omega), (fourTab 16)[8]'(by rw [fourTab_size]; omega), (fourTab 16)[9]'(by rw [fourTab_size]; omega), (fourTab 16)[10]'(by rw [fourTab_size]; omega), (fourTab 16)[11]'(by rw [fourTab_size]; omega), (fourTab 16)[12]'(by rw [fourTab_size]; omega), (fourTab 16)[13]'(by rw [fourTab_size]; omega), (fourTab 16)[14]'(by rw [fourTab_size]; omega), (fourTab 16)[15]'(by rw [fourTab_size]; omega)] : Array Value) = fourTab 16 := by kernel_rfl
def placeOf (o : Option Nat) : Nat := o.getD 0
def isOf (o : Option Nat) : Bool := o.isSome
theorem told_eq (o : Option Nat) : told o = .tuple #[.int .i64 (placeOf o : Nat), .bool (isOf o)] := by cases o <;> rfl
theorem behind_nat (l : List UInt8) (k : Nat) : Sm.behind l (k : Int) = Sm.behindAt l k := by unfold Sm.behind; rw [if_neg (by omega), Int.toNat_natCast]

theorem tab_one : (fourTab 16).all (·.oneCell') = true := by rw [fourTab_full]; kernel_rfl

set_option maxRecDepth 100000 in
set_option maxHeartbeats 2000000 in
theorem ends1_seq (n : Nat) (s : ByteArray) (hm : s.size ≤ maxLen) (es : List Nat) (hc : Sm.Chain s.data.toList 0 es) (b : Nat) (w : World) (hb : w.heap[b]? = some (.cells #[.string s] 9 (0, 0))) :
    SeqX Fence.wide n Tryz.prog 131 #[.pointer (some ⟨b, 0, none⟩)] (fun e : Nat => #[.int .i64 (e : Int)]) es (fun k => k = b) w := fun l J Jx W hW hJ hY hJx h0 => by
  refine callsIn_of_wp Tryz.func131 rfl trivial ?_ rfl
  simp only [Tryz.ntmps131, List.size_toArray, List.length_cons, List.length_nil, Nat.reduceAdd, Nat.reduceSub, Array.replicate_succ, Array.replicate_zero, List.push_toArray, List.append_toArray, List.nil_append, List.cons_append]
  gi_wp2_with fail
  refine ⟨trivial, wideN, ?_⟩
  refine (callsIn_wide.2 (fours_any W)).mono ?_
  rintro e w1 ⟨rfl, hb1⟩
  have hcb : (w1.alloc (.cells (fourTab 16) 165)).cell? ⟨b, 0, none⟩ = some (.string s) := by
    have hbW : b < w.heap.size := (Array.getElem?_eq_some_iff.1 hb).1
    have := hW.size
    have := hb1.size
    rw [cell_of_row _ b 0 _ _ _ ((Below.heap_alloc _ _ b (by omega)).trans ((hb1.block b (by omega)).trans ((hW.block b hbW).trans hb)))]
    rfl
  have hst := run_storeCells_new (P := Tryz.prog) w1 165 (fourTab 0) (fourTab 16) info54 (by rw [fourTab_size, fourTab_size]) tab_one
  rw [fourTab_zero] at hst
  gi_wp2_with fail
  rw [tab_cells]
  refine ⟨trivial, wideN, ?_⟩
  refine (callsIn_wide.2 (behind_any s 0 _ hm)).mono ?_
  rintro e w2 ⟨rfl, hb2⟩
  clear hst hcb
  have hT2 : w2.heap[w1.heap.size]? = some (.cells (fourTab 16) 165 (0, 0)) := (hb2.block _ (by simp)).trans (heap_alloc_new w1 _)
  have hbW : b < w.heap.size := (Array.getElem?_eq_some_iff.1 hb).1
  have hws := hW.size
  have h1s := hb1.size
  have hbb : w2.heap[b]? = some (.cells #[.string s] 9 (0, 0)) := (hb2.block b (by simp; omega)).trans ((Below.heap_alloc _ _ b (by omega)).trans ((hb1.block b (by omega)).trans ((hW.block b hbW).trans hb)))
  have hbe : Below W.heap.size W w2 := hb1.trans ((((Below.refl _ _).alloc (Nat.le_refl _) _).mono h1s).trans (hb2.mono (by simp; omega)))
  have h2s : w1.heap.size < w2.heap.size := by have := hb2.size; simp at this; omega
  have hj0 : J (w1.heap.size + 1) 0 w2 := hJ _ _ _ _ (h0 (w1.heap.size + 1) (by omega)) (ItSteps.of_below hbe)
  rw [show Sm.behind s.data.toList 0 = Sm.behindAt s.data.toList 0 from behind_nat _ 0, told_eq]
  have hW2 : W.heap.size ≤ w2.heap.size := hbe.size
  gi_wp2_with fail
  gi_loopw [4, 5] (fun p k wr => ∃ i : Nat, i ≤ es.length ∧ p = .int .i64 (placeOf (Sm.behindAt s.data.toList (Sm.at_ 0 es i)) : Nat) ∧ k = .bool (isOf (Sm.behindAt s.data.toList (Sm.at_ 0 es i))) ∧
      wr.heap[w1.heap.size]? = some (.cells (fourTab 16) 165 (0, 0)) ∧ wr.heap[b]? = some (.cells #[.string s] 9 (0, 0)) ∧ w1.heap.size < wr.heap.size ∧ J (w1.heap.size + 1) i wr)
    (fun p k _ => match k with | .bool true => s.size + 1 - (intOf p).toNat | _ => 0)
  case atStart => exact ⟨0, Nat.zero_le _, rfl, rfl, (hb2.block _ (by simp)).trans (heap_alloc_new w1 _), hbb, h2s, hj0⟩
  case round =>
    obtain ⟨i, hi, rfl, rfl, hTr, hbr, hsr, hJr⟩ := hrel
    by_cases hlt : i < es.length
    · have hst := hc.step i hlt
      obtain ⟨fn, tmps, assign, body, hy, hR⟩ := hY (w1.heap.size + 1) i hlt wr (by omega) (by omega) hJr
      rw [hst]
      simp only [placeOf, isOf, Option.getD_some, Option.isSome_some]
      gi_wp2_with fail
      refine ⟨wideN, hR.mono ?_⟩
      rintro e W3 (⟨rfl, hj3, hk3⟩ | ⟨rfl, hj3, -⟩)
      · have hT3 : W3.heap[w1.heap.size]? = some (.cells (fourTab 16) 165 (0, 0)) := (hk3.block w1.heap.size hsr (.inr ⟨by omega, by omega⟩)).trans hTr
        have hb3 : W3.heap[b]? = some (.cells #[.string s] 9 (0, 0)) := (hk3.block b (by omega) (.inl rfl)).trans hbr
        have hs3 : w1.heap.size < W3.heap.size := Nat.lt_of_lt_of_le hsr hk3.size
        have hcs : ∀ j (h : j < (fourTab 16).size), W3.cell? ⟨w1.heap.size, j, none⟩ = some (fourTab 16)[j] := fun j h => by
          rw [cell_of_row _ _ _ _ _ _ hT3]; exact Array.getElem?_eq_getElem h
        have hcb : W3.cell? ⟨b, 0, none⟩ = some (.string s) := by rw [cell_of_row _ _ _ _ _ _ hb3]; rfl
        have hsz := fourTab_size 16
        clear hy hR
        gi_wp2_with fail
        rw [tab_cells]
        refine ⟨trivial, wideN, ?_⟩
        refine (callsIn_wide.2 (behind_any s (es[i] : Nat) _ hm)).mono ?_
        rintro e W4 ⟨rfl, hb4⟩
        clear hcs hcb
        rw [behind_nat, told_eq, ← Sm.at_succ 0 es i hlt]
        gi_wp2_with fail
        go_roundw
        case rel => exact ⟨i + 1, by omega, rfl, rfl, (hb4.block w1.heap.size hs3).trans hT3, (hb4.block b (by omega)).trans hb3, Nat.lt_of_lt_of_le hs3 hb4.size, hJ _ _ _ _ hj3 (ItSteps.of_below hb4)⟩
        case measure =>
          have hle := (Sm.behindAt_le hst).2.1
          have hll : s.data.toList.length = s.size := by simp
          rw [Sm.at_succ 0 es i hlt]
          cases hq : Sm.behindAt s.data.toList es[i] with
          | none => simp [isOf, intOf]; omega
          | some e =>
            have := Sm.behindAt_le hq
            simp [isOf, placeOf, intOf]; omega
      · gi_wp2
        go_end0
        exact ⟨⟨_, rfl⟩, _, by omega, .inr ⟨i + 1, by omega, hj3⟩⟩
    · obtain rfl : i = es.length := by omega
      rw [hc.done]
      simp only [placeOf, isOf, Option.getD_none, Option.isSome_none]
      gi_wp2_with fail
      refine ⟨fun _ h => (by cases h), ?_⟩
      gi_wp2_with fail
      go_end0
      exact ⟨⟨_, rfl⟩, _, by omega, .inl hJr⟩

set_option maxHeartbeats 400000 in
theorem ends_any (s : ByteArray) (w : World) :
    Calls Tryz.prog 111 #[.string s] w fun e w' => e = .returned (.func (.func 131) #[] #[.pointer (some ⟨w.heap.size, 0, none⟩)]) ∧ w' = w.alloc (.cells #[.string s] 9) := by
  go_enter Tryz.func111, Tryz.ntmps111
  go_wp2
  go_ret
  exact ⟨rfl, rfl⟩

end Go.Proofs.YtbhjpkejdkfenaaGreatDoor
