/-
  Walks over a table, values of type int: From, and the iterator that it gives. Conditions: those in the theorems.
-/
import Derived.Test.YthioogncbhkaoaaMemTellI
import Derived.Test.YthioogncbhkaoaaRangeY
namespace Go.Proofs.Ythioogncbhkaoaa.MI
open Go.RowKit
attribute [local go_sem] Oper.semAt_some

set_option maxHeartbeats 2000000 in
theorem from1_seq (n : Nat) (low : ByteArray) (t : Mm.Tr) (p : Value) (b1 b2 : Nat) (w : World) (hat : At w t p) (hs : Mm.Sorted t.flat) (h1 : w.heap[b1]? = some (.cells #[p] 92 (0, 0))) (h2 : w.heap[b2]? = some (.cells #[.string low] 9 (0, 0))) :
    SeqY Fence.wide n Try.prog 52 #[.pointer (some ⟨b1, 0, none⟩), .pointer (some ⟨b2, 0, none⟩)] pairV (Mm.from_ t.flat low) (IsNode w) w := fun l J Jx W hW hJ hY hJx h0 => by
  have l1 : b1 < w.heap.size := (Array.getElem?_eq_some_iff.1 h1).1
  have l2 : b2 < w.heap.size := (Array.getElem?_eq_some_iff.1 h2).1
  obtain ⟨c1, -⟩ := cells1 ((hW.block b1 l1).trans h1)
  obtain ⟨c2, -⟩ := cells1 ((hW.block b2 l2).trans h2)
  obtain ⟨op, rfl⟩ := hat.ptr
  have HT := Lib.hid (tell_all w l low (fun i W' => J i W' ∧ W.heap.size ≤ W'.heap.size) (fun W' => ∃ i, i ≤ (Mm.from_ t.flat low).length ∧ Jx i W')
    (fun i A A' hj hb => ⟨hJ i A A' hj.1 (ItS.of_below hb), Nat.le_trans hj.2 hb.size⟩) t (.pointer op) 0 (n - 1) W hat hs (Kept.of_below hW) ⟨h0, Nat.le_refl _⟩
    (fun j hj W1 hk hj1 => by
      rw [Nat.zero_add] at hj1 ⊢
      obtain ⟨fn, tmps, assign, body, hy, hR⟩ := hY j hj W1 hj1.2 hj1.1
      refine ⟨fn, tmps, assign, body, hy, (roundIn_m hR).mono ?_⟩
      have kk : ∀ W', Keeps (IsNode w) W1 W' → Kept w W' := fun W' hb =>
        ⟨Nat.le_trans hk.size hb.size, fun k hn => (hb.block k (Nat.lt_of_lt_of_le hn.lt hk.size) hn).trans (hk.node k hn)⟩
      rintro e W' (⟨rfl, h3, h4⟩ | ⟨rfl, h3, h4⟩)
      · exact ⟨kk W' h4, true, rfl, fun _ => ⟨h3, Nat.le_trans hj1.2 h4.size⟩, fun h => (by cases h)⟩
      · exact ⟨kk W' h4, false, rfl, fun h => (by cases h), fun _ => ⟨j + 1, hj, h3⟩⟩))
  clear hat hs h1 h2 hJ hY hJx h0
  refine callsIn_of_wp Try.func52 rfl trivial ?_ rfl
  simp only [Try.ntmps52, List.size_toArray, List.length_cons, List.length_nil, Nat.reduceAdd, Nat.reduceSub, Array.replicate_succ, Array.replicate_zero, List.push_toArray, List.append_toArray, List.nil_append, List.cons_append]
  gi_wp2_with fail
  refine ⟨trivial, wideN, HT.out.mono ?_⟩
  rintro e W' ⟨hk', r, rfl, h3, h4⟩
  have HP : Hid (J (Mm.from_ t.flat low).length W' ∨ ∃ i, i ≤ (Mm.from_ t.flat low).length ∧ Jx i W') := Lib.hid (by
    rw [Nat.zero_add] at h3
    cases r with
    | true => exact .inl (h3 rfl).1
    | false => exact .inr (h4 rfl))
  clear h3 h4 hk' c1 c2
  gi_wp2_with fail
  go_end0
  exact ⟨⟨_, rfl⟩, HP.out⟩

/-- What From gives: a function over two blocks of its own. -/
def Gave (w : World) (p : Value) (key : ByteArray) (e : Ending) (w' : World) : Prop :=
  ∃ b1 b2, e = .returned (.func (.func 52) #[] #[.pointer (some ⟨b1, 0, none⟩), .pointer (some ⟨b2, 0, none⟩)]) ∧ w'.heap[b1]? = some (.cells #[p] 92 (0, 0)) ∧ w'.heap[b2]? = some (.cells #[.string key] 9 (0, 0)) ∧
    w.heap.size ≤ b1 ∧ b1 < b2 ∧ Below w.heap.size w w'
theorem gave_of {w w1 : World} {p : Value} {key : ByteArray} (hb : Below w.heap.size w w1) :
    Gave w p key (.returned (.func (.func 52) #[] #[.pointer (some ⟨w1.heap.size, 0, none⟩), .pointer (some ⟨w1.heap.size + 1, 0, none⟩)]))
      ((w1.alloc (.cells #[p] 92)).alloc (.cells #[.string key] 9)) := by
  refine ⟨_, _, rfl, (Below.heap_alloc _ _ _ (by simp)).trans (heap_alloc_new w1 _), ?_, hb.size, Nat.lt_succ_self _, ?_⟩
  · have := heap_alloc_new (w1.alloc (.cells #[p] 92)) (.cells #[.string key] 9); rw [World.size_alloc] at this; exact this
  · have := hb.size
    exact (hb.alloc this _).alloc (by simp; omega) _

set_option maxHeartbeats 2000000 in
theorem from_at {w : World} {a : Nat} {p : Value} {t : Mm.Tr} (h : Tab w a p) (ht : At w t p) (key : ByteArray) (hk : key.size ≤ 281474976710656) : Calls Try.prog 34 #[.pointer (some ⟨a, 0, none⟩), .string key] w (Gave w p key) := by
  have h1 := tree_at h
  obtain ⟨op, rfl⟩ := ht.ptr
  clear h ht
  go_enter Try.func34, Try.ntmps34
  go_wp2_with fail
  refine h1.mono ?_
  rintro e w' ⟨rfl, rfl⟩
  go_wp2_with fail
  refine (clone_any key _ hk).mono ?_
  rintro e w1 ⟨rfl, hb⟩
  have HB := Lib.hid hb
  clear hb h1
  go_wp2_with fail
  go_ret
  exact gave_of HB.out
set_option maxHeartbeats 2000000 in
theorem from_nil (w : World) (key : ByteArray) (hk : key.size ≤ 281474976710656) : Calls Try.prog 34 #[.pointer none, .string key] w (Gave w (.pointer none) key) := by
  go_enter Try.func34, Try.ntmps34
  go_wp2_with fail
  refine (tree_none w).mono ?_
  rintro e w' ⟨rfl, rfl⟩
  go_wp2_with fail
  refine (clone_any key _ hk).mono ?_
  rintro e w1 ⟨rfl, hb⟩
  have HB := Lib.hid hb
  clear hb
  go_wp2_with fail
  go_ret
  exact gave_of HB.out
end Go.Proofs.Ythioogncbhkaoaa.MI
