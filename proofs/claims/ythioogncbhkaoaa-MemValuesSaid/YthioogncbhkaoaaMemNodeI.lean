/-
  A table's nodes in memory, values of type int: count, weight, join. Conditions: those in the theorems.
-/
import Derived.Test.YthioogncbhkaoaaMemRep
namespace Go.Proofs.Ythioogncbhkaoaa.MI
open Go.RowKit

/-- Block i is an item with key k and value v. -/
def Item (w : World) (i : Nat) (k : ByteArray) (v : Value) : Prop := k.size ≤ 281474976710656 ∧ ∃ x : Int, v = .int .i64 x ∧ w.heap[i]? = some (.cells #[.string k, .int .i64 x] 98 (0, 0))
/-- p points to what t is. -/
def At (w : World) : Mm.Tr → Value → Prop
  | .nil, p => p = .pointer none
  | .node l k v r, p => ∃ a i pl pr, p = .pointer (some ⟨a, 0, none⟩) ∧ w.heap[a]? = some (.cells #[.pointer (some ⟨i, 0, none⟩), pl, pr, .int .i64 ((l.count + 1 + r.count : Nat) : Int)] 113 (0, 0)) ∧
      Item w i k v ∧ At w l pl ∧ At w r pr
theorem nodeT_node : nodeT 113 := by unfold nodeT; decide
theorem nodeT_item : nodeT 98 := by unfold nodeT; decide
theorem Item.kept {w w' : World} {i : Nat} {k : ByteArray} {v : Value} (h : Item w i k v) (hk : Kept w w') : Item w' i k v := by
  obtain ⟨h0, x, h1, h2⟩ := h
  exact ⟨h0, x, h1, (hk.node i ⟨_, _, nodeT_item, h2⟩).trans h2⟩
theorem At.kept {w w' : World} {t : Mm.Tr} {p : Value} (h : At w t p) (hk : Kept w w') : At w' t p := by
  induction t generalizing p with
  | nil => exact h
  | node l k v r h1 h2 =>
    obtain ⟨a, i, pl, pr, e, hr, hi, hl, hr'⟩ := h
    exact ⟨a, i, pl, pr, e, (hk.node a ⟨_, _, nodeT_node, hr⟩).trans hr, hi.kept hk, h1 hl, h2 hr'⟩
theorem At.below {w w' : World} {t : Mm.Tr} {p : Value} (h : At w t p) (hb : Below w.heap.size w w') : At w' t p := h.kept (.of_below hb)
theorem Item.below {w w' : World} {i : Nat} {k : ByteArray} {v : Value} (h : Item w i k v) (hb : Below w.heap.size w w') : Item w' i k v := h.kept (.of_below hb)
theorem At.ptr {w : World} {t : Mm.Tr} {p : Value} (h : At w t p) : ∃ o, p = .pointer o := by
  cases t with
  | nil => exact ⟨none, h⟩
  | node l k v r => obtain ⟨a, i, pl, pr, e, -⟩ := h; exact ⟨_, e⟩

set_option maxHeartbeats 400000 in
theorem count_at {w : World} {t : Mm.Tr} {p : Value} (h : At w t p) : Calls Try.prog 50 #[p] w fun e w' => e = .returned (.int .i64 (t.count : Nat)) ∧ w = w' := by
  cases t with
  | nil =>
    obtain rfl : p = .pointer none := h
    go_enter Try.func50, Try.ntmps50
    go_wp2_with fail
    go_ret
    exact ⟨rfl, rfl⟩
  | node l k v r =>
    obtain ⟨a, i, pl, pr, rfl, hr, -, -, -⟩ := h
    obtain ⟨-, -, -, c3⟩ := cells4 hr
    clear hr
    show Calls _ _ _ _ fun e w' => e = .returned (.int .i64 ((l.count + 1 + r.count : Nat) : Int)) ∧ w = w'
    generalize l.count + 1 + r.count = n at *
    go_enter Try.func50, Try.ntmps50
    go_wp2_with fail
    go_ret
    exact ⟨rfl, rfl⟩
set_option maxHeartbeats 400000 in
theorem weight_at {w : World} {t : Mm.Tr} {p : Value} (h : At w t p) (ht : t.count ≤ 1000000000) : Calls Try.prog 73 #[p] w fun e w' => e = .returned (.int .i64 ((t.count + 1 : Nat) : Int)) ∧ w = w' := by
  have hc := count_at h
  clear h
  generalize t.count = n at *
  have h1 : (n : Int) ≤ 1000000000 := by omega
  have h2 : (0 : Int) ≤ (n : Int) := by omega
  go_enter Try.func73, Try.ntmps73
  go_wp2_with fail
  refine hc.mono ?_
  rintro e w' ⟨rfl, rfl⟩
  clear hc
  go_wp2_with fail
  go_ret
  exact ⟨rfl, rfl⟩
/-- What comes back is t; all that was there is as it was. -/
def Gives (w : World) (t : Mm.Tr) (e : Ending) (w' : World) : Prop := ∃ p, e = .returned p ∧ At w' t p ∧ Below w.heap.size w w'
set_option maxHeartbeats 1000000 in
theorem join_at {w : World} {l r : Mm.Tr} {pl pr : Value} {i : Nat} {k : ByteArray} {v : Value} (hl : At w l pl) (hr : At w r pr) (hi : Item w i k v) (hn : l.count + r.count ≤ 1000000000) :
    Calls Try.prog 63 #[pl, .pointer (some ⟨i, 0, none⟩), pr] w (Gives w (.node l k v r)) := by
  obtain ⟨ol, rfl⟩ := hl.ptr
  obtain ⟨or_, rfl⟩ := hr.ptr
  have hcl := count_at hl
  have hcr := count_at hr
  have H1 := Lib.hid hl
  have H2 := Lib.hid hr
  have H3 := Lib.hid hi
  clear hl hr hi
  have HP : Hid (At (w.alloc (.cells #[.pointer (some ⟨i, 0, none⟩), .pointer ol, .pointer or_, .int .i64 ((l.count + 1 + r.count : Nat) : Int)] 113)) (.node l k v r) (.pointer (some ⟨w.heap.size, 0, none⟩))) :=
    Lib.hid ⟨w.heap.size, i, _, _, rfl, new_row _ _, H3.out.kept (.alloc _ _), H1.out.kept (.alloc _ _), H2.out.kept (.alloc _ _)⟩
  generalize l.count = n at *
  generalize r.count = m at *
  have h1 : (n : Int) ≤ 1000000000 := by omega
  have h2 : (0 : Int) ≤ (n : Int) := by omega
  have h3 : (n : Int) + (m : Int) ≤ 1000000000 := by omega
  have h4 : (0 : Int) ≤ (m : Int) := by omega
  go_enter Try.func63, Try.ntmps63
  go_wp2_with fail
  refine hcl.mono ?_
  rintro e w' ⟨rfl, rfl⟩
  go_wp2_with fail
  refine hcr.mono ?_
  rintro e w' ⟨rfl, rfl⟩
  clear hcl hcr
  go_wp2_with fail
  go_ret
  exact ⟨_, rfl, HP.out, below_alloc _ _⟩
end Go.Proofs.Ythioogncbhkaoaa.MI
