/-
  Walks over package token: wrong; the library's ContainsFunc by it. Conditions: those in the theorems.
-/
import Derived.Test.YthbealndbfboiaaTokRow
import Derived.Test.YthbealndbfboiaaTokMore
import Derived.Deep.Cut
set_option linter.unusedSimpArgs false
set_option linter.unusedVariables false
namespace Tk
/-- Would a token's text be read as another one, as several, or as none? -/
def wrong (t : Token) : Bool := match first t.text.data.toList with
  | .no _ => true
  | .tok k n v => !(decide (k = t.kind) && decide (bs (t.text.data.toList.take n) = t.text) && decide ((v : Int) = t.num))
end Tk
namespace Go.Proofs.Ythbealndbfboiaa
open Go.RowKit

theorem bytes_iff {a b : ByteArray} : a = b ↔ a.toList = b.toList := by
  refine ⟨fun h => by rw [h], fun h => ?_⟩
  rw [Go.Lib.toList_data, Go.Lib.toList_data] at h
  obtain ⟨⟨a⟩⟩ := a
  obtain ⟨⟨b⟩⟩ := b
  simpa using h
set_option maxRecDepth 100000 in
set_option maxHeartbeats 4000000 in
theorem wrong_any (t : Tk.Token) (w : World) (hm : t.text.size ≤ maxLen) : Calls Try.prog 19 #[tokV t] w fun e w' => e = .returned (.bool (Tk.wrong t)) ∧ Below w.heap.size w w' := by
  obtain ⟨tk, tx, tn, tp⟩ := t
  have q := fun W => first_any tx W hm
  unfold Tk.wrong tokV
  unfold tokV at q
  simp only at hm ⊢
  obtain ⟨R, hR⟩ : ∃ R, Tk.first tx.data.toList = R := ⟨_, rfl⟩
  rw [hR] at q ⊢
  obtain ⟨W0, hW0⟩ : ∃ W0, W0 = w.alloc (.cells #[.int .u8 (tk : Nat), .string tx, .int .i64 tn, .int .i64 tp] 30) := ⟨_, rfl⟩
  have HB0 : Hid (Below w.heap.size w W0) := Lib.hid (by rw [hW0]; exact tk_alloc _ _)
  have hr0 : W0.heap[w.heap.size]? = some (.cells #[.int .u8 (tk : Nat), .string tx, .int .i64 tn, .int .i64 tp] 30 (0, 0)) := by rw [hW0]; exact heap_alloc_new _ _
  obtain ⟨c0, c1, c2, c3⟩ := tok_cells hr0
  have HR0 := Lib.hid hr0
  clear hr0
  cases R with
  | no er =>
    have her : (((er : Nat) : Int) != 0) = true := by
      rw [bne_iff_ne]
      have := Tk.first_err hR
      omega
    have q' : ∀ W, Calls Try.prog 14 #[.string tx] W fun e w' => e = .returned (.tuple #[.agg #[.int .u8 0, .string ⟨#[]⟩, .int .i64 0, .int .i64 0], .int .i64 (er : Nat)]) ∧ Below W.heap.size W w' := fun W => q W
    clear hR q
    have q := q'
    clear q'
    go_enter Try.func19, Try.ntmps19
    go_upto_region 1 with fail
    rw [← hW0]
    clear hW0
    go_wp2_with fail
    refine (q _).mono ?_
    rintro e w2 ⟨rfl, hb2⟩
    have hr2 := (hb2.block _ (Array.getElem?_eq_some_iff.1 HR0.out).1).trans HR0.out
    have hlt2 : w.heap.size < w2.heap.size := (Array.getElem?_eq_some_iff.1 hr2).1
    clear c0 c1 c2 c3
    go_upto_region 2 with fail
    obtain ⟨W3, hW3⟩ : ∃ W3, W3 = w2.alloc (.cells #[.int .u8 0, .string ⟨#[]⟩, .int .i64 0, .int .i64 0] 30) := ⟨_, rfl⟩
    rw [← hW3]
    have hr3 : W3.heap[w.heap.size]? = some (.cells #[.int .u8 (tk : Nat), .string tx, .int .i64 tn, .int .i64 tp] 30 (0, 0)) := by rw [hW3, Below.heap_alloc _ _ _ hlt2]; exact hr2
    have hs3 : W3.heap[w2.heap.size]? = some (.cells #[.int .u8 0, .string ⟨#[]⟩, .int .i64 0, .int .i64 0] 30 (0, 0)) := by rw [hW3]; exact heap_alloc_new _ _
    have HB3 : Hid (Below w.heap.size w W3) := Lib.hid (by rw [hW3]; exact (HB0.out.trans (hb2.mono HB0.out.size)).alloc (Nat.le_of_lt hlt2) _)
    clear hW3 hb2 hr2 q
    obtain ⟨d0, d1, d2, d3⟩ := tok_cells hr3
    have f3 := frozen_of_row _ _ 3 _ _ hr3
    go_upto_region 3 with fail
    obtain ⟨W4, hW4⟩ : ∃ W4, W4 = W3.setCell ⟨w.heap.size, 3, none⟩ (.int .i64 0) := ⟨_, rfl⟩
    rw [← hW4]
    have hr4 : W4.heap[w.heap.size]? = some (.cells #[.int .u8 (tk : Nat), .string tx, .int .i64 tn, .int .i64 0] 30 (0, 0)) := by rw [hW4]; exact tk_set hr3 _
    have hs4 : W4.heap[w2.heap.size]? = some (.cells #[.int .u8 0, .string ⟨#[]⟩, .int .i64 0, .int .i64 0] 30 (0, 0)) := by rw [hW4]; exact (Below.heap_setCell _ _ _ _ (Nat.ne_of_gt hlt2)).trans hs3
    have HB4 : Hid (Below w.heap.size w W4) := Lib.hid (by rw [hW4]; exact HB3.out.setCell (Nat.le_refl _) _)
    clear hW4 d0 d1 d2 d3 f3 hr3 hs3
    obtain ⟨d0, d1, d2, d3⟩ := tok_cells hr4
    obtain ⟨e0, e1, e2, e3⟩ := tok_cells hs4
    clear hr4 hs4
    go_wp2_with fail
    go_ret
    exact ⟨rfl, HB4.out⟩
  | tok k n v =>
    clear hR
    unfold Tk.Res.tokenAt Tk.Res.err at q
    simp only at q ⊢
    generalize Tk.bs (tx.data.toList.take n) = ty at *
    go_enter Try.func19, Try.ntmps19
    go_upto_region 1 with fail
    rw [← hW0]
    clear hW0
    go_wp2_with fail
    refine (q _).mono ?_
    rintro e w2 ⟨rfl, hb2⟩
    have hr2 := (hb2.block _ (Array.getElem?_eq_some_iff.1 HR0.out).1).trans HR0.out
    have hlt2 : w.heap.size < w2.heap.size := (Array.getElem?_eq_some_iff.1 hr2).1
    clear c0 c1 c2 c3
    have hne2 : (((0 : Nat) : Int) != 0) = false := rfl
    go_upto_region 2 with fail
    obtain ⟨W3, hW3⟩ : ∃ W3, W3 = w2.alloc (.cells #[.int .u8 (k : Nat), .string ty, .int .i64 (v : Nat), .int .i64 0] 30) := ⟨_, rfl⟩
    rw [← hW3]
    have hr3 : W3.heap[w.heap.size]? = some (.cells #[.int .u8 (tk : Nat), .string tx, .int .i64 tn, .int .i64 tp] 30 (0, 0)) := by rw [hW3, Below.heap_alloc _ _ _ hlt2]; exact hr2
    have hs3 : W3.heap[w2.heap.size]? = some (.cells #[.int .u8 (k : Nat), .string ty, .int .i64 (v : Nat), .int .i64 0] 30 (0, 0)) := by rw [hW3]; exact heap_alloc_new _ _
    have HB3 : Hid (Below w.heap.size w W3) := Lib.hid (by rw [hW3]; exact (HB0.out.trans (hb2.mono HB0.out.size)).alloc (Nat.le_of_lt hlt2) _)
    clear hW3 hb2 hr2 q
    obtain ⟨d0, d1, d2, d3⟩ := tok_cells hr3
    have f3 := frozen_of_row _ _ 3 _ _ hr3
    go_upto_region 3 with fail
    obtain ⟨W4, hW4⟩ : ∃ W4, W4 = W3.setCell ⟨w.heap.size, 3, none⟩ (.int .i64 0) := ⟨_, rfl⟩
    rw [← hW4]
    have hr4 : W4.heap[w.heap.size]? = some (.cells #[.int .u8 (tk : Nat), .string tx, .int .i64 tn, .int .i64 0] 30 (0, 0)) := by rw [hW4]; exact tk_set hr3 _
    have hs4 : W4.heap[w2.heap.size]? = some (.cells #[.int .u8 (k : Nat), .string ty, .int .i64 (v : Nat), .int .i64 0] 30 (0, 0)) := by rw [hW4]; exact (Below.heap_setCell _ _ _ _ (Nat.ne_of_gt hlt2)).trans hs3
    have HB4 : Hid (Below w.heap.size w W4) := Lib.hid (by rw [hW4]; exact HB3.out.setCell (Nat.le_refl _) _)
    clear hW4 d0 d1 d2 d3 f3 hr3 hs3
    obtain ⟨d0, d1, d2, d3⟩ := tok_cells hr4
    obtain ⟨e0, e1, e2, e3⟩ := tok_cells hs4
    clear hr4 hs4
    go_wp2_with fail
    all_goals
      go_ret
      refine ⟨ret_bool' ?_, HB4.out⟩
      first
        | (simp_all [bytes_iff]; done)
        | (simp_all [bytes_iff]; omega)
end Go.Proofs.Ythbealndbfboiaa
