/-
  Walks over package table: From. Condition: a right list's table.
-/
import Derived.Test.YtgmaccfhgeocdaaTabPlace
namespace Go.Proofs.Ytgmaccfhgeocdaa
open Go.RowKit Tb

set_option maxHeartbeats 4000000 in
theorem from_any {w : World} {a : Nat} {l : List En} (h : IsTab w a l) (key : ByteArray) :
    Calls Try.prog 11 #[.pointer (some ⟨a, 0, none⟩), .string key] w (Beh w (.pointer (some ⟨a, 0, none⟩)) (off l (below l key) : Nat)) := by
  have HP := Lib.hid (place_any h key)
  clear h
  go_enter Try.func11, Try.ntmps11
  go_wp2_with fail
  refine HP.out.mono ?_
  rintro e w2 ⟨rfl, hb2⟩
  have HB2 := Lib.hid hb2
  clear hb2
  go_wp2_with fail
  refine (behind_any _ _ _).mono ?_
  rintro e w3 ⟨b1, b2, rfl, h1, h2, h3, h4, hb3⟩
  have HE : Hid (w3.heap[b1]? = some (.cells #[.pointer (some ⟨a, 0, none⟩)] 27 (0, 0)) ∧ w3.heap[b2]? = some (.cells #[.int .i64 (off l (below l key) : Nat)] 3 (0, 0)) ∧ w.heap.size ≤ b1 ∧ b1 < b2 ∧ Below w.heap.size w w3) :=
    Lib.hid ⟨h1, h2, Nat.le_trans HB2.out.size h3, h4, HB2.out.trans (hb3.mono HB2.out.size)⟩
  clear h1 h2 h3 h4 hb3
  go_wp2_with fail
  go_ret
  exact ⟨b1, b2, rfl, HE.out⟩
/-- The entries from a key on. -/
theorem ents_from {l : List En} (h : Right l) (m : Nat) (hm : m ≤ l.length) : ∃ xs, Ents (rows l) (off l m) xs ∧ xs.map Prod.fst = l.drop m := by
  obtain ⟨d, hd⟩ : ∃ d, d = l.length - m := ⟨_, rfl⟩
  induction d generalizing m with
  | zero =>
    obtain rfl : m = l.length := by omega
    exact ⟨[], by show atR _ _ = none; rw [at_offs h (Nat.le_refl _), dif_neg (Nat.lt_irrefl _)], by simp⟩
  | succ d ih =>
    obtain ⟨xs, h1, h2⟩ := ih (m + 1) (by omega) (by omega)
    refine ⟨(l[m]'(by omega), off l (m + 1)) :: xs, ⟨?_, h1⟩, ?_⟩
    · rw [at_offs h hm, dif_pos (by omega)]
    · rw [List.map_cons, h2, ← List.drop_eq_getElem_cons (by omega)]
end Go.Proofs.Ytgmaccfhgeocdaa
