/-
  Plain facts on tables' texts: where each entry stands among the rows, the blocks of the index, the place of a key, how long a text is, texts with one byte turned. No program, no walk.
-/
import Derived.Test.YtgmaccfhgeocdaaTabMath
namespace Go.Proofs.Ytgmaccfhgeocdaa.Tb
open Sm

/-- Where the i-th entry stands. -/
def off (l : List En) (i : Nat) : Nat := (rows (l.take i)).length
theorem off_zero (l : List En) : off l 0 = 0 := rfl
theorem off_succ (l : List En) {i : Nat} (h : i < l.length) : off l (i + 1) = off l i + (row l[i]).length := by
  unfold off
  rw [List.take_succ_eq_append_getElem h, rows_append, List.length_append]
  congr 1
  show (rows [l[i]]).length = _
  rw [rows_cons]; simp [rows]
theorem off_cons (e : En) (l : List En) (i : Nat) : off (e :: l) (i + 1) = (row e).length + off l i := by
  unfold off
  rw [List.take_succ_cons, rows_cons, List.length_append]
theorem off_all (l : List En) : off l l.length = (rows l).length := by unfold off; rw [List.take_length]
theorem rows_split (l : List En) (i : Nat) : rows l = rows (l.take i) ++ rows (l.drop i) := by rw [← rows_append, List.take_append_drop]
theorem at_off (l : List En) (h : ∀ e ∈ l, Ok e) {i : Nat} (hi : i < l.length) : atR (rows l) (off l i) = some (l[i], off l (i + 1)) := by
  have e1 : rows l = rows (l.take i) ++ (row l[i] ++ rows (l.drop (i + 1))) := by
    rw [rows_split l i, List.drop_eq_getElem_cons hi, rows_cons]
  rw [off_succ l hi, e1]
  exact at_row _ _ _ (h _ (List.getElem_mem hi))
theorem at_end (R : List UInt8) {p : Nat} (h : R.length ≤ p) : atR R p = none := by unfold atR; rw [if_neg (by omega)]
theorem off_le (l : List En) (i : Nat) : off l i ≤ (rows l).length := by
  rw [rows_split l i, List.length_append]; unfold off; omega

/-! ### the blocks -/
theorem blocks_get (l : List En) (i o j : Nat) : (blocks i o l)[j]? = (l[16 * j + (16 - i % 16) % 16]?).map fun e => (e.key, o + off l (16 * j + (16 - i % 16) % 16)) := by
  induction l generalizing i o j with
  | nil => simp [blocks]
  | cons e r ih =>
    rw [blocks]
    by_cases hi : i % 16 = 0
    · rw [if_pos hi]
      cases j with
      | zero =>
        have e0 : 16 * 0 + (16 - i % 16) % 16 = 0 := by omega
        rw [e0, off_zero]; simp
      | succ j =>
        have e1 : 16 * (j + 1) + (16 - i % 16) % 16 = (16 * j + (16 - (i + 1) % 16) % 16) + 1 := by omega
        rw [e1, off_cons]
        show (blocks (i + 1) (o + (row e).length) r)[j]? = _
        rw [ih, List.getElem?_cons_succ, Nat.add_assoc]
    · rw [if_neg hi, List.nil_append, ih]
      have e1 : 16 * j + (16 - i % 16) % 16 = (16 * j + (16 - (i + 1) % 16) % 16) + 1 := by omega
      rw [e1, off_cons, List.getElem?_cons_succ, Nat.add_assoc]
theorem block_at (l : List En) (j : Nat) : (blocks 0 0 l)[j]? = (l[16 * j]?).map fun e => (e.key, off l (16 * j)) := by
  rw [blocks_get]; simp
theorem blocks_len (l : List En) : (blocks 0 0 l).length = (l.length + 15) / 16 := by
  have h1 := block_at l (blocks 0 0 l).length
  rw [List.getElem?_eq_none (Nat.le_refl _)] at h1
  have h2 : l.length ≤ 16 * (blocks 0 0 l).length := by
    by_cases h : l.length ≤ 16 * (blocks 0 0 l).length
    · exact h
    · rw [List.getElem?_eq_getElem (by omega)] at h1; cases h1
  have h3 : 0 < (blocks 0 0 l).length → 16 * ((blocks 0 0 l).length - 1) < l.length := fun hp => by
    have h4 := block_at l ((blocks 0 0 l).length - 1)
    rw [List.getElem?_eq_getElem (by omega)] at h4
    by_cases h : 16 * ((blocks 0 0 l).length - 1) < l.length
    · exact h
    · rw [List.getElem?_eq_none (by omega)] at h4; cases h4
  omega

/-! ### the place of a key -/
/-- How many keys are below one. -/
def below (l : List En) (key : ByteArray) : Nat := (l.takeWhile fun e => Mm.lt e.key key).length
theorem below_le (l : List En) (key : ByteArray) : below l key ≤ l.length := by
  unfold below
  induction l with
  | nil => simp
  | cons e r ih => rw [List.takeWhile_cons]; split <;> simp <;> omega
theorem below_lt (l : List En) (key : ByteArray) {i : Nat} (h : i < below l key) : ∃ hi : i < l.length, Mm.lt l[i].key key = true := by
  have hi : i < l.length := Nat.lt_of_lt_of_le h (below_le l key)
  refine ⟨hi, ?_⟩
  unfold below at h
  induction l generalizing i with
  | nil => simp at hi
  | cons e r ih =>
    rw [List.takeWhile_cons] at h
    split at h
    · rename_i he
      cases i with
      | zero => exact he
      | succ i => exact ih (by simpa using h) (by simpa using hi)
    · simp at h
theorem below_at (l : List En) (key : ByteArray) (h : below l key < l.length) : Mm.lt (l[below l key]'h).key key = false := by
  have key2 : ∀ (l : List En) n, n = below l key → (h : n < l.length) → Mm.lt (l[n]'h).key key = false := by
    intro l
    induction l with
    | nil => intro n _ h; simp at h
    | cons e r ih =>
      intro n hn h
      unfold below at hn
      rw [List.takeWhile_cons] at hn
      split at hn
      · rename_i he
        cases n with
        | zero => simp at hn
        | succ n => exact ih n (by simpa [below] using hn) (by simpa using h)
      · rename_i he
        simp at hn; subst hn
        simpa using he
  exact key2 l _ rfl h
/-- Keys rise: what stands from there on is not below the key. -/
theorem Right.le {l : List En} (h : Right l) {i j : Nat} (hj : j < l.length) (hij : i < j) : Mm.lt (l[i]'(by omega)).key l[j].key = true :=
  List.pairwise_iff_getElem.1 h.rise i j (by omega) hj hij
theorem Right.from_ {l : List En} (h : Right l) (key : ByteArray) {i : Nat} (hi : i < l.length) (hb : below l key ≤ i) : Mm.lt l[i].key key = false := by
  have hbl : below l key < l.length := by omega
  have h0 := below_at l key hbl
  by_cases e : i = below l key
  · subst e; exact h0
  · have h1 := h.le hi (show below l key < i by omega)
    cases h2 : Mm.lt l[i].key key with
    | false => rfl
    | true => rw [Mm.lt_trans h1 h2] at h0; cases h0
theorem Right.below_mono {l : List En} (h : Right l) (key : ByteArray) {i : Nat} (hi : i < l.length) (hl : Mm.lt l[i].key key = true) : i < below l key := by
  by_cases hb : i < below l key
  · exact hb
  · rw [h.from_ key hi (by omega)] at hl; cases hl
theorem Right.find {l : List En} (h : Right l) {i : Nat} (hi : i < l.length) : below l l[i].key = i := by
  have h1 : ¬ i < below l l[i].key := fun hb => by
    obtain ⟨_, h2⟩ := below_lt l _ hb
    rw [Mm.lt_irrefl] at h2; cases h2
  have h2 : ¬ below l l[i].key < i := fun hb => by
    have h3 := h.le hi hb
    rw [below_at l l[i].key (by omega)] at h3; cases h3
  omega
theorem drop_below {l : List En} (h : Right l) (key : ByteArray) : l.drop (below l key) = l.filter fun e => !Mm.lt e.key key := by
  have h1 : l.filter (fun e => !Mm.lt e.key key) = (l.take (below l key)).filter (fun e => !Mm.lt e.key key) ++ (l.drop (below l key)).filter (fun e => !Mm.lt e.key key) := by
    rw [← List.filter_append, List.take_append_drop]
  rw [h1]
  have h2 : (l.take (below l key)).filter (fun e => !Mm.lt e.key key) = [] := by
    rw [List.filter_eq_nil_iff]
    intro e he
    obtain ⟨i, hi, rfl⟩ := List.getElem_of_mem he
    rw [List.length_take] at hi
    obtain ⟨_, h3⟩ := below_lt l key (i := i) (by omega)
    rw [List.getElem_take, h3]; simp
  have h3 : (l.drop (below l key)).filter (fun e => !Mm.lt e.key key) = l.drop (below l key) := by
    rw [List.filter_eq_self]
    intro e he
    obtain ⟨i, hi, rfl⟩ := List.getElem_of_mem he
    rw [List.length_drop] at hi
    rw [List.getElem_drop, h.from_ key (by omega) (by omega)]; rfl
  rw [h2, h3, List.nil_append]
theorem below_empty {l : List En} : below l ⟨#[]⟩ = 0 := by
  by_cases h : 0 < below l ⟨#[]⟩
  · obtain ⟨hi, h1⟩ := below_lt l _ h
    rw [Mm.lt_empty] at h1; cases h1
  · omega

/-! ### lengths -/
def room (l : List En) : Nat := 64 + (l.map fun e => 2 * e.key.size + e.value.size + 24).sum
theorem idx_le (l : List En) (i o : Nat) : (idx i o l).length ≤ (l.map fun e => e.key.size + 5).sum := by
  induction l generalizing i o with
  | nil => simp [idx]
  | cons e r ih =>
    rw [idx, List.length_append, List.map_cons, List.sum_cons]
    have := ih (i + 1) (o + (row e).length)
    split
    · rw [List.length_append, List.length_append, le_len, le_len, bl_len]; omega
    · simp only [List.length_nil]; omega
theorem text_room (l : List En) : (text l).length < room l := by
  have h1 := idx_le l 0 0
  have h2 := rows_len l
  rw [text_len]
  unfold body room
  rw [List.length_append, le_len, List.length_append]
  have h3 : (l.map fun e => e.key.size + 5).sum + (3 * l.length + weight l) ≤ (l.map fun e => 2 * e.key.size + e.value.size + 24).sum := by
    unfold weight
    clear h1 h2
    induction l with
    | nil => simp
    | cons e r ih => simp only [List.map_cons, List.sum_cons, List.length_cons] at *; omega
  omega
theorem idx_small (l : List En) (h : ∀ e ∈ l, Ok e) (i o : Nat) : (idx i o l).length ≤ 133 * l.length := by
  refine Nat.le_trans (idx_le l i o) ?_
  induction l with
  | nil => simp
  | cons e r ih =>
    have h1 := (h e List.mem_cons_self).2.1
    have h2 := ih fun x hx => h x (List.mem_cons_of_mem _ hx)
    simp only [List.map_cons, List.sum_cons, List.length_cons]; omega
theorem text_small {l : List En} (h : Right l) : (text l).length ≤ 2000000 := by
  have h1 := idx_small l h.ok 0 0
  have h2 := rows_len l
  have h3 := h.few
  have h4 := h.light
  rw [text_len]
  unfold body
  rw [List.length_append, le_len, List.length_append]
  omega

/-! ### one byte turned -/
theorem text_turned {l m : List En} (A B : List UInt8) (x y : UInt8) (h1 : text l = A ++ x :: B) (h2 : text m = A ++ y :: B) : x = y := by
  have hlen : (text l).length = (text m).length := by rw [h1, h2]; simp
  rw [text_len, text_len] at hlen
  have hb : (body l).length = (body m).length := by omega
  by_cases hA : (body l).length ≤ A.length
  · -- the sum
    have e1 : body l = body m := by
      have t1 : (text l).take (body l).length = body l := by unfold text; exact List.take_left
      have t2 : (text m).take (body l).length = body m := by rw [hb]; unfold text; exact List.take_left
      rw [← t1, ← t2, h1, h2, List.take_append_of_le_length hA, List.take_append_of_le_length hA]
    have e2 : text l = text m := by unfold text; rw [e1]
    rw [h1, h2] at e2
    have := List.append_cancel_left e2
    exact (List.cons.inj this).1
  · -- the body
    have hA' : A.length < (body l).length := by omega
    have s1 : (text l).drop (body l).length = le 4 (crc (body l)) := by unfold text; exact List.drop_left
    have s2 : (text m).drop (body l).length = le 4 (crc (body m)) := by rw [hb]; unfold text; exact List.drop_left
    obtain ⟨k, hk⟩ : ∃ k, (body l).length = A.length + (k + 1) := ⟨(body l).length - A.length - 1, by omega⟩
    have d1 : ∀ z : UInt8, (A ++ z :: B).drop (body l).length = B.drop k := fun z => by
      rw [hk, ← List.drop_drop, List.drop_left, List.drop_succ_cons]
    have k1 : ∀ z : UInt8, (A ++ z :: B).take (body l).length = A ++ z :: B.take k := fun z => by
      rw [hk, List.take_append, List.take_of_length_le (by omega), Nat.add_sub_cancel_left, List.take_succ_cons]
    rw [h1, d1] at s1
    rw [h2, d1] at s2
    have ec : crc (body l) = crc (body m) := by
      have h5 := congrArg val (s1.symm.trans s2)
      rw [val_le _ _ (by have := crc_lt (body l); omega), val_le _ _ (by have := crc_lt (body m); omega)] at h5
      exact h5
    have b1 : body l = A ++ x :: B.take k := by
      have t1 : (text l).take (body l).length = body l := by unfold text; exact List.take_left
      rw [← t1, h1, k1]
    have b2 : body m = A ++ y :: B.take k := by
      have t2 : (text m).take (body l).length = body m := by rw [hb]; unfold text; exact List.take_left
      rw [← t2, h2, k1]
    rw [b1, b2] at ec
    exact Classical.byContradiction fun hne => more_one _ _ _ _ hne ec
end Go.Proofs.Ytgmaccfhgeocdaa.Tb
