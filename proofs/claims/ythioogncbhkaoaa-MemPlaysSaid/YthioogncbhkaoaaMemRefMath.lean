/-
  Plain facts on the document's answer for tables: lists of pairs in the order in which they came. No condition.
-/
import Derived.Test.YthioogncbhkaoaaMemMath
namespace Rf
open Go (Value)
open Mm (lt Row)
abbrev Pr := ByteArray × ByteArray
def row (xs : List Pr) : Row := xs.map fun x => (x.1, .string x.2)
theorem row_append (a b : List Pr) : row (a ++ b) = row a ++ row b := List.map_append
theorem row_length (a : List Pr) : (row a).length = a.length := List.length_map _
def isIn (xs : List Pr) (k : ByteArray) : Bool := xs.any fun x => decide (x.1 = k)
def rep (k v : ByteArray) (x : Pr) : Pr := if x.1 = k then (x.1, v) else x
def setR (xs : List Pr) (k v : ByteArray) : List Pr := if isIn xs k = true then xs.map (rep k v) else xs.map (rep k v) ++ [(k, v)]
def delR (xs : List Pr) (k : ByteArray) : List Pr := xs.filter fun x => !decide (x.1 = k)
/-- Each key once. -/
def Once (xs : List Pr) : Prop := xs.Pairwise fun x y => x.1 ≠ y.1
theorem isIn_iff {xs : List Pr} {k : ByteArray} : isIn xs k = true ↔ ∃ x ∈ xs, x.1 = k := by
  unfold isIn; rw [List.any_eq_true]; simp
theorem isIn_take {xs : List Pr} {k : ByteArray} {i : Nat} (h : i < xs.length) : isIn (xs.take (i + 1)) k = (isIn (xs.take i) k || decide (xs[i].1 = k)) := by
  unfold isIn; rw [List.take_succ_eq_append_getElem h, List.any_append]; simp
theorem isIn_get {xs : List Pr} {k : ByteArray} : (Mm.get (row xs) k).isSome = isIn xs k := by
  rw [Bool.eq_iff_iff, isIn_iff]
  constructor
  · intro h
    cases e : Mm.get (row xs) k with
    | none => rw [e] at h; cases h
    | some v =>
      obtain ⟨x, hx, e2⟩ := List.mem_map.1 (Mm.get_mem e)
      exact ⟨x, hx, congrArg Prod.fst e2⟩
  · rintro ⟨x, hx, rfl⟩
    cases e : Mm.get (row xs) x.1 with
    | some v => rfl
    | none => exact absurd rfl (Mm.get_none.1 e (x.1, .string x.2) (List.mem_map.2 ⟨x, hx, rfl⟩))
theorem rep_key (k v : ByteArray) (x : Pr) : (rep k v x).1 = x.1 := by unfold rep; split <;> rfl
theorem rep_take {xs : List Pr} {k v : ByteArray} {i : Nat} (h : i < xs.length) : (xs.take (i + 1)).map (rep k v) = (xs.take i).map (rep k v) ++ [rep k v xs[i]] := by
  rw [List.take_succ_eq_append_getElem h, List.map_append]; rfl
theorem once_rep {xs : List Pr} (h : Once xs) (k v : ByteArray) : Once (xs.map (rep k v)) := by
  unfold Once; rw [List.pairwise_map]
  exact h.imp fun h => by rw [rep_key, rep_key]; exact h
theorem Once.set {xs : List Pr} (h : Once xs) (k v : ByteArray) : Once (setR xs k v) := by
  unfold setR
  split
  · exact once_rep h k v
  · rename_i hn
    unfold Once
    rw [List.pairwise_append]
    refine ⟨once_rep h k v, List.pairwise_singleton _ _, fun x hx y hy e => ?_⟩
    rw [List.mem_singleton.1 hy] at e
    obtain ⟨z, hz, rfl⟩ := List.mem_map.1 hx
    rw [rep_key] at e
    exact hn (isIn_iff.2 ⟨z, hz, e⟩)
theorem Once.del {xs : List Pr} (h : Once xs) (k : ByteArray) : Once (delR xs k) := List.Pairwise.filter _ h
theorem get_rep (xs : List Pr) (k v : ByteArray) (j : ByteArray) : Mm.get (row (xs.map (rep k v))) j = if j = k then (if isIn xs k = true then some (.string v) else none) else Mm.get (row xs) j := by
  induction xs with
  | nil => simp [isIn, row, Mm.get]
  | cons x r ih =>
    have e1 : Mm.get (row ((x :: r).map (rep k v))) j = if x.1 = j then some (.string (rep k v x).2) else Mm.get (row (r.map (rep k v))) j := by
      show (List.find? _ (((rep k v x).1, Value.string (rep k v x).2) :: row (r.map (rep k v)))).map _ = _
      rw [rep_key]
      by_cases h : x.1 = j
      · rw [List.find?_cons_of_pos (by simp [h]), if_pos h]; rfl
      · rw [List.find?_cons_of_neg (by simp [h]), if_neg h]; rfl
    have e2 : Mm.get (row (x :: r)) j = if x.1 = j then some (.string x.2) else Mm.get (row r) j := by
      show (List.find? _ ((x.1, Value.string x.2) :: row r)).map _ = _
      by_cases h : x.1 = j
      · rw [List.find?_cons_of_pos (by simp [h]), if_pos h]; rfl
      · rw [List.find?_cons_of_neg (by simp [h]), if_neg h]; rfl
    have e3 : isIn (x :: r) k = (decide (x.1 = k) || isIn r k) := rfl
    rw [e1, e2, e3, ih]
    by_cases hj : j = k
    · subst hj
      by_cases hx : x.1 = j
      · simp [hx, rep]
      · simp [hx]
    · by_cases hx : x.1 = j
      · simp [hx, hj, rep]
      · simp [hx, hj]
theorem find_app (L M : Row) (j : ByteArray) : Mm.get (L ++ M) j = (Mm.get L j).or (Mm.get M j) := by
  unfold Mm.get
  rw [List.find?_append]
  cases List.find? (fun p => decide (p.1 = j)) L <;> rfl
theorem get_set (xs : List Pr) (k v : ByteArray) (j : ByteArray) : Mm.get (row (setR xs k v)) j = if j = k then some (.string v) else Mm.get (row xs) j := by
  unfold setR
  split
  · rename_i h; rw [get_rep, if_pos h]
  · rename_i h
    rw [row_append, find_app, get_rep, if_neg h]
    by_cases hj : j = k
    · subst hj
      simp [row, Mm.get]
    · have hn : Mm.get (row [(k, v)]) j = none := Mm.get_none.2 fun p hp e => by
        rw [show row [(k, v)] = [(k, .string v)] from rfl, List.mem_singleton] at hp
        rw [hp] at e; exact hj e.symm
      rw [if_neg hj, if_neg hj, hn]; simp
theorem get_del (xs : List Pr) (k : ByteArray) (j : ByteArray) : Mm.get (row (delR xs k)) j = if j = k then none else Mm.get (row xs) j := by
  have e : row (delR xs k) = Mm.del (row xs) k := by
    unfold row delR Mm.del
    rw [List.filter_map]; rfl
  rw [e]
  by_cases hj : j = k
  · subst hj
    rw [if_pos rfl]
    exact Mm.get_none.2 fun p hp => (Mm.mem_del.1 hp).2
  · rw [if_neg hj]
    generalize row xs = L
    unfold Mm.get Mm.del
    congr 1
    induction L with
    | nil => rfl
    | cons a r ih =>
      by_cases ha : a.1 = k
      · rw [List.filter_cons_of_neg (by simp [ha]), ih, List.find?_cons_of_neg (by simp [ha, Ne.symm hj])]
      · rw [List.filter_cons_of_pos (by simp [ha])]
        by_cases hb : a.1 = j
        · rw [List.find?_cons_of_pos (by simp [hb]), List.find?_cons_of_pos (by simp [hb])]
        · rw [List.find?_cons_of_neg (by simp [hb]), List.find?_cons_of_neg (by simp [hb]), ih]
theorem set_length (xs : List Pr) (k v : ByteArray) : (setR xs k v).length ≤ xs.length + 1 := by
  unfold setR; split <;> simp
theorem del_length (xs : List Pr) (k : ByteArray) : (delR xs k).length ≤ xs.length := List.length_filter_le _ _
theorem set_in {xs : List Pr} {k v : ByteArray} {P : Pr → Prop} (h : ∀ x ∈ xs, P x) (hkv2 : P (k, v)) : ∀ x ∈ setR xs k v, P x := by
  have hr : ∀ x ∈ xs.map (rep k v), P x := fun x hx => by
    obtain ⟨y, hy, rfl⟩ := List.mem_map.1 hx
    unfold rep
    split
    · rename_i e; rw [e]; exact hkv2
    · exact h y hy
  intro x hx
  unfold setR at hx
  split at hx
  · exact hr x hx
  · rcases List.mem_append.1 hx with hx | hx
    · exact hr x hx
    · rw [List.mem_singleton.1 hx]; exact hkv2

/-! ### in order -/
def cnt : List Pr → ByteArray → Nat
  | [], _ => 0
  | x :: r, k => if lt x.1 k = true then cnt r k + 1 else 0
def ins (m : List Pr) (x : Pr) : List Pr := m.take (cnt m x.1) ++ x :: m.drop (cnt m x.1)
def fromR (xs : List Pr) (low : ByteArray) : List Pr := xs.foldl (fun m x => if lt x.1 low = true then m else ins m x) []
theorem fromR_take {xs : List Pr} {low : ByteArray} {i : Nat} (h : i < xs.length) : fromR (xs.take (i + 1)) low = if lt xs[i].1 low = true then fromR (xs.take i) low else ins (fromR (xs.take i) low) xs[i] := by
  unfold fromR; rw [List.take_succ_eq_append_getElem h, List.foldl_append]; rfl
theorem cnt_le (m : List Pr) (k : ByteArray) : cnt m k ≤ m.length := by
  induction m with
  | nil => exact Nat.le_refl _
  | cons a r ih =>
    unfold cnt
    split
    · rw [List.length_cons]; omega
    · exact Nat.zero_le _
theorem cnt_below {m : List Pr} {k : ByteArray} : ∀ j (h : j < m.length), j < cnt m k → lt m[j].1 k = true := by
  induction m with
  | nil => intro j h; cases h
  | cons a r ih =>
    intro j h hj
    unfold cnt at hj
    split at hj
    · rename_i ha
      cases j with
      | zero => exact ha
      | succ j => exact ih j (by simpa using h) (by omega)
    · omega
theorem cnt_at {m : List Pr} {k : ByteArray} : ∀ h : cnt m k < m.length, lt m[cnt m k].1 k = false := by
  induction m with
  | nil => intro h; cases h
  | cons a r ih =>
    intro h
    by_cases ha : lt a.1 k = true
    · have e : cnt (a :: r) k = cnt r k + 1 := by show (if _ then _ else _) = _; rw [if_pos ha]
      simp only [e, List.getElem_cons_succ]
      exact ih (by rw [e] at h; simpa using h)
    · have e : cnt (a :: r) k = 0 := by show (if _ then _ else _) = _; rw [if_neg ha]
      simp only [e, List.getElem_cons_zero]
      simpa using ha
/-- Where the count ends. -/
theorem cnt_is {m : List Pr} {k : ByteArray} {n : Nat} (hn : n ≤ m.length) (h1 : ∀ j (h : j < m.length), j < n → lt m[j].1 k = true) (h2 : ∀ h : n < m.length, lt m[n].1 k = false) : cnt m k = n := by
  have hc := cnt_le m k
  rcases Nat.lt_trichotomy (cnt m k) n with h | h | h
  · have := h1 (cnt m k) (by omega) h
    rw [cnt_at (by omega)] at this; cases this
  · exact h
  · have := cnt_below n (by omega) h
    rw [h2 (by omega)] at this; cases this
theorem ins_length (m : List Pr) (x : Pr) : (ins m x).length = m.length + 1 := by
  have := cnt_le m x.1
  unfold ins; rw [List.length_append, List.length_cons, List.length_take, List.length_drop]; omega
theorem fromR_length (xs : List Pr) (low : ByteArray) : (fromR xs low).length ≤ xs.length := by
  have h : ∀ i, i ≤ xs.length → (fromR (xs.take i) low).length ≤ i := fun i => by
    induction i with
    | zero => intro _; exact Nat.le_refl _
    | succ i ih =>
      intro hi
      rw [fromR_take (by omega)]
      have := ih (by omega)
      split
      · omega
      · rw [ins_length]; omega
  have := h xs.length (Nat.le_refl _)
  rw [List.take_length] at this; exact this
theorem mem_ins {m : List Pr} {x y : Pr} : y ∈ ins m x ↔ y = x ∨ y ∈ m := by
  unfold ins
  rw [List.mem_append, List.mem_cons]
  have h : y ∈ m ↔ y ∈ m.take (cnt m x.1) ∨ y ∈ m.drop (cnt m x.1) := by
    rw [← List.mem_append, List.take_append_drop]
  rw [h]
  constructor
  · rintro (h | h | h)
    · exact .inr (.inl h)
    · exact .inl h
    · exact .inr (.inr h)
  · rintro (h | h | h)
    · exact .inr (.inl h)
    · exact .inl h
    · exact .inr (.inr h)
theorem mem_fromR {xs : List Pr} {low : ByteArray} {y : Pr} : y ∈ fromR xs low ↔ y ∈ xs ∧ lt y.1 low = false := by
  have h : ∀ i, i ≤ xs.length → (y ∈ fromR (xs.take i) low ↔ y ∈ xs.take i ∧ lt y.1 low = false) := fun i => by
    induction i with
    | zero => intro _; simp [fromR]
    | succ i ih =>
      intro hi
      rw [fromR_take (by omega), List.take_succ_eq_append_getElem (by omega), List.mem_append, List.mem_singleton]
      have ih := ih (by omega)
      split
      · rename_i hl
        rw [ih]
        constructor
        · exact fun h => ⟨.inl h.1, h.2⟩
        · rintro ⟨h | h, h2⟩
          · exact ⟨h, h2⟩
          · rw [h, hl] at h2; cases h2
      · rename_i hl
        rw [mem_ins, ih]
        constructor
        · rintro (h | h)
          · exact ⟨.inr h, by rw [h]; simpa using hl⟩
          · exact ⟨.inl h.1, h.2⟩
        · rintro ⟨h | h, h2⟩
          · exact .inr ⟨h, h2⟩
          · exact .inl h
  have := h xs.length (Nat.le_refl _)
  rw [List.take_length] at this; exact this
theorem rise_ins {m : List Pr} (h : Mm.Sorted (row m)) {x : Pr} (hx : ∀ y ∈ m, y.1 ≠ x.1) : Mm.Sorted (row (ins m x)) := by
  have hs : m.Pairwise fun p q => lt p.1 q.1 = true := by
    unfold Mm.Sorted row at h; rw [List.pairwise_map] at h; exact h
  have ht : ∀ y ∈ m.take (cnt m x.1), lt y.1 x.1 = true := fun y hy => by
    obtain ⟨j, hj, rfl⟩ := List.getElem_of_mem hy
    rw [List.length_take] at hj
    rw [List.getElem_take]
    exact cnt_below j (by omega) (by omega)
  have hd : ∀ y ∈ m.drop (cnt m x.1), lt x.1 y.1 = true := fun y hy => by
    have hc := cnt_le m x.1
    have hfirst : ∀ h : cnt m x.1 < m.length, lt m[cnt m x.1].1 x.1 = false := cnt_at
    obtain ⟨i, hi, rfl⟩ := List.getElem_of_mem hy
    rw [List.length_drop] at hi
    rw [List.getElem_drop]
    have h5 := hfirst (by omega)
    have h6 : lt m[cnt m x.1 + i].1 x.1 = false := by
      cases e : lt m[cnt m x.1 + i].1 x.1 with
      | false => rfl
      | true =>
        by_cases hi0 : i = 0
        · subst hi0; simp only [Nat.add_zero] at e; rw [h5] at e; cases e
        · have := List.pairwise_iff_getElem.1 hs (cnt m x.1) (cnt m x.1 + i) (by omega) (by omega) (by omega)
          have := Mm.lt_trans this e
          rw [h5] at this; cases this
    rcases Mm.lt_total (hx _ (List.getElem_mem (by omega : cnt m x.1 + i < m.length))) with h | h
    · rw [h6] at h; cases h
    · exact h
  unfold Mm.Sorted row
  rw [List.pairwise_map]
  show (ins m x).Pairwise fun p q => lt p.1 q.1 = true
  unfold Rf.ins
  rw [List.pairwise_append]
  refine ⟨List.Pairwise.sublist (List.take_sublist _ _) hs, ?_, fun y hy z hz => ?_⟩
  · rw [List.pairwise_cons]
    exact ⟨hd, List.Pairwise.sublist (List.drop_sublist _ _) hs⟩
  · rcases List.mem_cons.1 hz with rfl | hz
    · exact ht y hy
    · exact Mm.lt_trans (ht y hy) (hd z hz)
theorem fromR_sorted {xs : List Pr} (h : Once xs) (low : ByteArray) : Mm.Sorted (row (fromR xs low)) := by
  have hh : ∀ i, i ≤ xs.length → Mm.Sorted (row (fromR (xs.take i) low)) := fun i => by
    induction i with
    | zero => intro _; exact List.Pairwise.nil
    | succ i ih =>
      intro hi
      rw [fromR_take (by omega)]
      split
      · exact ih (by omega)
      · refine rise_ins (ih (by omega)) fun y hy => ?_
        have h1 := (mem_fromR.1 hy).1
        obtain ⟨j, hj, rfl⟩ := List.getElem_of_mem h1
        rw [List.length_take] at hj
        rw [List.getElem_take]
        exact List.pairwise_iff_getElem.1 h j i (by omega) (by omega) (by omega)
  have := hh xs.length (Nat.le_refl _)
  rw [List.take_length] at this; exact this
theorem Once.get {xs : List Pr} (h : Once xs) {x : Pr} (hx : x ∈ xs) : Mm.get (row xs) x.1 = some (.string x.2) := by
  induction xs with
  | nil => cases hx
  | cons a r ih =>
    unfold Once at h
    rw [List.pairwise_cons] at h
    show (List.find? _ ((a.1, Value.string a.2) :: row r)).map _ = _
    rcases List.mem_cons.1 hx with rfl | hx
    · rw [List.find?_cons_of_pos (by simp)]; rfl
    · rw [List.find?_cons_of_neg (by simpa using h.1 x hx)]; exact ih h.2 hx
theorem mem_of_get {xs : List Pr} {k : ByteArray} {v : Value} (h : Mm.get (row xs) k = some v) : ∃ t, v = .string t ∧ (k, t) ∈ xs := by
  obtain ⟨x, hx, e⟩ := List.mem_map.1 (Mm.get_mem h)
  have e1 : x.1 = k := congrArg Prod.fst e
  have e2 : Value.string x.2 = v := congrArg Prod.snd e
  exact ⟨x.2, e2.symm, by rw [← e1]; exact hx⟩
/-- A table and a list have the same. -/
def Alike (L : Row) (xs : List Pr) : Prop := Mm.Sorted L ∧ Once xs ∧ ∀ k, Mm.get L k = Mm.get (row xs) k
theorem alike_nil : Alike [] [] := ⟨List.Pairwise.nil, List.Pairwise.nil, fun _ => rfl⟩
theorem Alike.set {L : Row} {xs : List Pr} (h : Alike L xs) (k v : ByteArray) : Alike (Mm.put L k (.string v)) (setR xs k v) :=
  ⟨h.1.put _ _, h.2.1.set k v, fun j => by rw [Mm.get_put h.1, get_set, h.2.2]⟩
theorem Alike.del {L : Row} {xs : List Pr} (h : Alike L xs) (k : ByteArray) : Alike (Mm.del L k) (delR xs k) :=
  ⟨h.1.del _, h.2.1.del k, fun j => by rw [Mm.get_del h.1, get_del, h.2.2]⟩
theorem Alike.from_ {L : Row} {xs : List Pr} (h : Alike L xs) (low : ByteArray) : row (fromR xs low) = Mm.from_ L low := by
  refine (fromR_sorted h.2.1 low).ext (h.1.filter _) fun k => ?_
  have hs := fromR_sorted h.2.1 low
  cases e : Mm.get (Mm.from_ L low) k with
  | none =>
    refine Mm.get_none.2 fun p hp e' => ?_
    obtain ⟨x, hx, rfl⟩ := List.mem_map.1 hp
    obtain ⟨h1, h2⟩ := mem_fromR.1 hx
    have h3 := h.2.1.get h1
    rw [← h.2.2] at h3
    exact Mm.get_none.1 e (x.1, .string x.2) (Mm.mem_from.2 ⟨Mm.get_mem h3, h2⟩) e'
  | some v =>
    obtain ⟨h1, h2⟩ := Mm.mem_from.1 (Mm.get_mem e)
    have h3 := h.1.get h1
    rw [h.2.2] at h3
    obtain ⟨t, rfl, h4⟩ := mem_of_get h3
    exact hs.get (List.mem_map.2 ⟨(k, t), mem_fromR.2 ⟨h4, h2⟩, rfl⟩)
theorem Alike.all {L : Row} {xs : List Pr} (h : Alike L xs) : row (fromR xs ⟨#[]⟩) = L := by rw [h.from_, Mm.from_empty]
theorem Alike.length {L : Row} {xs : List Pr} (h : Alike L xs) : L.length = xs.length := by
  have h1 : L.Perm (row xs) := by
    refine (List.perm_ext_iff_of_nodup ?_ ?_).2 fun p => ?_
    · exact h.1.imp fun h e => by rw [e, Mm.lt_irrefl] at h; cases h
    · unfold row
      rw [List.nodup_iff_pairwise_ne, List.pairwise_map]
      exact h.2.1.imp fun h e => h (congrArg (Prod.fst (α := ByteArray) (β := Value)) e)
    · obtain ⟨k, v⟩ := p
      constructor
      · intro hp
        have := h.1.get hp
        rw [h.2.2] at this
        exact Mm.get_mem this
      · intro hp
        obtain ⟨x, hx, e⟩ := List.mem_map.1 hp
        have := h.2.1.get hx
        rw [← h.2.2] at this
        rw [← e]; exact Mm.get_mem this
  rw [h1.length_eq, row_length]
end Rf
