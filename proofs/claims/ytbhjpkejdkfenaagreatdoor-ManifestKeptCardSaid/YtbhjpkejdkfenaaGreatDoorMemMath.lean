/-
  Plain facts on a table as a tree of keys and values, and on the sorted list that it has. No condition.
-/
import GoSem.ClaimWide
import Derived.WideAt
import Derived.WideShapes
import Derived.Laws.Strings
namespace Mm
open Go (bytesBefore Value)

/-! ### the order of keys -/
def lt (a b : ByteArray) : Bool := Go.Op.bytesLess a.toList b.toList
theorem less_before (a b : List UInt8) : Go.Op.bytesLess a b = bytesBefore a b := by
  induction a generalizing b with
  | nil => cases b <;> rfl
  | cons x l ih =>
    cases b with
    | nil => rfl
    | cons y r =>
      simp only [Go.Op.bytesLess, bytesBefore, ih]
theorem toList_inj {a b : ByteArray} (h : a.toList = b.toList) : a = b := by
  rw [Go.ByteArray.toList_eq, Go.ByteArray.toList_eq] at h
  obtain ⟨⟨x⟩⟩ := a; obtain ⟨⟨y⟩⟩ := b
  simp at h; rw [h]
theorem lt_irrefl (a : ByteArray) : lt a a = false := by unfold lt; rw [less_before]; exact Go.WideAt.bytes_irrefl _
theorem lt_trans {a b c : ByteArray} (h : lt a b = true) (k : lt b c = true) : lt a c = true := by
  unfold lt at *; rw [less_before] at *; exact Go.WideShapes.bytes_trans _ _ _ h k
theorem lt_total {a b : ByteArray} (h : a ≠ b) : lt a b = true ∨ lt b a = true := by
  unfold lt; rw [less_before, less_before]; exact Go.WideAt.bytes_total _ _ fun e => h (toList_inj e)
theorem lt_ne {a b : ByteArray} (h : lt a b = true) : a ≠ b := fun e => by rw [e, lt_irrefl] at h; cases h
theorem lt_asymm {a b : ByteArray} (h : lt a b = true) : lt b a = false := by
  cases e : lt b a with
  | false => rfl
  | true => exact absurd (lt_trans h e) (by rw [lt_irrefl]; simp)
theorem eq_of_not {a b : ByteArray} (h : lt a b = false) (k : lt b a = false) : a = b := Decidable.byContradiction fun e => by
  rcases lt_total e with h' | h' <;> simp_all
theorem lt_empty (a : ByteArray) : lt a ⟨#[]⟩ = false := by
  unfold lt; rw [Go.ByteArray.toList_eq, Go.ByteArray.toList_eq]; cases a.data.toList <;> rfl
/-- a is less than c, as b is, or b itself is not above a .. -/
theorem lt_of_le {a b c : ByteArray} (h : lt b a = false) (k : lt b c = true) : lt a c = true := by
  by_cases e : a = b
  · rw [e]; exact k
  · rcases lt_total e with h' | h'
    · exact lt_trans h' k
    · rw [h] at h'; cases h'
theorem lt_of_lt_le {a b c : ByteArray} (h : lt a b = true) (k : lt c b = false) : lt a c = true := by
  by_cases e : b = c
  · rw [← e]; exact h
  · rcases lt_total e with h' | h'
    · exact lt_trans h h'
    · rw [k] at h'; cases h'
theorem le_trans {a b c : ByteArray} (h : lt b a = false) (k : lt c b = false) : lt c a = false := by
  cases e : lt c a with
  | false => rfl
  | true =>
    have := lt_of_lt_le e h
    rw [k] at this; cases this

/-! ### sorted lists -/
abbrev Row := List (ByteArray × Value)
def Sorted (L : Row) : Prop := L.Pairwise fun p q => lt p.1 q.1 = true
def get (L : Row) (k : ByteArray) : Option Value := (L.find? fun p => decide (p.1 = k)).map (·.2)
def del (L : Row) (k : ByteArray) : Row := L.filter fun p => !decide (p.1 = k)
def below (L : Row) (k : ByteArray) : Row := L.filter fun p => lt p.1 k
def above (L : Row) (k : ByteArray) : Row := L.filter fun p => lt k p.1
def put (L : Row) (k : ByteArray) (v : Value) : Row := below L k ++ (k, v) :: above L k
/-- From a key on. -/
def from_ (L : Row) (k : ByteArray) : Row := L.filter fun p => !lt p.1 k
/-- Up to a key. -/
def upTo (L : Row) (k : ByteArray) : Row := L.filter fun p => !lt k p.1
def floor (L : Row) (k : ByteArray) : Option (ByteArray × Value) := (upTo L k).getLast?

theorem Sorted.filter {L : Row} (h : Sorted L) (f : ByteArray × Value → Bool) : Sorted (L.filter f) := List.Pairwise.filter f h
theorem sorted_append {L M : Row} : Sorted (L ++ M) ↔ Sorted L ∧ Sorted M ∧ ∀ p ∈ L, ∀ q ∈ M, lt p.1 q.1 = true := List.pairwise_append
theorem sorted_cons {p : ByteArray × Value} {M : Row} : Sorted (p :: M) ↔ (∀ q ∈ M, lt p.1 q.1 = true) ∧ Sorted M := List.pairwise_cons
theorem sorted_mid {L M : Row} {p : ByteArray × Value} : Sorted (L ++ p :: M) ↔ Sorted L ∧ Sorted M ∧ (∀ q ∈ L, lt q.1 p.1 = true) ∧ (∀ q ∈ M, lt p.1 q.1 = true) ∧ ∀ q ∈ L, ∀ r ∈ M, lt q.1 r.1 = true := by
  rw [sorted_append, sorted_cons]
  constructor
  · rintro ⟨h1, ⟨h2, h3⟩, h4⟩
    exact ⟨h1, h3, fun q hq => h4 q hq _ List.mem_cons_self, h2, fun q hq r hr => h4 q hq r (List.mem_cons_of_mem _ hr)⟩
  · rintro ⟨h1, h2, h3, h4, h5⟩
    refine ⟨h1, ⟨h4, h2⟩, fun q hq r hr => ?_⟩
    rcases List.mem_cons.1 hr with rfl | hr
    · exact h3 q hq
    · exact h5 q hq r hr
theorem Sorted.put {L : Row} (h : Sorted L) (k : ByteArray) (v : Value) : Sorted (put L k v) := by
  refine sorted_mid.2 ⟨h.filter _, h.filter _, fun q hq => (List.mem_filter.1 hq).2, fun q hq => (List.mem_filter.1 hq).2, fun q hq r hr => lt_trans (List.mem_filter.1 hq).2 (List.mem_filter.1 hr).2⟩
theorem Sorted.del {L : Row} (h : Sorted L) (k : ByteArray) : Sorted (del L k) := h.filter _
theorem mem_put {L : Row} {k : ByteArray} {v : Value} {p : ByteArray × Value} : p ∈ put L k v ↔ p = (k, v) ∨ (p ∈ L ∧ p.1 ≠ k) := by
  unfold put below above
  rw [List.mem_append, List.mem_cons, List.mem_filter, List.mem_filter]
  constructor
  · rintro (⟨h1, h2⟩ | h | ⟨h1, h2⟩)
    · exact .inr ⟨h1, lt_ne h2⟩
    · exact .inl h
    · exact .inr ⟨h1, Ne.symm (lt_ne h2)⟩
  · rintro (h | ⟨h1, h2⟩)
    · exact .inr (.inl h)
    · rcases lt_total h2 with h | h
      · exact .inl ⟨h1, h⟩
      · exact .inr (.inr ⟨h1, h⟩)
theorem mem_del {L : Row} {k : ByteArray} {p : ByteArray × Value} : p ∈ del L k ↔ p ∈ L ∧ p.1 ≠ k := by
  unfold del; rw [List.mem_filter]; simp
theorem mem_from {L : Row} {k : ByteArray} {p : ByteArray × Value} : p ∈ from_ L k ↔ p ∈ L ∧ lt p.1 k = false := by
  unfold from_; rw [List.mem_filter]; simp
theorem get_mem {L : Row} {k : ByteArray} {v : Value} (h : get L k = some v) : (k, v) ∈ L := by
  unfold get at h
  rw [Option.map_eq_some_iff] at h
  obtain ⟨p, h1, rfl⟩ := h
  have h2 := List.find?_some h1
  have h3 := List.mem_of_find?_eq_some h1
  have h4 : p.1 = k := by simpa using h2
  rw [← h4]; exact h3
theorem get_none {L : Row} {k : ByteArray} : get L k = none ↔ ∀ p ∈ L, p.1 ≠ k := by
  unfold get; simp [List.find?_eq_none]
theorem Sorted.one {L : Row} (h : Sorted L) {p q : ByteArray × Value} (hp : p ∈ L) (hq : q ∈ L) (e : p.1 = q.1) : p = q := by
  induction L with
  | nil => cases hp
  | cons a r ih =>
    obtain ⟨h1, h2⟩ := sorted_cons.1 h
    rcases List.mem_cons.1 hp with e1 | hp' <;> rcases List.mem_cons.1 hq with e2 | hq'
    · rw [e1, e2]
    · subst e1; exact absurd e (lt_ne (h1 q hq'))
    · subst e2; exact absurd e (Ne.symm (lt_ne (h1 p hp')))
    · exact ih h2 hp' hq'
theorem Sorted.get {L : Row} (h : Sorted L) {k : ByteArray} {v : Value} (hm : (k, v) ∈ L) : get L k = some v := by
  cases e : Mm.get L k with
  | none => exact absurd rfl (get_none.1 e _ hm)
  | some u =>
    have := h.one hm (get_mem e) rfl
    simp at this; rw [this]
theorem get_put {L : Row} (h : Sorted L) (k : ByteArray) (v : Value) (j : ByteArray) : get (put L k v) j = if j = k then some v else get L j := by
  split
  · rename_i e; subst e
    exact (h.put j v).get (mem_put.2 (.inl rfl))
  · rename_i e
    cases g : get L j with
    | none =>
      refine get_none.2 fun p hp => ?_
      rcases mem_put.1 hp with rfl | ⟨h1, h2⟩
      · exact Ne.symm e
      · exact get_none.1 g p h1
    | some u => exact (h.put k v).get (mem_put.2 (.inr ⟨get_mem g, e⟩))
theorem get_del {L : Row} (h : Sorted L) (k j : ByteArray) : get (del L k) j = if j = k then none else get L j := by
  split
  · rename_i e; subst e
    exact get_none.2 fun p hp => (mem_del.1 hp).2
  · rename_i e
    cases g : get L j with
    | none => exact get_none.2 fun p hp => get_none.1 g p (mem_del.1 hp).1
    | some u => exact (h.del k).get (mem_del.2 ⟨get_mem g, e⟩)
/-- Two that are sorted and have the same are one. -/
theorem Sorted.ext {L M : Row} (hl : Sorted L) (hm : Sorted M) (h : ∀ k, Mm.get L k = Mm.get M k) : L = M := by
  induction L generalizing M with
  | nil =>
    cases M with
    | nil => rfl
    | cons p r => have := h p.1; rw [hm.get (v := p.2) List.mem_cons_self] at this; cases this
  | cons p r ih =>
    cases M with
    | nil => have := h p.1; rw [hl.get (v := p.2) List.mem_cons_self] at this; cases this
    | cons q s =>
      obtain ⟨h1, h2⟩ := sorted_cons.1 hl
      obtain ⟨h3, h4⟩ := sorted_cons.1 hm
      have e : p = q := by
        have ep := h p.1
        rw [hl.get (v := p.2) List.mem_cons_self] at ep
        have eq := h q.1
        rw [hm.get (v := q.2) List.mem_cons_self] at eq
        have m1 := get_mem ep.symm
        have m2 := get_mem eq
        rcases List.mem_cons.1 m1 with h' | h'
        · exact h'
        · rcases List.mem_cons.1 m2 with h'' | h''
          · exact h''.symm
          · have a := h3 _ h'; have b := h1 _ h''
            have := lt_trans a b
            rw [lt_irrefl] at this; cases this
      subst e
      rw [ih h2 h4 fun k => ?_]
      by_cases e : k = p.1
      · have a : Mm.get r k = none := get_none.2 fun x hx e' => by rw [← e'] at e; exact lt_ne (h1 x hx) e.symm
        have b : Mm.get s k = none := get_none.2 fun x hx e' => by rw [← e'] at e; exact lt_ne (h3 x hx) e.symm
        rw [a, b]
      · have := h k
        unfold Mm.get at this ⊢
        have e2 : decide (p.1 = k) = false := by simpa using Ne.symm e
        rw [List.find?_cons_of_neg (by simp [e2]), List.find?_cons_of_neg (by simp [e2])] at this
        exact this
theorem length_filter_split {L : Row} (f : ByteArray × Value → Bool) : (L.filter f).length + (L.filter fun p => !f p).length = L.length := by
  induction L with
  | nil => rfl
  | cons a r ih => cases h : f a <;> simp [h] <;> omega
theorem length_put_le (L : Row) (k : ByteArray) (v : Value) : (put L k v).length ≤ L.length + 1 := by
  unfold put below above
  rw [List.length_append, List.length_cons]
  have h1 := length_filter_split (L := L) fun p => lt p.1 k
  have h2 : (L.filter fun p => lt k p.1).length ≤ (L.filter fun p => !lt p.1 k).length := by
    clear h1
    induction L with
    | nil => exact Nat.le_refl _
    | cons a r ih =>
      cases h : lt k a.1
      · rw [List.filter_cons_of_neg (by simp [h])]
        exact Nat.le_trans ih (List.Sublist.length_le (List.Sublist.filter _ (List.sublist_cons_self _ _)))
      · have := lt_asymm h
        simp [h, this]; exact ih
  omega
theorem length_del_le (L : Row) (k : ByteArray) : (del L k).length ≤ L.length := List.length_filter_le _ _
theorem del_none {L : Row} {k : ByteArray} (h : get L k = none) : del L k = L := List.filter_eq_self.2 fun p hp => by simpa using get_none.1 h p hp
theorem filter_split {L : Row} (h : Sorted L) (k : ByteArray) : L = below L k ++ L.filter (fun p => !lt p.1 k) := by
  unfold below
  induction L with
  | nil => rfl
  | cons a r ih =>
    obtain ⟨h1, h2⟩ := sorted_cons.1 h
    cases e : lt a.1 k with
    | true =>
      rw [List.filter_cons_of_pos (by simp [e]), List.filter_cons_of_neg (by simp [e]), List.cons_append, ← ih h2]
    | false =>
      have : ∀ q ∈ r, lt q.1 k = false := fun q hq => by
        cases e' : lt q.1 k with
        | false => rfl
        | true => have := lt_trans (h1 q hq) e'; rw [e] at this; cases this
      rw [List.filter_cons_of_neg (by simp [e]), List.filter_cons_of_pos (by simp [e]), List.filter_eq_nil_iff.2 (fun q hq => by rw [this q hq]; simp), List.filter_eq_self.2 (fun q hq => by rw [this q hq]; rfl)]; rfl
theorem below_from {L : Row} (h : Sorted L) (k : ByteArray) : below L k ++ from_ L k = L := (filter_split h k).symm
theorem from_empty (L : Row) : from_ L ⟨#[]⟩ = L := List.filter_eq_self.2 fun p _ => by rw [lt_empty]; rfl

/-! ### the tree -/
inductive Tr where
  | nil : Tr
  | node (l : Tr) (k : ByteArray) (v : Value) (r : Tr) : Tr
def Tr.flat : Tr → Row
  | .nil => []
  | .node l k v r => l.flat ++ (k, v) :: r.flat
def Tr.count : Tr → Nat
  | .nil => 0
  | .node l _ _ r => l.count + 1 + r.count
theorem Tr.count_flat (t : Tr) : t.flat.length = t.count := by
  induction t with
  | nil => rfl
  | node l k v r h1 h2 => simp [Tr.flat, Tr.count, h1, h2]; omega
def turnLeft (l : Tr) (k : ByteArray) (v : Value) : Tr → Tr
  | .nil => .node l k v .nil
  | .node m rk rv rr => if m.count + 1 < 2 * (rr.count + 1) then .node (.node l k v m) rk rv rr else match m with
    | .nil => .node (.node l k v .nil) rk rv rr
    | .node a mk mv b => .node (.node l k v a) mk mv (.node b rk rv rr)
def turnRight (l : Tr) (k : ByteArray) (v : Value) (r : Tr) : Tr := match l with
  | .nil => .node .nil k v r
  | .node ll lk lv m => if m.count + 1 < 2 * (ll.count + 1) then .node ll lk lv (.node m k v r) else match m with
    | .nil => .node ll lk lv (.node .nil k v r)
    | .node a mk mv b => .node (.node ll lk lv a) mk mv (.node b k v r)
theorem turnLeft_one (l : Tr) (k : ByteArray) (v : Value) {m rr : Tr} (rk : ByteArray) (rv : Value) (h : m.count + 1 < 2 * (rr.count + 1)) : turnLeft l k v (.node m rk rv rr) = .node (.node l k v m) rk rv rr := by
  simp only [turnLeft, if_pos h]
theorem turnLeft_two (l : Tr) (k : ByteArray) (v : Value) {a b rr : Tr} (mk : ByteArray) (mv : Value) (rk : ByteArray) (rv : Value) (h : ¬ (Tr.node a mk mv b).count + 1 < 2 * (rr.count + 1)) :
    turnLeft l k v (.node (.node a mk mv b) rk rv rr) = .node (.node l k v a) mk mv (.node b rk rv rr) := by
  simp only [turnLeft, if_neg h]
theorem turnRight_one {ll m : Tr} (lk : ByteArray) (lv : Value) (k : ByteArray) (v : Value) (r : Tr) (h : m.count + 1 < 2 * (ll.count + 1)) : turnRight (.node ll lk lv m) k v r = .node ll lk lv (.node m k v r) := by
  simp only [turnRight, if_pos h]
theorem turnRight_two {ll a b : Tr} (mk : ByteArray) (mv : Value) (lk : ByteArray) (lv : Value) (k : ByteArray) (v : Value) (r : Tr) (h : ¬ (Tr.node a mk mv b).count + 1 < 2 * (ll.count + 1)) :
    turnRight (.node ll lk lv (.node a mk mv b)) k v r = .node (.node ll lk lv a) mk mv (.node b k v r) := by
  simp only [turnRight, if_neg h]
def balance (l : Tr) (k : ByteArray) (v : Value) (r : Tr) : Tr :=
  if 3 * (l.count + 1) < r.count + 1 then turnLeft l k v r else if 3 * (r.count + 1) < l.count + 1 then turnRight l k v r else .node l k v r
theorem flat_turnLeft (l : Tr) (k : ByteArray) (v : Value) (r : Tr) : (turnLeft l k v r).flat = l.flat ++ (k, v) :: r.flat := by
  unfold turnLeft
  cases r with
  | nil => rfl
  | node m rk rv rr =>
    simp only
    split
    · simp [Tr.flat]
    · cases m <;> simp [Tr.flat]
theorem flat_turnRight (l : Tr) (k : ByteArray) (v : Value) (r : Tr) : (turnRight l k v r).flat = l.flat ++ (k, v) :: r.flat := by
  unfold turnRight
  cases l with
  | nil => rfl
  | node ll lk lv m =>
    simp only
    split
    · simp [Tr.flat]
    · cases m <;> simp [Tr.flat]
theorem flat_balance (l : Tr) (k : ByteArray) (v : Value) (r : Tr) : (balance l k v r).flat = l.flat ++ (k, v) :: r.flat := by
  unfold balance
  split
  · exact flat_turnLeft _ _ _ _
  · split
    · exact flat_turnRight _ _ _ _
    · rfl
theorem count_balance (l : Tr) (k : ByteArray) (v : Value) (r : Tr) : (balance l k v r).count = l.count + 1 + r.count := by
  rw [← Tr.count_flat, flat_balance, List.length_append, List.length_cons, Tr.count_flat, Tr.count_flat]; omega
def Tr.with (t : Tr) (k : ByteArray) (v : Value) : Tr := match t with
  | .nil => .node .nil k v .nil
  | .node l k' v' r => if lt k k' then balance (l.with k v) k' v' r else if lt k' k then balance l k' v' (r.with k v) else .node l k v r
def Tr.first : Tr → ByteArray × Value
  | .nil => (⟨#[]⟩, .int .i64 0)
  | .node .nil k v _ => (k, v)
  | .node l _ _ _ => l.first
def Tr.without (t : Tr) (k : ByteArray) : Tr := match t with
  | .nil => .nil
  | .node l k' v' r => if lt k k' then balance (l.without k) k' v' r else if lt k' k then balance l k' v' (r.without k) else match r with
    | .nil => l
    | .node a b c d => balance l (Tr.first (.node a b c d)).1 (Tr.first (.node a b c d)).2 (Tr.without (.node a b c d) (Tr.first (.node a b c d)).1)

/-- What both makes of two trees. -/
def bothOf (l : Tr) : Tr → Tr
  | .nil => l
  | .node a b c d => balance l (Tr.first (.node a b c d)).1 (Tr.first (.node a b c d)).2 (Tr.without (.node a b c d) (Tr.first (.node a b c d)).1)
theorem without_left (l : Tr) {k k' : ByteArray} (v' : Value) (r : Tr) (h : lt k k' = true) : (Tr.node l k' v' r).without k = balance (l.without k) k' v' r := by
  conv => lhs; unfold Tr.without
  rw [if_pos h]
theorem without_right (l : Tr) {k k' : ByteArray} (v' : Value) (r : Tr) (h : ¬ lt k k' = true) (h' : lt k' k = true) : (Tr.node l k' v' r).without k = balance l k' v' (r.without k) := by
  conv => lhs; unfold Tr.without
  rw [if_neg h, if_pos h']
theorem without_both (l : Tr) {k k' : ByteArray} (v' : Value) (r : Tr) (h : ¬ lt k k' = true) (h' : ¬ lt k' k = true) : (Tr.node l k' v' r).without k = bothOf l r := by
  conv => lhs; unfold Tr.without
  rw [if_neg h, if_neg h']
  cases r <;> rfl

theorem below_mid {L M : Row} {p : ByteArray × Value} {k : ByteArray} (h : Sorted (L ++ p :: M)) : (lt k p.1 = true → below (L ++ p :: M) k = below L k ∧ above (L ++ p :: M) k = above L k ++ p :: M) ∧ (lt p.1 k = true → below (L ++ p :: M) k = L ++ p :: below M k ∧ above (L ++ p :: M) k = above M k) ∧ (p.1 = k → below (L ++ p :: M) k = L ∧ above (L ++ p :: M) k = M) := by
  obtain ⟨-, -, h3, h4, -⟩ := sorted_mid.1 h
  unfold below above
  simp only [List.filter_append, List.filter_cons]
  refine ⟨fun e => ?_, fun e => ?_, fun e => ?_⟩
  · have hM : ∀ q ∈ M, lt k q.1 = true := fun q hq => lt_trans e (h4 q hq)
    rw [List.filter_eq_nil_iff (l := M).2 (fun q hq => by rw [lt_asymm (hM q hq)]; simp), List.filter_eq_self (l := M).2 (fun q hq => hM q hq)]
    simp [e, lt_asymm e]
  · have hL : ∀ q ∈ L, lt q.1 k = true := fun q hq => lt_trans (h3 q hq) e
    rw [List.filter_eq_self (l := L).2 (fun q hq => hL q hq), List.filter_eq_nil_iff (l := L).2 (fun q hq => by show ¬ lt k q.1 = true; rw [lt_asymm (hL q hq)]; simp)]
    simp [e, lt_asymm e]
  · subst e
    rw [List.filter_eq_self (l := L).2 (fun q hq => h3 q hq), List.filter_eq_nil_iff (l := M).2 (fun q hq => by rw [lt_asymm (h4 q hq)]; simp), List.filter_eq_nil_iff (l := L).2 (fun q hq => by rw [lt_asymm (h3 q hq)]; simp), List.filter_eq_self (l := M).2 (fun q hq => h4 q hq)]
    simp [lt_irrefl]
theorem flat_with (t : Tr) (k : ByteArray) (v : Value) (h : Sorted t.flat) : (t.with k v).flat = put t.flat k v := by
  induction t with
  | nil => rfl
  | node l k' v' r h1 h2 =>
    have hs := sorted_mid.1 (show Sorted (l.flat ++ (k', v') :: r.flat) from h)
    obtain ⟨b1, b2, b3⟩ := below_mid (k := k) (show Sorted (l.flat ++ (k', v') :: r.flat) from h)
    unfold Tr.with put
    split
    · rename_i e
      obtain ⟨c1, c2⟩ := b1 e
      show _ = below (l.flat ++ (k', v') :: r.flat) k ++ (k, v) :: above (l.flat ++ (k', v') :: r.flat) k
      rw [flat_balance, h1 hs.1, c1, c2]; simp [put]
    · split
      · rename_i e
        obtain ⟨c1, c2⟩ := b2 e
        show _ = below (l.flat ++ (k', v') :: r.flat) k ++ (k, v) :: above (l.flat ++ (k', v') :: r.flat) k
        rw [flat_balance, h2 hs.2.1, c1, c2]; simp [put]
      · rename_i e1 e2
        obtain ⟨c1, c2⟩ := b3 (eq_of_not (by simpa using e2) (by simpa using e1))
        show _ = below (l.flat ++ (k', v') :: r.flat) k ++ (k, v) :: above (l.flat ++ (k', v') :: r.flat) k
        rw [c1, c2]; rfl
theorem flat_first (l : Tr) (k : ByteArray) (v : Value) (r : Tr) : ∃ rest, (Tr.node l k v r).flat = (Tr.node l k v r).first :: rest := by
  induction l generalizing k v r with
  | nil => exact ⟨_, rfl⟩
  | node a b c d h1 _ =>
    obtain ⟨rest, h⟩ := h1 b c d
    refine ⟨rest ++ (k, v) :: r.flat, ?_⟩
    show (Tr.node a b c d).flat ++ _ = _
    rw [h]; rfl
theorem del_mid {L M : Row} {p : ByteArray × Value} {k : ByteArray} (h : Sorted (L ++ p :: M)) : (lt k p.1 = true → del (L ++ p :: M) k = del L k ++ p :: M) ∧ (lt p.1 k = true → del (L ++ p :: M) k = L ++ p :: del M k) ∧ (p.1 = k → del (L ++ p :: M) k = L ++ M) := by
  obtain ⟨-, -, h3, h4, -⟩ := sorted_mid.1 h
  unfold del
  simp only [List.filter_append, List.filter_cons]
  refine ⟨fun e => ?_, fun e => ?_, fun e => ?_⟩
  · rw [List.filter_eq_self (l := M).2 (fun q hq => by simpa using Ne.symm (lt_ne (lt_trans e (h4 q hq))))]
    simp [Ne.symm (lt_ne e)]
  · rw [List.filter_eq_self (l := L).2 (fun q hq => by simpa using lt_ne (lt_trans (h3 q hq) e))]
    simp [lt_ne e]
  · subst e
    rw [List.filter_eq_self (l := L).2 (fun q hq => by simpa using lt_ne (h3 q hq)), List.filter_eq_self (l := M).2 (fun q hq => by simpa using Ne.symm (lt_ne (h4 q hq)))]
    simp
theorem flat_without (t : Tr) (k : ByteArray) (h : Sorted t.flat) : (t.without k).flat = del t.flat k := by
  induction t generalizing k with
  | nil => rfl
  | node l k' v' r h1 h2 =>
    have hs := sorted_mid.1 (show Sorted (l.flat ++ (k', v') :: r.flat) from h)
    obtain ⟨b1, b2, b3⟩ := del_mid (k := k) (show Sorted (l.flat ++ (k', v') :: r.flat) from h)
    show _ = del (l.flat ++ (k', v') :: r.flat) k
    unfold Tr.without
    split
    · rename_i e
      rw [flat_balance, h1 k hs.1, b1 e]
    · split
      · rename_i e
        rw [flat_balance, h2 k hs.2.1, b2 e]
      · rename_i e1 e2
        rw [b3 (eq_of_not (by simpa using e2) (by simpa using e1))]
        cases r with
        | nil => simp [Tr.flat]
        | node a b c d =>
          simp only
          obtain ⟨rest, hf⟩ := flat_first a b c d
          rw [flat_balance, h2 _ hs.2.1, hf]
          have hs2 := hs.2.1
          rw [hf] at hs2
          obtain ⟨-, -, d3⟩ := del_mid (L := []) (M := rest) (p := (Tr.node a b c d).first) (k := (Tr.node a b c d).first.1) (by simpa using hs2)
          have := d3 rfl
          simp only [List.nil_append] at this
          rw [this]
theorem count_with_le (t : Tr) (k : ByteArray) (v : Value) : (t.with k v).count ≤ t.count + 1 := by
  induction t with
  | nil => simp [Tr.with, Tr.count]
  | node l k' v' r h1 h2 =>
    unfold Tr.with
    split
    · rw [count_balance]; simp only [Tr.count]; omega
    · split
      · rw [count_balance]; simp only [Tr.count]; omega
      · simp only [Tr.count]; omega
theorem count_without_le (t : Tr) (k : ByteArray) : (t.without k).count ≤ t.count := by
  induction t generalizing k with
  | nil => simp [Tr.without]
  | node l k' v' r h1 h2 =>
    unfold Tr.without
    split
    · rw [count_balance]; have := h1 k; simp only [Tr.count]; omega
    · split
      · rw [count_balance]; have := h2 k; simp only [Tr.count]; omega
      · cases r with
        | nil => simp only [Tr.count]; omega
        | node a b c d =>
          simp only
          rw [count_balance]
          have := h2 (Tr.node a b c d).first.1
          simp only [Tr.count] at *; omega
/-- What floor does on its way down, with the best so far. -/
def Tr.floor (t : Tr) (k : ByteArray) (best : Option (ByteArray × Value)) : Option (ByteArray × Value) := match t with
  | .nil => best
  | .node l k' v' r => if lt k k' then l.floor k best else r.floor k (some (k', v'))
theorem floor_flat (t : Tr) (k : ByteArray) (best : Option (ByteArray × Value)) (h : Sorted t.flat) : t.floor k best = match floor t.flat k with
    | some p => some p
    | none => best := by
  induction t generalizing best with
  | nil => rfl
  | node l k' v' r h1 h2 =>
    have hs := sorted_mid.1 (show Sorted (l.flat ++ (k', v') :: r.flat) from h)
    have hu : upTo (Tr.node l k' v' r).flat k = upTo l.flat k ++ upTo ((k', v') :: r.flat) k := List.filter_append ..
    unfold Tr.floor floor
    rw [hu]
    split
    · rename_i e
      have : upTo ((k', v') :: r.flat) k = [] := List.filter_eq_nil_iff.2 fun q hq => by
        rcases List.mem_cons.1 hq with rfl | hq
        · simp [e]
        · simp [lt_trans e (hs.2.2.2.1 q hq)]
      rw [this, List.append_nil, h1 best hs.1]; rfl
    · rename_i e
      have e' : lt k k' = false := by simpa using e
      have : upTo ((k', v') :: r.flat) k = (k', v') :: upTo r.flat k := List.filter_cons_of_pos (by simp [e'])
      rw [this, h2 _ hs.2.1]
      unfold floor
      rw [List.getLast?_append, List.getLast?_cons]
      cases (upTo r.flat k).getLast? <;> simp
theorem flat_of_nil {t : Tr} (h : t.flat = []) : t = .nil := by
  cases t with
  | nil => rfl
  | node l k v r => simp [Tr.flat] at h
/-! ### floor -/
theorem mem_upTo {L : Row} {k : ByteArray} {p : ByteArray × Value} : p ∈ upTo L k ↔ p ∈ L ∧ lt k p.1 = false := by
  unfold upTo; rw [List.mem_filter]; simp
theorem floor_some {L : Row} (h : Sorted L) {k : ByteArray} {p : ByteArray × Value} (e : floor L k = some p) : p ∈ L ∧ lt k p.1 = false ∧ ∀ q ∈ L, lt k q.1 = false → lt p.1 q.1 = false := by
  unfold floor at e
  have hm := mem_upTo.1 (List.mem_of_getLast? e)
  refine ⟨hm.1, hm.2, fun q hq hk => ?_⟩
  have hs : Sorted (upTo L k) := h.filter _
  have hq' := mem_upTo.2 ⟨hq, hk⟩
  obtain ⟨ini, hi⟩ : ∃ ini, upTo L k = ini ++ [p] := by
    rw [List.getLast?_eq_some_iff] at e; exact e
  rw [hi] at hs hq'
  rcases List.mem_append.1 hq' with h1 | h1
  · exact lt_asymm ((sorted_append.1 hs).2.2 q h1 p (by simp))
  · have : q = p := by simpa using h1
    rw [this]; exact lt_irrefl _
theorem floor_none {L : Row} {k : ByteArray} (e : floor L k = none) : ∀ q ∈ L, lt k q.1 = true := fun q hq => by
  unfold floor at e
  rw [List.getLast?_eq_none_iff] at e
  cases h : lt k q.1 with
  | true => rfl
  | false => have := mem_upTo.2 ⟨hq, h⟩; rw [e] at this; cases this
theorem floor_get {L : Row} (h : Sorted L) {k : ByteArray} : get L k = match floor L k with
    | some p => if p.1 = k then some p.2 else none
    | none => none := by
  cases e : floor L k with
  | none => exact get_none.2 fun p hp e' => by have := floor_none e p hp; rw [e', lt_irrefl] at this; cases this
  | some p =>
    obtain ⟨h1, h2, h3⟩ := floor_some h e
    simp only
    split
    · rename_i e'; subst e'; exact h.get h1
    · rename_i e'
      exact get_none.2 fun q hq e'' => by
        have h4 := h3 q hq (by rw [e'']; exact lt_irrefl _)
        rw [e''] at h4
        exact e' (eq_of_not h4 h2)
end Mm
