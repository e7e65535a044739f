/-
  Plain facts on right schemas, as the document has them: what is found by name, which types are right, what is finite, order records, the rules. No program. Conditions: those in the theorems.
-/
import Derived.Test.YtiikccaaabcegaaGreatDoorIdlBase
set_option linter.unusedSimpArgs false
set_option linter.unusedVariables false
namespace Ck
open Ip
def find (s : Sch) (n : ByteArray) : Option Rcd := s.records.find? fun r => eqB r.name n
def service (s : Sch) (n : ByteArray) : Option Srv := s.services.find? fun v => eqB v.name n
def methodOf (v : Srv) (n : ByteArray) : Option Mth := v.methods.find? fun m => eqB m.name n
def method (s : Sch) (v m : ByteArray) : Option Mth := (service s v).bind fun x => methodOf x m
def saga (s : Sch) (n : ByteArray) : Option Sga := s.sagas.find? fun g => eqB g.name n
def empty (s : ByteArray) : Bool := eqB s ⟨#[]⟩
/-- The sorts ahead of the last one, and the last one. -/
def heads (t : List So) : Bool := t.dropLast.all fun x => (decide (x.kind = 5) || decide (x.kind = 6)) && empty x.name
def lastOk (s : Sch) (t : List So) : Bool := match t.getLast? with
  | none => false
  | some x => if x.kind = 7 then (find s x.name).isSome else decide (1 ≤ x.kind) && decide (x.kind ≤ 4) && empty x.name
def right (s : Sch) (t : List So) : Bool := decide (1 ≤ t.length) && decide (t.length ≤ 12) && heads t && lastOk s t
/-! ### what is finite -/
def has (P : ByteArray → Bool) : List So → Bool
  | [] => false
  | x :: _ => if x.kind = 7 then P x.name else true
def got (P : ByteArray → Bool) (r : Rcd) : Bool := if r.choice then r.fields.any fun f => has P f.type else r.fields.all fun f => has P f.type
/-- Which names have a value, if those of P have one. -/
def fn (s : Sch) (P : ByteArray → Bool) (n : ByteArray) : Bool := match find s n with
  | some r => got P r
  | none => false
def lv (s : Sch) : Nat → ByteArray → Bool
  | 0 => fun _ => false
  | k + 1 => fn s (lv s k)
/-- The least: all that is finite. -/
def fin (s : Sch) : ByteArray → Bool := lv s s.records.length
def Le (P Q : ByteArray → Bool) : Prop := ∀ n, P n = true → Q n = true
theorem has_mono {P Q : ByteArray → Bool} (h : Le P Q) (t : List So) (ht : has P t = true) : has Q t = true := by
  cases t with
  | nil => exact ht
  | cons x l =>
    have e : ∀ R : ByteArray → Bool, has R (x :: l) = if x.kind = 7 then R x.name else true := fun _ => rfl
    rw [e] at ht ⊢
    by_cases hk : x.kind = 7
    · rw [if_pos hk] at ht ⊢; exact h _ ht
    · rw [if_neg hk]
theorem got_mono {P Q : ByteArray → Bool} (h : Le P Q) (r : Rcd) (hr : got P r = true) : got Q r = true := by
  unfold got at hr ⊢
  split
  · rename_i hc
    rw [if_pos hc, List.any_eq_true] at hr
    obtain ⟨f, hf, h1⟩ := hr
    exact List.any_eq_true.2 ⟨f, hf, has_mono h _ h1⟩
  · rename_i hc
    rw [if_neg hc, List.all_eq_true] at hr
    exact List.all_eq_true.2 fun f hf => has_mono h _ (hr f hf)
theorem fn_mono (s : Sch) {P Q : ByteArray → Bool} (h : Le P Q) : Le (fn s P) (fn s Q) := fun n hn => by
  unfold fn at hn ⊢
  cases hf : find s n with
  | none => rw [hf] at hn; exact hn
  | some r => rw [hf] at hn; exact got_mono h r hn
theorem lv_up (s : Sch) : ∀ k, Le (lv s k) (lv s (k + 1))
  | 0 => fun n h => by cases h
  | k + 1 => fn_mono s (lv_up s k)
theorem lv_le (s : Sch) {P : ByteArray → Bool} (h : Le (fn s P) P) : ∀ k, Le (lv s k) P
  | 0 => fun n h => by cases h
  | k + 1 => fun n hn => h n (fn_mono s (lv_le s h k) n hn)
theorem count_eq {α : Type} {p q : α → Bool} : ∀ {l : List α}, (∀ x ∈ l, p x = true → q x = true) → l.countP p = l.countP q → ∀ x ∈ l, p x = q x
  | [], _, _ => fun x hx => by cases hx
  | a :: l, h, e => by
    have ha := h a (by simp)
    have hl : ∀ x ∈ l, p x = true → q x = true := fun x hx => h x (List.mem_cons_of_mem _ hx)
    have hle := List.countP_mono_left hl
    rw [List.countP_cons, List.countP_cons] at e
    have h1 : p a = q a := by
      cases hp : p a with
      | true => rw [ha hp]
      | false =>
        cases hq : q a with
        | false => rfl
        | true => rw [hp, hq] at e; simp at e; omega
    intro x hx
    rcases List.mem_cons.1 hx with rfl | hx
    · exact h1
    · rw [h1] at e
      exact count_eq hl (by omega) x hx
def cnt (s : Sch) (k : Nat) : Nat := s.records.countP fun r => lv s k r.name
theorem find_name {s : Sch} {n : ByteArray} {r : Rcd} (h : find s n = some r) : r ∈ s.records ∧ r.name = n :=
  ⟨List.mem_of_find?_eq_some h, eqB_iff.1 (by simpa using List.find?_some h)⟩
theorem lv_none {s : Sch} {n : ByteArray} (h : find s n = none) : ∀ k, lv s k n = false
  | 0 => rfl
  | k + 1 => by show fn s _ n = false; unfold fn; rw [h]
theorem lv_same {s : Sch} {k : Nat} (h : cnt s k = cnt s (k + 1)) : lv s k = lv s (k + 1) := by
  funext n
  cases hf : find s n with
  | none => rw [lv_none hf, lv_none hf]
  | some r =>
    obtain ⟨h1, rfl⟩ := find_name hf
    exact count_eq (p := fun r => lv s k r.name) (q := fun r => lv s (k + 1) r.name) (fun x _ => lv_up s k x.name) (by simpa [cnt] using h) r h1
theorem lv_stays {s : Sch} {k : Nat} (h : lv s k = lv s (k + 1)) : ∀ j, lv s (k + j) = lv s k
  | 0 => rfl
  | j + 1 => by show fn s (lv s (k + j)) = lv s k; rw [lv_stays h j]; exact h.symm
theorem cnt_grows (s : Sch) : ∀ k, (∃ j, j < k ∧ lv s j = lv s (j + 1)) ∨ k ≤ cnt s k
  | 0 => .inr (Nat.zero_le _)
  | k + 1 => by
    rcases cnt_grows s k with ⟨j, hj, e⟩ | h
    · exact .inl ⟨j, by omega, e⟩
    · by_cases e : cnt s k = cnt s (k + 1)
      · exact .inl ⟨k, by omega, lv_same e⟩
      · have : cnt s k ≤ cnt s (k + 1) := List.countP_mono_left fun x _ => lv_up s k x.name
        exact .inr (by omega)
/-- As many rounds as there are records and choices are enough. -/
theorem lv_fin (s : Sch) (j : Nat) : lv s (s.records.length + j) = fin s := by
  rcases cnt_grows s (s.records.length + 1) with ⟨i, hi, e⟩ | h
  · have h1 : ∀ m, i ≤ m → lv s m = lv s i := fun m hm => by
      have := lv_stays e (m - i)
      rwa [show i + (m - i) = m by omega] at this
    unfold fin
    rw [h1 _ (by omega), h1 s.records.length (by omega)]
  · have : cnt s (s.records.length + 1) ≤ s.records.length := List.countP_le_length
    omega
theorem fin_fn (s : Sch) : fn s (fin s) = fin s := lv_fin s 1
/-- What is closed has all that is finite. -/
theorem fin_le (s : Sch) {P : ByteArray → Bool} (h : Le (fn s P) P) : Le (fin s) P := lv_le s h _
/-- What grows from what is finite stays finite. -/
theorem fin_step (s : Sch) {P : ByteArray → Bool} (h : Le P (fin s)) : Le (fn s P) (fin s) := fun n hn => by
  rw [← fin_fn s]; exact fn_mono s h n hn
theorem fin_eq (s : Sch) {P : ByteArray → Bool} (h1 : Le P (fin s)) (h2 : Le (fn s P) P) : P = fin s := by
  funext n
  have a := h1 n
  have b := fin_le s h2 n
  cases hp : P n with
  | true => rw [a hp]
  | false =>
    cases hf : fin s n with
    | false => rfl
    | true => rw [b hf] at hp; cases hp
/-! ### order records, effects -/
def nAccount : ByteArray := Tk.bs [97, 99, 99, 111, 117, 110, 116]
def nAmount : ByteArray := Tk.bs [97, 109, 111, 117, 110, 116]
def alone (f : Fld) (n : ByteArray) (k : Nat) : Bool := match f.type with
  | [x] => eqB f.name n && decide (x.kind = k)
  | _ => false
def orderR (r : Rcd) : Bool := !r.choice && r.fields.any (fun f => alone f nAccount 4) && r.fields.any (fun f => alone f nAmount 3)
def order (s : Sch) (n : ByteArray) : Bool := match find s n with
  | some r => orderR r
  | none => false
def contrary (a b : ByteArray) : Bool := (eqB a kGive && eqB b kTake) || (eqB a kTake && eqB b kGive) || (eqB a kNote && eqB b kNote)
/-! ### the rules: the first place where each is broken -/
def dot (a b : ByteArray) : ByteArray := a ++ ⟨#[46]⟩ ++ b
def nm (n : ByteArray) : Option ByteArray := if Tk.name n then none else some n
def names (s : Sch) : Option ByteArray :=
  if Tk.name s.name then
    (s.records.findSome? fun r => (nm r.name).or (r.fields.findSome? fun f => nm f.name)).or
    ((s.services.findSome? fun v => (nm v.name).or (v.methods.findSome? fun m => nm m.name)).or
    (s.sagas.findSome? fun g => nm g.name))
  else some ⟨#[]⟩
def counts (s : Sch) : Option ByteArray :=
  if s.records.length + s.services.length + s.sagas.length > 64 then some ⟨#[]⟩ else
    (s.records.findSome? fun r => if r.fields.length > 16 then some r.name else none).or
    ((s.services.findSome? fun v => if v.methods.length > 16 then some v.name else none).or
    (s.sagas.findSome? fun g => if g.steps.length < 1 ∨ g.steps.length > 8 then some g.name else none))
def types (s : Sch) : Option ByteArray :=
  (s.records.findSome? fun r => r.fields.findSome? fun f => if right s f.type then none else some (dot r.name f.name)).or
  (s.services.findSome? fun v => v.methods.findSome? fun m => if m.result = 1 ∨ m.result = 3 then none else some (dot v.name m.name))
def bottoms (s : Sch) : Option ByteArray := s.records.findSome? fun r => if fin s r.name then none else some r.name
def effects (s : Sch) : Option ByteArray := s.services.findSome? fun v => v.methods.findSome? fun m =>
  if (eqB m.effect kGive || eqB m.effect kTake || eqB m.effect kNote) && order s m.arg then none else some (dot v.name m.name)
def undoOk (s : Sch) (v : Srv) (m : Mth) : Bool := match method s v.name m.undo with
  | some u => eqB u.arg m.arg && empty u.undo && decide (u.result = 1) && contrary m.effect u.effect
  | none => false
def undos (s : Sch) : Option ByteArray := s.services.findSome? fun v => v.methods.findSome? fun m =>
  if empty m.undo || undoOk s v m then none else some (dot v.name m.name)
def sagas (s : Sch) : Option ByteArray := s.sagas.findSome? fun g => if order s g.arg then none else some g.name
/-! ### loops that look for the first -/
section
variable {α β : Type} {f : α → Option β} {l : List α}
theorem some_at {k : Nat} (hk : k < l.length) {y : β} (h : f l[k] = some y) : (l.drop k).findSome? f = some y := by
  rw [List.drop_eq_getElem_cons hk, List.findSome?_cons, h]
theorem none_at {k : Nat} (hk : k < l.length) (h : f l[k] = none) : (l.drop k).findSome? f = (l.drop (k + 1)).findSome? f := by
  rw [List.drop_eq_getElem_cons hk, List.findSome?_cons, h]
theorem none_end {k : Nat} (hk : l.length ≤ k) : (l.drop k).findSome? f = none := by rw [List.drop_of_length_le hk]; rfl
variable {p : α → Bool}
theorem find_at {k : Nat} (hk : k < l.length) (h : p l[k] = true) : (l.drop k).find? p = some l[k] := by
  rw [List.drop_eq_getElem_cons hk, List.find?_cons, h]
theorem find_no {k : Nat} (hk : k < l.length) (h : p l[k] = false) : (l.drop k).find? p = (l.drop (k + 1)).find? p := by
  rw [List.drop_eq_getElem_cons hk, List.find?_cons, h]
theorem find_end {k : Nat} (hk : l.length ≤ k) : (l.drop k).find? p = none := by rw [List.drop_of_length_le hk]; rfl
end
end Ck
