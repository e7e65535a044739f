/-
  Plain facts on right schemas, as the document has them: what is found by name, which types are right, what is finite, order records, the rules. No program. Conditions: those in the theorems.
  Plain facts on right schemas: the ten rules one behind the other; what is right is right without its last saga, and with its records turned about. No program. Conditions: those in the theorems.
  Plain facts on how the program reckons what its rules ask: what is finite by a set of names that grows, order records by the first field of a name, an undo within its service. No program. Conditions: those in the theorems.
  Plain facts on schemas of few and short parts. No program. Conditions: those in the theorems.
-/
import Derived.Test.YtnkdhmoocomjfaaGreatDoorIdlBase
set_option linter.unusedSimpArgs false
set_option linter.unusedVariables false
namespace Ck
open Ip
def find (s : Sch) (n : ByteArray) : Option Rcd := s.records.find? fun r => eqB r.name n
def service (s : Sch) (n : ByteArray) : Option Srv := s.services.find? fun v => eqB v.name n
def methodOf (v : Srv) (n : ByteArray) : Option Mth := v.methods.find? fun m => eqB m.name n
def method (s : Sch) (v m : ByteArray) : Option Mth := (service s v).bind fun x => methodOf x m
def saga (s : Sch) (n : ByteArray) : Option Sga := s.sagas.find? fun g => eqB g.name n
def empty (s : ByteArray) : Bool := eqB s ⟨#[]⟩
/-- The sorts ahead of the last one, and the last one. -/
def heads (t : List So) : Bool := t.dropLast.all fun x => (decide (x.kind = 5) || decide (x.kind = 6)) && empty x.name
def lastOk (s : Sch) (t : List So) : Bool := match t.getLast? with
  | none => false
  | some x => if x.kind = 7 then (find s x.name).isSome else decide (1 ≤ x.kind) && decide (x.kind ≤ 4) && empty x.name
def right (s : Sch) (t : List So) : Bool := decide (1 ≤ t.length) && decide (t.length ≤ 12) && heads t && lastOk s t
/-! ### what is finite -/
def has (P : ByteArray → Bool) : List So → Bool
  | [] => false
  | x :: _ => if x.kind = 7 then P x.name else true
def got (P : ByteArray → Bool) (r : Rcd) : Bool := if r.choice then r.fields.any fun f => has P f.type else r.fields.all fun f => has P f.type
/-- Which names have a value, if those of P have one. -/
def fn (s : Sch) (P : ByteArray → Bool) (n : ByteArray) : Bool := match find s n with
  | some r => got P r
  | none => false
def lv (s : Sch) : Nat → ByteArray → Bool
  | 0 => fun _ => false
  | k + 1 => fn s (lv s k)
/-- The least: all that is finite. -/
def fin (s : Sch) : ByteArray → Bool := lv s s.records.length
def Le (P Q : ByteArray → Bool) : Prop := ∀ n, P n = true → Q n = true
theorem has_mono {P Q : ByteArray → Bool} (h : Le P Q) (t : List So) (ht : has P t = true) : has Q t = true := by
  cases t with
  | nil => exact ht
  | cons x l =>
    have e : ∀ R : ByteArray → Bool, has R (x :: l) = if x.kind = 7 then R x.name else true := fun _ => rfl
    rw [e] at ht ⊢
    by_cases hk : x.kind = 7
    · rw [if_pos hk] at ht ⊢; exact h _ ht
    · rw [if_neg hk]
theorem got_mono {P Q : ByteArray → Bool} (h : Le P Q) (r : Rcd) (hr : got P r = true) : got Q r = true := by
  unfold got at hr ⊢
  split
  · rename_i hc
    rw [if_pos hc, List.any_eq_true] at hr
    obtain ⟨f, hf, h1⟩ := hr
    exact List.any_eq_true.2 ⟨f, hf, has_mono h _ h1⟩
  · rename_i hc
    rw [if_neg hc, List.all_eq_true] at hr
    exact List.all_eq_true.2 fun f hf => has_mono h _ (hr f hf)
theorem fn_mono (s : Sch) {P Q : ByteArray → Bool} (h : Le P Q) : Le (fn s P) (fn s Q) := fun n hn => by
  unfold fn at hn ⊢
  cases hf : find s n with
  | none => rw [hf] at hn; exact hn
  | some r => rw [hf] at hn; exact got_mono h r hn
theorem lv_up (s : Sch) : ∀ k, Le (lv s k) (lv s (k + 1))
  | 0 => fun n h => by cases h
  | k + 1 => fn_mono s (lv_up s k)
theorem lv_le (s : Sch) {P : ByteArray → Bool} (h : Le (fn s P) P) : ∀ k, Le (lv s k) P
  | 0 => fun n h => by cases h
  | k + 1 => fun n hn => h n (fn_mono s (lv_le s h k) n hn)
theorem count_eq {α : Type} {p q : α → Bool} : ∀ {l : List α}, (∀ x ∈ l, p x = true → q x = true) → l.countP p = l.countP q → ∀ x ∈ l, p x = q x
  | [], _, _ => fun x hx => by cases hx
  | a :: l, h, e => by
    have ha := h a (by simp)
    have hl : ∀ x ∈ l, p x = true → q x = true := fun x hx => h x (List.mem_cons_of_mem _ hx)
    have hle := List.countP_mono_left hl
    rw [List.countP_cons, List.countP_cons] at e
    have h1 : p a = q a := by
      cases hp : p a with
      | true => rw [ha hp]
      | false =>
        cases hq : q a with
        | false => rfl
        | true => rw [hp, hq] at e; simp at e; omega
    intro x hx
    rcases List.mem_cons.1 hx with rfl | hx
    · exact h1
    · rw [h1] at e
      exact count_eq hl (by omega) x hx
def cnt (s : Sch) (k : Nat) : Nat := s.records.countP fun r => lv s k r.name
theorem find_name {s : Sch} {n : ByteArray} {r : Rcd} (h : find s n = some r) : r ∈ s.records ∧ r.name = n :=
  ⟨List.mem_of_find?_eq_some h, eqB_iff.1 (by simpa using List.find?_some h)⟩
theorem lv_none {s : Sch} {n : ByteArray} (h : find s n = none) : ∀ k, lv s k n = false
  | 0 => rfl
  | k + 1 => by show fn s _ n = false; unfold fn; rw [h]
theorem lv_same {s : Sch} {k : Nat} (h : cnt s k = cnt s (k + 1)) : lv s k = lv s (k + 1) := by
  funext n
  cases hf : find s n with
  | none => rw [lv_none hf, lv_none hf]
  | some r =>
    obtain ⟨h1, rfl⟩ := find_name hf
    exact count_eq (p := fun r => lv s k r.name) (q := fun r => lv s (k + 1) r.name) (fun x _ => lv_up s k x.name) (by simpa [cnt] using h) r h1
theorem lv_stays {s : Sch} {k : Nat} (h : lv s k = lv s (k + 1)) : ∀ j, lv s (k + j) = lv s k
  | 0 => rfl
  | j + 1 => by show fn s (lv s (k + j)) = lv s k; rw [lv_stays h j]; exact h.symm
theorem cnt_grows (s : Sch) : ∀ k, (∃ j, j < k ∧ lv s j = lv s (j + 1)) ∨ k ≤ cnt s k
  | 0 => .inr (Nat.zero_le _)
  | k + 1 => by
    rcases cnt_grows s k with ⟨j, hj, e⟩ | h
    · exact .inl ⟨j, by omega, e⟩
    · by_cases e : cnt s k = cnt s (k + 1)
      · exact .inl ⟨k, by omega, lv_same e⟩
      · have : cnt s k ≤ cnt s (k + 1) := List.countP_mono_left fun x _ => lv_up s k x.name
        exact .inr (by omega)
/-- As many rounds as there are records and choices are enough. -/
theorem lv_fin (s : Sch) (j : Nat) : lv s (s.records.length + j) = fin s := by
  rcases cnt_grows s (s.records.length + 1) with ⟨i, hi, e⟩ | h
  · have h1 : ∀ m, i ≤ m → lv s m = lv s i := fun m hm => by
      have := lv_stays e (m - i)
      rwa [show i + (m - i) = m by omega] at this
    unfold fin
    rw [h1 _ (by omega), h1 s.records.length (by omega)]
  · have : cnt s (s.records.length + 1) ≤ s.records.length := List.countP_le_length
    omega
theorem fin_fn (s : Sch) : fn s (fin s) = fin s := lv_fin s 1
/-- What is closed has all that is finite. -/
theorem fin_le (s : Sch) {P : ByteArray → Bool} (h : Le (fn s P) P) : Le (fin s) P := lv_le s h _
/-- What grows from what is finite stays finite. -/
theorem fin_step (s : Sch) {P : ByteArray → Bool} (h : Le P (fin s)) : Le (fn s P) (fin s) := fun n hn => by
  rw [← fin_fn s]; exact fn_mono s h n hn
theorem fin_eq (s : Sch) {P : ByteArray → Bool} (h1 : Le P (fin s)) (h2 : Le (fn s P) P) : P = fin s := by
  funext n
  have a := h1 n
  have b := fin_le s h2 n
  cases hp : P n with
  | true => rw [a hp]
  | false =>
    cases hf : fin s n with
    | false => rfl
    | true => rw [b hf] at hp; cases hp
/-! ### order records, effects -/
def nAccount : ByteArray := Tk.bs [97, 99, 99, 111, 117, 110, 116]
def nAmount : ByteArray := Tk.bs [97, 109, 111, 117, 110, 116]
def alone (f : Fld) (n : ByteArray) (k : Nat) : Bool := match f.type with
  | [x] => eqB f.name n && decide (x.kind = k)
  | _ => false
def orderR (r : Rcd) : Bool := !r.choice && r.fields.any (fun f => alone f nAccount 4) && r.fields.any (fun f => alone f nAmount 3)
def order (s : Sch) (n : ByteArray) : Bool := match find s n with
  | some r => orderR r
  | none => false
def contrary (a b : ByteArray) : Bool := (eqB a kGive && eqB b kTake) || (eqB a kTake && eqB b kGive) || (eqB a kNote && eqB b kNote)
/-! ### the rules: the first place where each is broken -/
def dot (a b : ByteArray) : ByteArray := a ++ ⟨#[46]⟩ ++ b
def nm (n : ByteArray) : Option ByteArray := if Tk.name n then none else some n
def names (s : Sch) : Option ByteArray :=
  if Tk.name s.name then
    (s.records.findSome? fun r => (nm r.name).or (r.fields.findSome? fun f => nm f.name)).or
    ((s.services.findSome? fun v => (nm v.name).or (v.methods.findSome? fun m => nm m.name)).or
    (s.sagas.findSome? fun g => nm g.name))
  else some ⟨#[]⟩
def counts (s : Sch) : Option ByteArray :=
  if s.records.length + s.services.length + s.sagas.length > 64 then some ⟨#[]⟩ else
    (s.records.findSome? fun r => if r.fields.length > 16 then some r.name else none).or
    ((s.services.findSome? fun v => if v.methods.length > 16 then some v.name else none).or
    (s.sagas.findSome? fun g => if g.steps.length < 1 ∨ g.steps.length > 8 then some g.name else none))
def types (s : Sch) : Option ByteArray :=
  (s.records.findSome? fun r => r.fields.findSome? fun f => if right s f.type then none else some (dot r.name f.name)).or
  (s.services.findSome? fun v => v.methods.findSome? fun m => if m.result = 1 ∨ m.result = 3 then none else some (dot v.name m.name))
def bottoms (s : Sch) : Option ByteArray := s.records.findSome? fun r => if fin s r.name then none else some r.name
def effects (s : Sch) : Option ByteArray := s.services.findSome? fun v => v.methods.findSome? fun m =>
  if (eqB m.effect kGive || eqB m.effect kTake || eqB m.effect kNote) && order s m.arg then none else some (dot v.name m.name)
def undoOk (s : Sch) (v : Srv) (m : Mth) : Bool := match method s v.name m.undo with
  | some u => eqB u.arg m.arg && empty u.undo && decide (u.result = 1) && contrary m.effect u.effect
  | none => false
def undos (s : Sch) : Option ByteArray := s.services.findSome? fun v => v.methods.findSome? fun m =>
  if empty m.undo || undoOk s v m then none else some (dot v.name m.name)
def sagas (s : Sch) : Option ByteArray := s.sagas.findSome? fun g => if order s g.arg then none else some g.name
/-! ### loops that look for the first -/
section
variable {α β : Type} {f : α → Option β} {l : List α}
theorem some_at {k : Nat} (hk : k < l.length) {y : β} (h : f l[k] = some y) : (l.drop k).findSome? f = some y := by
  rw [List.drop_eq_getElem_cons hk, List.findSome?_cons, h]
theorem none_at {k : Nat} (hk : k < l.length) (h : f l[k] = none) : (l.drop k).findSome? f = (l.drop (k + 1)).findSome? f := by
  rw [List.drop_eq_getElem_cons hk, List.findSome?_cons, h]
theorem none_end {k : Nat} (hk : l.length ≤ k) : (l.drop k).findSome? f = none := by rw [List.drop_of_length_le hk]; rfl
variable {p : α → Bool}
theorem find_at {k : Nat} (hk : k < l.length) (h : p l[k] = true) : (l.drop k).find? p = some l[k] := by
  rw [List.drop_eq_getElem_cons hk, List.find?_cons, h]
theorem find_no {k : Nat} (hk : k < l.length) (h : p l[k] = false) : (l.drop k).find? p = (l.drop (k + 1)).find? p := by
  rw [List.drop_eq_getElem_cons hk, List.find?_cons, h]
theorem find_end {k : Nat} (hk : l.length ≤ k) : (l.drop k).find? p = none := by rw [List.drop_of_length_le hk]; rfl
end
end Ck
set_option linter.unusedSimpArgs false
set_option linter.unusedVariables false
namespace Ck
open Ip
/-! ### rule 3: names that stand twice -/
def inB (l : List ByteArray) (n : ByteArray) : Bool := l.any fun m => eqB m n
theorem inB_iff {l : List ByteArray} {n : ByteArray} : inB l n = true ↔ n ∈ l := by
  unfold inB
  rw [List.any_eq_true]
  exact ⟨fun ⟨m, h1, h2⟩ => by rw [← eqB_iff.1 h2]; exact h1, fun h => ⟨n, h, eqB_iff.2 rfl⟩⟩
/-- The first of a list that stands ahead of itself. -/
def twice : List ByteArray → List ByteArray → Option ByteArray
  | _, [] => none
  | seen, p :: ps => if inB seen p then some p else twice (seen ++ [p]) ps
theorem twice_cons (seen : List ByteArray) (p : ByteArray) (ps : List ByteArray) : twice seen (p :: ps) = if inB seen p then some p else twice (seen ++ [p]) ps := rfl
theorem twice_none : ∀ (l seen : List ByteArray), twice seen l = none ↔ l.Nodup ∧ ∀ x ∈ l, x ∉ seen
  | [], seen => by simp [twice]
  | p :: ps, seen => by
    unfold twice
    cases h : inB seen p with
    | true =>
      have := inB_iff.1 h
      simp [this]
    | false =>
      have hn : p ∉ seen := fun e => by rw [inB_iff.2 e] at h; cases h
      simp only [Bool.false_eq_true, if_false]
      rw [twice_none ps (seen ++ [p]), List.nodup_cons]
      constructor
      · rintro ⟨h1, h2⟩
        refine ⟨⟨fun e => (h2 p e) (by simp), h1⟩, fun x hx => ?_⟩
        rcases List.mem_cons.1 hx with rfl | hx
        · exact hn
        · exact fun e => h2 x hx (by simp [e])
      · rintro ⟨⟨h1, h2⟩, h3⟩
        refine ⟨h2, fun x hx e => ?_⟩
        rcases List.mem_append.1 e with e | e
        · exact h3 x (List.mem_cons_of_mem _ hx) e
        · rw [List.mem_singleton.1 e] at hx; exact h1 hx
def decls (s : Sch) : List (ByteArray × List ByteArray) :=
  s.records.map (fun r => (r.name, r.fields.map (·.name))) ++ (s.services.map (fun v => (v.name, v.methods.map (·.name))) ++ s.sagas.map (fun g => (g.name, [])))
def doublesF : List ByteArray → List (ByteArray × List ByteArray) → Option ByteArray
  | _, [] => none
  | seen, d :: l => if inB seen d.1 then some d.1 else match twice [] d.2 with
    | some p => some (dot d.1 p)
    | none => doublesF (seen ++ [d.1]) l
def doubles (s : Sch) : Option ByteArray := doublesF [] (decls s)
theorem doublesF_cons (seen : List ByteArray) (d : ByteArray × List ByteArray) (l : List (ByteArray × List ByteArray)) : doublesF seen (d :: l) = if inB seen d.1 then some d.1 else match twice [] d.2 with
    | some p => some (dot d.1 p)
    | none => doublesF (seen ++ [d.1]) l := rfl
theorem doublesF_none : ∀ (l : List (ByteArray × List ByteArray)) (seen : List ByteArray), doublesF seen l = none ↔ (twice seen (l.map Prod.fst) = none ∧ ∀ d ∈ l, d.2.Nodup)
  | [], seen => by simp [doublesF, twice]
  | d :: l, seen => by
    have ht := twice_none d.2 []
    rw [List.map_cons, twice_cons, doublesF_cons]
    cases h : inB seen d.1 with
    | true => simp
    | false =>
      simp only [Bool.false_eq_true, if_false]
      cases hd : twice [] d.2 with
      | some p =>
        have : ¬ d.2.Nodup := fun e => by
          have := ht.2 ⟨e, fun x _ hx => by cases hx⟩
          rw [hd] at this; cases this
        simp [this]
      | none =>
        have h2 := (ht.1 hd).1
        simp only
        rw [doublesF_none l (seen ++ [d.1])]
        simp [h2]
theorem doubles_none {s : Sch} : doubles s = none ↔ ((decls s).map Prod.fst).Nodup ∧ ∀ d ∈ decls s, d.2.Nodup := by
  unfold doubles
  rw [doublesF_none, twice_none]
  simp
/-! ### rules 9 and 10 -/
def num (k : Nat) : ByteArray := Tk.bs ((Nat.toDigits 10 k).map fun c => UInt8.ofNat c.toNat)
def stepOk (s : Sch) (g : Sga) (x : Stp) : Bool := match method s x.service x.method with
  | some m => eqB m.arg g.arg && decide (0 ≤ x.at_) && decide (x.at_ ≤ 3)
  | none => false
def hasUndo (s : Sch) (x : Stp) : Bool := match method s x.service x.method with
  | some m => !empty m.undo
  | none => false
def steps9 (s : Sch) : Option ByteArray := s.sagas.findSome? fun g => g.steps.zipIdx.findSome? fun x => if stepOk s g x.1 then none else some (dot g.name (num x.2))
def steps10 (s : Sch) : Option ByteArray := s.sagas.findSome? fun g => g.steps.zipIdx.findSome? fun x => if x.2 + 1 = g.steps.length ∨ hasUndo s x.1 = true then none else some (dot g.name (num x.2))
/-- The ten rules, and the number of each. -/
def rules : List (Nat × (Sch → Option ByteArray)) := [(120, names), (135, counts), (130, doubles), (131, types), (132, bottoms), (134, effects), (133, undos), (240, sagas), (241, steps9), (133, steps10)]
def check (s : Sch) : ByteArray × Nat := ((rules.findSome? fun r => (r.2 s).map fun p => (p, r.1))).getD (⟨#[]⟩, 0)
/-- Every rule is kept. -/
def Ok (s : Sch) : Prop := ∀ r ∈ rules, r.2 s = none
theorem check_ok {s : Sch} : (check s).2 = 0 ↔ Ok s := by
  unfold check Ok
  constructor
  · intro h
    cases hf : rules.findSome? fun r => (r.2 s).map fun p => (p, r.1) with
    | none =>
      intro r hr
      have := List.findSome?_eq_none_iff.1 hf r hr
      cases hx : r.2 s with
      | none => rfl
      | some p => rw [hx] at this; cases this
    | some y =>
      rw [hf] at h
      obtain ⟨r, hr, hy⟩ := List.exists_of_findSome?_eq_some hf
      cases hx : r.2 s with
      | none => rw [hx] at hy; cases hy
      | some p =>
        rw [hx] at hy
        simp only [Option.map_some, Option.some.injEq] at hy
        subst hy
        exfalso
        have : r.1 ≠ 0 := by
          have hall : ∀ q ∈ rules.map Prod.fst, q ≠ 0 := by
            intro q hq
            simp only [rules, List.map_cons, List.map_nil, List.mem_cons, List.not_mem_nil, or_false] at hq
            omega
          exact hall _ (List.mem_map_of_mem hr)
        exact this h
  · intro h
    have : (rules.findSome? fun r => (r.2 s).map fun p => (p, r.1)) = none := List.findSome?_eq_none_iff.2 fun r hr => by rw [h r hr]; rfl
    rw [this]; rfl
theorem check_none {s : Sch} (h : Ok s) : check s = (⟨#[]⟩, 0) := by
  have : (rules.findSome? fun r => (r.2 s).map fun p => (p, r.1)) = none := List.findSome?_eq_none_iff.2 fun r hr => by rw [h r hr]; rfl
  unfold check; rw [this]; rfl
/-! ### without the last saga, the records turned about -/
def fewer (s : Sch) : Sch := ⟨s.name, s.records.reverse, s.services, s.sagas.dropLast⟩
theorem nodup_recs {s : Sch} (h : doubles s = none) : (s.records.map (·.name)).Nodup := by
  have h1 := (doubles_none.1 h).1
  unfold decls at h1
  rw [List.map_append] at h1
  have := (List.nodup_append.1 h1).1
  simpa [List.map_map, Function.comp_def] using this
theorem find_rev : ∀ (l : List Rcd) (n : ByteArray), (l.map (·.name)).Nodup → (l.reverse.find? fun r => eqB r.name n) = l.find? fun r => eqB r.name n
  | [], n, _ => rfl
  | r :: l, n, h => by
    rw [List.map_cons, List.nodup_cons] at h
    rw [List.reverse_cons, List.find?_append, find_rev l n h.2, List.find?_cons]
    cases he : eqB r.name n with
    | true =>
      have hn : (l.find? fun r => eqB r.name n) = none := List.find?_eq_none.2 fun x hx e => by
        have e1 := eqB_iff.1 e
        have e2 := eqB_iff.1 he
        exact h.1 (by rw [e2, ← e1]; exact List.mem_map_of_mem hx)
      rw [hn]
      simp [he]
    | false =>
      simp only [List.find?_cons, he]
      cases (l.find? fun r => eqB r.name n) <;> rfl
theorem find_fewer {s : Sch} (h : doubles s = none) : find (fewer s) = find s := by
  funext n
  exact find_rev s.records n (nodup_recs h)
section
variable {α β : Type} {f : α → Option β} {l : List α}
theorem none_rev (h : l.findSome? f = none) : l.reverse.findSome? f = none := List.findSome?_eq_none_iff.2 fun x hx => List.findSome?_eq_none_iff.1 h x (List.mem_reverse.1 hx)
theorem none_drop (h : l.findSome? f = none) : l.dropLast.findSome? f = none := List.findSome?_eq_none_iff.2 fun x hx => List.findSome?_eq_none_iff.1 h x ((List.dropLast_sublist _).subset hx)
theorem none_mem (h : l.findSome? f = none) {x : α} (hx : x ∈ l) : f x = none := List.findSome?_eq_none_iff.1 h x hx
end
theorem names_fewer {s : Sch} (h : names s = none) : names (fewer s) = none := by
  unfold names at h ⊢
  cases hn : Tk.name s.name with
  | false => rw [hn] at h; cases h
  | true =>
    rw [hn] at h
    simp only [if_true, Option.or_eq_none_iff] at h
    show (if Tk.name s.name = true then _ else _) = none
    rw [hn]
    simp only [if_true, Option.or_eq_none_iff]
    exact ⟨none_rev h.1, h.2.1, none_drop h.2.2⟩
theorem counts_fewer {s : Sch} (h : counts s = none) : counts (fewer s) = none := by
  unfold counts at h ⊢
  by_cases hc : s.records.length + s.services.length + s.sagas.length > 64
  · rw [if_pos hc] at h; cases h
  · rw [if_neg hc] at h
    have hc2 : ¬ (fewer s).records.length + (fewer s).services.length + (fewer s).sagas.length > 64 := by
      unfold fewer
      simp only [List.length_reverse, List.length_dropLast]
      omega
    rw [if_neg hc2]
    simp only [Option.or_eq_none_iff] at h ⊢
    exact ⟨none_rev h.1, h.2.1, none_drop h.2.2⟩
theorem doubles_fewer {s : Sch} (h : doubles s = none) : doubles (fewer s) = none := by
  rw [doubles_none] at h ⊢
  have hd : ∀ d ∈ decls (fewer s), d ∈ decls s := by
    intro d hd
    unfold decls fewer at hd
    unfold decls
    simp only [List.mem_append, List.mem_map, List.mem_reverse] at hd ⊢
    rcases hd with hd | hd | ⟨g, hg, e⟩
    · exact .inl hd
    · exact .inr (.inl hd)
    · exact .inr (.inr ⟨g, (List.dropLast_sublist _).subset hg, e⟩)
  refine ⟨?_, fun d hx => h.2 d (hd d hx)⟩
  have h1 := h.1
  unfold decls at h1
  unfold decls fewer
  simp only [List.map_append, List.map_reverse, List.map_dropLast] at h1 ⊢
  have hs : List.Sublist ((List.map Prod.fst (List.map (fun r => (r.name, r.fields.map (·.name))) s.records)).reverse ++ (List.map Prod.fst (List.map (fun v => (v.name, v.methods.map (·.name))) s.services) ++ (List.map Prod.fst (List.map (fun g => (g.name, ([] : List ByteArray))) s.sagas)).dropLast)) ((List.map Prod.fst (List.map (fun r => (r.name, r.fields.map (·.name))) s.records)).reverse ++ (List.map Prod.fst (List.map (fun v => (v.name, v.methods.map (·.name))) s.services) ++ (List.map Prod.fst (List.map (fun g => (g.name, ([] : List ByteArray))) s.sagas)))) :=
    List.Sublist.append (List.Sublist.refl _) (List.Sublist.append (List.Sublist.refl _) (List.dropLast_sublist _))
  exact hs.nodup (((List.reverse_perm _).append_right _).nodup_iff.2 h1)
theorem right_fewer {s : Sch} (h : doubles s = none) (t : List So) : right (fewer s) t = right s t := by
  unfold right lastOk; rw [find_fewer h]
theorem fn_fewer {s : Sch} (h : doubles s = none) : fn (fewer s) = fn s := by
  funext P n; unfold fn; rw [find_fewer h]
theorem lv_fewer {s : Sch} (h : doubles s = none) : ∀ k, lv (fewer s) k = lv s k
  | 0 => rfl
  | k + 1 => by show fn (fewer s) (lv (fewer s) k) = fn s (lv s k); rw [lv_fewer h k, fn_fewer h]
theorem fin_fewer {s : Sch} (h : doubles s = none) : fin (fewer s) = fin s := by
  unfold fin
  rw [lv_fewer h, show (fewer s).records.length = s.records.length from List.length_reverse]
theorem order_fewer {s : Sch} (h : doubles s = none) (n : ByteArray) : order (fewer s) n = order s n := by unfold order; rw [find_fewer h]
/-- A right schema is right without its last saga, and with its records turned about. -/
theorem Ok.fewer {s : Sch} (h : Ok s) : Ok (fewer s) := by
  have h3 : doubles s = none := h (130, doubles) (by simp [rules])
  intro r hr
  have hs := h r hr
  simp only [rules, List.mem_cons, List.not_mem_nil, or_false] at hr
  rcases hr with rfl | rfl | rfl | rfl | rfl | rfl | rfl | rfl | rfl | rfl
  · exact names_fewer hs
  · exact counts_fewer hs
  · exact doubles_fewer hs
  · have hs : types s = none := hs
    show types (Ck.fewer s) = none
    unfold types at hs ⊢
    simp only [right_fewer h3]
    simp only [Option.or_eq_none_iff] at hs ⊢
    exact ⟨none_rev hs.1, hs.2⟩
  · have hs : bottoms s = none := hs
    show bottoms (Ck.fewer s) = none
    unfold bottoms at hs ⊢
    simp only [fin_fewer h3]
    exact none_rev hs
  · have hs : effects s = none := hs
    show effects (Ck.fewer s) = none
    unfold effects at hs ⊢
    simp only [order_fewer h3]
    exact hs
  · exact hs
  · have hs : sagas s = none := hs
    show sagas (Ck.fewer s) = none
    unfold sagas at hs ⊢
    simp only [order_fewer h3]
    exact none_drop hs
  · exact none_drop (show steps9 s = none from hs)
  · exact none_drop (show steps10 s = none from hs)
/-! ### what a right schema's names are -/
theorem find_self {α : Type} (nm : α → ByteArray) : ∀ (l : List α), (l.map nm).Nodup → ∀ x ∈ l, l.find? (fun r => eqB (nm r) (nm x)) = some x
  | [], _, x, hx => by cases hx
  | r :: l, h, x, hx => by
    rw [List.map_cons, List.nodup_cons] at h
    rw [List.find?_cons]
    rcases List.mem_cons.1 hx with rfl | hx
    · rw [eqB_iff.2 rfl]
    · cases he : eqB (nm r) (nm x) with
      | true => exact absurd (by rw [eqB_iff.1 he]; exact List.mem_map_of_mem hx) h.1
      | false => exact find_self nm l h.2 x hx
theorem Ok.find {s : Sch} (h : Ok s) {r : Rcd} (hr : r ∈ s.records) : find s r.name = some r :=
  find_self (fun x : Rcd => x.name) s.records (nodup_recs (h (130, doubles) (by simp [rules]))) r hr
theorem Ok.saga {s : Sch} (h : Ok s) {g : Sga} (hg : g ∈ s.sagas) : saga s g.name = some g := by
  refine find_self (fun x : Sga => x.name) s.sagas ?_ g hg
  have h1 := (doubles_none.1 (h (130, doubles) (by simp [rules]))).1
  unfold decls at h1
  rw [List.map_append, List.map_append] at h1
  have := (List.nodup_append.1 (List.nodup_append.1 h1).2.1).2.1
  simpa [List.map_map, Function.comp_def] using this
theorem method_in {s : Sch} {a b : ByteArray} {m : Mth} (h : method s a b = some m) : ∃ v ∈ s.services, v.name = a ∧ m ∈ v.methods ∧ m.name = b := by
  unfold method service at h
  cases hv : s.services.find? fun v => eqB v.name a with
  | none => rw [hv] at h; cases h
  | some v =>
    rw [hv] at h
    have h : methodOf v b = some m := h
    exact ⟨v, List.mem_of_find?_eq_some hv, eqB_iff.1 (by simpa using List.find?_some hv), List.mem_of_find?_eq_some h, eqB_iff.1 (by simpa [methodOf] using List.find?_some h)⟩
/-- Each step's method there is, and takes what the saga takes; each but the last one's is undone by one that takes the same, is not undone itself, and does the contrary. -/
theorem Ok.step {s : Sch} (h : Ok s) {g : Sga} (hg : g ∈ s.sagas) {k : Nat} (hk : k < g.steps.length) : ∃ m, method s g.steps[k].service g.steps[k].method = some m ∧ m.arg = g.arg ∧
    (k + 1 ≠ g.steps.length → ∃ u, method s g.steps[k].service m.undo = some u ∧ u.arg = m.arg ∧ u.undo = ⟨#[]⟩ ∧ contrary m.effect u.effect = true) := by
  have h9 := none_mem (show steps9 s = none from h (241, steps9) (by simp [rules])) hg
  have h10 := none_mem (show steps10 s = none from h (133, steps10) (by simp [rules])) hg
  have h7 : undos s = none := h (133, undos) (by simp [rules])
  have hz : (g.steps[k], k) ∈ g.steps.zipIdx := by
    rw [List.mem_zipIdx_iff_getElem?]; simp [hk]
  have a9 := none_mem h9 hz
  have a10 := none_mem h10 hz
  simp only at a9 a10
  have b9 : stepOk s g g.steps[k] = true := by
    cases hb : stepOk s g g.steps[k] with
    | true => rfl
    | false => rw [hb] at a9; simp at a9
  unfold stepOk at b9
  cases hm : method s g.steps[k].service g.steps[k].method with
  | none => rw [hm] at b9; cases b9
  | some m =>
    rw [hm] at b9
    simp only [Bool.and_eq_true] at b9
    refine ⟨m, rfl, eqB_iff.1 b9.1.1, fun hlast => ?_⟩
    have b10 : hasUndo s g.steps[k] = true := by
      by_cases hb : k + 1 = g.steps.length ∨ hasUndo s g.steps[k] = true
      · rcases hb with e | e
        · exact absurd e hlast
        · exact e
      · rw [if_neg hb] at a10; cases a10
    unfold hasUndo at b10
    rw [hm] at b10
    simp only [Bool.not_eq_true'] at b10
    obtain ⟨v, hv, hvn, hmv, -⟩ := method_in hm
    have c := none_mem (none_mem h7 hv) hmv
    simp only [b10, Bool.false_or] at c
    have c2 : undoOk s v m = true := by
      cases hb : undoOk s v m with
      | true => rfl
      | false => rw [hb] at c; simp at c
    unfold undoOk at c2
    rw [hvn] at c2
    cases hu : method s g.steps[k].service m.undo with
    | none => rw [hu] at c2; cases c2
    | some u =>
      rw [hu] at c2
      simp only [Bool.and_eq_true] at c2
      exact ⟨u, rfl, eqB_iff.1 c2.1.1.1, eqB_iff.1 c2.1.1.2, c2.2⟩
/-- Contrary effects are both a note, or neither; and no effect but a note is its own contrary. -/
theorem contrary_note {a b : ByteArray} (h : contrary a b = true) : eqB a kNote = eqB b kNote ∧ (eqB a kNote = false → eqB b a = false) := by
  unfold contrary at h
  simp only [Bool.or_eq_true, Bool.and_eq_true] at h
  rcases h with (⟨h1, h2⟩ | ⟨h1, h2⟩) | ⟨h1, h2⟩ <;> rw [eqB_iff.1 h1, eqB_iff.1 h2] <;> decide
end Ck
set_option linter.unusedSimpArgs false
set_option linter.unusedVariables false
namespace Ck
open Ip
/-! ### what is finite: a set that grows -/
/-- The set behind one record. -/
def grow (L : List ByteArray) (r : Rcd) : List ByteArray := if got (inB L) r = true then (if inB L r.name = true then L else L ++ [r.name]) else L
theorem grow_pre (L : List ByteArray) (r : Rcd) : ∃ M, grow L r = L ++ M := by
  unfold grow
  split
  · split
    · exact ⟨[], by simp⟩
    · exact ⟨_, rfl⟩
  · exact ⟨[], by simp⟩
theorem fold_pre : ∀ (l : List Rcd) (L : List ByteArray), ∃ M, l.foldl grow L = L ++ M
  | [], L => ⟨[], by simp⟩
  | r :: l, L => by
    obtain ⟨M, h⟩ := grow_pre L r
    obtain ⟨M', h'⟩ := fold_pre l (grow L r)
    exact ⟨M ++ M', by rw [List.foldl_cons, h', h, List.append_assoc]⟩
theorem grow_nodup {L : List ByteArray} (r : Rcd) (h : L.Nodup) : (grow L r).Nodup := by
  unfold grow
  split
  · split
    · exact h
    · rename_i hn
      have : r.name ∉ L := fun e => hn (inB_iff.2 e)
      exact List.nodup_append.2 ⟨h, by simp, fun a ha b hb e => this (by rw [List.mem_singleton.1 hb] at e; rw [← e]; exact ha)⟩
  · exact h
/-- The names of records alone. -/
def Among (s : Sch) (L : List ByteArray) : Prop := L.Nodup ∧ ∀ n ∈ L, n ∈ s.records.map (·.name)
theorem Among.nil (s : Sch) : Among s [] := ⟨List.nodup_nil, fun n hn => by cases hn⟩
theorem Among.grow {s : Sch} {L : List ByteArray} (h : Among s L) {r : Rcd} (hr : r ∈ s.records) : Among s (grow L r) := by
  refine ⟨grow_nodup r h.1, fun n hn => ?_⟩
  unfold Ck.grow at hn
  split at hn
  · split at hn
    · exact h.2 n hn
    · rcases List.mem_append.1 hn with e | e
      · exact h.2 n e
      · rw [List.mem_singleton.1 e]; exact List.mem_map_of_mem hr
  · exact h.2 n hn
open Classical in
theorem nodup_len {α : Type} : ∀ (L M : List α), L.Nodup → (∀ x ∈ L, x ∈ M) → L.length ≤ M.length
  | [], M, _, _ => Nat.zero_le _
  | x :: L, M, h, hs => by
    rw [List.nodup_cons] at h
    have hx := hs x (by simp)
    have h1 := nodup_len L (M.erase x) h.2 fun y hy => by
      have hy2 := hs y (List.mem_cons_of_mem _ hy)
      exact (List.mem_erase_of_ne (fun e => h.1 (by rw [← e]; exact hy))).2 hy2
    rw [List.length_erase_of_mem hx] at h1
    have : 0 < M.length := List.length_pos_of_mem hx
    simp only [List.length_cons]
    omega
theorem Among.len {s : Sch} {L : List ByteArray} (h : Among s L) : L.length ≤ s.records.length := by
  have := nodup_len L _ h.1 h.2
  simpa using this
/-- All of it is finite. -/
def Safe (s : Sch) (L : List ByteArray) : Prop := Le (inB L) (fin s)
theorem Safe.nil (s : Sch) : Safe s [] := fun n h => by cases h
theorem Safe.grow {s : Sch} {L : List ByteArray} (h : Safe s L) {r : Rcd} (hr : find s r.name = some r) : Safe s (grow L r) := by
  intro n hn
  unfold Ck.grow at hn
  split at hn
  · rename_i hg
    split at hn
    · exact h n hn
    · rcases List.mem_append.1 (inB_iff.1 hn) with e | e
      · exact h n (inB_iff.2 e)
      · rw [List.mem_singleton.1 e]
        refine fin_step s h _ ?_
        unfold fn
        rw [hr]
        exact hg
  · exact h n hn
/-- A round that adds nothing has met all that is finite. -/
theorem pass_end {s : Sch} {L : List ByteArray} (hs : Safe s L) (he : (s.records.foldl grow L).length = L.length) : inB L = fin s := by
  have key : ∀ (l : List Rcd), (l.foldl grow L).length = L.length → ∀ r ∈ l, got (inB L) r = true → inB L r.name = true := by
    intro l
    induction l with
    | nil => intro _ r hr; cases hr
    | cons x l ih =>
      intro hl r hr hg
      rw [List.foldl_cons] at hl
      obtain ⟨M, hM⟩ := grow_pre L x
      obtain ⟨M', hM'⟩ := fold_pre l (grow L x)
      have hz : grow L x = L := by
        rw [hM', hM] at hl
        simp only [List.length_append] at hl
        have : M = [] := List.length_eq_zero_iff.1 (by omega)
        rw [hM, this, List.append_nil]
      rw [hz] at hl
      rcases List.mem_cons.1 hr with rfl | hr
      · unfold grow at hz
        rw [if_pos hg] at hz
        by_cases hi : inB L r.name = true
        · exact hi
        · rw [if_neg hi] at hz
          have := congrArg List.length hz
          simp at this
      · exact ih hl r hr hg
  refine fin_eq s hs fun n hn => ?_
  unfold fn at hn
  cases hf : find s n with
  | none => rw [hf] at hn; cases hn
  | some r =>
    rw [hf] at hn
    obtain ⟨h1, rfl⟩ := find_name hf
    exact key s.records he r h1 hn
/-- How many fields of a record have a value, and when it has one. -/
def withs (P : ByteArray → Bool) (l : List Fld) : Nat := l.countP fun f => has P f.type
theorem got_withs (P : ByteArray → Bool) (r : Rcd) : got P r = if r.choice then decide (0 < withs P r.fields) else decide (withs P r.fields = r.fields.length) := by
  unfold got withs
  split
  · rw [Bool.eq_iff_iff, List.any_eq_true, decide_eq_true_iff, List.countP_pos_iff]
  · rw [Bool.eq_iff_iff, List.all_eq_true, decide_eq_true_iff, List.countP_eq_length]
theorem withs_at {P : ByteArray → Bool} {l : List Fld} {k : Nat} (hk : k < l.length) : withs P (l.take (k + 1)) = withs P (l.take k) + if has P l[k].type then 1 else 0 := by
  unfold withs
  rw [List.take_succ_eq_append_getElem hk, List.countP_append]
  simp [List.countP_cons]
/-! ### order records by the first field of a name -/
def fieldOf (r : Rcd) (n : ByteArray) : Option Fld := r.fields.find? fun f => eqB f.name n
/-- This sort alone, without a name. -/
def just (t : List So) (k : Nat) : Bool := match t with
  | [x] => decide (x.kind = k) && empty x.name
  | _ => false
/-- That field has this sort alone, without a name. -/
def hasF (r : Rcd) (n : ByteArray) (k : Nat) : Bool := match fieldOf r n with
  | some f => just f.type k
  | none => false
def isOrder (s : Sch) (n : ByteArray) : Bool := match find s n with
  | some r => !r.choice && hasF r nAccount 4 && hasF r nAmount 3
  | none => false
/-- Names stand once, and all types are right. -/
structure Four (s : Sch) : Prop where
  d : doubles s = none
  t : types s = none
theorem Four.right {s : Sch} (h : Four s) {r : Rcd} (hr : r ∈ s.records) {f : Fld} (hf : f ∈ r.fields) : Ck.right s f.type = true := by
  have h1 := h.t
  unfold types at h1
  simp only [Option.or_eq_none_iff] at h1
  have h2 := none_mem (none_mem h1.1 hr) hf
  cases hb : Ck.right s f.type with
  | true => rfl
  | false => rw [hb] at h2; simp at h2
theorem Four.fields {s : Sch} (h : Four s) {r : Rcd} (hr : r ∈ s.records) : (r.fields.map (·.name)).Nodup := by
  have := (doubles_none.1 h.d).2 (r.name, r.fields.map (·.name)) (by
    unfold decls
    exact List.mem_append_left _ (List.mem_map_of_mem hr))
  exact this
theorem Four.methods {s : Sch} (h : Four s) {v : Srv} (hv : v ∈ s.services) : (v.methods.map (·.name)).Nodup := by
  have := (doubles_none.1 h.d).2 (v.name, v.methods.map (·.name)) (by
    unfold decls
    exact List.mem_append_right _ (List.mem_append_left _ (List.mem_map_of_mem hv)))
  exact this
theorem Four.find {s : Sch} (h : Four s) {r : Rcd} (hr : r ∈ s.records) : Ck.find s r.name = some r :=
  find_self (fun x : Rcd => x.name) s.records (nodup_recs h.d) r hr
theorem Four.service {s : Sch} (h : Four s) {v : Srv} (hv : v ∈ s.services) : Ck.service s v.name = some v := by
  refine find_self (fun x : Srv => x.name) s.services ?_ v hv
  have h1 := (doubles_none.1 h.d).1
  unfold decls at h1
  rw [List.map_append, List.map_append] at h1
  have := (List.nodup_append.1 (List.nodup_append.1 h1).2.1).1
  simpa [List.map_map, Function.comp_def] using this
theorem type_some {s : Sch} {t : List So} (h : right s t = true) : ∃ x l, t = x :: l := by
  unfold right at h
  simp only [Bool.and_eq_true, decide_eq_true_iff] at h
  cases t with
  | nil => simp at h
  | cons x l => exact ⟨x, l, rfl⟩
theorem alone_hasF {s : Sch} (h : Four s) {r : Rcd} (hr : r ∈ s.records) (n : ByteArray) {k : Nat} (hk : k = 3 ∨ k = 4) : (r.fields.any fun f => alone f n k) = hasF r n k := by
  have hn := h.fields hr
  rw [Bool.eq_iff_iff, List.any_eq_true]
  unfold hasF
  constructor
  · rintro ⟨f, hf, ha⟩
    have hself := find_self (fun x : Fld => x.name) r.fields hn f hf
    unfold alone at ha
    split at ha
    · rename_i x ht
      simp only [Bool.and_eq_true, decide_eq_true_iff] at ha
      have e := eqB_iff.1 ha.1
      have hx : fieldOf r n = some f := by rw [← e]; exact hself
      rw [hx]
      show just f.type k = true
      have hr1 := h.right hr hf
      rw [ht] at hr1 ⊢
      unfold Ck.right lastOk at hr1
      simp only [Bool.and_eq_true, List.getLast?_singleton] at hr1
      have h2 := hr1.2
      rw [if_neg (by omega)] at h2
      simp only [Bool.and_eq_true] at h2
      show (decide (x.kind = k) && empty x.name) = true
      rw [h2.2, Bool.and_true, decide_eq_true_iff]
      exact ha.2
    · cases ha
  · cases hf : fieldOf r n with
    | none => intro h; cases h
    | some f =>
      show just f.type k = true → _
      intro ht
      refine ⟨f, List.mem_of_find?_eq_some hf, ?_⟩
      have hq : eqB f.name n = true := by simpa using List.find?_some hf
      unfold just at ht
      unfold alone
      split at ht
      · rename_i x hx
        simp only [Bool.and_eq_true] at ht
        (try rw [hx])
        simp [hq, of_decide_eq_true ht.1]
      · cases ht
theorem Four.order {s : Sch} (h : Four s) (n : ByteArray) : Ck.order s n = isOrder s n := by
  unfold Ck.order isOrder
  cases hf : Ck.find s n with
  | none => rfl
  | some r =>
    obtain ⟨hr, -⟩ := find_name hf
    show orderR r = _
    unfold orderR
    rw [alone_hasF h hr _ (.inr rfl), alone_hasF h hr _ (.inl rfl)]
/-! ### undos -/
/-- The contrary of an effect, empty if it is none. -/
def contraryOf (a : ByteArray) : ByteArray := if eqB a kGive then kTake else if eqB a kTake then kGive else if eqB a kNote then kNote else ⟨#[]⟩
def isEffect (a : ByteArray) : Bool := eqB a kGive || eqB a kTake || eqB a kNote
theorem contrary_is {a : ByteArray} (h : isEffect a = true) (b : ByteArray) : contrary a b = eqB b (contraryOf a) := by
  unfold isEffect at h
  simp only [Bool.or_eq_true] at h
  unfold contrary contraryOf
  rcases h with (h | h) | h
  · obtain rfl := eqB_iff.1 h
    have h1 : eqB kGive kGive = true := eqB_iff.2 rfl
    have h2 : eqB kGive kTake = false := by decide
    have h3 : eqB kGive kNote = false := by decide
    simp [h1, h2, h3]
  · obtain rfl := eqB_iff.1 h
    have h1 : eqB kTake kGive = false := by decide
    have h2 : eqB kTake kTake = true := eqB_iff.2 rfl
    have h3 : eqB kTake kNote = false := by decide
    simp [h1, h2, h3]
  · obtain rfl := eqB_iff.1 h
    have h1 : eqB kNote kGive = false := by decide
    have h2 : eqB kNote kTake = false := by decide
    have h3 : eqB kNote kNote = true := eqB_iff.2 rfl
    simp [h1, h2, h3]
theorem empty_contraryOf (a : ByteArray) : empty (contraryOf a) = !isEffect a := by
  unfold contraryOf isEffect empty
  have h1 : eqB kTake ⟨#[]⟩ = false := by decide
  have h2 : eqB kGive ⟨#[]⟩ = false := by decide
  have h3 : eqB kNote ⟨#[]⟩ = false := by decide
  have h4 : eqB ⟨#[]⟩ ⟨#[]⟩ = true := by decide
  split
  · rename_i h; rw [h, h1]; rfl
  · rename_i h
    have h : eqB a kGive = false := by simpa using h
    split
    · rename_i h'; rw [h, h', h2]; rfl
    · rename_i h'
      have h' : eqB a kTake = false := by simpa using h'
      split
      · rename_i h''; rw [h, h', h'', h3]; rfl
      · rename_i h''
        have h'' : eqB a kNote = false := by simpa using h''
        rw [h, h', h'', h4]; rfl
def undone (v : Srv) (m : Mth) : Bool := match methodOf v m.undo with
  | some u => eqB u.arg m.arg && empty u.undo && decide (u.result = 1) && eqB u.effect (contraryOf m.effect)
  | none => false
theorem Four.undo {s : Sch} (h : Four s) (he : effects s = none) {v : Srv} (hv : v ∈ s.services) {m : Mth} (hm : m ∈ v.methods) : undoOk s v m = undone v m := by
  unfold undoOk undone method
  rw [h.service hv]
  show (match methodOf v m.undo with
    | some u => eqB u.arg m.arg && empty u.undo && decide (u.result = 1) && contrary m.effect u.effect
    | none => false) = _
  have h1 := none_mem (none_mem (show effects s = none from he) hv) hm
  have h2 : isEffect m.effect = true := by
    unfold isEffect
    cases hb : (eqB m.effect kGive || eqB m.effect kTake || eqB m.effect kNote) with
    | true => rfl
    | false => rw [hb] at h1; simp at h1
  cases methodOf v m.undo with
  | none => rfl
  | some u => simp only [contrary_is h2]
end Ck
set_option linter.unusedSimpArgs false
set_option linter.unusedVariables false
namespace Ck
open Ip
def SmF (f : Fld) : Prop := f.name.size ≤ 200 ∧ f.type.length ≤ 40 ∧ ∀ x ∈ f.type, x.name.size ≤ 200
def SmR (r : Rcd) : Prop := r.name.size ≤ 200 ∧ r.fields.length ≤ 40 ∧ ∀ f ∈ r.fields, SmF f
def SmM (m : Mth) : Prop := m.name.size ≤ 200 ∧ m.arg.size ≤ 200 ∧ m.effect.size ≤ 200 ∧ m.undo.size ≤ 200
def SmV (v : Srv) : Prop := v.name.size ≤ 200 ∧ v.methods.length ≤ 40 ∧ ∀ m ∈ v.methods, SmM m
def SmP (p : Stp) : Prop := p.service.size ≤ 200 ∧ p.method.size ≤ 200
def SmG (g : Sga) : Prop := g.name.size ≤ 200 ∧ g.arg.size ≤ 200 ∧ g.steps.length ≤ 40 ∧ ∀ p ∈ g.steps, SmP p
/-- Few and short parts. -/
structure Small (s : Sch) : Prop where
  name : s.name.size ≤ 200
  nr : s.records.length ≤ 100
  ns : s.services.length ≤ 100
  ng : s.sagas.length ≤ 100
  r : ∀ r ∈ s.records, SmR r
  v : ∀ v ∈ s.services, SmV v
  g : ∀ g ∈ s.sagas, SmG g
/-! ### sorts, one beside the other -/
def eqSo (x y : So) : Bool := decide (x.kind = y.kind) && eqB x.name y.name
def sameL : List So → List So → Bool
  | [], [] => true
  | x :: l, y :: m => eqSo x y && sameL l m
  | _, _ => false
theorem sameL_len : ∀ {l m : List So}, l.length ≠ m.length → sameL l m = false
  | [], [], h => absurd rfl h
  | x :: l, [], _ => rfl
  | [], y :: m, _ => rfl
  | x :: l, y :: m, h => by
    show (eqSo x y && sameL l m) = false
    rw [sameL_len (l := l) (m := m) (fun e => h (by simp [e])), Bool.and_false]
theorem sameL_at {l m : List So} {k : Nat} (h1 : k < l.length) (h2 : k < m.length) : sameL (l.drop k) (m.drop k) = (eqSo l[k] m[k] && sameL (l.drop (k + 1)) (m.drop (k + 1))) := by
  rw [List.drop_eq_getElem_cons h1, List.drop_eq_getElem_cons h2]; rfl
theorem sameL_just (t : List So) (k : Nat) : sameL t [⟨k, ⟨#[]⟩⟩] = just t k := by
  match t with
  | [] => rfl
  | [x] => show (eqSo x ⟨k, ⟨#[]⟩⟩ && true) = _; rw [Bool.and_true]; rfl
  | x :: y :: l => show (eqSo x ⟨k, ⟨#[]⟩⟩ && false) = false; rw [Bool.and_false]
/-! ### a type's sorts -/
def headB (x : So) : Bool := (decide (x.kind = 5) || decide (x.kind = 6)) && empty x.name
def lastB (s : Sch) (x : So) : Bool := if x.kind = 7 then (find s x.name).isSome else decide (1 ≤ x.kind) && decide (x.kind ≤ 4) && empty x.name
theorem right_len {s : Sch} {t : List So} (h : t.length = 0 ∨ 12 < t.length) : right s t = false := by
  unfold right
  rcases h with h | h
  · rw [show decide (1 ≤ t.length) = false by rw [decide_eq_false_iff_not]; omega]; rfl
  · rw [show decide (t.length ≤ 12) = false by rw [decide_eq_false_iff_not]; omega]; simp
theorem right_is {s : Sch} {t : List So} (h0 : t.length ≠ 0) (h1 : t.length ≤ 12) : right s t = ((t.take (t.length - 1)).all headB && lastB s (t[t.length - 1]'(by omega))) := by
  unfold right heads lastOk
  rw [show decide (1 ≤ t.length) = true by rw [decide_eq_true_iff]; omega, show decide (t.length ≤ 12) = true by rw [decide_eq_true_iff]; omega, List.dropLast_eq_take, List.getLast?_eq_getElem?, List.getElem?_eq_getElem (by omega)]
  rfl
theorem right_n {s : Sch} {t : List So} {n : Nat} {x : So} (hn : t.length = n + 1) (h1 : n < 12) (hx : t[n]? = some x) : right s t = ((t.take n).all headB && lastB s x) := by
  rw [right_is (by omega) (by omega)]
  simp only [hn, Nat.add_sub_cancel]
  rw [show t[n] = x from (List.getElem_eq_iff _).2 hx]
theorem all_stop {α : Type} {p : α → Bool} {l : List α} {k n : Nat} {x : α} (hx : l[k]? = some x) (hn : k < n) (h : p x = false) : (l.take n).all p = false := by
  rw [List.all_eq_false]
  exact ⟨x, List.mem_iff_getElem?.2 ⟨k, by rw [List.getElem?_take, if_pos hn]; exact hx⟩, by rw [h]; decide⟩
theorem all_done {α : Type} {p : α → Bool} {l : List α} {n : Nat} (h : ∀ j x, l[j]? = some x → j < n → p x = true) : (l.take n).all p = true := by
  rw [List.all_eq_true]
  intro x hx
  obtain ⟨j, hj⟩ := List.mem_iff_getElem?.1 hx
  rw [List.getElem?_take] at hj
  split at hj
  · exact h j x hj (by assumption)
  · cases hj
end Ck
