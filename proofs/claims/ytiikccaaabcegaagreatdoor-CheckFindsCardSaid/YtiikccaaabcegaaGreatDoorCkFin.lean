/-
  Plain facts on how the program reckons what its rules ask: what is finite by a set of names that grows, order records by the first field of a name, an undo within its service. No program. Conditions: those in the theorems.
-/
import Derived.Test.YtiikccaaabcegaaGreatDoorCkOk
set_option linter.unusedSimpArgs false
set_option linter.unusedVariables false
namespace Ck
open Ip
/-! ### what is finite: a set that grows -/
/-- The set behind one record. -/
def grow (L : List ByteArray) (r : Rcd) : List ByteArray := if got (inB L) r = true then (if inB L r.name = true then L else L ++ [r.name]) else L
theorem grow_pre (L : List ByteArray) (r : Rcd) : ∃ M, grow L r = L ++ M := by
  unfold grow
  split
  · split
    · exact ⟨[], by simp⟩
    · exact ⟨_, rfl⟩
  · exact ⟨[], by simp⟩
theorem fold_pre : ∀ (l : List Rcd) (L : List ByteArray), ∃ M, l.foldl grow L = L ++ M
  | [], L => ⟨[], by simp⟩
  | r :: l, L => by
    obtain ⟨M, h⟩ := grow_pre L r
    obtain ⟨M', h'⟩ := fold_pre l (grow L r)
    exact ⟨M ++ M', by rw [List.foldl_cons, h', h, List.append_assoc]⟩
theorem grow_nodup {L : List ByteArray} (r : Rcd) (h : L.Nodup) : (grow L r).Nodup := by
  unfold grow
  split
  · split
    · exact h
    · rename_i hn
      have : r.name ∉ L := fun e => hn (inB_iff.2 e)
      exact List.nodup_append.2 ⟨h, by simp, fun a ha b hb e => this (by rw [List.mem_singleton.1 hb] at e; rw [← e]; exact ha)⟩
  · exact h
/-- The names of records alone. -/
def Among (s : Sch) (L : List ByteArray) : Prop := L.Nodup ∧ ∀ n ∈ L, n ∈ s.records.map (·.name)
theorem Among.nil (s : Sch) : Among s [] := ⟨List.nodup_nil, fun n hn => by cases hn⟩
theorem Among.grow {s : Sch} {L : List ByteArray} (h : Among s L) {r : Rcd} (hr : r ∈ s.records) : Among s (grow L r) := by
  refine ⟨grow_nodup r h.1, fun n hn => ?_⟩
  unfold Ck.grow at hn
  split at hn
  · split at hn
    · exact h.2 n hn
    · rcases List.mem_append.1 hn with e | e
      · exact h.2 n e
      · rw [List.mem_singleton.1 e]; exact List.mem_map_of_mem hr
  · exact h.2 n hn
open Classical in
theorem nodup_len {α : Type} : ∀ (L M : List α), L.Nodup → (∀ x ∈ L, x ∈ M) → L.length ≤ M.length
  | [], M, _, _ => Nat.zero_le _
  | x :: L, M, h, hs => by
    rw [List.nodup_cons] at h
    have hx := hs x (by simp)
    have h1 := nodup_len L (M.erase x) h.2 fun y hy => by
      have hy2 := hs y (List.mem_cons_of_mem _ hy)
      exact (List.mem_erase_of_ne (fun e => h.1 (by rw [← e]; exact hy))).2 hy2
    rw [List.length_erase_of_mem hx] at h1
    have : 0 < M.length := List.length_pos_of_mem hx
    simp only [List.length_cons]
    omega
theorem Among.len {s : Sch} {L : List ByteArray} (h : Among s L) : L.length ≤ s.records.length := by
  have := nodup_len L _ h.1 h.2
  simpa using this
/-- All of it is finite. -/
def Safe (s : Sch) (L : List ByteArray) : Prop := Le (inB L) (fin s)
theorem Safe.nil (s : Sch) : Safe s [] := fun n h => by cases h
theorem Safe.grow {s : Sch} {L : List ByteArray} (h : Safe s L) {r : Rcd} (hr : find s r.name = some r) : Safe s (grow L r) := by
  intro n hn
  unfold Ck.grow at hn
  split at hn
  · rename_i hg
    split at hn
    · exact h n hn
    · rcases List.mem_append.1 (inB_iff.1 hn) with e | e
      · exact h n (inB_iff.2 e)
      · rw [List.mem_singleton.1 e]
        refine fin_step s h _ ?_
        unfold fn
        rw [hr]
        exact hg
  · exact h n hn
/-- A round that adds nothing has met all that is finite. -/
theorem pass_end {s : Sch} {L : List ByteArray} (hs : Safe s L) (he : (s.records.foldl grow L).length = L.length) : inB L = fin s := by
  have key : ∀ (l : List Rcd), (l.foldl grow L).length = L.length → ∀ r ∈ l, got (inB L) r = true → inB L r.name = true := by
    intro l
    induction l with
    | nil => intro _ r hr; cases hr
    | cons x l ih =>
      intro hl r hr hg
      rw [List.foldl_cons] at hl
      obtain ⟨M, hM⟩ := grow_pre L x
      obtain ⟨M', hM'⟩ := fold_pre l (grow L x)
      have hz : grow L x = L := by
        rw [hM', hM] at hl
        simp only [List.length_append] at hl
        have : M = [] := List.length_eq_zero_iff.1 (by omega)
        rw [hM, this, List.append_nil]
      rw [hz] at hl
      rcases List.mem_cons.1 hr with rfl | hr
      · unfold grow at hz
        rw [if_pos hg] at hz
        by_cases hi : inB L r.name = true
        · exact hi
        · rw [if_neg hi] at hz
          have := congrArg List.length hz
          simp at this
      · exact ih hl r hr hg
  refine fin_eq s hs fun n hn => ?_
  unfold fn at hn
  cases hf : find s n with
  | none => rw [hf] at hn; cases hn
  | some r =>
    rw [hf] at hn
    obtain ⟨h1, rfl⟩ := find_name hf
    exact key s.records he r h1 hn
/-- How many fields of a record have a value, and when it has one. -/
def withs (P : ByteArray → Bool) (l : List Fld) : Nat := l.countP fun f => has P f.type
theorem got_withs (P : ByteArray → Bool) (r : Rcd) : got P r = if r.choice then decide (0 < withs P r.fields) else decide (withs P r.fields = r.fields.length) := by
  unfold got withs
  split
  · rw [Bool.eq_iff_iff, List.any_eq_true, decide_eq_true_iff, List.countP_pos_iff]
  · rw [Bool.eq_iff_iff, List.all_eq_true, decide_eq_true_iff, List.countP_eq_length]
theorem withs_at {P : ByteArray → Bool} {l : List Fld} {k : Nat} (hk : k < l.length) : withs P (l.take (k + 1)) = withs P (l.take k) + if has P l[k].type then 1 else 0 := by
  unfold withs
  rw [List.take_succ_eq_append_getElem hk, List.countP_append]
  simp [List.countP_cons]
/-! ### order records by the first field of a name -/
def fieldOf (r : Rcd) (n : ByteArray) : Option Fld := r.fields.find? fun f => eqB f.name n
/-- This sort alone, without a name. -/
def just (t : List So) (k : Nat) : Bool := match t with
  | [x] => decide (x.kind = k) && empty x.name
  | _ => false
/-- That field has this sort alone, without a name. -/
def hasF (r : Rcd) (n : ByteArray) (k : Nat) : Bool := match fieldOf r n with
  | some f => just f.type k
  | none => false
def isOrder (s : Sch) (n : ByteArray) : Bool := match find s n with
  | some r => !r.choice && hasF r nAccount 4 && hasF r nAmount 3
  | none => false
/-- Names stand once, and all types are right. -/
structure Four (s : Sch) : Prop where
  d : doubles s = none
  t : types s = none
theorem Four.right {s : Sch} (h : Four s) {r : Rcd} (hr : r ∈ s.records) {f : Fld} (hf : f ∈ r.fields) : Ck.right s f.type = true := by
  have h1 := h.t
  unfold types at h1
  simp only [Option.or_eq_none_iff] at h1
  have h2 := none_mem (none_mem h1.1 hr) hf
  cases hb : Ck.right s f.type with
  | true => rfl
  | false => rw [hb] at h2; simp at h2
theorem Four.fields {s : Sch} (h : Four s) {r : Rcd} (hr : r ∈ s.records) : (r.fields.map (·.name)).Nodup := by
  have := (doubles_none.1 h.d).2 (r.name, r.fields.map (·.name)) (by
    unfold decls
    exact List.mem_append_left _ (List.mem_map_of_mem hr))
  exact this
theorem Four.methods {s : Sch} (h : Four s) {v : Srv} (hv : v ∈ s.services) : (v.methods.map (·.name)).Nodup := by
  have := (doubles_none.1 h.d).2 (v.name, v.methods.map (·.name)) (by
    unfold decls
    exact List.mem_append_right _ (List.mem_append_left _ (List.mem_map_of_mem hv)))
  exact this
theorem Four.find {s : Sch} (h : Four s) {r : Rcd} (hr : r ∈ s.records) : Ck.find s r.name = some r :=
  find_self (fun x : Rcd => x.name) s.records (nodup_recs h.d) r hr
theorem Four.service {s : Sch} (h : Four s) {v : Srv} (hv : v ∈ s.services) : Ck.service s v.name = some v := by
  refine find_self (fun x : Srv => x.name) s.services ?_ v hv
  have h1 := (doubles_none.1 h.d).1
  unfold decls at h1
  rw [List.map_append, List.map_append] at h1
  have := (List.nodup_append.1 (List.nodup_append.1 h1).2.1).1
  simpa [List.map_map, Function.comp_def] using this
theorem type_some {s : Sch} {t : List So} (h : right s t = true) : ∃ x l, t = x :: l := by
  unfold right at h
  simp only [Bool.and_eq_true, decide_eq_true_iff] at h
  cases t with
  | nil => simp at h
  | cons x l => exact ⟨x, l, rfl⟩
theorem alone_hasF {s : Sch} (h : Four s) {r : Rcd} (hr : r ∈ s.records) (n : ByteArray) {k : Nat} (hk : k = 3 ∨ k = 4) : (r.fields.any fun f => alone f n k) = hasF r n k := by
  have hn := h.fields hr
  rw [Bool.eq_iff_iff, List.any_eq_true]
  unfold hasF
  constructor
  · rintro ⟨f, hf, ha⟩
    have hself := find_self (fun x : Fld => x.name) r.fields hn f hf
    unfold alone at ha
    split at ha
    · rename_i x ht
      simp only [Bool.and_eq_true, decide_eq_true_iff] at ha
      have e := eqB_iff.1 ha.1
      have hx : fieldOf r n = some f := by rw [← e]; exact hself
      rw [hx]
      show just f.type k = true
      have hr1 := h.right hr hf
      rw [ht] at hr1 ⊢
      unfold Ck.right lastOk at hr1
      simp only [Bool.and_eq_true, List.getLast?_singleton] at hr1
      have h2 := hr1.2
      rw [if_neg (by omega)] at h2
      simp only [Bool.and_eq_true] at h2
      show (decide (x.kind = k) && empty x.name) = true
      rw [h2.2, Bool.and_true, decide_eq_true_iff]
      exact ha.2
    · cases ha
  · cases hf : fieldOf r n with
    | none => intro h; cases h
    | some f =>
      show just f.type k = true → _
      intro ht
      refine ⟨f, List.mem_of_find?_eq_some hf, ?_⟩
      have hq : eqB f.name n = true := by simpa using List.find?_some hf
      unfold just at ht
      unfold alone
      split at ht
      · rename_i x hx
        simp only [Bool.and_eq_true] at ht
        rw [hx]
        simp [hq, of_decide_eq_true ht.1]
      · cases ht
theorem Four.order {s : Sch} (h : Four s) (n : ByteArray) : Ck.order s n = isOrder s n := by
  unfold Ck.order isOrder
  cases hf : Ck.find s n with
  | none => rfl
  | some r =>
    obtain ⟨hr, -⟩ := find_name hf
    show orderR r = _
    unfold orderR
    rw [alone_hasF h hr _ (.inr rfl), alone_hasF h hr _ (.inl rfl)]
/-! ### undos -/
/-- The contrary of an effect, empty if it is none. -/
def contraryOf (a : ByteArray) : ByteArray := if eqB a kGive then kTake else if eqB a kTake then kGive else if eqB a kNote then kNote else ⟨#[]⟩
def isEffect (a : ByteArray) : Bool := eqB a kGive || eqB a kTake || eqB a kNote
theorem contrary_is {a : ByteArray} (h : isEffect a = true) (b : ByteArray) : contrary a b = eqB b (contraryOf a) := by
  unfold isEffect at h
  simp only [Bool.or_eq_true] at h
  unfold contrary contraryOf
  rcases h with (h | h) | h
  · obtain rfl := eqB_iff.1 h
    have h1 : eqB kGive kGive = true := eqB_iff.2 rfl
    have h2 : eqB kGive kTake = false := by decide
    have h3 : eqB kGive kNote = false := by decide
    simp [h1, h2, h3]
  · obtain rfl := eqB_iff.1 h
    have h1 : eqB kTake kGive = false := by decide
    have h2 : eqB kTake kTake = true := eqB_iff.2 rfl
    have h3 : eqB kTake kNote = false := by decide
    simp [h1, h2, h3]
  · obtain rfl := eqB_iff.1 h
    have h1 : eqB kNote kGive = false := by decide
    have h2 : eqB kNote kTake = false := by decide
    have h3 : eqB kNote kNote = true := eqB_iff.2 rfl
    simp [h1, h2, h3]
theorem empty_contraryOf (a : ByteArray) : empty (contraryOf a) = !isEffect a := by
  unfold contraryOf isEffect empty
  have h1 : eqB kTake ⟨#[]⟩ = false := by decide
  have h2 : eqB kGive ⟨#[]⟩ = false := by decide
  have h3 : eqB kNote ⟨#[]⟩ = false := by decide
  have h4 : eqB ⟨#[]⟩ ⟨#[]⟩ = true := by decide
  split
  · rename_i h; rw [h, h1]; rfl
  · rename_i h
    have h : eqB a kGive = false := by simpa using h
    split
    · rename_i h'; rw [h, h', h2]; rfl
    · rename_i h'
      have h' : eqB a kTake = false := by simpa using h'
      split
      · rename_i h''; rw [h, h', h'', h3]; rfl
      · rename_i h''
        have h'' : eqB a kNote = false := by simpa using h''
        rw [h, h', h'', h4]; rfl
def undone (v : Srv) (m : Mth) : Bool := match methodOf v m.undo with
  | some u => eqB u.arg m.arg && empty u.undo && decide (u.result = 1) && eqB u.effect (contraryOf m.effect)
  | none => false
theorem Four.undo {s : Sch} (h : Four s) (he : effects s = none) {v : Srv} (hv : v ∈ s.services) {m : Mth} (hm : m ∈ v.methods) : undoOk s v m = undone v m := by
  unfold undoOk undone method
  rw [h.service hv]
  show (match methodOf v m.undo with
    | some u => eqB u.arg m.arg && empty u.undo && decide (u.result = 1) && contrary m.effect u.effect
    | none => false) = _
  have h1 := none_mem (none_mem (show effects s = none from he) hv) hm
  have h2 : isEffect m.effect = true := by
    unfold isEffect
    cases hb : (eqB m.effect kGive || eqB m.effect kTake || eqB m.effect kNote) with
    | true => rfl
    | false => rw [hb] at h1; simp at h1
  cases methodOf v m.undo with
  | none => rfl
  | some u => simp only [contrary_is h2]
end Ck
