/-
  Plain facts on right schemas: the ten rules one behind the other; what is right is right without its last saga, and with its records turned about. No program. Conditions: those in the theorems.
-/
import Derived.Test.YtiikccaaabcegaaGreatDoorCkMath
set_option linter.unusedSimpArgs false
set_option linter.unusedVariables false
namespace Ck
open Ip
/-! ### rule 3: names that stand twice -/
def inB (l : List ByteArray) (n : ByteArray) : Bool := l.any fun m => eqB m n
theorem inB_iff {l : List ByteArray} {n : ByteArray} : inB l n = true ↔ n ∈ l := by
  unfold inB
  rw [List.any_eq_true]
  exact ⟨fun ⟨m, h1, h2⟩ => by rw [← eqB_iff.1 h2]; exact h1, fun h => ⟨n, h, eqB_iff.2 rfl⟩⟩
/-- The first of a list that stands ahead of itself. -/
def twice : List ByteArray → List ByteArray → Option ByteArray
  | _, [] => none
  | seen, p :: ps => if inB seen p then some p else twice (seen ++ [p]) ps
theorem twice_cons (seen : List ByteArray) (p : ByteArray) (ps : List ByteArray) : twice seen (p :: ps) = if inB seen p then some p else twice (seen ++ [p]) ps := rfl
theorem twice_none : ∀ (l seen : List ByteArray), twice seen l = none ↔ l.Nodup ∧ ∀ x ∈ l, x ∉ seen
  | [], seen => by simp [twice]
  | p :: ps, seen => by
    unfold twice
    cases h : inB seen p with
    | true =>
      have := inB_iff.1 h
      simp [this]
    | false =>
      have hn : p ∉ seen := fun e => by rw [inB_iff.2 e] at h; cases h
      simp only [Bool.false_eq_true, if_false]
      rw [twice_none ps (seen ++ [p]), List.nodup_cons]
      constructor
      · rintro ⟨h1, h2⟩
        refine ⟨⟨fun e => (h2 p e) (by simp), h1⟩, fun x hx => ?_⟩
        rcases List.mem_cons.1 hx with rfl | hx
        · exact hn
        · exact fun e => h2 x hx (by simp [e])
      · rintro ⟨⟨h1, h2⟩, h3⟩
        refine ⟨h2, fun x hx e => ?_⟩
        rcases List.mem_append.1 e with e | e
        · exact h3 x (List.mem_cons_of_mem _ hx) e
        · rw [List.mem_singleton.1 e] at hx; exact h1 hx
def decls (s : Sch) : List (ByteArray × List ByteArray) :=
  s.records.map (fun r => (r.name, r.fields.map (·.name))) ++ (s.services.map (fun v => (v.name, v.methods.map (·.name))) ++ s.sagas.map (fun g => (g.name, [])))
def doublesF : List ByteArray → List (ByteArray × List ByteArray) → Option ByteArray
  | _, [] => none
  | seen, d :: l => if inB seen d.1 then some d.1 else match twice [] d.2 with
    | some p => some (dot d.1 p)
    | none => doublesF (seen ++ [d.1]) l
def doubles (s : Sch) : Option ByteArray := doublesF [] (decls s)
theorem doublesF_cons (seen : List ByteArray) (d : ByteArray × List ByteArray) (l : List (ByteArray × List ByteArray)) : doublesF seen (d :: l) = if inB seen d.1 then some d.1 else match twice [] d.2 with
    | some p => some (dot d.1 p)
    | none => doublesF (seen ++ [d.1]) l := rfl
theorem doublesF_none : ∀ (l : List (ByteArray × List ByteArray)) (seen : List ByteArray), doublesF seen l = none ↔ (twice seen (l.map Prod.fst) = none ∧ ∀ d ∈ l, d.2.Nodup)
  | [], seen => by simp [doublesF, twice]
  | d :: l, seen => by
    have ht := twice_none d.2 []
    rw [List.map_cons, twice_cons, doublesF_cons]
    cases h : inB seen d.1 with
    | true => simp
    | false =>
      simp only [Bool.false_eq_true, if_false]
      cases hd : twice [] d.2 with
      | some p =>
        have : ¬ d.2.Nodup := fun e => by
          have := ht.2 ⟨e, fun x _ hx => by cases hx⟩
          rw [hd] at this; cases this
        simp [this]
      | none =>
        have h2 := (ht.1 hd).1
        simp only
        rw [doublesF_none l (seen ++ [d.1])]
        simp [h2]
theorem doubles_none {s : Sch} : doubles s = none ↔ ((decls s).map Prod.fst).Nodup ∧ ∀ d ∈ decls s, d.2.Nodup := by
  unfold doubles
  rw [doublesF_none, twice_none]
  simp
/-! ### rules 9 and 10 -/
def num (k : Nat) : ByteArray := Tk.bs ((Nat.toDigits 10 k).map fun c => UInt8.ofNat c.toNat)
def stepOk (s : Sch) (g : Sga) (x : Stp) : Bool := match method s x.service x.method with
  | some m => eqB m.arg g.arg && decide (0 ≤ x.at_) && decide (x.at_ ≤ 3)
  | none => false
def hasUndo (s : Sch) (x : Stp) : Bool := match method s x.service x.method with
  | some m => !empty m.undo
  | none => false
def steps9 (s : Sch) : Option ByteArray := s.sagas.findSome? fun g => g.steps.zipIdx.findSome? fun x => if stepOk s g x.1 then none else some (dot g.name (num x.2))
def steps10 (s : Sch) : Option ByteArray := s.sagas.findSome? fun g => g.steps.zipIdx.findSome? fun x => if x.2 + 1 = g.steps.length ∨ hasUndo s x.1 = true then none else some (dot g.name (num x.2))
/-- The ten rules, and the number of each. -/
def rules : List (Nat × (Sch → Option ByteArray)) := [(120, names), (135, counts), (130, doubles), (131, types), (132, bottoms), (134, effects), (133, undos), (240, sagas), (241, steps9), (133, steps10)]
def check (s : Sch) : ByteArray × Nat := ((rules.findSome? fun r => (r.2 s).map fun p => (p, r.1))).getD (⟨#[]⟩, 0)
/-- Every rule is kept. -/
def Ok (s : Sch) : Prop := ∀ r ∈ rules, r.2 s = none
theorem check_ok {s : Sch} : (check s).2 = 0 ↔ Ok s := by
  unfold check Ok
  constructor
  · intro h
    cases hf : rules.findSome? fun r => (r.2 s).map fun p => (p, r.1) with
    | none =>
      intro r hr
      have := List.findSome?_eq_none_iff.1 hf r hr
      cases hx : r.2 s with
      | none => rfl
      | some p => rw [hx] at this; cases this
    | some y =>
      rw [hf] at h
      obtain ⟨r, hr, hy⟩ := List.exists_of_findSome?_eq_some hf
      cases hx : r.2 s with
      | none => rw [hx] at hy; cases hy
      | some p =>
        rw [hx] at hy
        simp only [Option.map_some, Option.some.injEq] at hy
        subst hy
        exfalso
        have : r.1 ≠ 0 := by
          have hall : ∀ q ∈ rules.map Prod.fst, q ≠ 0 := by
            intro q hq
            simp only [rules, List.map_cons, List.map_nil, List.mem_cons, List.not_mem_nil, or_false] at hq
            omega
          exact hall _ (List.mem_map_of_mem hr)
        exact this h
  · intro h
    have : (rules.findSome? fun r => (r.2 s).map fun p => (p, r.1)) = none := List.findSome?_eq_none_iff.2 fun r hr => by rw [h r hr]; rfl
    rw [this]; rfl
theorem check_none {s : Sch} (h : Ok s) : check s = (⟨#[]⟩, 0) := by
  have : (rules.findSome? fun r => (r.2 s).map fun p => (p, r.1)) = none := List.findSome?_eq_none_iff.2 fun r hr => by rw [h r hr]; rfl
  unfold check; rw [this]; rfl
/-! ### without the last saga, the records turned about -/
def fewer (s : Sch) : Sch := ⟨s.name, s.records.reverse, s.services, s.sagas.dropLast⟩
theorem nodup_recs {s : Sch} (h : doubles s = none) : (s.records.map (·.name)).Nodup := by
  have h1 := (doubles_none.1 h).1
  unfold decls at h1
  rw [List.map_append] at h1
  have := (List.nodup_append.1 h1).1
  simpa [List.map_map, Function.comp_def] using this
theorem find_rev : ∀ (l : List Rcd) (n : ByteArray), (l.map (·.name)).Nodup → (l.reverse.find? fun r => eqB r.name n) = l.find? fun r => eqB r.name n
  | [], n, _ => rfl
  | r :: l, n, h => by
    rw [List.map_cons, List.nodup_cons] at h
    rw [List.reverse_cons, List.find?_append, find_rev l n h.2, List.find?_cons]
    cases he : eqB r.name n with
    | true =>
      have hn : (l.find? fun r => eqB r.name n) = none := List.find?_eq_none.2 fun x hx e => by
        have e1 := eqB_iff.1 e
        have e2 := eqB_iff.1 he
        exact h.1 (by rw [e2, ← e1]; exact List.mem_map_of_mem hx)
      rw [hn]
      simp [he]
    | false =>
      simp only [List.find?_cons, he]
      cases (l.find? fun r => eqB r.name n) <;> rfl
theorem find_fewer {s : Sch} (h : doubles s = none) : find (fewer s) = find s := by
  funext n
  exact find_rev s.records n (nodup_recs h)
section
variable {α β : Type} {f : α → Option β} {l : List α}
theorem none_rev (h : l.findSome? f = none) : l.reverse.findSome? f = none := List.findSome?_eq_none_iff.2 fun x hx => List.findSome?_eq_none_iff.1 h x (List.mem_reverse.1 hx)
theorem none_drop (h : l.findSome? f = none) : l.dropLast.findSome? f = none := List.findSome?_eq_none_iff.2 fun x hx => List.findSome?_eq_none_iff.1 h x ((List.dropLast_sublist _).subset hx)
theorem none_mem (h : l.findSome? f = none) {x : α} (hx : x ∈ l) : f x = none := List.findSome?_eq_none_iff.1 h x hx
end
theorem names_fewer {s : Sch} (h : names s = none) : names (fewer s) = none := by
  unfold names at h ⊢
  cases hn : Tk.name s.name with
  | false => rw [hn] at h; cases h
  | true =>
    rw [hn] at h
    simp only [if_true, Option.or_eq_none_iff] at h
    show (if Tk.name s.name = true then _ else _) = none
    rw [hn]
    simp only [if_true, Option.or_eq_none_iff]
    exact ⟨none_rev h.1, h.2.1, none_drop h.2.2⟩
theorem counts_fewer {s : Sch} (h : counts s = none) : counts (fewer s) = none := by
  unfold counts at h ⊢
  by_cases hc : s.records.length + s.services.length + s.sagas.length > 64
  · rw [if_pos hc] at h; cases h
  · rw [if_neg hc] at h
    have hc2 : ¬ (fewer s).records.length + (fewer s).services.length + (fewer s).sagas.length > 64 := by
      unfold fewer
      simp only [List.length_reverse, List.length_dropLast]
      omega
    rw [if_neg hc2]
    simp only [Option.or_eq_none_iff] at h ⊢
    exact ⟨none_rev h.1, h.2.1, none_drop h.2.2⟩
theorem doubles_fewer {s : Sch} (h : doubles s = none) : doubles (fewer s) = none := by
  rw [doubles_none] at h ⊢
  have hd : ∀ d ∈ decls (fewer s), d ∈ decls s := by
    intro d hd
    unfold decls fewer at hd
    unfold decls
    simp only [List.mem_append, List.mem_map, List.mem_reverse] at hd ⊢
    rcases hd with hd | hd | ⟨g, hg, e⟩
    · exact .inl hd
    · exact .inr (.inl hd)
    · exact .inr (.inr ⟨g, (List.dropLast_sublist _).subset hg, e⟩)
  refine ⟨?_, fun d hx => h.2 d (hd d hx)⟩
  have h1 := h.1
  unfold decls at h1
  unfold decls fewer
  simp only [List.map_append, List.map_reverse, List.map_dropLast] at h1 ⊢
  have hs : List.Sublist ((List.map Prod.fst (List.map (fun r => (r.name, r.fields.map (·.name))) s.records)).reverse ++ (List.map Prod.fst (List.map (fun v => (v.name, v.methods.map (·.name))) s.services) ++ (List.map Prod.fst (List.map (fun g => (g.name, ([] : List ByteArray))) s.sagas)).dropLast)) ((List.map Prod.fst (List.map (fun r => (r.name, r.fields.map (·.name))) s.records)).reverse ++ (List.map Prod.fst (List.map (fun v => (v.name, v.methods.map (·.name))) s.services) ++ (List.map Prod.fst (List.map (fun g => (g.name, ([] : List ByteArray))) s.sagas)))) :=
    List.Sublist.append (List.Sublist.refl _) (List.Sublist.append (List.Sublist.refl _) (List.dropLast_sublist _))
  exact hs.nodup (((List.reverse_perm _).append_right _).nodup_iff.2 h1)
theorem right_fewer {s : Sch} (h : doubles s = none) (t : List So) : right (fewer s) t = right s t := by
  unfold right lastOk; rw [find_fewer h]
theorem fn_fewer {s : Sch} (h : doubles s = none) : fn (fewer s) = fn s := by
  funext P n; unfold fn; rw [find_fewer h]
theorem lv_fewer {s : Sch} (h : doubles s = none) : ∀ k, lv (fewer s) k = lv s k
  | 0 => rfl
  | k + 1 => by show fn (fewer s) (lv (fewer s) k) = fn s (lv s k); rw [lv_fewer h k, fn_fewer h]
theorem fin_fewer {s : Sch} (h : doubles s = none) : fin (fewer s) = fin s := by
  unfold fin
  rw [lv_fewer h, show (fewer s).records.length = s.records.length from List.length_reverse]
theorem order_fewer {s : Sch} (h : doubles s = none) (n : ByteArray) : order (fewer s) n = order s n := by unfold order; rw [find_fewer h]
/-- A right schema is right without its last saga, and with its records turned about. -/
theorem Ok.fewer {s : Sch} (h : Ok s) : Ok (fewer s) := by
  have h3 : doubles s = none := h (130, doubles) (by simp [rules])
  intro r hr
  have hs := h r hr
  simp only [rules, List.mem_cons, List.not_mem_nil, or_false] at hr
  rcases hr with rfl | rfl | rfl | rfl | rfl | rfl | rfl | rfl | rfl | rfl
  · exact names_fewer hs
  · exact counts_fewer hs
  · exact doubles_fewer hs
  · have hs : types s = none := hs
    show types (Ck.fewer s) = none
    unfold types at hs ⊢
    simp only [right_fewer h3]
    simp only [Option.or_eq_none_iff] at hs ⊢
    exact ⟨none_rev hs.1, hs.2⟩
  · have hs : bottoms s = none := hs
    show bottoms (Ck.fewer s) = none
    unfold bottoms at hs ⊢
    simp only [fin_fewer h3]
    exact none_rev hs
  · have hs : effects s = none := hs
    show effects (Ck.fewer s) = none
    unfold effects at hs ⊢
    simp only [order_fewer h3]
    exact hs
  · exact hs
  · have hs : sagas s = none := hs
    show sagas (Ck.fewer s) = none
    unfold sagas at hs ⊢
    simp only [order_fewer h3]
    exact none_drop hs
  · exact none_drop (show steps9 s = none from hs)
  · exact none_drop (show steps10 s = none from hs)
/-! ### what a right schema's names are -/
theorem find_self {α : Type} (nm : α → ByteArray) : ∀ (l : List α), (l.map nm).Nodup → ∀ x ∈ l, l.find? (fun r => eqB (nm r) (nm x)) = some x
  | [], _, x, hx => by cases hx
  | r :: l, h, x, hx => by
    rw [List.map_cons, List.nodup_cons] at h
    rw [List.find?_cons]
    rcases List.mem_cons.1 hx with rfl | hx
    · rw [eqB_iff.2 rfl]
    · cases he : eqB (nm r) (nm x) with
      | true => exact absurd (by rw [eqB_iff.1 he]; exact List.mem_map_of_mem hx) h.1
      | false => exact find_self nm l h.2 x hx
theorem Ok.find {s : Sch} (h : Ok s) {r : Rcd} (hr : r ∈ s.records) : find s r.name = some r :=
  find_self (fun x : Rcd => x.name) s.records (nodup_recs (h (130, doubles) (by simp [rules]))) r hr
theorem Ok.saga {s : Sch} (h : Ok s) {g : Sga} (hg : g ∈ s.sagas) : saga s g.name = some g := by
  refine find_self (fun x : Sga => x.name) s.sagas ?_ g hg
  have h1 := (doubles_none.1 (h (130, doubles) (by simp [rules]))).1
  unfold decls at h1
  rw [List.map_append, List.map_append] at h1
  have := (List.nodup_append.1 (List.nodup_append.1 h1).2.1).2.1
  simpa [List.map_map, Function.comp_def] using this
theorem method_in {s : Sch} {a b : ByteArray} {m : Mth} (h : method s a b = some m) : ∃ v ∈ s.services, v.name = a ∧ m ∈ v.methods ∧ m.name = b := by
  unfold method service at h
  cases hv : s.services.find? fun v => eqB v.name a with
  | none => rw [hv] at h; cases h
  | some v =>
    rw [hv] at h
    have h : methodOf v b = some m := h
    exact ⟨v, List.mem_of_find?_eq_some hv, eqB_iff.1 (by simpa using List.find?_some hv), List.mem_of_find?_eq_some h, eqB_iff.1 (by simpa [methodOf] using List.find?_some h)⟩
/-- Each step's method there is, and takes what the saga takes; each but the last one's is undone by one that takes the same, is not undone itself, and does the contrary. -/
theorem Ok.step {s : Sch} (h : Ok s) {g : Sga} (hg : g ∈ s.sagas) {k : Nat} (hk : k < g.steps.length) : ∃ m, method s g.steps[k].service g.steps[k].method = some m ∧ m.arg = g.arg ∧
    (k + 1 ≠ g.steps.length → ∃ u, method s g.steps[k].service m.undo = some u ∧ u.arg = m.arg ∧ u.undo = ⟨#[]⟩ ∧ contrary m.effect u.effect = true) := by
  have h9 := none_mem (show steps9 s = none from h (241, steps9) (by simp [rules])) hg
  have h10 := none_mem (show steps10 s = none from h (133, steps10) (by simp [rules])) hg
  have h7 : undos s = none := h (133, undos) (by simp [rules])
  have hz : (g.steps[k], k) ∈ g.steps.zipIdx := by
    rw [List.mem_zipIdx_iff_getElem?]; simp [hk]
  have a9 := none_mem h9 hz
  have a10 := none_mem h10 hz
  simp only at a9 a10
  have b9 : stepOk s g g.steps[k] = true := by
    cases hb : stepOk s g g.steps[k] with
    | true => rfl
    | false => rw [hb] at a9; simp at a9
  unfold stepOk at b9
  cases hm : method s g.steps[k].service g.steps[k].method with
  | none => rw [hm] at b9; cases b9
  | some m =>
    rw [hm] at b9
    simp only [Bool.and_eq_true] at b9
    refine ⟨m, rfl, eqB_iff.1 b9.1.1, fun hlast => ?_⟩
    have b10 : hasUndo s g.steps[k] = true := by
      by_cases hb : k + 1 = g.steps.length ∨ hasUndo s g.steps[k] = true
      · rcases hb with e | e
        · exact absurd e hlast
        · exact e
      · rw [if_neg hb] at a10; cases a10
    unfold hasUndo at b10
    rw [hm] at b10
    simp only [Bool.not_eq_true'] at b10
    obtain ⟨v, hv, hvn, hmv, -⟩ := method_in hm
    have c := none_mem (none_mem h7 hv) hmv
    simp only [b10, Bool.false_or] at c
    have c2 : undoOk s v m = true := by
      cases hb : undoOk s v m with
      | true => rfl
      | false => rw [hb] at c; simp at c
    unfold undoOk at c2
    rw [hvn] at c2
    cases hu : method s g.steps[k].service m.undo with
    | none => rw [hu] at c2; cases c2
    | some u =>
      rw [hu] at c2
      simp only [Bool.and_eq_true] at c2
      exact ⟨u, rfl, eqB_iff.1 c2.1.1.1, eqB_iff.1 c2.1.1.2, c2.2⟩
/-- Contrary effects are both a note, or neither; and no effect but a note is its own contrary. -/
theorem contrary_note {a b : ByteArray} (h : contrary a b = true) : eqB a kNote = eqB b kNote ∧ (eqB a kNote = false → eqB b a = false) := by
  unfold contrary at h
  simp only [Bool.or_eq_true, Bool.and_eq_true] at h
  rcases h with (⟨h1, h2⟩ | ⟨h1, h2⟩) | ⟨h1, h2⟩ <;> rw [eqB_iff.1 h1, eqB_iff.1 h2] <;> decide
end Ck
