/-
  Plain facts on a manifest's states: which are right, what an edit makes of one. No program, no walk.
  Plain facts on edits: what an empty one makes, what is dropped and added again, edits that touch different tables. No program, no walk.
  Plain facts on what the document's answer makes of an edit: the steps of its loops. No program, no walk.
  Plain facts: a state is right if each of its tables is, seen from those ahead of it. No program, no walk.
-/
import Derived.Test.YtbhjpkejdkfenaaGreatDoorMemMath
namespace Mf
open Mm (lt)

/-- A table. -/
structure File where
  n : Int
  level : Int
  count : Int
  first : ByteArray
  last : ByteArray
/-- Which tables there are. -/
structure State where
  next : Int
  log : Int
  files : List File
/-- A change of a state. -/
structure Edit where
  drop : List Int
  add : List File
  next : Int
  log : Int
instance : Inhabited File := ⟨⟨0, 0, 0, ⟨#[]⟩, ⟨#[]⟩⟩⟩
theorem File.ext' {a b : File} (h1 : a.n = b.n) (h2 : a.level = b.level) (h3 : a.count = b.count) (h4 : a.first = b.first) (h5 : a.last = b.last) : a = b := by
  cases a; cases b; simp_all
/-- What can be told of a table from it alone. -/
def IsFile (f : File) : Prop := 0 ≤ f.level ∧ f.level ≤ 3 ∧ 1 ≤ f.count ∧ f.count ≤ 4096 ∧ 1 ≤ f.first.size ∧ f.first.size ≤ 128 ∧ 1 ≤ f.last.size ∧ f.last.size ≤ 128 ∧
  lt f.last f.first = false ∧ (f.first = f.last ↔ f.count = 1)
/-- Two tables stand where their keys must lie apart, and don't. -/
def Meet (a b : File) : Prop := a.level = b.level ∧ 0 < a.level ∧ lt b.last a.first = false ∧ lt a.last b.first = false
theorem Meet.symm {a b : File} (h : Meet a b) : Meet b a := ⟨h.1.symm, by rw [← h.1]; exact h.2.1, h.2.2.2, h.2.2.1⟩
/-- Numbers rise, from 1 on, and are below next. -/
def Numbered (next : Int) (l : List File) : Prop := (∀ f ∈ l, 1 ≤ f.n ∧ f.n < next) ∧ l.Pairwise fun a b => a.n < b.n
structure Right (s : State) : Prop where
  next : 1 ≤ s.next ∧ s.next ≤ 1099511627776
  log : 0 ≤ s.log ∧ s.log ≤ 1099511627776
  few : s.files.length ≤ 200
  numbered : Numbered s.next s.files
  files : ∀ f ∈ s.files, IsFile f
  apart : s.files.Pairwise fun a b => ¬ Meet a b

/-! ### edits -/
/-- l without the first table of number n, if there is one. -/
def dropOne (n : Int) : List File → Option (List File)
  | [] => none
  | f :: r => if f.n = n then some r else (dropOne n r).map (f :: ·)
def dropAll (l : List File) : List Int → Option (List File)
  | [] => some l
  | n :: r => (dropOne n l).bind fun m => dropAll m r
/-- l with f at its place. -/
def insert (f : File) : List File → List File
  | [] => [f]
  | g :: r => if g.n < f.n then g :: insert f r else f :: g :: r
def insertAll (l : List File) : List File → List File
  | [] => l
  | f :: r => insertAll (insert f l) r
theorem insert_perm (f : File) (l : List File) : (insert f l).Perm (f :: l) := by
  induction l with
  | nil => exact List.Perm.refl _
  | cons g r ih =>
    unfold insert
    split
    · exact (ih.cons g).trans (List.Perm.swap _ _ _)
    · exact List.Perm.refl _
theorem insertAll_perm (l m : List File) : (insertAll l m).Perm (l ++ m) := by
  induction m generalizing l with
  | nil => rw [List.append_nil]; exact List.Perm.refl _
  | cons f r ih =>
    refine (ih _).trans ?_
    refine ((insert_perm f l).append_right r).trans ?_
    exact List.perm_middle.symm
/-- By numbers, not falling. -/
def Upward (l : List File) : Prop := l.Pairwise fun a b => a.n ≤ b.n
theorem insert_upward (f : File) {l : List File} (h : Upward l) : Upward (insert f l) := by
  induction l with
  | nil => exact List.pairwise_singleton _ _
  | cons g r ih =>
    unfold Upward at *
    rw [List.pairwise_cons] at h
    unfold insert
    split
    · rename_i hlt
      rw [List.pairwise_cons]
      refine ⟨fun a ha => ?_, ih h.2⟩
      rcases List.mem_cons.1 ((insert_perm f r).mem_iff.1 ha) with rfl | ha
      · omega
      · exact h.1 a ha
    · rename_i hlt
      rw [List.pairwise_cons]
      refine ⟨fun a ha => ?_, List.pairwise_cons.2 h⟩
      rcases List.mem_cons.1 ha with rfl | ha
      · omega
      · have := h.1 a ha; omega
theorem insertAll_upward {l : List File} (h : Upward l) (m : List File) : Upward (insertAll l m) := by
  induction m generalizing l with
  | nil => exact h
  | cons f r ih => exact ih (insert_upward f h)
/-- Two tables have one number. -/
def Twice (l : List File) : Prop := ¬ (l.map (·.n)).Nodup
theorem twice_perm {l m : List File} (h : l.Perm m) : Twice l ↔ Twice m := by unfold Twice; rw [(h.map _).nodup_iff]
theorem rising_of {l : List File} (h : Upward l) (ht : ¬ Twice l) : l.Pairwise fun a b => a.n < b.n := by
  unfold Twice at ht
  rw [Classical.not_not] at ht
  unfold List.Nodup at ht
  rw [List.pairwise_map] at ht
  exact (List.Pairwise.and h ht).imp fun ⟨h1, h2⟩ => by omega
theorem twice_of {l : List File} (h : l.Pairwise fun a b => a.n < b.n) : ¬ Twice l := by
  unfold Twice
  rw [Classical.not_not]
  unfold List.Nodup
  rw [List.pairwise_map]
  exact h.imp fun h => by omega
/-- Of what is not falling and has no number twice there is one order. -/
theorem rising_unique {l m : List File} (hl : l.Pairwise fun a b => a.n < b.n) (hm : m.Pairwise fun a b => a.n < b.n) (hp : l.Perm m) : l = m := by
  refine List.Perm.eq_of_pairwise (le := fun a b => a.n < b.n) (fun a b _ _ h1 h2 => by omega) hl hm hp
open Classical in
/-- What an edit makes of a state: its error, or the new one. -/
noncomputable def apply (s : State) (e : Edit) : Nat × State :=
  if ¬ Right s then (1, ⟨0, 0, []⟩) else
  match dropAll s.files e.drop with
  | none => (4, ⟨0, 0, []⟩)
  | some l =>
    if Twice (l ++ e.add) then (5, ⟨0, 0, []⟩) else
    if ¬ Right ⟨max s.next e.next, max s.log e.log, insertAll l e.add⟩ then (1, ⟨0, 0, []⟩) else
    (0, ⟨max s.next e.next, max s.log e.log, insertAll l e.add⟩)
theorem dropOne_some {n : Int} {l m : List File} (h : dropOne n l = some m) : m.Sublist l := by
  induction l generalizing m with
  | nil => cases h
  | cons f r ih =>
    unfold dropOne at h
    split at h
    · cases h; exact List.sublist_cons_self _ _
    · cases hd : dropOne n r with
      | none => rw [hd] at h; cases h
      | some m' =>
        rw [hd] at h
        cases h
        exact (ih hd).cons_cons f
theorem dropAll_some {l : List File} {d : List Int} {m : List File} (h : dropAll l d = some m) : m.Sublist l := by
  induction d generalizing l with
  | nil => cases h; exact List.Sublist.refl _
  | cons n r ih =>
    unfold dropAll at h
    cases hd : dropOne n l with
    | none => rw [hd] at h; cases h
    | some m' =>
      rw [hd] at h
      exact (ih h).trans (dropOne_some hd)
theorem dropOne_index {n : Int} {l : List File} (h : ∀ f ∈ l, f.n ≠ n) : dropOne n l = none := by
  induction l with
  | nil => rfl
  | cons f r ih =>
    unfold dropOne
    rw [if_neg (h f List.mem_cons_self), ih fun g hg => h g (List.mem_cons_of_mem _ hg)]; rfl
theorem dropOne_at {n : Int} {l : List File} {k : Nat} (hk : k < l.length) (h1 : l[k].n = n) (h0 : ∀ f ∈ l.take k, f.n ≠ n) : dropOne n l = some (l.take k ++ l.drop (k + 1)) := by
  induction l generalizing k with
  | nil => exact absurd hk (Nat.not_lt_zero _)
  | cons f r ih =>
    unfold dropOne
    cases k with
    | zero => rw [if_pos (by simpa using h1)]; rfl
    | succ k =>
      rw [if_neg (h0 f (by simp)), ih (k := k) (by simpa using hk) (by simpa using h1) fun g hg => h0 g (by simp [hg])]
      rfl
end Mf
namespace Mf
theorem dropOne_filter {l m : List File} {n : Int} (hl : l.Pairwise fun a b => a.n < b.n) (h : dropOne n l = some m) : m = l.filter fun f => f.n ≠ n := by
  induction l generalizing m with
  | nil => cases h
  | cons f r ih =>
    rw [List.pairwise_cons] at hl
    unfold dropOne at h
    by_cases e : f.n = n
    · rw [if_pos e] at h
      cases h
      rw [List.filter_cons_of_neg (by simp [e])]
      exact (List.filter_eq_self.2 fun g hg => by have := hl.1 g hg; simp; omega).symm
    · rw [if_neg e] at h
      cases hd : dropOne n r with
      | none => rw [hd] at h; cases h
      | some m' =>
        rw [hd] at h
        cases h
        rw [List.filter_cons_of_pos (by simp [e]), ← ih hl.2 hd]
theorem dropOne_none {l : List File} {n : Int} (h : dropOne n l = none) : ∀ f ∈ l, f.n ≠ n := by
  induction l with
  | nil => exact fun _ h => nomatch h
  | cons f r ih =>
    unfold dropOne at h
    by_cases e : f.n = n
    · rw [if_pos e] at h; cases h
    · rw [if_neg e] at h
      cases hd : dropOne n r with
      | none => exact fun g hg => (List.mem_cons.1 hg).elim (fun q => q ▸ e) (ih hd g)
      | some m => rw [hd] at h; cases h
theorem dropAll_filter {l m : List File} {ds : List Int} (hl : l.Pairwise fun a b => a.n < b.n) (h : dropAll l ds = some m) : m = l.filter fun f => f.n ∉ ds := by
  induction ds generalizing l with
  | nil => cases h; exact (List.filter_eq_self.2 fun g _ => by simp).symm
  | cons n r ih =>
    unfold dropAll at h
    cases hd : dropOne n l with
    | none => rw [hd] at h; cases h
    | some m' =>
      rw [hd] at h
      have e := dropOne_filter hl hd
      subst e
      rw [ih (hl.sublist List.filter_sublist) h, List.filter_filter]
      refine List.filter_congr fun f _ => ?_
      simp [not_or, Bool.and_comm]
theorem apply_ok {s : State} {e : Edit} (h : (apply s e).1 = 0) : Right s ∧ ∃ l, dropAll s.files e.drop = some l ∧ ¬ Twice (l ++ e.add) ∧ (apply s e).2 = ⟨max s.next e.next, max s.log e.log, insertAll l e.add⟩ ∧ Right (apply s e).2 := by
  unfold apply at h ⊢
  by_cases h1 : Right s
  · rw [if_neg (fun k => k h1)] at h ⊢
    cases hd : dropAll s.files e.drop with
    | none => rw [hd] at h; simp at h
    | some l =>
      rw [hd] at h
      simp only at h ⊢
      by_cases h2 : Twice (l ++ e.add)
      · rw [if_pos h2] at h; simp at h
      · rw [if_neg h2] at h ⊢
        by_cases h3 : Right ⟨max s.next e.next, max s.log e.log, insertAll l e.add⟩
        · rw [if_neg (fun k => k h3)]
          exact ⟨h1, l, rfl, h2, rfl, h3⟩
        · rw [if_pos h3] at h; simp at h
  · rw [if_pos h1] at h; simp at h
theorem apply_ok_perm {s : State} {e : Edit} (h : (apply s e).1 = 0) : Right s ∧ Right (apply s e).2 ∧ (apply s e).2.next = max s.next e.next ∧ (apply s e).2.log = max s.log e.log ∧
    (apply s e).2.files.Perm (s.files.filter (fun f => f.n ∉ e.drop) ++ e.add) := by
  obtain ⟨h1, l, h2, h3, h4, h5⟩ := apply_ok h
  refine ⟨h1, h5, by rw [h4], by rw [h4], ?_⟩
  rw [h4, ← dropAll_filter h1.numbered.2 h2]
  exact insertAll_perm _ _
theorem apply_of {s t : State} {e : Edit} (h : Right s) (ht : Right t) {l : List File} (hd : dropAll s.files e.drop = some l) (hn : t.next = max s.next e.next) (hg : t.log = max s.log e.log) (hp : t.files.Perm (l ++ e.add)) : apply s e = (0, t) := by
  have h2 : ¬ Twice (l ++ e.add) := fun k => twice_of ht.numbered.2 ((twice_perm hp).2 k)
  have hu : Upward l := (h.numbered.2.imp fun q => by omega : s.files.Pairwise fun a b => a.n ≤ b.n).sublist (dropAll_some hd)
  have e1 : insertAll l e.add = t.files := by
    refine rising_unique (rising_of (insertAll_upward hu _) fun k => h2 ((twice_perm (insertAll_perm _ _)).1 k)) ht.numbered.2 ((insertAll_perm _ _).trans hp.symm)
  have e2 : (⟨max s.next e.next, max s.log e.log, insertAll l e.add⟩ : State) = t := by rw [e1, ← hn, ← hg]
  unfold apply
  rw [if_neg (fun k => k h), hd]
  simp only
  rw [if_neg h2, e2, if_neg (fun k => k ht)]
/-- An empty edit changes nothing. -/
theorem apply_empty {s : State} (h : Right s) : apply s ⟨[], [], 0, 0⟩ = (0, s) := by
  refine apply_of h h (l := s.files) rfl ?_ ?_ (by simp)
  · have := h.next.1; simp only; omega
  · have := h.log.1; simp only; omega
theorem dropOne_nth {l : List File} (hl : l.Pairwise fun a b => a.n < b.n) {k : Nat} (hk : k < l.length) : dropOne l[k].n l = some (l.take k ++ l.drop (k + 1)) := by
  refine dropOne_at hk rfl fun f hf => ?_
  obtain ⟨j, hj, rfl⟩ := List.getElem_of_mem hf
  rw [List.length_take] at hj
  rw [List.getElem_take]
  have := List.pairwise_iff_getElem.1 hl j k (by omega) hk (by omega)
  omega
/-- What is dropped and added again is as it was. -/
theorem apply_again {s : State} (h : Right s) {k : Nat} (hk : k < s.files.length) : apply s ⟨[s.files[k].n], [s.files[k]], 0, 0⟩ = (0, s) := by
  refine apply_of h h (l := s.files.take k ++ s.files.drop (k + 1)) ?_ ?_ ?_ ?_
  · unfold dropAll
    rw [dropOne_nth h.numbered.2 hk]
    rfl
  · have := h.next.1; simp only; omega
  · have := h.log.1; simp only; omega
  · simp only
    have e : s.files = s.files.take k ++ s.files[k] :: s.files.drop (k + 1) := by
      rw [List.getElem_cons_drop, List.take_append_drop]
    have p : (s.files.take k ++ s.files[k] :: s.files.drop (k + 1)).Perm (s.files.take k ++ s.files.drop (k + 1) ++ [s.files[k]]) :=
      List.perm_middle.trans (List.perm_append_comm (l₁ := [s.files[k]]))
    rw [← e] at p
    exact p
/-- An edit drops, or adds, a table of number n. -/
def Touches (e : Edit) (n : Int) : Prop := n ∈ e.drop ∨ ∃ f ∈ e.add, f.n = n
def Apart (a b : Edit) : Prop := (∀ n ∈ a.drop, ¬ Touches b n) ∧ ∀ f ∈ a.add, ¬ Touches b f.n
theorem apply_log {s : State} {e : Edit} (h : (apply s e).1 = 0) : s.next ≤ (apply s e).2.next ∧ s.log ≤ (apply s e).2.log := by
  obtain ⟨-, -, h1, h2, -⟩ := apply_ok_perm h
  rw [h1, h2]; omega
/-- Edits that touch different tables come to the same in either order. -/
theorem apply_turned {s : State} {a b : Edit} (h : Apart a b) (ha : (apply s a).1 = 0) (hb : (apply s b).1 = 0) (hp : (apply (apply s a).2 b).1 = 0) (hq : (apply (apply s b).2 a).1 = 0) : (apply (apply s a).2 b).2 = (apply (apply s b).2 a).2 := by
  obtain ⟨-, -, a3, a4, a5⟩ := apply_ok_perm ha
  obtain ⟨-, -, b3, b4, b5⟩ := apply_ok_perm hb
  obtain ⟨-, p2, p3, p4, p5⟩ := apply_ok_perm hp
  obtain ⟨-, q2, q3, q4, q5⟩ := apply_ok_perm hq
  have e1 : (apply (apply s a).2 b).2.next = (apply (apply s b).2 a).2.next := by rw [p3, q3, a3, b3]; omega
  have e2 : (apply (apply s a).2 b).2.log = (apply (apply s b).2 a).2.log := by rw [p4, q4, a4, b4]; omega
  have fa : a.add.filter (fun f => f.n ∉ b.drop) = a.add := List.filter_eq_self.2 fun f hf => by
    have := h.2 f hf
    unfold Touches at this
    rw [not_or] at this
    simpa using this.1
  have fb : b.add.filter (fun f => f.n ∉ a.drop) = b.add := List.filter_eq_self.2 fun f hf => by
    rw [decide_eq_true_eq]
    exact fun k => h.1 _ k (.inr ⟨f, hf, rfl⟩)
  have x5 := (a5.filter fun f => f.n ∉ b.drop).append_right b.add
  have y5 := (b5.filter fun f => f.n ∉ a.drop).append_right a.add
  rw [List.filter_append, fa, List.filter_filter] at x5
  rw [List.filter_append, fb, List.filter_filter] at y5
  have z : (s.files.filter fun f => decide (f.n ∉ b.drop) && decide (f.n ∉ a.drop)) = s.files.filter fun f => decide (f.n ∉ a.drop) && decide (f.n ∉ b.drop) := List.filter_congr fun f _ => Bool.and_comm _ _
  rw [z] at x5
  have e3 : (apply (apply s a).2 b).2.files = (apply (apply s b).2 a).2.files := by
    refine rising_unique p2.numbered.2 q2.numbered.2 ((p5.trans x5).trans (List.Perm.trans ?_ (q5.trans y5).symm))
    rw [List.append_assoc, List.append_assoc]
    exact List.Perm.append_left _ List.perm_append_comm
  generalize (apply (apply s a).2 b).2 = u at *
  generalize (apply (apply s b).2 a).2 = v at *
  cases u; cases v; simp_all
end Mf
namespace Mf
/-- Not those of number n. -/
def without (n : Int) (l : List File) : List File := l.filter fun f => f.n ≠ n
theorem without_take {n : Int} {l : List File} {k : Nat} (hk : k < l.length) : without n (l.take (k + 1)) = without n (l.take k) ++ if l[k].n = n then [] else [l[k]] := by
  unfold without
  rw [List.take_succ_eq_append_getElem hk, List.filter_append]
  congr 1
  by_cases e : l[k].n = n <;> simp [e]
theorem without_len {n : Int} {l : List File} : (without n l).length ≤ l.length := List.length_filter_le _ _
theorem without_all {n : Int} {l : List File} (h : (without n l).length = l.length) : dropOne n l = none := by
  refine dropOne_index fun f hf => ?_
  unfold without at h
  have h2 := List.length_filter_eq_length_iff.1 h f hf
  simpa using h2
theorem without_some {n : Int} {l : List File} (hl : l.Pairwise fun a b => a.n < b.n) (h : (without n l).length ≠ l.length) : dropOne n l = some (without n l) := by
  cases hd : dropOne n l with
  | none =>
    refine absurd ?_ h
    unfold without
    exact List.length_filter_eq_length_iff.2 fun f hf => by have := dropOne_none hd f hf; simpa using this
  | some m => rw [dropOne_filter hl hd]; rfl
theorem without_rising {n : Int} {l : List File} (hl : l.Pairwise fun a b => a.n < b.n) : (without n l).Pairwise fun a b => a.n < b.n := hl.sublist List.filter_sublist
/-- f stands at place k of l. -/
def Stands (f : File) (l : List File) (k : Nat) : Prop := k ≤ l.length ∧ (∀ g ∈ l.take k, g.n < f.n) ∧ ∀ h : k < l.length, f.n ≤ l[k].n
theorem insert_at {f : File} {l : List File} {k : Nat} (h : Stands f l k) : insert f l = l.take k ++ f :: l.drop k := by
  obtain ⟨h1, h2, h3⟩ := h
  induction l generalizing k with
  | nil => simp only [List.length_nil, Nat.le_zero] at h1; subst h1; rfl
  | cons g r ih =>
    unfold insert
    cases k with
    | zero =>
      have := h3 (by simp)
      rw [List.getElem_cons_zero] at this
      rw [if_neg (by omega)]
      rfl
    | succ k =>
      rw [if_pos (h2 g (by simp)), ih (k := k) (by simpa using h1) (fun a ha => h2 a (by simp [ha])) fun h => by have := h3 (by simpa using h); simpa using this]
      rfl
theorem insert_rising {f : File} {l : List File} {k : Nat} (hl : l.Pairwise fun a b => a.n < b.n) (h : Stands f l k) (hn : ∀ h : k < l.length, l[k].n ≠ f.n) : (insert f l).Pairwise fun a b => a.n < b.n := by
  have hu : Upward l := hl.imp fun q => by omega
  refine rising_of (insert_upward f hu) fun ht => ?_
  rw [twice_perm (insert_perm f l)] at ht
  refine ht ?_
  rw [List.map_cons, List.nodup_cons]
  refine ⟨fun hm => ?_, ?_⟩
  · obtain ⟨g, hg, e⟩ := List.mem_map.1 hm
    obtain ⟨j, hj, rfl⟩ := List.getElem_of_mem hg
    by_cases c : j < k
    · have := h.2.1 l[j] (List.mem_take_iff_getElem.2 ⟨j, by omega, rfl⟩)
      omega
    · have hk : k < l.length := by omega
      have h2 := h.2.2 hk
      have h3 := hn hk
      by_cases e2 : j = k
      · subst e2; exact h3 e
      · have := List.pairwise_iff_getElem.1 hl k j hk hj (by omega)
        omega
  · unfold List.Nodup
    rw [List.pairwise_map]
    exact hl.imp fun q => by omega
theorem twice_at {f : File} {l r : List File} {k : Nat} (hk : k < l.length) (e : l[k].n = f.n) : Twice (l ++ f :: r) := by
  unfold Twice
  intro h
  rw [List.map_append, List.nodup_append] at h
  exact h.2.2 l[k].n (List.mem_map.2 ⟨_, List.getElem_mem hk, rfl⟩) f.n (by simp) e
theorem insertAll_take (l add : List File) {i : Nat} (hi : i < add.length) : insertAll l (add.take (i + 1)) = insert add[i] (insertAll l (add.take i)) := by
  rw [List.take_succ_eq_append_getElem hi]
  have : ∀ (m : List File) (f : File) (l : List File), insertAll l (m ++ [f]) = insert f (insertAll l m) := fun m f => by
    induction m with
    | nil => exact fun _ => rfl
    | cons g r ih => exact fun l => ih _
  exact this _ _ _
theorem twice_now {l add : List File} {i : Nat} (hi : i < add.length) (k : Nat) (hk : k < (insertAll l (add.take i)).length) (e : (insertAll l (add.take i))[k].n = add[i].n) : Twice (l ++ add) := by
  have h := twice_at (r := add.drop (i + 1)) hk e
  rw [List.getElem_cons_drop] at h
  refine (twice_perm ?_).1 h
  refine ((insertAll_perm l (add.take i)).append_right _).trans ?_
  rw [List.append_assoc, List.take_append_drop]
theorem not_twice {l add : List File} (h : (insertAll l add).Pairwise fun a b => a.n < b.n) : ¬ Twice (l ++ add) := fun k => twice_of h ((twice_perm (insertAll_perm l add)).2 k)
theorem dropAll_take {l m : List File} {ds : List Int} {i : Nat} (hi : i < ds.length) (h : dropAll l (ds.take i) = some m) : dropAll l (ds.take (i + 1)) = dropOne ds[i] m := by
  rw [List.take_succ_eq_append_getElem hi]
  have : ∀ (q : List Int) (n : Int) (l : List File), dropAll l (q ++ [n]) = (dropAll l q).bind (dropOne n) := fun q n => by
    induction q with
    | nil => intro l; simp only [List.nil_append, dropAll, Option.bind_some]; cases dropOne n l <;> rfl
    | cons a r ih =>
      intro l
      show (dropOne a l).bind (fun m => dropAll m (r ++ [n])) = ((dropOne a l).bind fun m => dropAll m r).bind (dropOne n)
      cases dropOne a l with
      | none => rfl
      | some x => exact ih x
  rw [this, h]
  rfl
theorem dropAll_none {l : List File} {ds : List Int} {i : Nat} (h : dropAll l (ds.take i) = none) : dropAll l ds = none := by
  have : ∀ (q r : List Int) (l : List File), dropAll l q = none → dropAll l (q ++ r) = none := fun q r => by
    induction q with
    | nil => intro l h; cases h
    | cons a q ih =>
      intro l h
      unfold dropAll at h
      show (dropOne a l).bind (fun m => dropAll m (q ++ r)) = none
      cases hd : dropOne a l with
      | none => rfl
      | some x => rw [hd] at h; exact ih x h
  have h2 := this (ds.take i) (ds.drop i) l h
  rwa [List.take_append_drop] at h2
end Mf
namespace Mf
open Mm (lt)
/-- The table at k is right, seen from those ahead of it. -/
structure GoodAt (nx : Int) (l : List File) (k : Nat) (h : k < l.length) : Prop where
  least : 1 ≤ l[k].n
  below : l[k].n < nx
  above : ∀ j (hj : j + 1 = k), (l[j]'(by omega)).n < l[k].n
  file : IsFile l[k]
  apart : ∀ j (hj : j < k), ¬ Meet (l[j]'(by omega)) l[k]
theorem right_good {nx lg : Int} {l : List File} : Right ⟨nx, lg, l⟩ ↔ (1 ≤ nx ∧ nx ≤ 1099511627776) ∧ (0 ≤ lg ∧ lg ≤ 1099511627776) ∧ l.length ≤ 200 ∧ ∀ k (h : k < l.length), GoodAt nx l k h := by
  constructor
  · rintro ⟨h1, h2, h3, h4, h5, h6⟩
    refine ⟨h1, h2, h3, fun k h => ⟨(h4.1 _ (List.getElem_mem h)).1, (h4.1 _ (List.getElem_mem h)).2, fun j hj => ?_, h5 _ (List.getElem_mem h), fun j hj => ?_⟩⟩
    · exact List.pairwise_iff_getElem.1 h4.2 j k (by show j < l.length; omega) h (by omega)
    · exact List.pairwise_iff_getElem.1 h6 j k (by show j < l.length; omega) h hj
  · rintro ⟨h1, h2, h3, h4⟩
    have hs : ∀ d i (h : i + d + 1 < l.length), (l[i]'(by omega)).n < l[i + d + 1].n := fun d => by
      induction d with
      | zero => exact fun i h => (h4 (i + 1) h).above i rfl
      | succ d ih =>
        intro i h
        have a := ih i (by omega)
        have b := (h4 (i + (d + 1) + 1) h).above (i + d + 1) (by omega)
        omega
    refine ⟨h1, h2, h3, ⟨fun f hf => ?_, List.pairwise_iff_getElem.2 fun i j hi hj hij => ?_⟩, fun f hf => ?_, List.pairwise_iff_getElem.2 fun i j hi hj hij => (h4 j hj).apart i hij⟩
    · obtain ⟨i, hi, rfl⟩ := List.getElem_of_mem hf
      exact ⟨(h4 i hi).least, (h4 i hi).below⟩
    · have := hs (j - i - 1) i (by show i + (j - i - 1) + 1 < l.length; have : j < l.length := hj; omega)
      simp only [show i + (j - i - 1) + 1 = j from by omega] at this
      exact this
    · obtain ⟨i, hi, rfl⟩ := List.getElem_of_mem hf
      exact (h4 i hi).file
theorem isFile_iff {f : File} : IsFile f ↔ ¬ (f.level < 0 ∨ 4 ≤ f.level ∨ f.count < 1 ∨ 4096 < f.count ∨ ¬ (1 ≤ f.first.size ∧ f.first.size ≤ 128) ∨ ¬ (1 ≤ f.last.size ∧ f.last.size ≤ 128)) ∧ ¬ (lt f.last f.first = true ∨ f.count = 1 ∧ f.first ≠ f.last ∨ 1 < f.count ∧ f.first = f.last) := by
  unfold IsFile
  constructor
  · rintro ⟨h1, h2, h3, h4, h5, h6, h7, h8, h9, h10⟩
    refine ⟨?_, ?_⟩
    · rintro (h | h | h | h | h | h) <;> omega
    · rintro (h | ⟨h, k⟩ | ⟨h, k⟩)
      · rw [h9] at h; cases h
      · exact k (h10.2 h)
      · have := h10.1 k; omega
  · rintro ⟨h1, h2⟩
    simp only [not_or, Classical.not_not] at h1 h2
    obtain ⟨a1, a2, a3, a4, a5, a6⟩ := h1
    obtain ⟨b1, b2, b3⟩ := h2
    refine ⟨by omega, by omega, by omega, by omega, a5.1, a5.2, a6.1, a6.2, by simpa using b1, fun e => ?_, fun e => ?_⟩
    · by_cases c : f.count = 1
      · exact c
      · exact absurd ⟨by omega, e⟩ b3
    · by_cases c : f.first = f.last
      · exact c
      · exact absurd ⟨e, c⟩ b2
theorem meet_iff {f g : File} : Meet g f ↔ 0 < f.level ∧ g.level = f.level ∧ lt f.last g.first = false ∧ lt g.last f.first = false := by
  unfold Meet
  constructor
  · rintro ⟨h1, h2, h3, h4⟩; exact ⟨by omega, h1, h3, h4⟩
  · rintro ⟨h1, h2, h3, h4⟩; exact ⟨h2, by omega, h3, h4⟩
end Mf
