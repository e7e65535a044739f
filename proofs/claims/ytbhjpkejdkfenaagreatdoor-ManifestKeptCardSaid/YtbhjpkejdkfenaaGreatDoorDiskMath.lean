/-
  Plain facts on a disk as a document's answer: files by rising names, what each call makes of them. No condition.
-/
import GoSem.ClaimWide
import Derived.WideAt
import Derived.WideShapes
namespace Dm
open Go (bytesBefore)

structure File where
  data : List UInt8
  synced : Nat
structure Disk where
  down : Bool
  fuse : Nat
  bounded : Bool
  room : Nat
  files : List (List UInt8 × File)

section
variable {α β : Type}
def get : List (List UInt8 × α) → List UInt8 → Option α
  | [], _ => none
  | p :: r, n => if p.1 = n then some p.2 else get r n
def del (l : List (List UInt8 × α)) (n : List UInt8) : List (List UInt8 × α) := l.filter fun p => !(p.1 == n)
def ins (n : List UInt8) (x : α) : List (List UInt8 × α) → List (List UInt8 × α)
  | [] => [(n, x)]
  | p :: r => if bytesBefore n p.1 then (n, x) :: p :: r else p :: ins n x r
def put (l : List (List UInt8 × α)) (n : List UInt8) (x : α) : List (List UInt8 × α) := ins n x (del l n)
def upd (l : List (List UInt8 × α)) (n : List UInt8) (g : α → α) : List (List UInt8 × α) := l.map fun p => if p.1 = n then (p.1, g p.2) else p
def Sorted (l : List (List UInt8 × α)) : Prop := l.Pairwise fun p q => bytesBefore p.1 q.1 = true
def keys (l : List (List UInt8 × α)) : List (List UInt8) := l.map (·.1)

theorem before_ne {a b : List UInt8} (h : bytesBefore a b = true) : a ≠ b := fun e => by rw [e, Go.WideAt.bytes_irrefl] at h; cases h

theorem ins_perm (n : List UInt8) (x : α) : ∀ l : List (List UInt8 × α), (ins n x l).Perm ((n, x) :: l)
  | [] => .refl _
  | p :: r => by
    unfold ins
    split
    · exact .refl _
    · exact ((ins_perm n x r).cons p).trans (.swap _ _ _)
theorem mem_ins {n : List UInt8} {x : α} {l : List (List UInt8 × α)} {p : List UInt8 × α} : p ∈ ins n x l ↔ p = (n, x) ∨ p ∈ l := by
  rw [(ins_perm n x l).mem_iff]; exact List.mem_cons
theorem mem_del {n : List UInt8} {l : List (List UInt8 × α)} {p : List UInt8 × α} : p ∈ del l n ↔ p ∈ l ∧ p.1 ≠ n := by
  unfold del; rw [List.mem_filter]; simp
theorem mem_put {n : List UInt8} {x : α} {l : List (List UInt8 × α)} {p : List UInt8 × α} : p ∈ put l n x ↔ p = (n, x) ∨ (p ∈ l ∧ p.1 ≠ n) := by
  unfold put; rw [mem_ins, mem_del]
theorem mem_upd {n : List UInt8} {g : α → α} {l : List (List UInt8 × α)} {p : List UInt8 × α} : p ∈ upd l n g ↔ ∃ q ∈ l, p = if q.1 = n then (q.1, g q.2) else q := by
  unfold upd; rw [List.mem_map]; constructor <;> (rintro ⟨q, h, e⟩; exact ⟨q, h, e.symm⟩)

theorem Sorted.ins {n : List UInt8} {x : α} : ∀ {l : List (List UInt8 × α)}, Sorted l → (∀ p ∈ l, p.1 ≠ n) → Sorted (ins n x l)
  | [], _, _ => by simp [Dm.ins, Sorted]
  | p :: r, h, hn => by
    obtain ⟨h1, h2⟩ := List.pairwise_cons.1 h
    unfold Dm.ins
    split
    · rename_i hb
      refine List.pairwise_cons.2 ⟨fun q hq => ?_, h⟩
      rcases List.mem_cons.1 hq with rfl | hq
      · exact hb
      · exact Go.WideShapes.bytes_trans _ _ _ hb (h1 q hq)
    · rename_i hb
      have hpn : bytesBefore p.1 n = true := by
        rcases Go.WideAt.bytes_total p.1 n (hn p (by simp)) with h' | h'
        · exact h'
        · exact absurd h' hb
      refine List.pairwise_cons.2 ⟨fun q hq => ?_, Sorted.ins h2 fun q hq => hn q (by simp [hq])⟩
      rcases mem_ins.1 hq with rfl | hq
      · exact hpn
      · exact h1 q hq
theorem Sorted.del {l : List (List UInt8 × α)} (h : Sorted l) (n : List UInt8) : Sorted (del l n) := h.filter _
theorem Sorted.put {l : List (List UInt8 × α)} (h : Sorted l) (n : List UInt8) (x : α) : Sorted (put l n x) :=
  (h.del n).ins fun _ hp => (mem_del.1 hp).2
theorem keys_upd (l : List (List UInt8 × α)) (n : List UInt8) (g : α → α) : keys (upd l n g) = keys l := by
  unfold keys upd; rw [List.map_map]; refine List.map_congr_left fun p _ => ?_
  simp only [Function.comp]; split <;> rfl
theorem sorted_keys {l : List (List UInt8 × α)} : Sorted l ↔ (keys l).Pairwise fun a b => bytesBefore a b = true := by
  unfold Sorted keys; rw [List.pairwise_map]
theorem Sorted.upd {l : List (List UInt8 × α)} (h : Sorted l) (n : List UInt8) (g : α → α) : Sorted (upd l n g) := by
  rw [sorted_keys, keys_upd, ← sorted_keys]; exact h
theorem Sorted.apart {l : List (List UInt8 × α)} (h : Sorted l) : (keys l).Nodup := by
  rw [sorted_keys] at h; exact h.imp fun h => before_ne h

theorem get_none {l : List (List UInt8 × α)} {n : List UInt8} : get l n = none ↔ ∀ p ∈ l, p.1 ≠ n := by
  induction l with
  | nil => simp [get]
  | cons p r ih => unfold get; split <;> simp_all
theorem get_mem {l : List (List UInt8 × α)} {n : List UInt8} {x : α} (h : get l n = some x) : (n, x) ∈ l := by
  induction l with
  | nil => cases h
  | cons p r ih =>
    unfold get at h
    split at h
    · rename_i e; cases h; rw [← e]; exact List.mem_cons_self
    · exact List.mem_cons_of_mem _ (ih h)
theorem Sorted.get {l : List (List UInt8 × α)} (hs : Sorted l) {n : List UInt8} {x : α} (h : (n, x) ∈ l) : get l n = some x := by
  induction l with
  | nil => cases h
  | cons p r ih =>
    obtain ⟨h1, h2⟩ := List.pairwise_cons.1 hs
    unfold Dm.get
    rcases List.mem_cons.1 h with rfl | h
    · rw [if_pos rfl]
    · rw [if_neg (before_ne (h1 _ h))]; exact ih h2 h
theorem get_map {l : List (List UInt8 × α)} (n : List UInt8) (f : α → β) : get (l.map fun p => (p.1, f p.2)) n = (get l n).map f := by
  induction l with
  | nil => rfl
  | cons p r ih => simp only [List.map_cons, get]; split <;> simp_all
theorem get_ins_same (n : List UInt8) (x : α) (l : List (List UInt8 × α)) (h : ∀ p ∈ l, p.1 ≠ n) : get (ins n x l) n = some x := by
  induction l with
  | nil => simp [ins, get]
  | cons p r ih =>
    unfold ins
    split
    · simp [get]
    · unfold get; rw [if_neg (h p (by simp))]; exact ih fun q hq => h q (by simp [hq])
theorem get_ins_other {n m : List UInt8} (hne : m ≠ n) (x : α) (l : List (List UInt8 × α)) : get (ins n x l) m = get l m := by
  induction l with
  | nil => simp [ins, get, Ne.symm hne]
  | cons p r ih =>
    unfold ins
    split
    · simp [get, Ne.symm hne]
    · simp only [get, ih]
theorem get_del_same (l : List (List UInt8 × α)) (n : List UInt8) : get (del l n) n = none := get_none.2 fun _ hp => (mem_del.1 hp).2
theorem get_del_other {n m : List UInt8} (hne : m ≠ n) (l : List (List UInt8 × α)) : get (del l n) m = get l m := by
  induction l with
  | nil => rfl
  | cons p r ih =>
    unfold del at ih ⊢
    by_cases e : p.1 = n
    · have : (!(p.1 == n)) = false := by simp [e]
      rw [List.filter_cons_of_neg (by rw [this]; simp), ih, get, if_neg (by rw [e]; exact Ne.symm hne)]
    · rw [List.filter_cons_of_pos (by simp [e])]; simp only [get, ih]
theorem get_put_same (l : List (List UInt8 × α)) (n : List UInt8) (x : α) : get (put l n x) n = some x := get_ins_same _ _ _ fun _ hp => (mem_del.1 hp).2
theorem get_put_other {n m : List UInt8} (hne : m ≠ n) (l : List (List UInt8 × α)) (x : α) : get (put l n x) m = get l m := by
  unfold put; rw [get_ins_other hne, get_del_other hne]
theorem get_upd_same (l : List (List UInt8 × α)) (n : List UInt8) (g : α → α) : get (upd l n g) n = (get l n).map g := by
  induction l with
  | nil => rfl
  | cons p r ih =>
    unfold upd at ih ⊢
    rw [List.map_cons]
    by_cases e : p.1 = n
    · simp [get, e]
    · simp only [if_neg e, get]; exact ih
theorem get_upd_other {n m : List UInt8} (hne : m ≠ n) (l : List (List UInt8 × α)) (g : α → α) : get (upd l n g) m = get l m := by
  induction l with
  | nil => rfl
  | cons p r ih =>
    unfold upd at ih ⊢
    rw [List.map_cons]
    by_cases e : p.1 = n
    · rw [if_pos e, get, get, if_neg (by simp [e, Ne.symm hne]), if_neg (by rw [e]; exact Ne.symm hne)]; exact ih
    · simp only [if_neg e, get]; rw [ih]
theorem del_none {l : List (List UInt8 × α)} {n : List UInt8} (h : get l n = none) : del l n = l := List.filter_eq_self.2 fun p hp => by simpa using get_none.1 h p hp
theorem ins_map (n : List UInt8) (x : α) (f : α → β) : ∀ l : List (List UInt8 × α), (ins n x l).map (fun p => (p.1, f p.2)) = ins n (f x) (l.map fun p => (p.1, f p.2))
  | [] => rfl
  | p :: r => by simp only [ins, List.map_cons]; split <;> simp [ins_map n x f r]
theorem del_map (n : List UInt8) (f : α → β) (l : List (List UInt8 × α)) : (del l n).map (fun p => (p.1, f p.2)) = del (l.map fun p => (p.1, f p.2)) n := by
  unfold del; rw [List.filter_map]; rfl
theorem put_map (l : List (List UInt8 × α)) (n : List UInt8) (x : α) (f : α → β) : (put l n x).map (fun p => (p.1, f p.2)) = put (l.map fun p => (p.1, f p.2)) n (f x) := by
  unfold put; rw [ins_map, del_map]
theorem upd_map (l : List (List UInt8 × α)) (n : List UInt8) (g : α → α) (g' : β → β) (f : α → β) (h : ∀ x, f (g x) = g' (f x)) : (upd l n g).map (fun p => (p.1, f p.2)) = upd (l.map fun p => (p.1, f p.2)) n g' := by
  unfold upd; rw [List.map_map, List.map_map]; refine List.map_congr_left fun p _ => ?_
  simp only [Function.comp]; split <;> simp [h]
theorem keys_map (l : List (List UInt8 × α)) (f : α → β) : keys (l.map fun p => (p.1, f p.2)) = keys l := by unfold keys; rw [List.map_map]; rfl
theorem length_put_new {l : List (List UInt8 × α)} {n : List UInt8} (x : α) (h : get l n = none) : (put l n x).length = l.length + 1 := by
  unfold put; rw [del_none h, (ins_perm n x l).length_eq]; rfl
theorem length_del {l : List (List UInt8 × α)} (hs : Sorted l) {n : List UInt8} {x : α} (h : get l n = some x) : (del l n).length + 1 = l.length := by
  induction l with
  | nil => cases h
  | cons p r ih =>
    obtain ⟨h1, h2⟩ := List.pairwise_cons.1 hs
    unfold get at h
    unfold del
    split at h
    · rename_i e
      rw [List.filter_cons_of_neg (by simp [e])]
      have : r.filter (fun p => !(p.1 == n)) = r := List.filter_eq_self.2 fun q hq => by
        have := before_ne (h1 q hq); rw [e] at this; simpa using Ne.symm this
      rw [this]; rfl
    · rename_i e
      rw [List.filter_cons_of_pos (by simp [e])]
      have := ih h2 h
      unfold del at this
      simp only [List.length_cons]; omega
theorem length_put_le (l : List (List UInt8 × α)) (n : List UInt8) (x : α) : (put l n x).length ≤ l.length + 1 := by
  unfold put; rw [(ins_perm n x _).length_eq]
  have : (del l n).length ≤ l.length := List.length_filter_le _ _
  simp only [List.length_cons]; omega
theorem length_del_le (l : List (List UInt8 × α)) (n : List UInt8) : (del l n).length ≤ l.length := List.length_filter_le _ _
theorem length_upd (l : List (List UInt8 × α)) (n : List UInt8) (g : α → α) : (upd l n g).length = l.length := by unfold upd; rw [List.length_map]

/-- Two that are sorted, and tell the same of each name, are one. -/
theorem Sorted.ext {l m : List (List UInt8 × α)} (hl : Sorted l) (hm : Sorted m) (h : ∀ n, Dm.get l n = Dm.get m n) : l = m := by
  induction l generalizing m with
  | nil =>
    cases m with
    | nil => rfl
    | cons q s => have := h q.1; simp [Dm.get] at this
  | cons p r ih =>
    obtain ⟨h1, h2⟩ := List.pairwise_cons.1 hl
    cases m with
    | nil => have := h p.1; simp [Dm.get] at this
    | cons q s =>
      obtain ⟨k1, k2⟩ := List.pairwise_cons.1 hm
      have e1 : (p.1, p.2) ∈ q :: s := get_mem (by rw [← h p.1]; simp [Dm.get])
      have e2 : (q.1, q.2) ∈ p :: r := get_mem (by rw [h q.1]; simp [Dm.get])
      have e : p = q := by
        rcases List.mem_cons.1 e1 with e | e1
        · exact e
        · rcases List.mem_cons.1 e2 with e | e2
          · exact e.symm
          · exact absurd (Go.WideShapes.bytes_trans _ _ _ (h1 _ e2) (k1 _ e1)) (by rw [Go.WideAt.bytes_irrefl]; simp)
      subst e
      congr 1
      refine ih h2 k2 fun n => ?_
      by_cases en : p.1 = n
      · rw [get_none.2 fun q hq => by have := before_ne (h1 q hq); rw [en] at this; exact Ne.symm this, get_none.2 fun q hq => by have := before_ne (k1 q hq); rw [en] at this; exact Ne.symm this]
      · have := h n
        simpa [Dm.get, en] using this
end

/-! ### the calls -/
def nameByte (c : UInt8) : Bool := (97 ≤ c && c ≤ 122) || (48 ≤ c && c ≤ 57) || c == 46 || c == 45
def isName (s : List UInt8) : Bool := decide (1 ≤ s.length) && decide (s.length ≤ 32) && s.all nameByte
def used (l : List (List UInt8 × File)) : Nat := (l.map fun p => p.2.data.length).sum

def change (d : Disk) (whole torn : List (List UInt8 × File) → List (List UInt8 × File)) : Nat × Disk :=
  if d.fuse = 1 then (7, { d with down := true, fuse := 0, files := torn d.files }) else (0, { d with fuse := d.fuse - 1, files := whole d.files })
def new : Disk := ⟨false, 0, false, 0, []⟩
def create (d : Disk) (n : List UInt8) : Nat × Disk :=
  if d.down then (7, d) else if isName n = false then (1, d) else if (get d.files n).isSome then (5, d) else if 256 ≤ d.files.length then (6, d)
  else change d (fun l => put l n ⟨[], 0⟩) id
def adds (n s : List UInt8) (l : List (List UInt8 × File)) : List (List UInt8 × File) := upd l n fun f => { f with data := f.data ++ s }
def append (d : Disk) (n s : List UInt8) : Nat × Disk :=
  if d.down then (7, d) else match get d.files n with
  | none => (4, d)
  | some f => if 1048576 < f.data.length + s.length then (3, d) else if d.bounded && decide (d.room < used d.files + s.length) then (6, d) else change d (adds n s) (adds n s)
def syncs (n : List UInt8) (l : List (List UInt8 × File)) : List (List UInt8 × File) := upd l n fun f => { f with synced := f.data.length }
def sync (d : Disk) (n : List UInt8) : Nat × Disk :=
  if d.down then (7, d) else match get d.files n with
  | none => (4, d)
  | some _ => change d (syncs n) id
def rename (d : Disk) (a b : List UInt8) : Nat × Disk :=
  if d.down then (7, d) else match get d.files a with
  | none => (4, d)
  | some f => if isName b = false then (1, d) else change d (fun l => put (del l a) b f) id
def remove (d : Disk) (n : List UInt8) : Nat × Disk :=
  if d.down then (7, d) else match get d.files n with
  | none => (4, d)
  | some _ => change d (fun l => del l n) id
def read (d : Disk) (n : List UInt8) : List UInt8 × Nat :=
  if d.down then ([], 7) else match get d.files n with
  | none => ([], 4)
  | some f => (f.data, 0)
def fuseTo (d : Disk) (n : Int) : Disk := { d with fuse := n.toNat }
def roomTo (d : Disk) (n : Int) : Disk := { d with bounded := decide (0 ≤ n), room := n.toNat }
/-- One file behind a crash, and what is left of the list. -/
def cutOne (keep : List Int) (f : File) : File × List Int :=
  if f.data.length = f.synced then (f, keep) else match keep with
  | [] => (⟨f.data.take f.synced, f.synced⟩, [])
  | k :: ks => (⟨f.data.take (f.synced + min k.toNat (f.data.length - f.synced)), f.synced + min k.toNat (f.data.length - f.synced)⟩, ks)
def cut : List Int → List (List UInt8 × File) → List (List UInt8 × File)
  | _, [] => []
  | keep, p :: r => (p.1, (cutOne keep p.2).1) :: cut (cutOne keep p.2).2 r
def crash (d : Disk) (keep : List Int) : Disk := { d with down := true, fuse := 0, files := cut keep d.files }
def start (d : Disk) : Disk := if d.down then { d with down := false, files := cut [] d.files } else d

/-- What is so of every disk: names are names, rising; at most 256 files of at most 2^20 bytes; what is synced is no more than there is. -/
structure Right (d : Disk) : Prop where
  sorted : Sorted d.files
  names : ∀ p ∈ d.files, isName p.1 = true
  few : d.files.length ≤ 256
  short : ∀ p ∈ d.files, p.2.synced ≤ p.2.data.length ∧ p.2.data.length ≤ 1048576
  fuse : d.fuse ≤ 9223372036854775807
  room : d.room ≤ 9223372036854775807

theorem keys_cut : ∀ (l : List (List UInt8 × File)) (keep : List Int), keys (cut keep l) = keys l
  | [], _ => rfl
  | p :: r, keep => by simp only [cut, keys, List.map_cons]; congr 1; exact keys_cut r _
theorem used_le {l : List (List UInt8 × File)} (h : ∀ p ∈ l, p.2.data.length ≤ 1048576) : used l ≤ l.length * 1048576 := by
  induction l with
  | nil => simp [used]
  | cons p r ih =>
    have h1 := ih fun q hq => h q (by simp [hq])
    have h2 := h p (by simp)
    unfold used at *
    simp only [List.map_cons, List.sum_cons, List.length_cons]
    omega
theorem Right.used {d : Disk} (h : Right d) : used d.files ≤ 268435456 := by
  have h1 := used_le fun p hp => (h.short p hp).2
  have h2 := h.few
  omega
theorem isName_len {s : List UInt8} (h : isName s = true) : 1 ≤ s.length ∧ s.length ≤ 32 := by
  unfold isName at h; simp at h; omega
theorem cutOne_short (keep : List Int) (f : File) (h : f.synced ≤ f.data.length ∧ f.data.length ≤ 1048576) : (cutOne keep f).1.synced ≤ (cutOne keep f).1.data.length ∧ (cutOne keep f).1.data.length ≤ 1048576 := by
  unfold cutOne
  split
  · exact h
  · split <;> simp <;> omega
theorem cut_short : ∀ (l : List (List UInt8 × File)) (keep : List Int), (∀ p ∈ l, p.2.synced ≤ p.2.data.length ∧ p.2.data.length ≤ 1048576) → ∀ p ∈ cut keep l, p.2.synced ≤ p.2.data.length ∧ p.2.data.length ≤ 1048576
  | [], _, _, p, hp => by cases hp
  | q :: r, keep, h, p, hp => by
    rcases List.mem_cons.1 hp with rfl | hp
    · exact cutOne_short _ _ (h q (by simp))
    · exact cut_short r _ (fun x hx => h x (by simp [hx])) p hp
theorem length_cut (l : List (List UInt8 × File)) (keep : List Int) : (cut keep l).length = l.length := by
  have h := congrArg List.length (keys_cut l keep); simpa [keys] using h
theorem names_of_keys {l m : List (List UInt8 × File)} (h : keys l = keys m) (hm : ∀ p ∈ m, isName p.1 = true) : ∀ p ∈ l, isName p.1 = true := fun p hp => by
  have : p.1 ∈ keys m := by rw [← h]; exact List.mem_map.2 ⟨p, hp, rfl⟩
  obtain ⟨q, hq, e⟩ := List.mem_map.1 this
  rw [← e]; exact hm q hq

theorem Right.files {d : Disk} (h : Right d) (dn : Bool) (fu : Nat) (hf : fu ≤ 9223372036854775807) {l : List (List UInt8 × File)} (h1 : Sorted l) (h2 : ∀ p ∈ l, isName p.1 = true) (h3 : l.length ≤ 256) (h4 : ∀ p ∈ l, p.2.synced ≤ p.2.data.length ∧ p.2.data.length ≤ 1048576) :
    Right { d with down := dn, fuse := fu, files := l } := ⟨h1, h2, h3, h4, hf, h.room⟩
theorem Right.cut {d : Disk} (h : Right d) (dn : Bool) (fu : Nat) (hf : fu ≤ 9223372036854775807) (keep : List Int) : Right { d with down := dn, fuse := fu, files := Dm.cut keep d.files } :=
  h.files dn fu hf (by rw [sorted_keys, keys_cut, ← sorted_keys]; exact h.sorted) (names_of_keys (keys_cut _ _) h.names) (by rw [length_cut]; exact h.few) (cut_short _ _ h.short)
theorem Right.crash {d : Disk} (h : Right d) (keep : List Int) : Right (crash d keep) := h.cut true 0 (by omega) keep
theorem Right.start {d : Disk} (h : Right d) : Right (start d) := by
  unfold Dm.start; split
  · exact h.cut false d.fuse h.fuse []
  · exact h
theorem Right.new : Right new := ⟨List.Pairwise.nil, (fun _ h => nomatch h), by simp [Dm.new], (fun _ h => nomatch h), by simp [Dm.new], by simp [Dm.new]⟩
theorem Right.change {d : Disk} (h : Right d) {f g : List (List UInt8 × File) → List (List UInt8 × File)} (hf : ∀ b u, u ≤ 9223372036854775807 → Right { d with down := b, fuse := u, files := f d.files }) (hg : ∀ b u, u ≤ 9223372036854775807 → Right { d with down := b, fuse := u, files := g d.files }) : Right (change d f g).2 := by
  have := h.fuse
  unfold Dm.change; split
  · exact hg true 0 (by omega)
  · exact hf d.down (d.fuse - 1) (by omega)
theorem Right.create {d : Disk} (h : Right d) (n : List UInt8) : Right (create d n).2 := by
  unfold Dm.create
  split; · exact h
  split; · exact h
  split; · exact h
  split; · exact h
  rename_i hn hg hl
  refine h.change (fun b u hu => ?_) (fun b u hu => h.files b u hu h.sorted h.names h.few h.short)
  refine h.files b u hu (h.sorted.put _ _) (fun p hp => ?_) ?_ (fun p hp => ?_)
  · rcases mem_put.1 hp with rfl | ⟨hp, _⟩
    · simpa using hn
    · exact h.names p hp
  · have := length_put_le d.files n (⟨[], 0⟩ : File); omega
  · rcases mem_put.1 hp with rfl | ⟨hp, _⟩
    · simp
    · exact h.short p hp
theorem Right.upd {d : Disk} (h : Right d) {n : List UInt8} {f : File} (hf : get d.files n = some f) (g : File → File) (hg : (g f).synced ≤ (g f).data.length ∧ (g f).data.length ≤ 1048576) (b : Bool) (u : Nat) (hu : u ≤ 9223372036854775807) : Right { d with down := b, fuse := u, files := Dm.upd d.files n g } :=
  h.files b u hu (h.sorted.upd _ _) (names_of_keys (keys_upd _ _ _) h.names) (by rw [length_upd]; exact h.few) fun p hp => by
    obtain ⟨q, hq, rfl⟩ := mem_upd.1 hp
    split
    · rename_i e
      have : q.2 = f := by
        have h1 := h.sorted.get (n := q.1) (x := q.2) hq
        rw [e, hf] at h1; exact (Option.some.inj h1).symm
      rw [this]; exact hg
    · exact h.short q hq
theorem Right.get {d : Disk} (h : Right d) {n : List UInt8} {f : File} (hf : Dm.get d.files n = some f) : isName n = true ∧ f.synced ≤ f.data.length ∧ f.data.length ≤ 1048576 :=
  ⟨h.names _ (get_mem hf), h.short _ (get_mem hf)⟩
theorem Right.append {d : Disk} (h : Right d) (n s : List UInt8) : Right (append d n s).2 := by
  unfold Dm.append
  split; · exact h
  split; · exact h
  rename_i f hf
  split; · exact h
  rename_i hl
  split; · exact h
  have := h.get hf
  refine h.change (fun b u hu => ?_) (fun b u hu => ?_) <;> exact h.upd hf _ (by simp; omega) b u hu
theorem Right.sync {d : Disk} (h : Right d) (n : List UInt8) : Right (sync d n).2 := by
  unfold Dm.sync
  split; · exact h
  split; · exact h
  rename_i f hf
  have := h.get hf
  exact h.change (fun b u hu => h.upd hf _ (by simp; omega) b u hu) (fun b u hu => h.files b u hu h.sorted h.names h.few h.short)
theorem Right.rename {d : Disk} (h : Right d) (a b : List UInt8) : Right (rename d a b).2 := by
  unfold Dm.rename
  split; · exact h
  split; · exact h
  rename_i f hf
  split; · exact h
  rename_i hn
  have hg := h.get hf
  refine h.change (fun c u hu => ?_) (fun c u hu => h.files c u hu h.sorted h.names h.few h.short)
  refine h.files c u hu ((h.sorted.del _).put _ _) (fun p hp => ?_) ?_ (fun p hp => ?_)
  · rcases mem_put.1 hp with rfl | ⟨hp, _⟩
    · simpa using hn
    · exact h.names p (mem_del.1 hp).1
  · have h1 := length_put_le (del d.files a) b f
    have h2 := length_del h.sorted hf
    have := h.few
    omega
  · rcases mem_put.1 hp with rfl | ⟨hp, _⟩
    · exact hg.2
    · exact h.short p (mem_del.1 hp).1
theorem Right.remove {d : Disk} (h : Right d) (n : List UInt8) : Right (remove d n).2 := by
  unfold Dm.remove
  split; · exact h
  split; · exact h
  refine h.change (fun b u hu => ?_) (fun b u hu => h.files b u hu h.sorted h.names h.few h.short)
  refine h.files b u hu (h.sorted.del _) (fun p hp => h.names p (mem_del.1 hp).1) (Nat.le_trans (length_del_le _ _) h.few) (fun p hp => h.short p (mem_del.1 hp).1)
theorem Right.fuseTo {d : Disk} (h : Right d) {n : Int} (hn : n ≤ 9223372036854775807) : Right (fuseTo d n) := ⟨h.sorted, h.names, h.few, h.short, by simp [Dm.fuseTo]; omega, h.room⟩
theorem Right.roomTo {d : Disk} (h : Right d) {n : Int} (hn : n ≤ 9223372036854775807) : Right (roomTo d n) := ⟨h.sorted, h.names, h.few, h.short, h.fuse, by simp [Dm.roomTo]; omega⟩
end Dm
