/-
  Plain facts on a disk's steps by numbers: what DiskCounts and DiskRenames ask of the document's answer. No condition.
-/
import Derived.Test.YtgcjjpmcphpcjaaDiskMath
namespace Dm
def fourL (k : Nat) : List UInt8 := match k % 4 with
  | 0 => [97]
  | 1 => [98]
  | 2 => [97, 46, 98]
  | _ => [99, 45, 49]
def stepM (d : Disk) (n : Nat) : Nat × Disk :=
  if n % 8 ≤ 2 then append d (fourL (n / 8)) (List.replicate (n / 32 % 50) 0)
  else if n % 8 = 3 then create d (fourL (n / 8))
  else if n % 8 = 4 then sync d (fourL (n / 8))
  else if n % 8 = 5 then rename d (fourL (n / 8)) (fourL (n / 32))
  else if n % 8 = 6 then remove d (fourL (n / 8))
  else (0, d)
def isFour (s : List UInt8) : Prop := ∃ k, s = fourL k
theorem four_name (k : Nat) : isName (fourL k) = true := by
  have h : k % 4 = 0 ∨ k % 4 = 1 ∨ k % 4 = 2 ∨ k % 4 = 3 := by omega
  unfold fourL
  rcases h with h | h | h | h <;> rw [h] <;> decide
theorem not_four : ¬ isFour [110, 111, 45, 115, 117, 99, 104] := by
  rintro ⟨k, h⟩
  have h2 : k % 4 = 0 ∨ k % 4 = 1 ∨ k % 4 = 2 ∨ k % 4 = 3 := by omega
  unfold fourL at h
  rcases h2 with h2 | h2 | h2 | h2 <;> rw [h2] at h <;> simp at h

/-- What is so of a disk that steps alone have turned. -/
structure Calm (d : Disk) : Prop where
  right : Right d
  up : d.down = false
  fuse : d.fuse = 0
  fours : ∀ p ∈ d.files, isFour p.1

theorem used_upd {l : List (List UInt8 × File)} (hs : Sorted l) {n : List UInt8} {f : File} (hf : get l n = some f) (g : File → File) : used (upd l n g) + f.data.length = used l + (g f).data.length := by
  induction l with
  | nil => cases hf
  | cons p r ih =>
    obtain ⟨h1, h2⟩ := List.pairwise_cons.1 hs
    unfold get at hf
    by_cases e : p.1 = n
    · rw [if_pos e] at hf; cases hf
      have hr : upd r n g = r := by
        unfold upd
        rw [List.map_congr_left (g := id) fun q hq => by rw [if_neg (by have := before_ne (h1 q hq); rw [e] at this; exact Ne.symm this)]; rfl]
        simp
      have : upd (p :: r) n g = (p.1, g p.2) :: r := by
        have h3 : upd (p :: r) n g = (if p.1 = n then (p.1, g p.2) else p) :: upd r n g := rfl
        rw [h3, if_pos e, hr]
      rw [this]; unfold used; simp only [List.map_cons, List.sum_cons]; omega
    · rw [if_neg e] at hf
      have h3 : upd (p :: r) n g = (if p.1 = n then (p.1, g p.2) else p) :: upd r n g := rfl
      rw [h3, if_neg e]
      have := ih h2 hf
      unfold used at *; simp only [List.map_cons, List.sum_cons]; omega
theorem used_del {l : List (List UInt8 × File)} (hs : Sorted l) {n : List UInt8} {f : File} (hf : get l n = some f) : used (del l n) + f.data.length = used l := by
  induction l with
  | nil => cases hf
  | cons p r ih =>
    obtain ⟨h1, h2⟩ := List.pairwise_cons.1 hs
    unfold get at hf
    unfold del
    by_cases e : p.1 = n
    · rw [if_pos e] at hf; cases hf
      rw [List.filter_cons_of_neg (by simp [e])]
      have : r.filter (fun p => !(p.1 == n)) = r := List.filter_eq_self.2 fun q hq => by
        have := before_ne (h1 q hq); rw [e] at this; simpa using Ne.symm this
      rw [this]; unfold used; simp only [List.map_cons, List.sum_cons]; omega
    · rw [if_neg e] at hf
      rw [List.filter_cons_of_pos (by simp [e])]
      have := ih h2 hf
      unfold used del at *; simp only [List.map_cons, List.sum_cons]; omega
theorem used_ins (n : List UInt8) (f : File) (l : List (List UInt8 × File)) : used (ins n f l) = f.data.length + used l := by
  unfold used
  rw [((ins_perm n f l).map _).sum_nat]
  simp
theorem used_del_le (l : List (List UInt8 × File)) (n : List UInt8) : used (del l n) ≤ used l := by
  induction l with
  | nil => exact Nat.le_refl _
  | cons p r ih =>
    unfold del
    by_cases e : p.1 = n
    · rw [List.filter_cons_of_neg (by simp [e])]
      unfold used del at *; simp only [List.map_cons, List.sum_cons]; omega
    · rw [List.filter_cons_of_pos (by simp [e])]
      unfold used del at *; simp only [List.map_cons, List.sum_cons]; omega

/-- Where the fuse is out a change is just what it does. -/
theorem change_calm {d : Disk} (h : d.fuse = 0) (f g : List (List UInt8 × File) → List (List UInt8 × File)) : change d f g = (0, { d with files := f d.files }) := by
  obtain ⟨a, b, c, e, l⟩ := d
  simp only at h
  subst h
  rfl
theorem create_cases {d : Disk} (h : Calm d) (k : Nat) : create d (fourL k) = (5, d) ∨ create d (fourL k) = (6, d) ∨ (get d.files (fourL k) = none ∧ create d (fourL k) = (0, { d with files := put d.files (fourL k) ⟨[], 0⟩ })) := by
  unfold create
  rw [if_neg (by rw [h.up]; simp), if_neg (by rw [four_name k]; simp)]
  cases hg : get d.files (fourL k) with
  | some f => simp
  | none =>
    simp only [Option.isSome_none, Bool.false_eq_true, if_false]
    split
    · exact .inr (.inl rfl)
    · rw [change_calm h.fuse]; simp
theorem append_cases {d : Disk} (h : Calm d) (n s : List UInt8) : append d n s = (4, d) ∨ append d n s = (3, d) ∨ append d n s = (6, d) ∨
    ∃ f, get d.files n = some f ∧ f.data.length + s.length ≤ 1048576 ∧ (d.bounded = true → used d.files + s.length ≤ d.room) ∧ append d n s = (0, { d with files := adds n s d.files }) := by
  unfold append
  rw [if_neg (by rw [h.up]; simp)]
  cases hg : get d.files n with
  | none => exact .inl rfl
  | some f =>
    simp only
    split
    · exact .inr (.inl rfl)
    · split
      · exact .inr (.inr (.inl rfl))
      · rename_i h1 h2
        refine .inr (.inr (.inr ⟨f, rfl, by omega, fun hb => ?_, change_calm h.fuse _ _⟩))
        rw [hb] at h2; simp at h2; omega
theorem sync_cases {d : Disk} (h : Calm d) (n : List UInt8) : sync d n = (4, d) ∨ ∃ f, get d.files n = some f ∧ sync d n = (0, { d with files := syncs n d.files }) := by
  unfold sync
  rw [if_neg (by rw [h.up]; simp)]
  cases hg : get d.files n with
  | none => exact .inl rfl
  | some f => exact .inr ⟨f, rfl, change_calm h.fuse _ _⟩
theorem rename_cases {d : Disk} (h : Calm d) (n : List UInt8) (k : Nat) : rename d n (fourL k) = (4, d) ∧ get d.files n = none ∨ ∃ f, get d.files n = some f ∧ rename d n (fourL k) = (0, { d with files := put (del d.files n) (fourL k) f }) := by
  unfold rename
  rw [if_neg (by rw [h.up]; simp)]
  cases hg : get d.files n with
  | none => exact .inl ⟨rfl, rfl⟩
  | some f => exact .inr ⟨f, rfl, by rw [← change_calm h.fuse (fun l => put (del l n) (fourL k) f) id]; simp only; rw [if_neg (by rw [four_name k]; simp)]⟩
theorem remove_cases {d : Disk} (h : Calm d) (n : List UInt8) : remove d n = (4, d) ∨ ∃ f, get d.files n = some f ∧ remove d n = (0, { d with files := del d.files n }) := by
  unfold remove
  rw [if_neg (by rw [h.up]; simp)]
  cases hg : get d.files n with
  | none => exact .inl rfl
  | some f => exact .inr ⟨f, rfl, change_calm h.fuse _ _⟩

theorem Calm.files {d : Disk} (h : Calm d) {l : List (List UInt8 × File)} (hr : Right { d with files := l }) (hf : ∀ p ∈ l, isFour p.1) : Calm { d with files := l } := ⟨hr, h.up, h.fuse, hf⟩
theorem stepM_right {d : Disk} (h : Right d) (n : Nat) : Right (stepM d n).2 := by
  unfold stepM
  split; · exact h.append _ _
  split; · exact h.create _
  split; · exact h.sync _
  split; · exact h.rename _ _
  split; · exact h.remove _
  exact h
/-- What a step does to a calm disk: nothing, with an error; or no error, no more bytes than there may be. -/
theorem step_calm {d : Disk} (h : Calm d) (n : Nat) : Calm (stepM d n).2 ∧ (stepM d n).2.bounded = d.bounded ∧ (stepM d n).2.room = d.room ∧
    (((stepM d n).1 ≠ 0 ∧ (stepM d n).2 = d) ∨ ((stepM d n).1 = 0 ∧ (used (stepM d n).2.files ≤ used d.files ∨ (d.bounded = true → used (stepM d n).2.files ≤ d.room)))) := by
  have hr := stepM_right h.right n
  have key : ∀ x : Nat × Disk, stepM d n = x → (x = (3, d) ∨ x = (4, d) ∨ x = (5, d) ∨ x = (6, d) ∨ ∃ l, x = (0, { d with files := l }) ∧ (∀ p ∈ l, isFour p.1) ∧ (used l ≤ used d.files ∨ (d.bounded = true → used l ≤ d.room))) → Calm (stepM d n).2 ∧ (stepM d n).2.bounded = d.bounded ∧ (stepM d n).2.room = d.room ∧
      (((stepM d n).1 ≠ 0 ∧ (stepM d n).2 = d) ∨ ((stepM d n).1 = 0 ∧ (used (stepM d n).2.files ≤ used d.files ∨ (d.bounded = true → used (stepM d n).2.files ≤ d.room)))) := by
    intro x hx hc
    rw [hx] at hr ⊢
    rcases hc with rfl | rfl | rfl | rfl | ⟨l, rfl, h1, h2⟩
    · exact ⟨h, rfl, rfl, .inl ⟨by simp, rfl⟩⟩
    · exact ⟨h, rfl, rfl, .inl ⟨by simp, rfl⟩⟩
    · exact ⟨h, rfl, rfl, .inl ⟨by simp, rfl⟩⟩
    · exact ⟨h, rfl, rfl, .inl ⟨by simp, rfl⟩⟩
    · exact ⟨h.files hr h1, rfl, rfl, .inr ⟨rfl, h2⟩⟩
  refine key _ rfl ?_
  unfold stepM
  split
  · rcases append_cases h (fourL (n / 8)) (List.replicate (n / 32 % 50) 0) with e | e | e | ⟨f, hg, hl, hb, e⟩ <;> rw [e]
    · exact .inr (.inl rfl)
    · exact .inl rfl
    · exact .inr (.inr (.inr (.inl rfl)))
    · refine .inr (.inr (.inr (.inr ⟨_, rfl, fun p hp => ?_, .inr fun hbb => ?_⟩)))
      · obtain ⟨q, hq, rfl⟩ := mem_upd.1 hp
        split <;> exact h.fours q hq
      · have := used_upd h.right.sorted hg (fun f => { f with data := f.data ++ List.replicate (n / 32 % 50) 0 })
        have h2 := hb hbb
        simp only [List.length_append] at this
        unfold adds
        omega
  split
  · rcases create_cases h (n / 8) with e | e | ⟨hg, e⟩ <;> rw [e]
    · exact .inr (.inr (.inl rfl))
    · exact .inr (.inr (.inr (.inl rfl)))
    · refine .inr (.inr (.inr (.inr ⟨_, rfl, fun p hp => ?_, .inl ?_⟩)))
      · rcases mem_put.1 hp with rfl | ⟨hp, _⟩
        · exact ⟨_, rfl⟩
        · exact h.fours p hp
      · unfold put; rw [used_ins]
        have := used_del_le d.files (fourL (n / 8))
        simp; omega
  split
  · rcases sync_cases h (fourL (n / 8)) with e | ⟨f, hg, e⟩ <;> rw [e]
    · exact .inr (.inl rfl)
    · refine .inr (.inr (.inr (.inr ⟨_, rfl, fun p hp => ?_, .inl ?_⟩)))
      · obtain ⟨q, hq, rfl⟩ := mem_upd.1 hp
        split <;> exact h.fours q hq
      · have := used_upd h.right.sorted hg (fun f => { f with synced := f.data.length })
        unfold syncs; simp only at this; omega
  split
  · rcases rename_cases h (fourL (n / 8)) (n / 32) with ⟨e, _⟩ | ⟨f, hg, e⟩ <;> rw [e]
    · exact .inr (.inl rfl)
    · refine .inr (.inr (.inr (.inr ⟨_, rfl, fun p hp => ?_, .inl ?_⟩)))
      · rcases mem_put.1 hp with rfl | ⟨hp, _⟩
        · exact ⟨_, rfl⟩
        · exact h.fours p (mem_del.1 hp).1
      · unfold put; rw [used_ins]
        have h1 := used_del h.right.sorted hg
        have h2 := used_del_le (del d.files (fourL (n / 8))) (fourL (n / 32))
        omega
  split
  · rcases remove_cases h (fourL (n / 8)) with e | ⟨f, hg, e⟩ <;> rw [e]
    · exact .inr (.inl rfl)
    · refine .inr (.inr (.inr (.inr ⟨_, rfl, fun p hp => h.fours p (mem_del.1 hp).1, .inl (used_del_le _ _)⟩)))
  · exact .inr (.inr (.inr (.inr ⟨d.files, rfl, h.fours, .inl (Nat.le_refl _)⟩)))
theorem calm_new : Calm new := ⟨Right.new, rfl, rfl, (fun _ h => nomatch h)⟩
theorem Calm.roomTo {d : Disk} (h : Calm d) {n : Int} (hn : n ≤ 9223372036854775807) : Calm (roomTo d n) := ⟨h.right.roomTo hn, h.up, h.fuse, h.fours⟩
end Dm
