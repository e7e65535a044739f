/-
  Plain facts on a disk whose fuse burns: what DiskQuiet asks of the document's answer. No condition.
-/
import Derived.Test.YtgcjjpmcphpcjaaDiskLawMath
namespace Dm
/-- The power is on; L calls more; no more bytes than the room. -/
structure Lit (d : Disk) (L R : Nat) : Prop where
  right : Right d
  up : d.down = false
  fuse : d.fuse = L
  bound : d.bounded = true
  room : d.room = R
  used : used d.files ≤ R
/-- What a call makes of it: an error and nothing else; or one call less; or it is down, in just the last. -/
def Burns (d : Disk) (L R : Nat) (r : Nat × Disk) : Prop :=
  (r.1 ≠ 0 ∧ r.1 ≠ 7 ∧ r.2 = d) ∨ (r.1 = 0 ∧ 2 ≤ L ∧ Lit r.2 (L - 1) R) ∨ (r.1 = 7 ∧ L = 1 ∧ r.2.down = true ∧ used r.2.files ≤ R ∧ r.2.fuse = 0)
theorem change_burns {d : Disk} {L R : Nat} (h : Lit d L R) (hL : 1 ≤ L) {f g : List (List UInt8 × File) → List (List UInt8 × File)} (hr : Right (change d f g).2) (hf : used (f d.files) ≤ R) (hg : used (g d.files) ≤ R) : Burns d L R (change d f g) := by
  unfold Burns
  unfold change at hr ⊢
  by_cases h1 : d.fuse = 1
  · rw [if_pos h1]
    exact .inr (.inr ⟨rfl, by rw [← h.fuse, h1], rfl, hg, rfl⟩)
  · rw [if_neg h1] at hr ⊢
    refine .inr (.inl ⟨rfl, by have := h.fuse; omega, ⟨hr, h.up, ?_, h.bound, h.room, hf⟩⟩)
    show d.fuse - 1 = L - 1
    rw [h.fuse]
theorem create_burns {d : Disk} {L R : Nat} (h : Lit d L R) (hL : 1 ≤ L) (n : List UInt8) : Burns d L R (create d n) := by
  have hr := h.right.create n
  unfold create at hr ⊢
  rw [if_neg (by rw [h.up]; simp)] at hr ⊢
  split; · exact .inl ⟨by simp, by simp, rfl⟩
  split; · exact .inl ⟨by simp, by simp, rfl⟩
  split; · exact .inl ⟨by simp, by simp, rfl⟩
  rename_i h1 h2 h3
  rw [if_neg h1, if_neg h2, if_neg h3] at hr
  refine change_burns h hL hr ?_ h.used
  unfold put; rw [used_ins]
  have := used_del_le d.files n
  have := h.used
  simp; omega
theorem append_burns {d : Disk} {L R : Nat} (h : Lit d L R) (hL : 1 ≤ L) (n s : List UInt8) : Burns d L R (append d n s) := by
  have hr := h.right.append n s
  unfold append at hr ⊢
  rw [if_neg (by rw [h.up]; simp)] at hr ⊢
  cases hg : get d.files n with
  | none => exact .inl ⟨by simp, by simp, rfl⟩
  | some f =>
    rw [hg] at hr
    simp only at hr ⊢
    by_cases h1 : 1048576 < f.data.length + s.length
    · rw [if_pos h1]; exact .inl ⟨by simp, by simp, rfl⟩
    · rw [if_neg h1] at hr ⊢
      by_cases h2 : (d.bounded && decide (d.room < used d.files + s.length)) = true
      · rw [if_pos h2]; exact .inl ⟨by simp, by simp, rfl⟩
      · rw [if_neg h2] at hr ⊢
        have h3 := used_upd h.right.sorted hg (fun f => { f with data := f.data ++ s })
        have h4 : used d.files + s.length ≤ R := by
          rw [h.bound, h.room] at h2; simp at h2; omega
        have h5 : used (adds n s d.files) ≤ R := by unfold adds; simp only [List.length_append] at h3; omega
        exact change_burns h hL hr h5 h5
theorem sync_burns {d : Disk} {L R : Nat} (h : Lit d L R) (hL : 1 ≤ L) (n : List UInt8) : Burns d L R (sync d n) := by
  have hr := h.right.sync n
  unfold sync at hr ⊢
  rw [if_neg (by rw [h.up]; simp)] at hr ⊢
  cases hg : get d.files n with
  | none => exact .inl ⟨by simp, by simp, rfl⟩
  | some f =>
    rw [hg] at hr
    refine change_burns h hL hr ?_ h.used
    have h3 := used_upd h.right.sorted hg (fun f => { f with synced := f.data.length })
    have := h.used
    unfold syncs; simp only at h3; omega
theorem rename_burns {d : Disk} {L R : Nat} (h : Lit d L R) (hL : 1 ≤ L) (a b : List UInt8) : Burns d L R (rename d a b) := by
  have hr := h.right.rename a b
  unfold rename at hr ⊢
  rw [if_neg (by rw [h.up]; simp)] at hr ⊢
  cases hg : get d.files a with
  | none => exact .inl ⟨by simp, by simp, rfl⟩
  | some f =>
    rw [hg] at hr
    simp only at hr ⊢
    by_cases h1 : isName b = false
    · rw [if_pos h1]; exact .inl ⟨by simp, by simp, rfl⟩
    · rw [if_neg h1] at hr ⊢
      refine change_burns h hL hr ?_ h.used
      unfold put; rw [used_ins]
      have h1 := used_del h.right.sorted hg
      have h2 := used_del_le (del d.files a) b
      have := h.used
      omega
theorem remove_burns {d : Disk} {L R : Nat} (h : Lit d L R) (hL : 1 ≤ L) (n : List UInt8) : Burns d L R (remove d n) := by
  have hr := h.right.remove n
  unfold remove at hr ⊢
  rw [if_neg (by rw [h.up]; simp)] at hr ⊢
  cases hg : get d.files n with
  | none => exact .inl ⟨by simp, by simp, rfl⟩
  | some f =>
    rw [hg] at hr
    refine change_burns h hL hr ?_ h.used
    have := used_del_le d.files n
    have := h.used
    omega
/-- While the power is off nothing changes, and all calls say so. -/
theorem off {d : Disk} (h : d.down = true) (n s : List UInt8) : read d n = ([], 7) ∧ create d n = (7, d) ∧ append d n s = (7, d) ∧ sync d n = (7, d) ∧ rename d n s = (7, d) ∧ remove d n = (7, d) := by
  unfold read create append sync rename remove
  simp only [h, if_true]
  exact ⟨trivial, trivial, trivial, trivial, trivial, trivial⟩
theorem start_on (d : Disk) : (start d).down = false := by
  unfold start
  split
  · rfl
  · rename_i h; simpa using h
theorem start_fuse (d : Disk) : (start d).fuse = d.fuse := by unfold start; split <;> rfl
theorem create_on {d : Disk} (h : d.down = false) (hf : d.fuse = 0) (n : List UInt8) : (create d n).1 ≠ 7 := by
  unfold create
  rw [if_neg (by rw [h]; simp)]
  split; · simp
  split; · simp
  split; · simp
  rw [change_calm hf]; simp
theorem lit_first {L R : Nat} (hL : L ≤ 9223372036854775807) (hR : R ≤ 9223372036854775807) : Lit (roomTo (fuseTo new (L : Int)) (R : Int)) L R :=
  ⟨(Right.new.fuseTo (by omega)).roomTo (by omega), rfl, by simp [roomTo, fuseTo], by simp [roomTo], by simp [roomTo], Nat.zero_le _⟩
end Dm
