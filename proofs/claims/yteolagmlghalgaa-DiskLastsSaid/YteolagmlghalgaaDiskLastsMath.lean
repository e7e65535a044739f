/-
  Plain facts on a disk whose power goes: what was synced stays: what DiskLasts asks of the document's answer. No condition.
-/
import Derived.Test.YteolagmlghalgaaDiskMath
namespace Dm
abbrev Files := List (List UInt8 × File)
/-- What is known of files: each has its bytes at its head, synced. -/
def SureF (F : Files) (L : List (List UInt8 × List UInt8)) : Prop := ∀ e ∈ L, ∃ f, get F e.1 = some f ∧ e.2.length ≤ f.synced ∧ f.data.take e.2.length = e.2
def but (L : List (List UInt8 × List UInt8)) (n : List UInt8) : List (List UInt8 × List UInt8) := L.filter fun e => !(e.1 == n)
theorem mem_but {L : List (List UInt8 × List UInt8)} {n : List UInt8} {e : List UInt8 × List UInt8} : e ∈ but L n ↔ e ∈ L ∧ e.1 ≠ n := by unfold but; rw [List.mem_filter]; simp
theorem SureF.sub {F : Files} {L M : List (List UInt8 × List UInt8)} (h : SureF F L) (hs : ∀ e ∈ M, e ∈ L) : SureF F M := fun e he => h e (hs e he)
theorem SureF.get {F G : Files} {L : List (List UInt8 × List UInt8)} (h : SureF F L) (hg : ∀ e ∈ L, Dm.get G e.1 = Dm.get F e.1) : SureF G L := fun e he => by
  obtain ⟨f, h1, h2⟩ := h e he; exact ⟨f, (hg e he).trans h1, h2⟩
theorem SureF.put_new {F : Files} {L : List (List UInt8 × List UInt8)} (h : SureF F L) {n : List UInt8} (hn : Dm.get F n = none) (x : File) : SureF (put F n x) L := fun e he => by
  obtain ⟨f, h1, h2⟩ := h e he
  exact ⟨f, by rw [get_put_other (fun e1 => by rw [e1, hn] at h1; cases h1)]; exact h1, h2⟩
theorem SureF.adds {F : Files} {L : List (List UInt8 × List UInt8)} (h : SureF F L) (n s : List UInt8) (hr : ∀ p ∈ F, p.2.synced ≤ p.2.data.length) : SureF (adds n s F) L := fun e he => by
  obtain ⟨f, h1, h2, h3⟩ := h e he
  by_cases e1 : e.1 = n
  · refine ⟨{ f with data := f.data ++ s }, ?_, h2, ?_⟩
    · unfold Dm.adds; rw [e1, get_upd_same, ← e1, h1]; rfl
    · have := hr _ (get_mem h1)
      show (f.data ++ s).take _ = _
      rw [List.take_append_of_le_length (by simp only at this; omega)]; exact h3
  · exact ⟨f, by unfold Dm.adds; rw [get_upd_other e1]; exact h1, h2, h3⟩
theorem SureF.syncs {F : Files} {L : List (List UInt8 × List UInt8)} (h : SureF F L) (n : List UInt8) (hr : ∀ p ∈ F, p.2.synced ≤ p.2.data.length) : SureF (syncs n F) L := fun e he => by
  obtain ⟨f, h1, h2, h3⟩ := h e he
  by_cases e1 : e.1 = n
  · refine ⟨{ f with synced := f.data.length }, ?_, ?_, h3⟩
    · unfold Dm.syncs; rw [e1, get_upd_same, ← e1, h1]; rfl
    · have := hr _ (get_mem h1)
      show _ ≤ f.data.length
      simp only at this; omega
  · exact ⟨f, by unfold Dm.syncs; rw [get_upd_other e1]; exact h1, h2, h3⟩
theorem SureF.add {F : Files} {L : List (List UInt8 × List UInt8)} (h : SureF F L) {n s : List UInt8} (hs : ∃ f, Dm.get F n = some f ∧ s.length ≤ f.synced ∧ f.data.take s.length = s) : SureF F (L ++ [(n, s)]) := fun e he => by
  rcases List.mem_append.1 he with he | he
  · exact h e he
  · rw [List.mem_singleton.1 he]; exact hs
theorem SureF.removed {F : Files} {L : List (List UInt8 × List UInt8)} (h : SureF F L) (n : List UInt8) : SureF (del F n) (but L n) := fun e he => by
  obtain ⟨h1, h2⟩ := mem_but.1 he
  obtain ⟨f, h3, h4⟩ := h e h1
  exact ⟨f, by rw [get_del_other h2]; exact h3, h4⟩
theorem SureF.renamed {F : Files} {L : List (List UInt8 × List UInt8)} (h : SureF F L) (a b : List UInt8) (f : File) : SureF (put (del F a) b f) (but (but L a) b) := fun e he => by
  obtain ⟨h1, h2⟩ := mem_but.1 he
  obtain ⟨h1, h3⟩ := mem_but.1 h1
  obtain ⟨f, h4, h5⟩ := h e h1
  exact ⟨f, by rw [get_put_other h2, get_del_other h3]; exact h4, h5⟩
theorem SureF.same_name {F : Files} {L : List (List UInt8 × List UInt8)} (h : SureF F L) {a : List UInt8} {f : File} (hf : Dm.get F a = some f) : SureF (put (del F a) a f) L := fun e he => by
  obtain ⟨g, h1, h2⟩ := h e he
  by_cases e1 : e.1 = a
  · refine ⟨g, ?_, h2⟩
    rw [e1, get_put_same, ← hf, ← e1]; exact h1
  · exact ⟨g, by rw [get_put_other e1, get_del_other e1]; exact h1, h2⟩
theorem cutOne_keeps (keep : List Int) (f : File) (hf : f.synced ≤ f.data.length) : f.synced ≤ (cutOne keep f).1.synced ∧ (cutOne keep f).1.synced ≤ (cutOne keep f).1.data.length ∧ ∃ m, f.synced ≤ m ∧ (cutOne keep f).1.data = f.data.take m := by
  unfold cutOne
  split
  · exact ⟨Nat.le_refl _, hf, f.data.length, hf, by rw [List.take_length]⟩
  · split
    · exact ⟨Nat.le_refl _, by simp; omega, _, Nat.le_refl _, rfl⟩
    · exact ⟨by simp, by simp; omega, _, Nat.le_add_right _ _, rfl⟩
theorem get_cut (l : Files) : ∀ (keep : List Int) {n : List UInt8} {f : File}, get l n = some f → ∃ k, get (cut keep l) n = some (cutOne k f).1 := by
  induction l with
  | nil => intro _ _ _ h; cases h
  | cons p r ih =>
    intro keep n f h
    unfold get at h
    simp only [cut, get]
    by_cases e : p.1 = n
    · rw [if_pos e] at h ⊢; cases h; exact ⟨_, rfl⟩
    · rw [if_neg e] at h ⊢; exact ih _ h
theorem SureF.cut {F : Files} {L : List (List UInt8 × List UInt8)} (h : SureF F L) (keep : List Int) (hr : ∀ p ∈ F, p.2.synced ≤ p.2.data.length) : SureF (cut keep F) L := fun e he => by
  obtain ⟨f, h1, h2, h3⟩ := h e he
  obtain ⟨k, h4⟩ := get_cut F keep h1
  obtain ⟨h5, h6, m, h7, h8⟩ := cutOne_keeps k f (hr _ (get_mem h1))
  refine ⟨_, h4, by omega, ?_⟩
  rw [h8, List.take_take, Nat.min_eq_left (by omega)]; exact h3
theorem Right.synced {d : Disk} (h : Right d) : ∀ p ∈ d.files, p.2.synced ≤ p.2.data.length := fun p hp => (h.short p hp).1

/-! ### the calls -/
theorem create_sure {d : Disk} {L : List (List UInt8 × List UInt8)} (h : SureF d.files L) (n : List UInt8) : SureF (create d n).2.files L := by
  unfold create
  split; · exact h
  split; · exact h
  split; · exact h
  split; · exact h
  rename_i hg _
  unfold change
  split
  · exact h
  · exact h.put_new (by simpa using hg) _
theorem append_sure {d : Disk} {L : List (List UInt8 × List UInt8)} (h : SureF d.files L) (hr : Right d) (n s : List UInt8) : SureF (append d n s).2.files L := by
  unfold append
  split; · exact h
  split; · exact h
  split; · exact h
  split; · exact h
  unfold change
  split <;> exact h.adds n s hr.synced
theorem sync_no {d : Disk} (n : List UInt8) (h : (sync d n).1 ≠ 0) : (sync d n).2.files = d.files := by
  unfold sync at h ⊢
  by_cases hd : d.down
  · rw [if_pos hd]
  · rw [if_neg hd] at h ⊢
    cases hg : get d.files n with
    | none => rfl
    | some f =>
      rw [hg] at h
      simp only at h ⊢
      unfold change at h ⊢
      by_cases h1 : d.fuse = 1
      · rw [if_pos h1]; rfl
      · rw [if_neg h1] at h; exact absurd rfl h
theorem sync_yes {d : Disk} (n : List UInt8) (h : (sync d n).1 = 0) : ∃ f, get d.files n = some f ∧ (sync d n).2.files = syncs n d.files ∧ (sync d n).2.down = false := by
  unfold sync at h ⊢
  by_cases hd : d.down
  · rw [if_pos hd] at h; cases h
  · rw [if_neg hd] at h ⊢
    cases hg : get d.files n with
    | none => rw [hg] at h; cases h
    | some f =>
      rw [hg] at h
      simp only at h ⊢
      unfold change at h ⊢
      by_cases h1 : d.fuse = 1
      · rw [if_pos h1] at h; cases h
      · rw [if_neg h1]; exact ⟨f, rfl, rfl, by simpa using hd⟩
/-- Behind a sync that is OK the file reads what it has, and that is known. -/
theorem sync_read {d : Disk} {L : List (List UInt8 × List UInt8)} (h : SureF d.files L) (hr : Right d) (n : List UInt8) (h0 : (sync d n).1 = 0) : ∃ s, read (sync d n).2 n = (s, 0) ∧ SureF (sync d n).2.files (but L n ++ [(n, s)]) := by
  obtain ⟨f, h1, h2, h3⟩ := sync_yes n h0
  have hg : get (sync d n).2.files n = some { f with synced := f.data.length } := by rw [h2]; unfold syncs; rw [get_upd_same, h1]; rfl
  refine ⟨f.data, ?_, ?_⟩
  · unfold read; rw [h3, hg]; rfl
  · rw [h2] at hg ⊢
    exact ((h.syncs n hr.synced).sub fun e he => (mem_but.1 he).1).add ⟨_, hg, Nat.le_refl _, List.take_length⟩
theorem rename_no {d : Disk} (a b : List UInt8) (h : (rename d a b).1 ≠ 0) : (rename d a b).2.files = d.files := by
  unfold rename at h ⊢
  by_cases hd : d.down
  · rw [if_pos hd]
  · rw [if_neg hd] at h ⊢
    cases hg : get d.files a with
    | none => rfl
    | some f =>
      rw [hg] at h
      simp only at h ⊢
      by_cases hn : isName b = false
      · rw [if_pos hn]
      · rw [if_neg hn] at h ⊢
        unfold change at h ⊢
        by_cases h1 : d.fuse = 1
        · rw [if_pos h1]; rfl
        · rw [if_neg h1] at h; exact absurd rfl h
theorem rename_yes {d : Disk} (a b : List UInt8) (h : (rename d a b).1 = 0) : ∃ f, get d.files a = some f ∧ (rename d a b).2.files = put (del d.files a) b f := by
  unfold rename at h ⊢
  by_cases hd : d.down
  · rw [if_pos hd] at h; cases h
  · rw [if_neg hd] at h ⊢
    cases hg : get d.files a with
    | none => rw [hg] at h; cases h
    | some f =>
      rw [hg] at h
      simp only at h ⊢
      by_cases hn : isName b = false
      · rw [if_pos hn] at h; cases h
      · rw [if_neg hn] at h ⊢
        unfold change at h ⊢
        by_cases h1 : d.fuse = 1
        · rw [if_pos h1] at h; cases h
        · rw [if_neg h1]; exact ⟨f, rfl, rfl⟩
theorem remove_no {d : Disk} (n : List UInt8) (h : (remove d n).1 ≠ 0) : (remove d n).2.files = d.files := by
  unfold remove at h ⊢
  by_cases hd : d.down
  · rw [if_pos hd]
  · rw [if_neg hd] at h ⊢
    cases hg : get d.files n with
    | none => rfl
    | some f =>
      rw [hg] at h
      simp only at h ⊢
      unfold change at h ⊢
      by_cases h1 : d.fuse = 1
      · rw [if_pos h1]; rfl
      · rw [if_neg h1] at h; exact absurd rfl h
theorem remove_yes {d : Disk} (n : List UInt8) (h : (remove d n).1 = 0) : (remove d n).2.files = del d.files n := by
  unfold remove at h ⊢
  by_cases hd : d.down
  · rw [if_pos hd] at h; cases h
  · rw [if_neg hd] at h ⊢
    cases hg : get d.files n with
    | none => rw [hg] at h; cases h
    | some f =>
      rw [hg] at h
      simp only at h ⊢
      unfold change at h ⊢
      by_cases h1 : d.fuse = 1
      · rw [if_pos h1] at h; cases h
      · rw [if_neg h1]
theorem again_sure {d : Disk} {L : List (List UInt8 × List UInt8)} (h : SureF d.files L) (hr : Right d) (keep : List Int) : SureF (start (crash d keep)).files L := by
  have h1 : SureF (crash d keep).files L := h.cut keep hr.synced
  have h2 := (hr.crash keep).synced
  unfold start
  rw [if_pos (show (crash d keep).down = true from rfl)]
  exact h1.cut [] h2
theorem start_up {d : Disk} (h : d.down = false) : start d = d := by unfold start; rw [if_neg (by rw [h]; simp)]
/-- What a disk has behind a crash is the same files, each a beginning of what it was. -/
structure Begins (d t : Disk) : Prop where
  keys : keys d.files = Dm.keys t.files
  each : ∀ (n : List UInt8) (f : File), get t.files n = some f → ∃ g m, get d.files n = some g ∧ m ≤ f.data.length ∧ g.data = f.data.take m
theorem again_begins {d : Disk} (hr : Right d) (keep : List Int) : Begins (start (crash d keep)) d := by
  have e : (start (crash d keep)).files = cut [] (cut keep d.files) := by unfold start; rw [if_pos (show (crash d keep).down = true from rfl)]; rfl
  refine ⟨by rw [e, keys_cut, keys_cut], fun n f hf => ?_⟩
  obtain ⟨k, h1⟩ := get_cut d.files keep hf
  obtain ⟨k2, h2⟩ := get_cut (cut keep d.files) [] h1
  obtain ⟨-, h5, m, -, h6⟩ := cutOne_keeps k f (hr.synced _ (get_mem hf))
  obtain ⟨-, -, m2, -, h7⟩ := cutOne_keeps k2 _ h5
  refine ⟨_, min (min m2 m) f.data.length, by rw [e]; exact h2, Nat.min_le_right _ _, ?_⟩
  rw [h7, h6, List.take_take, ← List.take_take (l := f.data) (i := min m2 m), List.take_length]
end Dm
