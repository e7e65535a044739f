/-
  Plain facts on a disk that is filled by 256 names: what DiskFull asks of the document's answer. No condition.
-/
import Derived.Test.YtgcjjpmcphpcjaaDiskLawMath
namespace Dm
def nm (i : Nat) : List UInt8 := [UInt8.ofNat (97 + i % 16), UInt8.ofNat (97 + i / 16)]
theorem nm_inj {i j : Nat} (hi : i < 256) (hj : j < 256) (h : nm i = nm j) : i = j := by
  unfold nm at h
  injection h with h1 h2
  injection h2 with h2 _
  have e1 := congrArg UInt8.toNat h1
  have e2 := congrArg UInt8.toNat h2
  simp only [UInt8.toNat_ofNat'] at e1 e2
  omega
theorem byte_in {n : Nat} (h : 97 ≤ n ∧ n ≤ 112) : nameByte (UInt8.ofNat n) = true := by
  unfold nameByte
  have h1 : (97 : UInt8) ≤ UInt8.ofNat n := by rw [UInt8.le_iff_toNat_le, UInt8.toNat_ofNat']; simp; omega
  have h2 : UInt8.ofNat n ≤ (122 : UInt8) := by rw [UInt8.le_iff_toNat_le, UInt8.toNat_ofNat']; simp; omega
  simp [h1, h2]
theorem nm_name {i : Nat} (hi : i < 256) : isName (nm i) = true := by
  unfold isName nm
  simp only [List.length_cons, List.length_nil, List.all_cons, List.all_nil, byte_in (n := 97 + i % 16) (by omega), byte_in (n := 97 + i / 16) (by omega)]
  rfl
theorem nm_zz {i : Nat} (_ : i < 256) : nm i ≠ [122, 122] := by
  intro h
  unfold nm at h
  injection h with h1 _
  have e1 := congrArg UInt8.toNat h1
  simp only [UInt8.toNat_ofNat'] at e1
  have : (122 : UInt8).toNat = 122 := rfl
  omega

structure Filled (d : Disk) (k : Nat) : Prop where
  right : Right d
  up : d.down = false
  fuse : d.fuse = 0
  free : d.bounded = false
  len : d.files.length = k
  all : ∀ p ∈ d.files, p.2 = ⟨[], 0⟩ ∧ ∃ i, i < k ∧ p.1 = nm i
  has : ∀ i, i < k → get d.files (nm i) = some ⟨[], 0⟩
theorem filled_new : Filled new 0 := ⟨Right.new, rfl, rfl, rfl, rfl, (fun _ h => nomatch h), fun _ h => absurd h (Nat.not_lt_zero _)⟩
theorem filled_step {d : Disk} {k : Nat} (h : Filled d k) (hk : k < 256) : ∃ d', create d (nm k) = (0, d') ∧ Filled d' (k + 1) := by
  have hg : get d.files (nm k) = none := get_none.2 fun p hp e => by
    obtain ⟨-, i, hi, e2⟩ := h.all p hp
    have := nm_inj (by omega) hk (e2.symm.trans e)
    omega
  have e : create d (nm k) = (0, { d with files := put d.files (nm k) ⟨[], 0⟩ }) := by
    unfold create
    rw [if_neg (by rw [h.up]; simp), if_neg (by rw [nm_name hk]; simp), if_neg (by rw [hg]; simp), if_neg (by rw [h.len]; omega), change_calm h.fuse]
  have hr := h.right.create (nm k)
  rw [e] at hr
  refine ⟨_, e, hr, h.up, h.fuse, h.free, by show (put d.files (nm k) ⟨[], 0⟩).length = k + 1; rw [length_put_new _ hg, h.len], fun p hp => ?_, fun i hi => ?_⟩
  · rcases mem_put.1 hp with rfl | ⟨hp, _⟩
    · exact ⟨rfl, k, by omega, rfl⟩
    · obtain ⟨h1, i, h2, h3⟩ := h.all p hp
      exact ⟨h1, i, by omega, h3⟩
  · by_cases e2 : i = k
    · subst e2; exact get_put_same _ _ _
    · show get (put d.files (nm k) ⟨[], 0⟩) (nm i) = _
      rw [get_put_other (fun e3 => e2 (nm_inj (by omega) hk e3))]
      exact h.has i (by omega)
theorem used_noughts {l : List (List UInt8 × File)} (h : ∀ p ∈ l, p.2 = ⟨[], 0⟩) : used l = 0 := by
  induction l with
  | nil => rfl
  | cons p r ih =>
    have h1 := h p (by simp)
    have h2 := ih fun q hq => h q (by simp [hq])
    unfold used at *
    simp only [List.map_cons, List.sum_cons, h1, h2, List.length_nil]
theorem append_free {d : Disk} {n s : List UInt8} {f : File} (hu : d.down = false) (hf : d.fuse = 0) (hb : d.bounded = false) (hg : get d.files n = some f) (hl : f.data.length + s.length ≤ 1048576) :
    append d n s = (0, { d with files := adds n s d.files }) := by
  unfold append
  rw [if_neg (by rw [hu]; simp), hg]
  simp only
  rw [if_neg (by omega), if_neg (by rw [hb]; simp), change_calm hf]
theorem full_after {d : Disk} (h : Filled d 256) (m : Nat) (hm : m ≤ 255) :
    create d [122, 122] = (6, d) ∧ ∃ d1 d2 d3 d4, append d [97, 97] (List.replicate (1048576 - m) 0) = (0, d1) ∧ append d1 [97, 97] (List.replicate (m + 1) 0) = (3, d1) ∧ append d1 [97, 97] (List.replicate m 0) = (0, d2) ∧
      used d2.files = 1048576 ∧ remove d2 [97, 98] = (0, d3) ∧ create d3 [122, 122] = (0, d4) ∧ d4.files.length = 256 := by
  have h0 : get d.files [97, 97] = some ⟨[], 0⟩ := h.has 0 (by omega)
  have h16 : get d.files [97, 98] = some ⟨[], 0⟩ := h.has 16 (by omega)
  have hz : get d.files [122, 122] = none := get_none.2 fun p hp e => by
    obtain ⟨-, i, hi, e2⟩ := h.all p hp
    exact nm_zz hi (e2.symm.trans e)
  have hab : ([97, 98] : List UInt8) ≠ [97, 97] := by decide
  have hza : ([122, 122] : List UInt8) ≠ [97, 97] := by decide
  have hzb : ([122, 122] : List UInt8) ≠ [97, 98] := by decide
  have hu0 := used_noughts fun p hp => (h.all p hp).1
  have g1 : get (adds [97, 97] (List.replicate (1048576 - m) 0) d.files) [97, 97] = some ⟨List.replicate (1048576 - m) 0, 0⟩ := by
    unfold adds; rw [get_upd_same, h0]; rfl
  have r1 : append d [97, 97] (List.replicate (1048576 - m) 0) = (0, { d with files := adds [97, 97] (List.replicate (1048576 - m) 0) d.files }) :=
    append_free h.up h.fuse h.free h0 (by rw [List.length_replicate]; simp)
  have s1 : Sorted (adds [97, 97] (List.replicate (1048576 - m) 0) d.files) := h.right.sorted.upd _ _
  generalize hd1 : adds [97, 97] (List.replicate (1048576 - m) 0) d.files = l1 at g1 r1 s1
  have r2 : append { d with files := l1 } [97, 97] (List.replicate (m + 1) 0) = (3, { d with files := l1 }) := by
    unfold append
    rw [if_neg (by simp only; rw [h.up]; simp)]
    simp only
    rw [g1]
    simp only
    rw [if_pos (by rw [List.length_replicate, List.length_replicate]; omega)]
  have r3 : append { d with files := l1 } [97, 97] (List.replicate m 0) = (0, { d with files := adds [97, 97] (List.replicate m 0) l1 }) :=
    append_free (d := { d with files := l1 }) h.up h.fuse h.free g1 (by rw [List.length_replicate, List.length_replicate]; omega)
  have u1 : used l1 = 1048576 - m := by
    have := used_upd h.right.sorted h0 (fun f => { f with data := f.data ++ List.replicate (1048576 - m) 0 })
    have e : upd d.files [97, 97] (fun f => { f with data := f.data ++ List.replicate (1048576 - m) 0 }) = l1 := hd1
    rw [e, hu0] at this
    simp only [List.length_nil, List.nil_append, List.length_replicate] at this
    omega
  have u2 : used (adds [97, 97] (List.replicate m 0) l1) = 1048576 := by
    have := used_upd s1 g1 (fun f => { f with data := f.data ++ List.replicate m 0 })
    have e : upd l1 [97, 97] (fun f => { f with data := f.data ++ List.replicate m 0 }) = adds [97, 97] (List.replicate m 0) l1 := rfl
    rw [e, u1] at this
    simp only [List.length_append, List.length_replicate] at this
    omega
  have b2 : get (adds [97, 97] (List.replicate m 0) l1) [97, 98] = some ⟨[], 0⟩ := by
    unfold adds; rw [get_upd_other hab, ← hd1]; unfold adds; rw [get_upd_other hab, h16]
  have z2 : get (adds [97, 97] (List.replicate m 0) l1) [122, 122] = none := by
    unfold adds; rw [get_upd_other hza, ← hd1]; unfold adds; rw [get_upd_other hza, hz]
  have s2 : Sorted (adds [97, 97] (List.replicate m 0) l1) := s1.upd _ _
  have n2 : (adds [97, 97] (List.replicate m 0) l1).length = 256 := by
    unfold adds; rw [length_upd, ← hd1]; unfold adds; rw [length_upd, h.len]
  generalize adds [97, 97] (List.replicate m 0) l1 = l2 at r3 u2 b2 z2 s2 n2
  have r4 : remove { d with files := l2 } [97, 98] = (0, { d with files := del l2 [97, 98] }) := by
    unfold remove
    rw [if_neg (by simp only; rw [h.up]; simp)]
    simp only
    rw [b2]
    exact change_calm (d := { d with files := l2 }) h.fuse _ _
  have n3 := length_del s2 b2
  have z3 : get (del l2 [97, 98]) [122, 122] = none := by rw [get_del_other hzb, z2]
  have r5 : create { d with files := del l2 [97, 98] } [122, 122] = (0, { d with files := put (del l2 [97, 98]) [122, 122] ⟨[], 0⟩ }) := by
    unfold create
    rw [if_neg (by simp only; rw [h.up]; simp), if_neg (by decide), if_neg (by simp only; rw [z3]; simp), if_neg (by simp only; omega)]
    exact change_calm (d := { d with files := del l2 [97, 98] }) h.fuse _ _
  refine ⟨?_, _, _, _, _, r1, r2, r3, u2, r4, r5, ?_⟩
  · unfold create
    rw [if_neg (by rw [h.up]; simp), if_neg (by decide), if_neg (by rw [hz]; simp), if_pos (by rw [h.len]; omega)]
  · show (put (del l2 [97, 98]) [122, 122] ⟨[], 0⟩).length = 256
    rw [length_put_new _ z3]; omega
end Dm
