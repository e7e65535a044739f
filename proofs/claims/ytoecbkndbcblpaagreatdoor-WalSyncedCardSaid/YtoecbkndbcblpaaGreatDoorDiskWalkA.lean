/-
  Walks over package disk: ready, isName. Conditions: those in the theorems.
-/
import Derived.Test.YtoecbkndbcblpaaGreatDoorDiskRep
import Derived.WalkSpells
import Derived.WalkLawsBesides
import Derived.Handy
import Derived.Deep.QuietTactic
import Derived.BigQuiet

namespace Go.Proofs.YtoecbkndbcblpaaGreatDoor
open Go.RowKit Go.Maps
theorem ready_any (a m : Nat) (D : Dm.Disk) (w : World) (hc : w.heap[a]? = some (.cells #[.bool D.down, .int .i64 (D.fuse : Nat), .bool D.bounded, .int .i64 (D.room : Nat), .map (some m)] 63 (0, 0))) :
    Calls Tryz.prog 40 #[.pointer (some ⟨a, 0, none⟩)] w fun e w' => e = .returned (.int .i64 (if D.down then 7 else 0)) ∧ w = w' := by
  obtain ⟨c0, -, -, -, -, -⟩ := cells5 hc
  clear hc
  cases hd : D.down
  all_goals
    rw [hd] at c0
    clear hd
    go_enter Tryz.func40, Tryz.ntmps40
    go_wp2
    go_ret
    exact ⟨rfl, rfl⟩
theorem ready_nil (w : World) :
    Calls Tryz.prog 40 #[.pointer none] w fun e w' => e = .returned (.int .i64 2) ∧ w = w' := by
  go_enter Tryz.func40, Tryz.ntmps40
  go_wp2
  go_ret
  exact ⟨rfl, rfl⟩
theorem isNameEmpty (w : World) : Calls Tryz.prog 41 #[.string ⟨#[]⟩] w fun e w' => e = .returned (.bool false) ∧ w = w' := by
  go_enter Tryz.func41, Tryz.ntmps41
  go_wp2
  go_ret
  exact ⟨rfl, rfl⟩
theorem nameByte_iff (c : UInt8) : Dm.nameByte c = true ↔ (97 ≤ (c.toNat : Int) ∧ (c.toNat : Int) ≤ 122) ∨ (48 ≤ (c.toNat : Int) ∧ (c.toNat : Int) ≤ 57) ∨ (c.toNat : Int) = 46 ∨ (c.toNat : Int) = 45 := by
  unfold Dm.nameByte
  simp [UInt8.le_iff_toNat_le, ← UInt8.toNat_inj]
  omega
theorem isName_false {l : List UInt8} {k : Nat} (hk : k < l.length) (h : Dm.nameByte l[k] = false) : Dm.isName l = false := by
  unfold Dm.isName
  have : l.all Dm.nameByte = false := by
    rw [List.all_eq_false]; exact ⟨l[k], List.getElem_mem hk, by rw [h]; simp⟩
  rw [this]; simp
theorem parts (x : Int) (h0 : 0 ≤ x) (h1 : x ≤ 255) : x ≤ 44 ∨ x = 45 ∨ x = 46 ∨ x = 47 ∨ (48 ≤ x ∧ x ≤ 57) ∨ (58 ≤ x ∧ x ≤ 96) ∨ (97 ≤ x ∧ x ≤ 122) ∨ 123 ≤ x := by omega
def OkTo (l : List UInt8) (k : Nat) : Prop := (l.take k).all Dm.nameByte = true
theorem okTo_zero (l : List UInt8) : OkTo l 0 := rfl
theorem OkTo.succ {l : List UInt8} {k : Nat} (h : OkTo l k) (hk : k < l.length) (hb : Dm.nameByte l[k] = true) : OkTo l (k + 1) := by
  unfold OkTo at *; rw [List.take_succ_eq_append_getElem hk, List.all_append, h]; simp [hb]
theorem OkTo.all {l : List UInt8} {k : Nat} (h : OkTo l k) (hk : l.length ≤ k) (h1 : 1 ≤ l.length) (h2 : l.length ≤ 32) : Dm.isName l = true := by
  unfold OkTo at h; rw [List.take_of_length_le hk] at h; unfold Dm.isName; simp [h, h1, h2]
set_option maxHeartbeats 2000000 in
theorem isNameAny (s : ByteArray) (w : World) (hm : s.size ≤ maxLen) : Calls Tryz.prog 41 #[.string s] w fun e w' => e = .returned (.bool (Dm.isName s.data.toList)) ∧ w = w' := by
  unfold maxLen at hm
  have hl : s.data.toList.length = s.size := by simp
  by_cases h1 : 1 ≤ s.size ∧ s.size ≤ 32
  · obtain ⟨h1, h2⟩ := h1
    have d1 : decide ((s.size : Int) < 1) = false := by simp; omega
    have d2 : decide ((32 : Int) < (s.size : Int)) = false := by simp; omega
    go_enter Tryz.func41, Tryz.ntmps41
    go_wp2
    go_loop [15] (fun i => ∃ k : Nat, k ≤ s.size ∧ i = .int .i64 (k : Nat) ∧ OkTo s.data.toList k) (fun i => s.size - (intOf i).toNat)
    case atStart => exact ⟨0, Nat.zero_le _, rfl, okTo_zero _⟩
    case round =>
      obtain ⟨k, hk, rfl, H⟩ := hrel
      by_cases hlt : k < s.size
      · have i1 : (k : Int) < (s.size : Int) := by omega
        have i2 : (0 : Int) ≤ (k : Int) := by omega
        have hb := nameByte_iff s[k]
        have hgood : Dm.nameByte s[k] = true → OkTo s.data.toList (k + 1) := fun h => H.succ (by omega) h
        have hbad : Dm.nameByte s[k] = false → Dm.isName s.data.toList = false := fun h => isName_false (k := k) (by omega) h
        have hx0 : (0 : Int) ≤ (s[k].toNat : Int) := by omega
        have hx1 : (s[k].toNat : Int) ≤ 255 := by have := s[k].toNat_lt; omega
        generalize Dm.nameByte s[k] = nb at hb hgood hbad
        have HB := Lib.hid hb
        have HG := Lib.hid hgood
        have HN := Lib.hid hbad
        clear hb hgood hbad hl
        rcases parts _ hx0 hx1 with h | h | h | h | h | h | h | h
        all_goals
          (first
            | (have e1 : ((s[k].toNat : Int) != 46) = true := by simp; omega
               have e2 : ((s[k].toNat : Int) != 45) = true := by simp; omega
               go_wp2)
            | (have e1 : ((s[k].toNat : Int) != 46) = true := by simp; omega
               have e2 : ((s[k].toNat : Int) != 45) = false := by simp; omega
               go_wp2)
            | (have e1 : ((s[k].toNat : Int) != 46) = false := by simp; omega
               go_wp2))
        all_goals
          (first
            | (go_ret
               exact ⟨by rw [HN.out (by rw [Bool.eq_false_iff, ne_eq, HB.out]; omega)]; rfl, rfl⟩)
            | (go_round
               case rel => exact ⟨k + 1, by omega, rfl, HG.out (by rw [HB.out]; omega)⟩
               case measure => simp [intOf]; omega))
      · have i1 : ¬ (k : Int) < (s.size : Int) := by omega
        have hall := Lib.hid (H.all (by omega) (by omega) (by omega))
        clear hl
        go_wp2
        go_ret
        exact ⟨by rw [hall.out]; rfl, rfl⟩
  · have hf : Dm.isName s.data.toList = false := by
      unfold Dm.isName
      by_cases h : 1 ≤ s.size
      · have h3 : ¬ s.data.toList.length ≤ 32 := by omega
        rw [decide_eq_false h3]; simp
      · have h3 : ¬ 1 ≤ s.data.toList.length := by omega
        rw [decide_eq_false h3]; rfl
    have HF := Lib.hid hf
    clear hf hl
    by_cases h : 1 ≤ s.size
    · have d1 : decide ((s.size : Int) < 1) = false := by simp; omega
      have d2 : decide ((32 : Int) < (s.size : Int)) = true := by simp; omega
      go_enter Tryz.func41, Tryz.ntmps41
      go_wp2
      go_ret
      exact ⟨by rw [HF.out]; rfl, rfl⟩
    · have d1 : decide ((s.size : Int) < 1) = true := by simp; omega
      go_enter Tryz.func41, Tryz.ntmps41
      go_wp2
      go_ret
      exact ⟨by rw [HF.out]; rfl, rfl⟩
end Go.Proofs.YtoecbkndbcblpaaGreatDoor
