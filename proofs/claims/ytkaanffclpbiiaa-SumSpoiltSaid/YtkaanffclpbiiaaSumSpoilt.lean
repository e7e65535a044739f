/-
  Walks over package sum: the law SumSpoilt. No conditions but those in the theorems.
-/
import Derived.Test.YtkaanffclpbiiaaRows
import Derived.Test.YtkaanffclpbiiaaSumFrames
import Derived.Test.YtkaanffclpbiiaaSumNoughts
import Derived.WalkKit
import Derived.WalkSpells
import Derived.WalkLawsBesides
import Derived.Handy
import Derived.Lib.Hide
import Derived.Deep.QuietTactic
import Derived.BigQuiet
import Derived.Deep.RegionHeld3
import Derived.Deep.MidRow
import Derived.Lib.ConvBytes
import Derived.Lib.SlBytesRow
namespace Go.Proofs.Ytkaanffclpbiiaa
open Go.RowKit

set_option maxHeartbeats 400000 in
theorem spoilt_long (s r : ByteArray) (at_ ch : Int) (w : World) (hl : 4096 < s.size ∨ 4096 < r.size) :
    Calls Try.prog 8 #[.string s, .int .i64 at_, .int .u8 ch, .string r] w fun e w' => e = .returned (.bool true) ∧ Below w.heap.size w w' := by
  by_cases h1 : 4096 < s.size
  · have h2 : decide ((4096 : Int) < (s.size : Int)) = true := by simp; omega
    go_enter Try.func8, Try.ntmps8
    go_wp2_with fail
    refine (awake_any _).mono ?_
    rintro e w1 ⟨rfl, hb1⟩
    go_wp2
    go_ret
    exact ⟨rfl, hb1⟩
  · have h2 : decide ((4096 : Int) < (s.size : Int)) = false := by simp; omega
    have h3 : decide ((4096 : Int) < (r.size : Int)) = true := by simp; omega
    go_enter Try.func8, Try.ntmps8
    go_wp2_with fail
    refine (awake_any _).mono ?_
    rintro e w1 ⟨rfl, hb1⟩
    go_wp2
    go_ret
    exact ⟨rfl, hb1⟩

/-- A number taken below a length, from the end if it is below 0. -/
theorem place_walk (c : Int) (n : Nat) (h0 : 0 < n) (hn : n ≤ 1000000) : ∃ k : Nat, k < n ∧ ((c.tmod (n : Int) < 0 ∧ wrap64 (c.tmod (n : Int) + (n : Int)) = (k : Int)) ∨ (¬ c.tmod (n : Int) < 0 ∧ c.tmod (n : Int) = (k : Int))) := by
  have h1 : c.tmod (n : Int) < (n : Int) := Int.tmod_lt_of_pos c (b := (n : Int)) (by omega)
  have h2 : -(n : Int) < c.tmod (n : Int) := by
    have h := Int.tmod_lt_of_pos (-c) (b := (n : Int)) (by omega)
    rw [Int.neg_tmod] at h; omega
  generalize c.tmod (n : Int) = t at h1 h2
  by_cases h : t < 0
  · exact ⟨(t + (n : Int)).toNat, by omega, Or.inl ⟨h, by rw [IntWalk.wrap64_in _ (by omega)]; omega⟩⟩
  · exact ⟨t.toNat, by omega, Or.inr ⟨h, by omega⟩⟩

set_option maxHeartbeats 1000000 in
theorem spoilt_mid (s r : ByteArray) (at_ ch : Int) (w : World) (hs : s.size ≤ 4096) (hr : r.size ≤ 4096) (hc0 : 0 ≤ ch) (hc1 : ch ≤ 255) (F : ByteArray) (HF : Hid (F = ⟨(Sm.frame s.data.toList).toArray⟩)) (hFs : F.size = s.size + 8) 
    (k : Nat) (HCut : Hid (Sm.behind (F.extract 0 k).data.toList 0 = none)) (hk : k < F.size) (hks : (at_.tmod (F.size : Int) < 0 ∧ wrap64 (at_.tmod (F.size : Int) + (F.size : Int)) = (k : Int)) ∨ (¬ at_.tmod (F.size : Int) < 0 ∧ at_.tmod (F.size : Int) = (k : Int))) :
    Calls Try.prog 8 #[.string s, .int .i64 at_, .int .u8 ch, .string r] w fun e w' => e = .returned (.bool true) ∧ Below w.heap.size w w' := by
  have hl1 : decide ((4096 : Int) < (s.size : Int)) = false := by simp; omega
  have hl2 : decide ((4096 : Int) < (r.size : Int)) = false := by simp; omega
  have hF0 : (0 : Int) < (F.size : Int) := by omega
  have hFn : ((F.size : Int) == 0) = false := beq_eq_false_iff_ne.2 (by omega)
  have hk0 : (0 : Int) ≤ (k : Int) := by omega
  have hk1 : (k : Int) ≤ (F.size : Int) := by omega
  have hk2 : (k : Int) < (F.size : Int) := by omega
  have HFm : Hid (F.size ≤ maxLen) := Lib.hid (by unfold maxLen; omega)
  have HFS := Lib.hid hFs
  clear hFs
  rcases hks with ⟨hneg, hks⟩ | ⟨hneg, hks⟩
  all_goals
    go_enter Try.func8, Try.ntmps8
    go_wp2_with fail
    refine (awake_any _).mono ?_
    rintro e w1 ⟨rfl, hb1⟩
    go_wp2_with fail
    refine (Frame_short s _ (by omega)).mono ?_
    rintro e w2 ⟨rfl, hb2⟩
    rw [← HF.out]
    go_wp2_with fail
    refine (Next_no _ 0 _ (ext_le _ _ HFm.out) HCut.out).mono ?_
    rintro e w3 ⟨rfl, hb3⟩
    have hW3 := Lib.hid (btr (btr hb1 hb2) hb3)
    clear hb1 hb2 hb3
    have hBA := bytesAt_conv w3 F (grownCap w3 F.size 0 5) ((bytesRow F (grownCap w3 F.size 0 5)).size, (bytesRow F (grownCap w3 F.size 0 5)).size + 1)
    have hfz := bytes_frozen w3 F (grownCap w3 F.size 0 5) k hk ((bytesRow F (grownCap w3 F.size 0 5)).size + 1)
    have cv2 := run_bytes_of_string (P := Try.prog) w3 9 25 5 F Try.underlying9 Try.underlying25 Try.underlying5
    generalize grownCap w3 F.size 0 5 = cap at cv2 hBA hfz
    generalize bytesRow F cap = C at cv2 hBA hfz
    have hcl := hBA k (by simpa using hk)
    have HBA := Lib.hid hBA
    clear hBA
    by_cases hq : k < 4 ∨ ch = 0
    · by_cases hk4 : k < 4
      · have hk4' : decide ((k : Int) < 4) = true := by simp; omega
        go_wp2
        go_ret
        exact ⟨rfl, hW3.out.trans ((((Below.refl _ _).alloc (Nat.le_refl _) _).drew).mono hW3.out.size)⟩
      · have hk4' : decide ((k : Int) < 4) = false := by simp; omega
        obtain rfl : ch = 0 := by omega
        go_wp2
        go_ret
        exact ⟨rfl, hW3.out.trans ((((Below.refl _ _).alloc (Nat.le_refl _) _).drew).mono hW3.out.size)⟩
    · have hk4 : decide ((k : Int) < 4) = false := by simp; omega
      have hch : ch ≠ 0 := by omega
      have hch1 : (ch == 0) = false := beq_eq_false_iff_ne.2 hch
      obtain ⟨y, hy, hne⟩ := xor_walk (F.data.toList[k]'(by simpa using hk)) ch hc0 hc1
      have hne := hne hch
      have hB : Sm.behind (F.data.toList.set k y ++ r.data.toList) 0 = none := by
        have hFl : F.data.toList = Sm.frame s.data.toList := by rw [HF.out]
        have h1 : (Sm.frame s.data.toList)[k]? ≠ some y := by
          rw [← hFl, List.getElem?_eq_getElem (by simpa using hk)]
          intro e; exact hne (Option.some.inj e)
        rw [hFl]
        exact Sm.behindAt_spoilt s.data.toList r.data.toList k y (by simp; omega) (by omega) (by have := HFS.out; simp; omega) h1
      have HB := Lib.hid hB
      have hadd : ∀ W : World, (Op.stringOp .add ⟨(F.data.toList.set k y).toArray⟩ r).run Try.prog W = .ok (.string ⟨(F.data.toList.set k y ++ r.data.toList).toArray⟩) W := fun W => by
        have h := run_string_add_lists (P := Try.prog) W (F.data.toList.set k y) r.data.toList (by have := HFS.out; simp; omega) (by simp; omega)
        rw [mk_list] at h; exact h
      have HADD := Lib.hid hadd
      clear hB hadd hne hq hch
      generalize F.data.toList[k] = x at hcl hy
      go_wp2_with fail
      have hB2 : BytesAt ((w3.alloc (Obj.cells C 5 (C.size, C.size + 1))).setCell { block := w3.heap.size, off := k } (Value.int IntKind.u8 y.toNat)).drew w3.heap.size (F.data.toList.set k y) :=
        bytesAt_drew (bytesAt_set HBA.out (by simpa using hk) y)
      have hW5 : Below w3.heap.size w3 ((w3.alloc (Obj.cells C 5 (C.size, C.size + 1))).setCell { block := w3.heap.size, off := k } (Value.int IntKind.u8 y.toNat)).drew :=
        (((Below.refl _ _).alloc (Nat.le_refl _) _).setCell (Nat.le_refl _) _).drew
      generalize ((w3.alloc (Obj.cells C 5 (C.size, C.size + 1))).setCell { block := w3.heap.size, off := k } (Value.int IntKind.u8 y.toNat)).drew = W5 at hB2 hW5 ⊢
      rw [back_text hB2 F.size cap (by simp)]
      have hadd := HADD.out
      clear hB2 hy hcl hfz cv2
      go_wp2_with fail
      refine (Next_no _ 0 _ (by rw [size_mk, List.length_append, List.length_set]; have := HFS.out; unfold maxLen; simp; omega) HB.out).mono ?_
      rintro e w6 ⟨rfl, hb6⟩
      clear hadd
      go_wp2
      go_ret
      exact ⟨rfl, (hW3.out.trans (hW5.mono hW3.out.size)).trans (hb6.mono (Nat.le_trans hW3.out.size hW5.size))⟩

theorem spoilt_any (s r : ByteArray) (at_ ch : Int) (w : World) (hc0 : 0 ≤ ch) (hc1 : ch ≤ 255) :
    Calls Try.prog 8 #[.string s, .int .i64 at_, .int .u8 ch, .string r] w fun e w' => e = .returned (.bool true) ∧ Below w.heap.size w w' := by
  by_cases hl : 4096 < s.size ∨ 4096 < r.size
  · exact spoilt_long s r at_ ch w hl
  have hF : (⟨(Sm.frame s.data.toList).toArray⟩ : ByteArray).size = s.size + 8 := by rw [size_mk, Sm.frame_len]; simp
  obtain ⟨k, hk, hks⟩ := place_walk at_ (⟨(Sm.frame s.data.toList).toArray⟩ : ByteArray).size (by omega) (by omega)
  have hcut : Sm.behind ((⟨(Sm.frame s.data.toList).toArray⟩ : ByteArray).extract 0 k).data.toList 0 = none := by
    rw [extract_list, List.drop_zero, Nat.sub_zero]
    exact Sm.behindAt_cut s.data.toList k (by simp; omega) (by simp; omega)
  exact spoilt_mid s r at_ ch w (by omega) (by omega) hc0 hc1 _ (Lib.hid rfl) hF k (Lib.hid hcut) hk hks
end Go.Proofs.Ytkaanffclpbiiaa
