/-
  The document's answer's Less, walked (as in TabLess, for another seat): the order of texts by their bytes. Condition: the sizes in the theorem.
-/
import Derived.Test.YtbhjpkejdkfenaaGreatDoorManCheck3
import Derived.Deep.QuietTactic
import Derived.BigQuiet
set_option linter.unusedSimpArgs false
set_option linter.unusedVariables false
namespace Go.Proofs.YtbhjpkejdkfenaaGreatDoor
open Go.RowKit

theorem below_dN {w0 w : World} (h : Below w0.heap.size w0 w) (n : Nat) : Below w0.heap.size w0 (w.drewN n) := ⟨h.os, h.tape, h.output, h.size, h.block⟩
/-! ### Less -/
theorem less_step {a b : List UInt8} (k : Nat) (ha : k < a.length) (hb : k < b.length) (h : a.take k = b.take k) : (a[k] = b[k] → a.take (k + 1) = b.take (k + 1)) ∧ (a[k] ≠ b[k] → Op.bytesLess a b = decide (a[k] < b[k])) := by
  induction k generalizing a b with
  | zero =>
    match a, b, ha, hb with
    | x :: l, y :: r, _, _ =>
      refine ⟨fun e => by simpa using e, fun e => ?_⟩
      simp only [List.getElem_cons_zero] at e ⊢
      simp only [Op.bytesLess]
      by_cases hxy : x < y
      · simp [hxy]
      · by_cases hyx : y < x
        · simp [hxy, e]
        · exact absurd (UInt8.le_antisymm (UInt8.not_lt.1 hyx) (UInt8.not_lt.1 hxy)) e
  | succ k ih =>
    match a, b, ha, hb with
    | x :: l, y :: r, ha, hb =>
      simp only [List.take_succ_cons, List.cons.injEq] at h
      obtain ⟨rfl, h⟩ := h
      have := ih (a := l) (b := r) (by simpa using ha) (by simpa using hb) h
      simp only [List.getElem_cons_succ, List.take_succ_cons]
      refine ⟨fun e => by rw [this.1 e], fun e => ?_⟩
      rw [← this.2 e]
      simp [Op.bytesLess, UInt8.lt_irrefl]
theorem less_end {a b : List UInt8} (k : Nat) (h : a.take k = b.take k) (hk : k = a.length ∨ k = b.length) (ha : k ≤ a.length) (hb : k ≤ b.length) : Op.bytesLess a b = decide (a.length < b.length) := by
  induction k generalizing a b with
  | zero =>
    match a, b with
    | [], [] => simp [Op.bytesLess]
    | [], y :: r => simp [Op.bytesLess]
    | x :: l, [] => simp [Op.bytesLess]
    | x :: l, y :: r => simp at hk
  | succ k ih =>
    match a, b, ha, hb with
    | x :: l, y :: r, ha, hb =>
      simp only [List.take_succ_cons, List.cons.injEq] at h
      obtain ⟨rfl, h⟩ := h
      have := ih (a := l) (b := r) h (by simpa using hk) (by simpa using ha) (by simpa using hb)
      simp [Op.bytesLess, UInt8.lt_irrefl, this]

theorem bytes_of (a : ByteArray) : a.toList = a.data.toList := ByteArray.toList_eq a
set_option maxRecDepth 100000 in
set_option maxHeartbeats 4000000 in
theorem refLess_any (a b : ByteArray) (ha : a.size ≤ 9223372036854775807) (_ : b.size ≤ 9223372036854775807) (w : World) :
    Calls Tryz.prog 58 #[.string a, .string b] w fun e w' => e = .returned (.bool (Mm.lt a b)) ∧ ∃ n, w' = w.drewN n := by
  have hla : a.toList.length = a.size := by rw [bytes_of]; simp
  have hlb : b.toList.length = b.size := by rw [bytes_of]; simp
  have HLA := Lib.hid hla
  have HLB := Lib.hid hlb
  clear hla hlb
  go_enter Tryz.func58, Tryz.ntmps58
  go_wp2_with fail
  go_loopw [5] (fun iv wr => ∃ k : Nat, k ≤ a.size ∧ k ≤ b.size ∧ iv = .int .i64 (k : Nat) ∧ (∃ n, wr = w.drewN n) ∧ Hid (a.toList.take k = b.toList.take k)) (fun iv _ => a.size - (intOf iv).toNat)
  case atStart => exact ⟨0, Nat.zero_le _, Nat.zero_le _, rfl, ⟨0, rfl⟩, Lib.hid rfl⟩
  case round =>
    obtain ⟨k, hka, hkb, rfl, ⟨n, rfl⟩, HT⟩ := hrel
    have i0 : (0 : Int) ≤ (k : Int) := by omega
    by_cases h1 : k < a.size
    · have i1 : (k : Int) < (a.size : Int) := by omega
      by_cases h2 : k < b.size
      · have i2 : (k : Int) < (b.size : Int) := by omega
        have hs := less_step (a := a.toList) (b := b.toList) k (by rw [HLA.out]; exact h1) (by rw [HLB.out]; exact h2) HT.out
        have ea : a.toList[k]'(by rw [HLA.out]; exact h1) = a[k] := by simp only [bytes_of]; rfl
        have eb : b.toList[k]'(by rw [HLB.out]; exact h2) = b[k] := by simp only [bytes_of]; rfl
        rw [ea, eb] at hs
        have HS := Lib.hid hs
        clear hs ea eb
        obtain ⟨x, hx⟩ : ∃ x, a[k] = x := ⟨_, rfl⟩
        obtain ⟨y, hy⟩ : ∃ y, b[k] = y := ⟨_, rfl⟩
        rw [hx, hy] at HS
        by_cases he : x = y
        · have HT2 := Lib.hid (HS.out.1 he)
          subst he
          go_wp2_with fail
          go_quiet (fail)
          go_wp2_with fail
          go_roundw
          case rel => exact ⟨k + 1, by omega, by omega, by go_num, ⟨_, rfl⟩, HT2⟩
          case measure => simp [intOf]; omega
        · have HR := Lib.hid (HS.out.2 he)
          have hne : ¬ x.toNat = y.toNat := fun e => he (UInt8.toNat_inj.1 e)
          have d1 : ((x.toNat : Int) == (y.toNat : Int)) = false := by rw [beq_eq_false_iff_ne]; omega
          have HD : Hid (Op.bytesLess a.toList b.toList = decide ((x.toNat : Int) < (y.toNat : Int))) := Lib.hid (by rw [HR.out]; simp [UInt8.lt_iff_toNat_lt])
          clear he hne HS
          go_wp2_with fail
          go_quiet (fail)
          go_wp2_with fail
          go_quiet (fail)
          go_wp2_with fail
          go_ret
          exact ⟨by unfold Mm.lt; rw [HD.out]; simp, _, by rw [World.drewN_drewN, World.drewN_drewN]⟩
      · have i2 : ¬ (k : Int) < (b.size : Int) := by omega
        have HR := Lib.hid (less_end k HT.out (by rw [HLA.out, HLB.out]; omega) (by rw [HLA.out]; exact hka) (by rw [HLB.out]; exact hkb))
        rw [HLA.out, HLB.out] at HR
        go_wp2_with fail
        go_ret
        exact ⟨by unfold Mm.lt; rw [HR.out]; simp, _, rfl⟩
    · have i1 : ¬ (k : Int) < (a.size : Int) := by omega
      have HR := Lib.hid (less_end k HT.out (by rw [HLA.out, HLB.out]; omega) (by rw [HLA.out]; exact hka) (by rw [HLB.out]; exact hkb))
      rw [HLA.out, HLB.out] at HR
      go_wp2_with fail
      go_ret
      exact ⟨by unfold Mm.lt; rw [HR.out]; simp, _, rfl⟩

end Go.Proofs.YtbhjpkejdkfenaaGreatDoor
