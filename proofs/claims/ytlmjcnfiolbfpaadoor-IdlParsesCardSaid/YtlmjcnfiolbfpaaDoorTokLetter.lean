/-
  Walks over package token and over the document's: letters, digits, lines, words, numbers, signs. Conditions: those in the theorems.
-/
import Derived.Test.YtlmjcnfiolbfpaaDoorTokMath
import Derived.Test.YtlmjcnfiolbfpaaDoorTokShelf
import Derived.Lib.IndexAny
import Derived.Lib.IndexLaws
import Derived.Lib.IndexBytes
import Derived.Lib.Hide
import Derived.Handy
import Derived.WalkSpells
import Derived.WalkLawsBesides
set_option linter.unusedSimpArgs false
set_option linter.unusedVariables false
namespace Go.Proofs.YtlmjcnfiolbfpaaDoor
open Go.RowKit

theorem ret_bool' {a b : Bool} (h : a = b) : Ending.returned (.bool a) = Ending.returned (.bool b) := by rw [h]
theorem letter_any (c : UInt8) (w : World) : Calls Tryd.prog 67 #[.int .u8 (c.toNat : Int)] w fun e w' => e = .returned (.bool (Tk.letter c)) ∧ w' = w := by
  unfold Tk.letter
  have hc := c.toNat_lt
  generalize c.toNat = n at *
  go_enter Tryd.func67, Tryd.ntmps67
  go_wp2
  all_goals
    go_ret
    refine ⟨ret_bool' ?_, rfl⟩
    rw [Bool.eq_iff_iff]
    simp
    omega
theorem digit_any (c : UInt8) (w : World) : Calls Tryd.prog 68 #[.int .u8 (c.toNat : Int)] w fun e w' => e = .returned (.bool (Tk.digit c)) ∧ w' = w := by
  unfold Tk.digit
  have hc := c.toNat_lt
  generalize c.toNat = n at *
  go_enter Tryd.func68, Tryd.ntmps68
  go_wp2
  all_goals
    go_ret
    refine ⟨ret_bool' ?_, rfl⟩
    rw [Bool.eq_iff_iff]
    simp
    omega
theorem rletter_any (c : UInt8) (w : World) : Calls Tryd.prog 61 #[.int .u8 (c.toNat : Int)] w fun e w' => e = .returned (.bool (Tk.letter c)) ∧ w' = w := by
  unfold Tk.letter
  have hc := c.toNat_lt
  generalize c.toNat = n at *
  go_enter Tryd.func61, Tryd.ntmps61
  go_wp2
  all_goals
    go_ret
    refine ⟨ret_bool' ?_, rfl⟩
    rw [Bool.eq_iff_iff]
    simp
    omega
theorem rdigit_any (c : UInt8) (w : World) : Calls Tryd.prog 62 #[.int .u8 (c.toNat : Int)] w fun e w' => e = .returned (.bool (Tk.digit c)) ∧ w' = w := by
  unfold Tk.digit
  have hc := c.toNat_lt
  generalize c.toNat = n at *
  go_enter Tryd.func62, Tryd.ntmps62
  go_wp2
  all_goals
    go_ret
    refine ⟨ret_bool' ?_, rfl⟩
    rw [Bool.eq_iff_iff]
    simp
    omega

/-! ### the library's answers -/
theorem line_index : ∀ l : List UInt8, (Go.Lib.indexByte l 10 = -1 ∧ Tk.line l = l.length) ∨ Go.Lib.indexByte l 10 = (Tk.line l : Nat)
  | [] => .inl ⟨rfl, rfl⟩
  | c :: r => by
    have ih := line_index r
    unfold Go.Lib.indexByte Tk.line
    rw [Tk.run_t]
    by_cases hc : c = 10
    · subst hc
      exact .inr rfl
    · have hn : (c == 10) = false := by simpa using hc
      have hl : Tk.noLine c = true := by
        unfold Tk.noLine
        rw [Bool.not_eq_true', decide_eq_false_iff_not]
        exact fun h => hc (UInt8.toNat_inj.1 h)
      rw [hn, if_neg (by simp), if_pos hl]
      rcases ih with ⟨h1, h2⟩ | h
      · refine .inl ⟨by rw [h1]; rfl, ?_⟩
        have : Tk.run Tk.noLine r = r.length := h2
        rw [this]; rfl
      · right
        rw [h]
        rw [if_neg (by simp)]
        unfold Tk.line
        push_cast
        rfl
theorem u8_back (c : UInt8) : ((c.toNat : Int)).toNat.toUInt8 = c := by rw [Int.toNat_natCast]; exact UInt8.ofNat_toNat
theorem eq_toNat (c d : UInt8) : (c == d) = decide (c.toNat = d.toNat) := by
  rw [Bool.eq_iff_iff, beq_iff_eq, decide_eq_true_iff, UInt8.toNat_inj]
theorem blank_index (c : UInt8) : decide (0 ≤ Go.Lib.indexByte [32, 9, 10, 13] c) = Tk.blank c := by
  rw [← Go.Lib.contains_iff_indexByte]
  simp only [List.contains_cons, List.contains_nil, Bool.or_false, eq_toNat]
  unfold Tk.blank
  show (decide (c.toNat = 32) || (decide (c.toNat = 9) || (decide (c.toNat = 10) || decide (c.toNat = 13)))) = _
  simp [Bool.or_assoc]
theorem sign_index (c : UInt8) : decide (0 ≤ Go.Lib.indexByte [123, 125, 40, 41, 59, 58, 44, 46] c) = Tk.signC c := by
  rw [← Go.Lib.contains_iff_indexByte]
  simp only [List.contains_cons, List.contains_nil, Bool.or_false, eq_toNat]
  unfold Tk.signC
  show (decide (c.toNat = 123) || (decide (c.toNat = 125) || (decide (c.toNat = 40) || (decide (c.toNat = 41) || (decide (c.toNat = 59) || (decide (c.toNat = 58) || (decide (c.toNat = 44) || decide (c.toNat = 46)))))))) = _
  simp [Bool.or_assoc]
theorem two_prefix (a b : UInt8) (l : List UInt8) : Go.Lib.hasPrefix l [a, b] = Tk.two a.toNat b.toNat l := by
  unfold Go.Lib.hasPrefix Tk.two
  match l with
  | [] => rfl
  | [c] => simp [List.isPrefixOf]
  | c :: d :: r => simp only [List.isPrefixOf, eq_toNat, Bool.and_true, eq_comm]

set_option maxHeartbeats 1000000 in
theorem line_any (s : ByteArray) (w : World) (hm : s.size ≤ maxLen) : Calls Tryd.prog 47 #[.string s] w fun e w' => e = .returned (.int .i64 (Tk.line s.data.toList : Nat)) ∧ w' = w := by
  have h := tk_strings_IndexByte s 10 w
  have hl : s.data.toList.length = s.size := by rw [Array.length_toList]; rfl
  have hx := line_index s.data.toList
  rw [show ((10 : Int).toNat.toUInt8) = 10 from rfl] at h
  rcases hx with ⟨h1, h2⟩ | h1
  · rw [h1] at h
    rw [h2, hl]
    clear h1 h2 hl
    go_enter Tryd.func47, Tryd.ntmps47
    go_wp2_with (go_at_call 45; refine h.mono ?_; rintro e w' ⟨rfl, rfl⟩)
    go_ret
    exact ⟨rfl, rfl⟩
  · rw [h1] at h
    clear h1 hl
    generalize Tk.line s.data.toList = n at *
    go_enter Tryd.func47, Tryd.ntmps47
    go_wp2_with (go_at_call 45; refine h.mono ?_; rintro e w' ⟨rfl, rfl⟩)
    go_ret
    exact ⟨rfl, rfl⟩
end Go.Proofs.YtlmjcnfiolbfpaaDoor
