/-
  The parts of TokMath, TokShelf, TokLetter, TokWord, TokNum, TokFirst, TokRow, TokMore, TokPure, TokKey, TokName, SumShelf, TokAll that a seat without their package has. Conditions: those in the theorems.
-/
import Derived.Lib.Hide
import Derived.Shelf.Small.Strs
import Derived.Shelf.Strings.Search1
import Derived.Shelf.Strings.Prefix
import Derived.Test.YtnkdhmoocomjfaaGreatDoorProg
import Derived.WalkKit
import Derived.Lib.IndexAny
import Derived.Lib.IndexLaws
import Derived.Lib.IndexBytes
import Derived.Handy
import Derived.WalkSpells
import Derived.WalkLawsBesides
import Derived.Deep.RegionWith
import Derived.Deep.LoopGhost
import Derived.Deep.Cut
import Derived.OwnWalk
import Derived.Lib.AppendZeros
import Derived.Lib.AppendStr
import Derived.Maps.AppendAt
import Derived.ChangeSlices
import Derived.Test.YtnkdhmoocomjfaaGreatDoorRows
import Derived.Laws.Rows
import Derived.Lib.LaidTab
import Derived.Shelf.LaysM
import Derived.Shelf.Strconv.Clone
import Derived.Deep.RegionLaw
set_option linter.unusedSimpArgs false
set_option linter.unusedVariables false
namespace Tk
def letter (c : UInt8) : Bool := (decide (97 ≤ c.toNat) && decide (c.toNat ≤ 122)) || (decide (65 ≤ c.toNat) && decide (c.toNat ≤ 90))
def digit (c : UInt8) : Bool := decide (48 ≤ c.toNat) && decide (c.toNat ≤ 57)
def wchar (c : UInt8) : Bool := letter c || digit c || decide (c.toNat = 95)
def blank (c : UInt8) : Bool := decide (c.toNat = 32) || decide (c.toNat = 9) || decide (c.toNat = 10) || decide (c.toNat = 13)
def signC (c : UInt8) : Bool := decide (c.toNat = 123) || decide (c.toNat = 125) || decide (c.toNat = 40) || decide (c.toNat = 41) || decide (c.toNat = 59) || decide (c.toNat = 58) || decide (c.toNat = 44) || decide (c.toNat = 46)
/-- How many bytes satisfy p from the beginning. -/
def run (p : UInt8 → Bool) : List UInt8 → Nat
  | [] => 0
  | c :: r => if p c then run p r + 1 else 0
def noLine (c : UInt8) : Bool := !decide (c.toNat = 10)
/-- How many bytes a text has up to its first byte 10. -/
def line (l : List UInt8) : Nat := run noLine l
/-- Does a text begin with these two? -/
def two (a b : Nat) : List UInt8 → Bool
  | c :: d :: _ => decide (c.toNat = a) && decide (d.toNat = b)
  | _ => false
/-- Blanks and remarks; m: within a remark. -/
def skipM : Bool → List UInt8 → Nat
  | _, [] => 0
  | true, c :: r => if c.toNat = 10 then skipM false r + 1 else skipM true r + 1
  | false, c :: r => if blank c then skipM false r + 1 else if two 47 47 (c :: r) then skipM true r + 1 else 0
def skip (l : List UInt8) : Nat := skipM false l
def word : List UInt8 → Nat
  | [] => 0
  | c :: r => if letter c then run wchar r + 1 else 0
def number (l : List UInt8) : Nat := run digit l
def sign (l : List UInt8) : Nat := if two 45 62 l then 2 else match l with
  | [] => 0
  | c :: _ => if signC c then 1 else 0
def val (l : List UInt8) : Nat := l.foldl (fun n c => n * 10 + (c.toNat - 48)) 0
inductive Res
  | no (e : Nat)
  | tok (kind len num : Nat)
/-- The number that all these digits are. -/
def numbered (l : List UInt8) : Res := if 9 < l.length then .no 3 else if 1 < l.length ∧ (l.head?.getD 0).toNat = 48 then .no 110 else .tok 2 l.length (val l)
/-- The token that a text begins with. -/
def first (l : List UInt8) : Res :=
  if 0 < word l then (if 32 < word l then .no 3 else .tok 1 (word l) 0)
  else if 0 < number l then numbered (l.take (number l))
  else if 0 < sign l then .tok 3 (sign l) 0
  else .no 110
def bs (l : List UInt8) : ByteArray := ⟨l.toArray⟩
structure Token where
  kind : Nat
  text : ByteArray
  num : Int
  pos : Int
inductive Out
  | no (at_ : Nat) (e : Nat)
  | ok (ts : List Token)
def Out.pre (ts : List Token) : Out → Out
  | .no a e => .no a e
  | .ok us => .ok (ts ++ us)
theorem pre_no (ts : List Token) (a e : Nat) : Out.pre ts (.no a e) = .no a e := rfl
theorem pre_ok (ts us : List Token) : Out.pre ts (.ok us) = .ok (ts ++ us) := rfl
theorem pre_nil (o : Out) : Out.pre [] o = o := by cases o <;> rfl
theorem pre_pre (a b : List Token) (o : Out) : Out.pre a (Out.pre b o) = Out.pre (a ++ b) o := by cases o <;> simp [Out.pre]
/-- All tokens of a text that begins at a place. -/
def allF : Nat → Nat → List UInt8 → Out
  | 0, _, _ => .ok []
  | fuel + 1, a, l =>
    if l.drop (skip l) = [] then .ok [] else
    match first (l.drop (skip l)) with
    | .no e => .no (a + skip l) e
    | .tok k n v => Out.pre [⟨k, bs ((l.drop (skip l)).take n), v, (a + skip l : Nat)⟩] (allF fuel (a + skip l + n) ((l.drop (skip l)).drop n))
def all (a : Nat) (l : List UInt8) : Out := allF (l.length + 1) a l

theorem run_t (p : UInt8 → Bool) (c : UInt8) (r : List UInt8) : run p (c :: r) = if p c then run p r + 1 else 0 := rfl
theorem run_le (p : UInt8 → Bool) : ∀ l, run p l ≤ l.length
  | [] => Nat.le_refl _
  | c :: r => by unfold run; split; · have := run_le p r; simp; omega
                 · simp
theorem run_append (p : UInt8 → Bool) (d : UInt8) (hd : p d = false) (m : List UInt8) : ∀ (l : List UInt8), run p (l ++ d :: m) = run p l
  | [] => by simp [run, hd]
  | c :: r => by
    show run p (c :: (r ++ d :: m)) = _
    unfold run
    rw [run_append p d hd m r]
theorem run_take (p : UInt8 → Bool) : ∀ (l : List UInt8) (k : Nat), run p l ≤ k → run p (l.take k) = run p l
  | [], k, _ => by simp
  | c :: r, 0, h => by
    have : run p (c :: r) = 0 := by omega
    rw [this]; rfl
  | c :: r, k + 1, h => by
    rw [List.take_succ_cons]
    unfold run at h ⊢
    by_cases hc : p c = true
    · rw [if_pos hc] at h ⊢; rw [if_pos hc, run_take p r k (by omega)]
    · rw [if_neg hc, if_neg hc]
/-- A step of the count. -/
theorem run_step (p : UInt8 → Bool) : ∀ (l : List UInt8) (k : Nat) (hk : k < l.length), k ≤ run p l → (p l[k] = true → k + 1 ≤ run p l) ∧ (p l[k] = false → run p l = k)
  | [], k, hk, _ => absurd hk (Nat.not_lt_zero _)
  | c :: r, 0, _, h => by
    refine ⟨fun e => ?_, fun e => ?_⟩
    · unfold run; rw [if_pos (by simpa using e)]; omega
    · unfold run; rw [if_neg (by simpa using e)]
  | c :: r, k + 1, hk, h => by
    have hc : p c = true := by
      by_cases hc : p c = true
      · exact hc
      · unfold run at h; rw [if_neg hc] at h; omega
    unfold run at h ⊢
    rw [if_pos hc] at h ⊢
    have := run_step p r k (by simpa using hk) (by omega)
    simp only [List.getElem_cons_succ]
    exact ⟨fun e => by have := this.1 e; omega, fun e => by have := this.2 e; omega⟩
theorem run_end (p : UInt8 → Bool) (l : List UInt8) (h : l.length ≤ run p l) : run p l = l.length := Nat.le_antisymm (run_le p l) h
theorem run_all (p : UInt8 → Bool) : ∀ (l : List UInt8), ∀ c ∈ l.take (run p l), p c = true
  | [], c, h => by simp at h
  | d :: r, c, h => by
    unfold run at h
    by_cases hd : p d = true
    · rw [if_pos hd, List.take_succ_cons] at h
      rcases List.mem_cons.1 h with rfl | h
      · exact hd
      · exact run_all p r c h
    · rw [if_neg hd] at h; simp at h
theorem skipM_le : ∀ m l, skipM m l ≤ l.length
  | m, [] => by cases m <;> simp [skipM]
  | true, c :: r => by
    unfold skipM; split
    · have := skipM_le false r; simp; omega
    · have := skipM_le true r; simp; omega
  | false, c :: r => by
    unfold skipM; split
    · have := skipM_le false r; simp; omega
    · split
      · have := skipM_le true r; simp; omega
      · simp
theorem skip_le (l : List UInt8) : skip l ≤ l.length := skipM_le false l
theorem skipM_t (c : UInt8) (r : List UInt8) : skipM true (c :: r) = if c.toNat = 10 then skipM false r + 1 else skipM true r + 1 := rfl
theorem skipM_f (c : UInt8) (r : List UInt8) : skipM false (c :: r) = if blank c then skipM false r + 1 else if two 47 47 (c :: r) then skipM true r + 1 else 0 := rfl
theorem skipM_true : ∀ (l : List UInt8), skipM true l = line l + skipM false (l.drop (line l))
  | [] => by simp [skipM, line, run]
  | c :: r => by
    rw [skipM_t]
    by_cases hc : c.toNat = 10
    · have hl : line (c :: r) = 0 := by unfold line run; rw [if_neg (by simp [noLine, hc])]
      rw [if_pos hc, hl, List.drop_zero, Nat.zero_add, skipM_f, if_pos (by simp [blank, hc])]
    · have hl : line (c :: r) = line r + 1 := by show run noLine (c :: r) = _; rw [run_t, if_pos (by simp [noLine, hc])]; rfl
      rw [if_neg hc, hl, skipM_true r, List.drop_succ_cons]
      omega
/-- The three ways of a place. -/
theorem skip_blank {c : UInt8} {r : List UInt8} (h : blank c = true) : skip (c :: r) = skip r + 1 := by
  show skipM false _ = _; unfold skipM; rw [if_pos h]; rfl
theorem skip_remark {l : List UInt8} (h : two 47 47 l = true) : skip l = line l + skip (l.drop (line l)) := by
  match l, h with
  | c :: d :: r, h =>
    have h' := h
    simp only [two, Bool.and_eq_true, decide_eq_true_eq] at h
    obtain ⟨hc, hd⟩ := h
    have hl : line (c :: d :: r) = line (d :: r) + 1 := by unfold line run; rw [if_pos (by simp [noLine, hc])]; rfl
    rw [hl, List.drop_succ_cons]
    show skipM false _ = _
    unfold skipM
    rw [if_neg (by simp [blank, hc]), if_pos h', skipM_true]
    show _ = line (d :: r) + 1 + skipM false _
    omega
theorem skip_none {l : List UInt8} (h1 : ∀ c r, l = c :: r → blank c = false) (h2 : two 47 47 l = false) : skip l = 0 := by
  cases l with
  | nil => rfl
  | cons c r =>
    show skipM false _ = _; unfold skipM
    rw [if_neg (by rw [h1 c r rfl]; simp), if_neg (by rw [h2]; simp)]
theorem line_pos {l : List UInt8} (h : two 47 47 l = true) : 1 ≤ line l := by
  match l, h with
  | c :: d :: r, h =>
    simp only [two, Bool.and_eq_true, decide_eq_true_eq] at h
    unfold line run; rw [if_pos (by simp [noLine, h.1])]; omega
theorem line_le (l : List UInt8) : line l ≤ l.length := run_le _ _
theorem skipM_skip : ∀ (m : Bool) (l : List UInt8), skip (l.drop (skipM m l)) = 0
  | m, [] => by cases m <;> simp [skipM, skip]
  | true, c :: r => by
    rw [skipM_t]; split
    · exact skipM_skip false r
    · exact skipM_skip true r
  | false, c :: r => by
    by_cases hb : blank c = true
    · rw [show skipM false (c :: r) = skipM false r + 1 from skip_blank hb]; exact skipM_skip false r
    · by_cases ht : two 47 47 (c :: r) = true
      · have e : skipM false (c :: r) = skipM true r + 1 := by rw [skipM_f, if_neg hb, if_pos ht]
        rw [e]; exact skipM_skip true r
      · have e : skipM false (c :: r) = 0 := by rw [skipM_f, if_neg hb, if_neg ht]
        rw [e, List.drop_zero]; exact e
theorem skip_skip (l : List UInt8) : skip (l.drop (skip l)) = 0 := skipM_skip false l
theorem word_c (c : UInt8) (r : List UInt8) : word (c :: r) = if letter c then run wchar r + 1 else 0 := rfl
theorem word_le (l : List UInt8) : word l ≤ l.length := by
  cases l with
  | nil => exact Nat.le_refl _
  | cons c r =>
    rw [word_c]
    have := run_le wchar r
    split <;> simp <;> omega
theorem word_pos {l : List UInt8} (h : 0 < l.length) (hc : letter l[0] = true) : 1 ≤ word l := by
  cases l with
  | nil => simp at h
  | cons c r => rw [word_c, if_pos (by simpa using hc)]; omega
theorem word_none {l : List UInt8} (h : 0 < l.length) (hc : letter l[0] = false) : word l = 0 := by
  cases l with
  | nil => simp at h
  | cons c r => rw [word_c, if_neg (by simpa using hc)]
theorem word_step {l : List UInt8} (h : 0 < l.length) (hc : letter l[0] = true) {k : Nat} (h1 : 1 ≤ k) (hk : k < l.length) (hle : k ≤ word l) :
    (wchar l[k] = true → k + 1 ≤ word l) ∧ (wchar l[k] = false → word l = k) := by
  cases l with
  | nil => simp at h
  | cons c r =>
    obtain ⟨j, rfl⟩ : ∃ j, k = j + 1 := ⟨k - 1, by omega⟩
    have hw : word (c :: r) = run wchar r + 1 := by rw [word_c, if_pos (by simpa using hc)]
    rw [hw] at hle ⊢
    have := run_step wchar r j (by simpa using hk) (by omega)
    simp only [List.getElem_cons_succ]
    exact ⟨fun e => by have := this.1 e; omega, fun e => by have := this.2 e; omega⟩
theorem sign_le (l : List UInt8) : sign l ≤ l.length := by
  match l with
  | [] => exact Nat.le_refl _
  | [c] =>
    show (if two 45 62 [c] then 2 else if signC c then 1 else 0) ≤ 1
    rw [show two 45 62 [c] = false from rfl]
    simp only [Bool.false_eq_true, if_false]
    split <;> omega
  | c :: d :: r =>
    show (if two 45 62 (c :: d :: r) then 2 else if signC c then 1 else 0) ≤ _
    simp only [List.length_cons]
    split
    · omega
    · split <;> omega
end Tk
namespace Go.Proofs.YtnkdhmoocomjfaaGreatDoor
open Go.Shelf Go.RowKit
end Go.Proofs.YtnkdhmoocomjfaaGreatDoor
namespace Go.Proofs.YtnkdhmoocomjfaaGreatDoor
open Go.RowKit
theorem ret_bool' {a b : Bool} (h : a = b) : Ending.returned (.bool a) = Ending.returned (.bool b) := by rw [h]
theorem letter_any (c : UInt8) (w : World) : Calls Tryz.prog 181 #[.int .u8 (c.toNat : Int)] w fun e w' => e = .returned (.bool (Tk.letter c)) ∧ w' = w := by
  unfold Tk.letter
  have hc := c.toNat_lt
  generalize c.toNat = n at *
  go_enter Tryz.func181, Tryz.ntmps181
  go_wp2
  all_goals
    go_ret
    refine ⟨ret_bool' ?_, rfl⟩
    rw [Bool.eq_iff_iff]
    simp
    omega
theorem digit_any (c : UInt8) (w : World) : Calls Tryz.prog 182 #[.int .u8 (c.toNat : Int)] w fun e w' => e = .returned (.bool (Tk.digit c)) ∧ w' = w := by
  unfold Tk.digit
  have hc := c.toNat_lt
  generalize c.toNat = n at *
  go_enter Tryz.func182, Tryz.ntmps182
  go_wp2
  all_goals
    go_ret
    refine ⟨ret_bool' ?_, rfl⟩
    rw [Bool.eq_iff_iff]
    simp
    omega
theorem rletter_any (c : UInt8) (w : World) : Calls Tryz.prog 136 #[.int .u8 (c.toNat : Int)] w fun e w' => e = .returned (.bool (Tk.letter c)) ∧ w' = w := by
  unfold Tk.letter
  have hc := c.toNat_lt
  generalize c.toNat = n at *
  go_enter Tryz.func136, Tryz.ntmps136
  go_wp2
  all_goals
    go_ret
    refine ⟨ret_bool' ?_, rfl⟩
    rw [Bool.eq_iff_iff]
    simp
    omega
theorem rdigit_any (c : UInt8) (w : World) : Calls Tryz.prog 138 #[.int .u8 (c.toNat : Int)] w fun e w' => e = .returned (.bool (Tk.digit c)) ∧ w' = w := by
  unfold Tk.digit
  have hc := c.toNat_lt
  generalize c.toNat = n at *
  go_enter Tryz.func138, Tryz.ntmps138
  go_wp2
  all_goals
    go_ret
    refine ⟨ret_bool' ?_, rfl⟩
    rw [Bool.eq_iff_iff]
    simp
    omega

/-! ### the library's answers -/
theorem line_index : ∀ l : List UInt8, (Go.Lib.indexByte l 10 = -1 ∧ Tk.line l = l.length) ∨ Go.Lib.indexByte l 10 = (Tk.line l : Nat)
  | [] => .inl ⟨rfl, rfl⟩
  | c :: r => by
    have ih := line_index r
    unfold Go.Lib.indexByte Tk.line
    rw [Tk.run_t]
    by_cases hc : c = 10
    · subst hc
      exact .inr rfl
    · have hn : (c == 10) = false := by simpa using hc
      have hl : Tk.noLine c = true := by
        unfold Tk.noLine
        rw [Bool.not_eq_true', decide_eq_false_iff_not]
        exact fun h => hc (UInt8.toNat_inj.1 h)
      rw [hn, if_neg (by simp), if_pos hl]
      rcases ih with ⟨h1, h2⟩ | h
      · refine .inl ⟨by rw [h1]; rfl, ?_⟩
        have : Tk.run Tk.noLine r = r.length := h2
        rw [this]; rfl
      · right
        rw [h]
        rw [if_neg (by simp)]
        unfold Tk.line
        push_cast
        rfl
theorem u8_back (c : UInt8) : ((c.toNat : Int)).toNat.toUInt8 = c := by rw [Int.toNat_natCast]; exact UInt8.ofNat_toNat
theorem eq_toNat (c d : UInt8) : (c == d) = decide (c.toNat = d.toNat) := by
  rw [Bool.eq_iff_iff, beq_iff_eq, decide_eq_true_iff, UInt8.toNat_inj]
theorem blank_index (c : UInt8) : decide (0 ≤ Go.Lib.indexByte [32, 9, 10, 13] c) = Tk.blank c := by
  rw [← Go.Lib.contains_iff_indexByte]
  simp only [List.contains_cons, List.contains_nil, Bool.or_false, eq_toNat]
  unfold Tk.blank
  show (decide (c.toNat = 32) || (decide (c.toNat = 9) || (decide (c.toNat = 10) || decide (c.toNat = 13)))) = _
  simp [Bool.or_assoc]
theorem sign_index (c : UInt8) : decide (0 ≤ Go.Lib.indexByte [123, 125, 40, 41, 59, 58, 44, 46] c) = Tk.signC c := by
  rw [← Go.Lib.contains_iff_indexByte]
  simp only [List.contains_cons, List.contains_nil, Bool.or_false, eq_toNat]
  unfold Tk.signC
  show (decide (c.toNat = 123) || (decide (c.toNat = 125) || (decide (c.toNat = 40) || (decide (c.toNat = 41) || (decide (c.toNat = 59) || (decide (c.toNat = 58) || (decide (c.toNat = 44) || decide (c.toNat = 46)))))))) = _
  simp [Bool.or_assoc]
theorem two_prefix (a b : UInt8) (l : List UInt8) : Go.Lib.hasPrefix l [a, b] = Tk.two a.toNat b.toNat l := by
  unfold Go.Lib.hasPrefix Tk.two
  match l with
  | [] => rfl
  | [c] => simp [List.isPrefixOf]
  | c :: d :: r => simp only [List.isPrefixOf, eq_toNat, Bool.and_true, eq_comm]

end Go.Proofs.YtnkdhmoocomjfaaGreatDoor
namespace Go.Proofs.YtnkdhmoocomjfaaGreatDoor
open Go.RowKit
theorem list_at (s : ByteArray) (k : Nat) (h : k < s.size) : s.data.toList[k]'(by simpa using h) = s[k] := rfl
theorem list_len (s : ByteArray) : s.data.toList.length = s.size := by rw [Array.length_toList]; rfl
theorem not_empty {s : ByteArray} (h0 : 0 < s.size) : s.toList.isEmpty = false := by
  rw [← decide_eq_emptyBytes]; exact decide_eq_false (fun h => by rw [h] at h0; exact absurd h0 (by decide))
theorem is_empty {s : ByteArray} (h0 : s.size = 0) : s = ⟨#[]⟩ := by
  obtain ⟨d⟩ := s
  have h : d.size = 0 := h0
  rw [Array.eq_empty_of_size_eq_zero h]
theorem beq_int {a : Nat} {b : Nat} {v : Bool} (h : decide (a = b) = v) : (((a : Nat) : Int) == (b : Int)) = v := by
  rw [← h, Bool.eq_iff_iff]; simp; omega

set_option maxHeartbeats 2000000 in
theorem word_any (s : ByteArray) (w : World) (hm : s.size ≤ maxLen) : Calls Tryz.prog 162 #[.string s] w fun e w' => e = .returned (.int .i64 (Tk.word s.data.toList : Nat)) ∧ w' = w := by
  have hl := list_len s
  by_cases h0 : 0 < s.size
  · have he := not_empty h0
    have hlt := letter_any s[0] w
    have i0 : (0 : Int) < (s.size : Int) := by omega
    by_cases hc : Tk.letter s[0] = true
    · rw [hc] at hlt
      have hst : ∀ k (h1 : 1 ≤ k) (hk : k < s.size), k ≤ Tk.word s.data.toList → (Tk.wchar s[k] = true → k + 1 ≤ Tk.word s.data.toList) ∧ (Tk.wchar s[k] = false → Tk.word s.data.toList = k) :=
        fun k h1 hk hle => Tk.word_step (l := s.data.toList) (by omega) hc h1 (by omega) hle
      have hp : 1 ≤ Tk.word s.data.toList := Tk.word_pos (by omega) hc
      have hle : Tk.word s.data.toList ≤ s.size := by rw [← hl]; exact Tk.word_le _
      generalize Tk.word s.data.toList = n at *
      have HST := Lib.hid hst
      unfold maxLen at hm
      clear hst hl hc
      go_enter Tryz.func162, Tryz.ntmps162
      go_wp2_with (go_at_call 181; refine hlt.mono ?_; rintro e w' ⟨rfl, hw⟩; obtain rfl := hw)
      clear hlt
      go_loopw [3] (fun kv wr => ∃ k : Nat, 1 ≤ k ∧ k ≤ n ∧ kv = .int .i64 (k : Nat) ∧ wr = w') (fun kv _ => s.size - (intOf kv).toNat)
      case atStart => exact ⟨1, by omega, hp, rfl, rfl⟩
      case round =>
        obtain ⟨k, h1, hk, rfl, rfl⟩ := hrel
        by_cases hks : k < s.size
        · have i1 : (k : Int) < (s.size : Int) := by omega
          have i2 : (0 : Int) ≤ (k : Int) := by omega
          obtain ⟨hy, hn⟩ := HST.out k h1 hks hk
          have q1 := fun W => letter_any s[k] W
          have q2 := fun W => digit_any s[k] W
          have hw : Tk.wchar s[k] = (Tk.letter s[k] || Tk.digit s[k] || decide (s[k].toNat = 95)) := rfl
          rw [hw] at hy hn
          clear hw
          have q3 : ∀ v, decide (s[k].toNat = 95) = v → ((s[k].toNat : Int) == 95) = v := fun v h => beq_int (b := 95) h
          generalize Tk.letter s[k] = a at *
          generalize Tk.digit s[k] = b at *
          generalize decide (s[k].toNat = 95) = d at *
          have q4 := q3 d rfl
          clear q3
          cases a with
          | true =>
            have HY := Lib.hid (hy rfl)
            clear hy hn
            go_wp2_with (first | (go_at_call 181; refine (q1 _).mono ?_; rintro e w' ⟨rfl, hw'⟩; obtain rfl := hw') | (go_at_call 182; refine (q2 _).mono ?_; rintro e w' ⟨rfl, hw'⟩; obtain rfl := hw') | fail)
            go_roundw
            case rel => exact ⟨k + 1, by omega, HY.out, by go_num, by first | trivial | rfl⟩
            case measure => simp [intOf]; omega
          | false =>
            cases b with
            | true =>
              have HY := Lib.hid (hy rfl)
              clear hy hn
              go_wp2_with (first | (go_at_call 181; refine (q1 _).mono ?_; rintro e w' ⟨rfl, hw'⟩; obtain rfl := hw') | (go_at_call 182; refine (q2 _).mono ?_; rintro e w' ⟨rfl, hw'⟩; obtain rfl := hw') | fail)
              go_roundw
              case rel => exact ⟨k + 1, by omega, HY.out, by go_num, by first | trivial | rfl⟩
              case measure => simp [intOf]; omega
            | false =>
              cases d with
              | true =>
                have HY := Lib.hid (hy rfl)
                clear hy hn
                go_wp2_with (first | (go_at_call 181; refine (q1 _).mono ?_; rintro e w' ⟨rfl, hw'⟩; obtain rfl := hw') | (go_at_call 182; refine (q2 _).mono ?_; rintro e w' ⟨rfl, hw'⟩; obtain rfl := hw') | fail)
                go_roundw
                case rel => exact ⟨k + 1, by omega, HY.out, by go_num, by first | trivial | rfl⟩
                case measure => simp [intOf]; omega
              | false =>
                have HN := Lib.hid (hn rfl)
                clear hy hn
                go_wp2_with (first | (go_at_call 181; refine (q1 _).mono ?_; rintro e w' ⟨rfl, hw'⟩; obtain rfl := hw') | (go_at_call 182; refine (q2 _).mono ?_; rintro e w' ⟨rfl, hw'⟩; obtain rfl := hw') | fail)
                go_ret
                exact ⟨by rw [HN.out]; rfl, rfl⟩
        · have HN : Hid (n = k) := Lib.hid (by omega)
          have i1 : ¬ (k : Int) < (s.size : Int) := by omega
          go_wp2_with fail
          go_ret
          exact ⟨by rw [HN.out]; rfl, rfl⟩
    · have hz := Tk.word_none (l := s.data.toList) (by omega) ((Bool.not_eq_true _).mp hc)
      rw [hz]
      rw [(Bool.not_eq_true _).mp hc] at hlt
      clear hz hl hc
      go_enter Tryz.func162, Tryz.ntmps162
      go_wp2_with (go_at_call 181; refine hlt.mono ?_; rintro e w' ⟨rfl, hw⟩; obtain rfl := hw)
      go_ret
      exact ⟨rfl, rfl⟩
  · obtain rfl := is_empty (show s.size = 0 by omega)
    clear hl h0 hm
    go_enter Tryz.func162, Tryz.ntmps162
    go_wp2_with fail
    go_ret
    exact ⟨rfl, rfl⟩

theorem sign_c (c : UInt8) (r : List UInt8) : Tk.sign (c :: r) = if Tk.two 45 62 (c :: r) then 2 else if Tk.signC c then 1 else 0 := rfl
end Go.Proofs.YtnkdhmoocomjfaaGreatDoor
namespace Tk
def Token.zero : Token := ⟨0, ⟨#[]⟩, 0, 0⟩
/-- What a token begun with says: its kind, its text, its number. -/
def Res.tokenAt (l : List UInt8) : Res → Token
  | .no _ => Token.zero
  | .tok k n v => ⟨k, bs (l.take n), v, 0⟩
def Res.err : Res → Nat
  | .no e => e
  | .tok .. => 0
theorem val_snoc (l : List UInt8) (c : UInt8) : val (l ++ [c]) = val l * 10 + (c.toNat - 48) := by unfold val; rw [List.foldl_append]; rfl
theorem val_take {l : List UInt8} {k : Nat} (h : k < l.length) : val (l.take (k + 1)) = val (l.take k) * 10 + (l[k].toNat - 48) := by
  rw [List.take_succ_eq_append_getElem h, val_snoc]
theorem val_lt : ∀ (k : Nat) (l : List UInt8), (∀ c ∈ l, digit c = true) → k ≤ l.length → val (l.take k) < 10 ^ k
  | 0, l, _, _ => by simp [val]
  | k + 1, l, hd, hk => by
    rw [val_take (by omega)]
    have ih := val_lt k l hd (by omega)
    have hc := hd _ (List.getElem_mem (show k < l.length by omega))
    unfold digit at hc
    simp only [Bool.and_eq_true, decide_eq_true_eq] at hc
    rw [Nat.pow_succ]
    omega
end Tk
namespace Go.Proofs.YtnkdhmoocomjfaaGreatDoor
open Go.RowKit
theorem int_eq' {k : IntKind} {a b : Int} (h : a = b) : Value.int k a = Value.int k b := by rw [h]
def tokCells (t : Tk.Token) : List Value := [.int .u8 (t.kind : Nat), .string t.text, .int .i64 t.num, .int .i64 t.pos]
def tokV (t : Tk.Token) : Value := .agg #[.int .u8 (t.kind : Nat), .string t.text, .int .i64 t.num, .int .i64 t.pos]
theorem tok_cells {W : World} {b : Nat} {x0 x1 x2 x3 : Value} {T : TypeId} {fr : Nat × Nat} (h : W.heap[b]? = some (.cells #[x0, x1, x2, x3] T fr)) :
    W.cell? ⟨b, 0, none⟩ = some x0 ∧ W.cell? ⟨b, 1, none⟩ = some x1 ∧ W.cell? ⟨b, 2, none⟩ = some x2 ∧ W.cell? ⟨b, 3, none⟩ = some x3 :=
  ⟨cell_of_row W b 0 _ _ _ h, cell_of_row W b 1 _ _ _ h, cell_of_row W b 2 _ _ _ h, cell_of_row W b 3 _ _ _ h⟩
end Go.Proofs.YtnkdhmoocomjfaaGreatDoor
namespace Tk
theorem skip_at {l : List UInt8} {k : Nat} (h : k < l.length) (hb : blank l[k] = true) : skip (l.drop k) = skip (l.drop (k + 1)) + 1 := by
  rw [List.drop_eq_getElem_cons h]; exact skip_blank hb
theorem skip_at_remark {l : List UInt8} {k : Nat} (hr : two 47 47 (l.drop k) = true) : skip (l.drop k) = line (l.drop k) + skip (l.drop (k + line (l.drop k))) := by
  rw [← List.drop_drop]; exact skip_remark hr
theorem skip_at_none {l : List UInt8} {k : Nat} (h : k < l.length) (hb : blank l[k] = false) (hr : two 47 47 (l.drop k) = false) : skip (l.drop k) = 0 := by
  refine skip_none (fun c r e => ?_) hr
  rw [List.drop_eq_getElem_cons h] at e
  cases e; exact hb
theorem skip_at_end {l : List UInt8} {k : Nat} (h : l.length ≤ k) : skip (l.drop k) = 0 := by rw [List.drop_of_length_le h]; rfl
end Tk
namespace Go.Proofs.YtnkdhmoocomjfaaGreatDoor
open Go.RowKit
theorem ext_list (s : ByteArray) (i j : Nat) : (s.extract i j).data.toList = (s.data.toList.drop i).take (j - i) := by
  simp [ByteArray.data_extract, Array.toList_extract, List.extract_eq_take_drop]
theorem ext_end (s : ByteArray) (i : Nat) : (s.extract i s.size).data.toList = s.data.toList.drop i := by
  rw [ext_list, List.take_of_length_le (by rw [List.length_drop, list_len]; omega)]
theorem ext_max {s : ByteArray} (i j : Nat) (h : s.size ≤ maxLen) : (s.extract i j).size ≤ maxLen := by rw [ByteArray.size_extract]; unfold maxLen at *; omega

theorem ext_bs (s : ByteArray) (n : Nat) : s.extract 0 n = Tk.bs (s.data.toList.take n) := by
  have e := ext_list s 0 n
  rw [List.drop_zero, Nat.sub_zero] at e
  show _ = (⟨(s.data.toList.take n).toArray⟩ : ByteArray)
  rw [← e]
theorem tk_set {w : World} {a i : Nat} {cs : Array Value} {T : TypeId} (h : w.heap[a]? = some (.cells cs T (0, 0))) (v : Value) : (w.setCell ⟨a, i, none⟩ v).heap[a]? = some (.cells (cs.setIfInBounds i v) T (0, 0)) := heap_setCell_same w a i cs T v h
theorem set_four {W : World} {a : Nat} {x0 x1 x2 x3 : Value} (y0 y1 y2 y3 : Value) {T : TypeId} (h : W.heap[a]? = some (.cells #[x0, x1, x2, x3] T (0, 0))) :
    ((((W.setCell ⟨a, 0, none⟩ y0).setCell ⟨a, 1, none⟩ y1).setCell ⟨a, 2, none⟩ y2).setCell ⟨a, 3, none⟩ y3).heap[a]? = some (.cells #[y0, y1, y2, y3] T (0, 0)) :=
  tk_set (tk_set (tk_set (tk_set h _) _) _) _
theorem below_four {B : Nat} {w W : World} {a : Nat} {x y z u : Value} (h : Below B w W) (ha : B ≤ a) : Below B w ((((W.setCell ⟨a, 0, none⟩ x).setCell ⟨a, 1, none⟩ y).setCell ⟨a, 2, none⟩ z).setCell ⟨a, 3, none⟩ u) :=
  (((h.setCell ha _).setCell ha _).setCell ha _).setCell ha _
theorem tk_alloc (w : World) (o : Obj) : Below w.heap.size w (w.alloc o) := (Below.refl _ _).alloc (Nat.le_refl _) _
theorem numbered_take (l : List UInt8) (n : Nat) (hn : n ≤ l.length) : (Tk.numbered (l.take n)).tokenAt (l.take n) = (Tk.numbered (l.take n)).tokenAt l := by
  unfold Tk.numbered
  split
  · rfl
  · split
    · rfl
    · show (⟨2, Tk.bs ((l.take n).take (l.take n).length), _, 0⟩ : Tk.Token) = ⟨2, Tk.bs (l.take (l.take n).length), _, 0⟩
      rw [List.take_length, List.length_take, Nat.min_eq_left hn]
theorem zero_tok : tokV Tk.Token.zero = .agg #[.int .u8 0, .string ⟨#[]⟩, .int .i64 0, .int .i64 0] := rfl
end Go.Proofs.YtnkdhmoocomjfaaGreatDoor
namespace Go.Proofs.YtnkdhmoocomjfaaGreatDoor
open Go.ChangeShapes Go.WideShapes Go.ChangeAt Go.RowKit
theorem tcell_block {W : World} {a : Addr} {v : Value} (h : W.cell? a = some v) : a.block < W.heap.size := by
  unfold World.cell? at h
  cases hq : W.heap[a.block]? with
  | none => rw [hq] at h; cases h
  | some o => exact (Array.getElem?_eq_some_iff.1 hq).1
theorem tadd (A : Addr) (i j : Nat) : (A.add i).add j = A.add (i + j) := by
  unfold Addr.add
  by_cases hi : i = 0 <;> by_cases hj : j = 0 <;> simp [hi, hj, Nat.add_assoc]
theorem tadd_block (a : Addr) (i : Nat) : (a.add i).block = a.block := by unfold Addr.add; split <;> rfl
def I64 (n : Int) : Prop := -9223372036854775808 ≤ n ∧ n ≤ 9223372036854775807
def TokIn (t : Tk.Token) : Prop := t.kind < 256 ∧ t.text.size ≤ maxLen ∧ I64 t.num ∧ I64 t.pos
/-- Tokens that lie in memory. -/
def ToksAt (W : World) (p : Option Addr) (xs : List Tk.Token) : Prop := ∀ i (h : i < xs.length), ∃ A, p = some A ∧ A.block < W.heap.size ∧ (∀ j, j < 4 → W.cell? (A.add (i * 4 + j)) = (tokCells xs[i])[j]?) ∧ TokIn xs[i]
theorem ToksAt.below {W W' : World} {p : Option Addr} {xs : List Tk.Token} (h : ToksAt W p xs) (hb : Below W.heap.size W W') : ToksAt W' p xs := fun i hi => by
  obtain ⟨A, h1, h2, h3, h4⟩ := h i hi
  exact ⟨A, h1, Nat.lt_of_lt_of_le h2 hb.size, fun j hj => (hb.cell (by rw [tadd_block]; exact h2)).trans (h3 j hj), h4⟩
theorem ToksAt.at {w W : World} {p : Option Addr} {xs : List Tk.Token} (h : ToksAt w p xs) (hb : Below w.heap.size w W) {i : Nat} (hi : i < xs.length) :
    ∃ A, p = some A ∧ W.cell? (A.add (i * 4)) = some (.int .u8 (xs[i].kind : Nat)) ∧ W.cell? ⟨(A.add (i * 4)).block, (A.add (i * 4)).off + 1, none⟩ = some (.string xs[i].text) ∧ W.cell? ⟨(A.add (i * 4)).block, (A.add (i * 4)).off + 2, none⟩ = some (.int .i64 xs[i].num) ∧
      W.cell? ⟨(A.add (i * 4)).block, (A.add (i * 4)).off + 3, none⟩ = some (.int .i64 xs[i].pos) ∧ TokIn xs[i] := by
  obtain ⟨A, rfl, h2, h3, h4⟩ := h i hi
  have cell : ∀ j, j < 4 → W.cell? ((A.add (i * 4)).add j) = (tokCells xs[i])[j]? := fun j hj => by
    rw [tadd]; exact (hb.cell (by rw [tadd_block]; exact h2)).trans (h3 j hj)
  exact ⟨A, rfl, cell 0 (by omega), cell 1 (by omega), cell 2 (by omega), cell 3 (by omega), h4⟩
theorem ToksAt.some {w : World} {p : Option Addr} {xs : List Tk.Token} (h : ToksAt w p xs) {i : Nat} (hi : i < xs.length) : ∃ A, p = some A := by
  obtain ⟨A, e, -⟩ := h i hi; exact ⟨A, e⟩
theorem ToksAt.nil (W : World) (p : Option Addr) : ToksAt W p [] := fun i hi => nomatch hi
theorem ToksAt.ok {w : World} {p : Option Addr} {xs : List Tk.Token} (h : ToksAt w p xs) : ∀ f ∈ xs, TokIn f := fun f hf => by
  obtain ⟨i, hi, rfl⟩ := List.getElem_of_mem hf
  obtain ⟨A, -, -, -, h4⟩ := h i hi; exact h4

theorem one_tok : Tryz.prog.cellsOf 190 = 4 ∧ Tryz.prog.cellsOf 9 = 1 ∧ Tryz.prog.cellsOf 3 = 1 := ⟨by kernel_rfl, by kernel_rfl, by kernel_rfl⟩

/-! ### rows that a call builds -/
def toksCells (l : List Tk.Token) : List Value := l.flatMap tokCells
theorem toksCells_length (l : List Tk.Token) : (toksCells l).length = l.length * 4 := by
  induction l with
  | nil => rfl
  | cons p r ih => simp only [toksCells, List.flatMap_cons, List.length_append, List.length_cons] at *; rw [ih]; simp [tokCells]; omega
theorem toksCells_append (l m : List Tk.Token) : toksCells (l ++ m) = toksCells l ++ toksCells m := by unfold toksCells; rw [List.flatMap_append]
theorem toksCells_one (l : List Tk.Token) : ∀ u ∈ toksCells l, u.oneCell' = true := by
  intro u hu
  unfold toksCells at hu
  rw [List.mem_flatMap] at hu
  obtain ⟨p, -, hu⟩ := hu
  simp [tokCells] at hu
  rcases hu with rfl | rfl | rfl | rfl <;> rfl
theorem toksCells_get {l : List Tk.Token} {k : Nat} (hk : k < l.length) {j : Nat} (hj : j < 4) : (toksCells l)[k * 4 + j]? = (tokCells l[k])[j]? := by
  induction l generalizing k with
  | nil => exact absurd hk (Nat.not_lt_zero _)
  | cons p r ih =>
    unfold toksCells
    rw [List.flatMap_cons]
    cases k with
    | zero => rw [List.getElem?_append_left (by simp [tokCells]; omega)]; simp
    | succ k =>
      rw [List.getElem?_append_right (by simp [tokCells]; omega)]
      have := ih (k := k) (by simpa using hk)
      rw [show (k + 1) * 4 + j - (tokCells p).length = k * 4 + j by simp [tokCells]; omega]
      exact this
theorem infoTok : (Tryz.prog.info? 190).map (fun i => (i.zero, i.size, i.bytes)) = some (some (.agg #[.int .u8 0, .string ⟨#[]⟩, .int .i64 0, .int .i64 0]), 4, 40) := by kernel_rfl
/-- v is a row of the tokens xs, in a block of its own, not below base. -/
def OwnTok (W : World) (base : Nat) (v : Value) (xs : List Tk.Token) : Prop := W.ownsRow base 190 4 v xs.length (toksCells xs)
section
variable {W C : World} {base : Nat} {v : Value} {xs : List Tk.Token}
theorem OwnTok.nil (W : World) (base : Nat) : OwnTok W base (.slice none 0 0) [] := World.ownsRow_nil _ _ _ _
theorem OwnTok.lt (h : OwnTok W base v xs) : ∀ k, v.ownBlock = some k → base ≤ k ∧ k < W.heap.size := World.ownsRow.lt h
theorem OwnTok.shape (h : OwnTok W base v xs) : ∃ p cap, v = .slice p xs.length cap ∧ xs.length ≤ cap ∧ cap ≤ maxLen := by
  rcases h.2 with ⟨rfl, e⟩ | ⟨g, cap, cur, rfl, h2, h3, h4, h5, -⟩
  · rw [e]; exact ⟨none, 0, rfl, Nat.le_refl _, Nat.zero_le _⟩
  · exact ⟨_, _, rfl, h4, h5⟩
theorem OwnTok.stays (h : OwnTok W base v xs) (hb : ∀ k, k < W.heap.size → v.ownBlock = some k → C.heap[k]? = W.heap[k]?) : OwnTok C base v xs := by
  refine ⟨h.1, ?_⟩
  rcases h.2 with hn | ⟨g, cap, cur, rfl, h1, h2, h3⟩
  · exact .inl hn
  · exact .inr ⟨g, cap, cur, rfl, h1, (hb g (Array.getElem?_eq_some_iff.1 h2).1 rfl).trans h2, h3⟩
theorem OwnTok.below (h : OwnTok W base v xs) (hb : Below W.heap.size W C) : OwnTok C base v xs := h.stays fun k hk _ => hb.block k hk
theorem OwnTok.mono {b' : Nat} (h : OwnTok W base v xs) (hb : b' ≤ base) : OwnTok W b' v xs := by
  refine ⟨h.1, ?_⟩
  rcases h.2 with hn | ⟨g, cap, cur, rfl, h1, h2⟩
  · exact .inl hn
  · exact .inr ⟨g, cap, cur, rfl, Nat.le_trans hb h1, h2⟩
theorem OwnTok.toks (h : OwnTok W base v xs) (hp : ∀ x ∈ xs, TokIn x) : ∃ p cap, v = .slice p xs.length cap ∧ xs.length ≤ cap ∧ cap ≤ maxLen ∧ ToksAt W p xs := by
  rcases h.2 with ⟨rfl, hn⟩ | ⟨g, cap, cur, rfl, h1, h2, h3, h4, h5, h6⟩
  · rw [hn]; exact ⟨none, 0, rfl, Nat.le_refl _, Nat.zero_le _, fun i hi => by omega⟩
  · refine ⟨Option.some ⟨g, 0, none⟩, cap, rfl, h3, h4, fun i hi => ⟨_, rfl, (Array.getElem?_eq_some_iff.1 h2).1, fun j hj => ?_, hp _ (List.getElem_mem hi)⟩⟩
    have hadd : (⟨g, 0, none⟩ : Addr).add (i * 4 + j) = ⟨g, i * 4 + j, none⟩ := by unfold Addr.add; split <;> simp_all
    rw [hadd, cell_of_row W g _ cur _ _ h2, ← toksCells_get hi hj, ← h6, List.getElem?_take, if_pos (by omega)]; simp
end
theorem news_four (w : World) (x0 x1 x2 x3 : Value) (t : TypeId) : ∀ j u, [x0, x1, x2, x3][j]? = some u → (w.alloc (.cells #[x0, x1, x2, x3] t)).cell? ((⟨w.heap.size, 0, none⟩ : Addr).add j) = some u := by
  intro j u hj
  match j, hj with
  | 0, hj => simp at hj; subst hj; simp [Addr.add]
  | 1, hj => simp at hj; subst hj; simp [Addr.add]
  | 2, hj => simp at hj; subst hj; simp [Addr.add]
  | 3, hj => simp at hj; subst hj; simp [Addr.add]
/-- Of what a row of its own was made of, only its own old block may have turned. -/
structure GrewT (v v' : Value) (W W' : World) : Prop where
  os : W'.os = W.os
  tape : W'.tape = W.tape
  output : W'.output = W.output
  size : W.heap.size ≤ W'.heap.size
  block : ∀ k, k < W.heap.size → v.ownBlock ≠ some k → W'.heap[k]? = W.heap[k]?
  own : ∀ k, v'.ownBlock = some k → v.ownBlock = some k ∨ W.heap.size ≤ k
theorem GrewT.below {base : Nat} {w W W' : World} {v v' : Value} (g : GrewT v v' W W') (hb : Below base w W) (hz : base ≤ W.heap.size) (ho : ∀ k, v.ownBlock = some k → base ≤ k) : Below base w W' :=
  ⟨g.os.trans hb.os, g.tape.trans hb.tape, g.output.trans hb.output, Nat.le_trans hb.size g.size, fun k hk => (g.block k (by omega) fun e => by have := ho k e; omega).trans (hb.block k hk)⟩
/-- Tokens that lie at A are appended; the world may have new blocks since the row was looked at. -/
theorem t_append {W0 W : World} {base : Nat} {v : Value} {l : List Tk.Token} (h : OwnTok W0 base v l) (hb0 : Below W0.heap.size W0 W) (A : Addr) (r : List Tk.Token) (m c : Nat) (hm : r.length = m) (hnews : ∀ q u, (toksCells r)[q]? = some u → W.cell? (A.add q) = some u) (hs : l.length + m ≤ 1000000) (hb : base ≤ W0.heap.size) (ty : TypeId) :
    ∃ (pv : Option Addr) (cv : Nat) (W' : World), (Builtin.append_ #[145, 145] ty #[v, .slice (some A) m c]).run Tryz.prog W = .ok (.slice pv (l.length + m) cv) W' ∧
      OwnTok W' base (.slice pv (l.length + m) cv) (l ++ r) ∧ GrewT v (.slice pv (l.length + m) cv) W0 W' := by
  subst hm
  have h0 := h.below hb0
  have hz := hb0.size
  obtain ⟨i0, hi0, hz0, hz1, hz2⟩ := info_parts infoTok
  obtain ⟨v', W', hrun, ho, hg, -, hown⟩ := run_append_own_at (P := Tryz.prog) W base 145 ty 190 i0 _ 4 40 Tryz.underlying145 hi0 hz0 hz1 hz2 rfl (by decide) v _ _ h0
    A r.length c (toksCells r) (toksCells_length r) hnews (toksCells_one r) (by unfold maxLen; omega) (by omega) (by omega)
  have ho2 : OwnTok W' base v' (l ++ r) := by unfold OwnTok; rw [toksCells_append, List.length_append]; exact ho
  obtain ⟨pv, cv, rfl, -, -⟩ := ho2.shape
  rw [List.length_append] at hrun ho2 hown
  refine ⟨pv, cv, W', hrun, ho2, hg.os.trans hb0.os, hg.tape.trans hb0.tape, hg.output.trans hb0.output, Nat.le_trans hz hg.size, fun k hk hn => ?_, fun k hk => ?_⟩
  · exact (hg.block k (by omega) fun e => hn e.symm).trans (hb0.block k hk)
  · rcases hown with e | e
    · exact .inl (e ▸ hk)
    · rw [e] at hk
      simp only [Option.some.injEq] at hk
      exact .inr (by omega)
end Go.Proofs.YtnkdhmoocomjfaaGreatDoor
namespace Tk
theorem number_le (l : List UInt8) : number l ≤ l.length := run_le _ _
theorem number_pos {l : List UInt8} : 0 < number l → l ≠ [] := fun h e => by rw [e] at h; simp [number, run] at h
/-- What a token takes. -/
theorem first_len {l : List UInt8} {k n v : Nat} (h : first l = .tok k n v) : 1 ≤ n ∧ n ≤ l.length := by
  unfold first at h
  split at h
  · split at h
    · cases h
    · cases h; exact ⟨by assumption, word_le l⟩
  · split at h
    · have hl : (l.take (number l)).length = number l := by rw [List.length_take, Nat.min_eq_left (number_le l)]
      unfold numbered at h
      rw [hl] at h
      split at h
      · cases h
      · split at h
        · cases h
        · cases h; exact ⟨by assumption, run_le _ _⟩
    · split at h
      · cases h; exact ⟨by assumption, sign_le l⟩
      · cases h
theorem skip_zero_cases (l : List UInt8) : skip (l.drop (skip l)) = 0 := skip_skip l
theorem allF_more : ∀ (f g a : Nat) (l : List UInt8), l.length < f → l.length < g → allF f a l = allF g a l
  | 0, _, _, _, h, _ => absurd h (Nat.not_lt_zero _)
  | _, 0, _, _, _, h => absurd h (Nat.not_lt_zero _)
  | f + 1, g + 1, a, l, hf, hg => by
    unfold allF
    by_cases he : l.drop (skip l) = []
    · rw [if_pos he, if_pos he]
    · rw [if_neg he, if_neg he]
      cases hx : first (l.drop (skip l)) with
      | no e => rfl
      | tok k n v =>
        have hn := first_len hx
        show Out.pre _ (allF f _ _) = Out.pre _ (allF g _ _)
        rw [allF_more f g]
        · rw [List.length_drop, List.length_drop] at *; omega
        · rw [List.length_drop, List.length_drop] at *; omega
theorem all_eq (a : Nat) (l : List UInt8) : all a l = (if l.drop (skip l) = [] then .ok [] else
    match first (l.drop (skip l)) with
    | .no e => .no (a + skip l) e
    | .tok k n v => Out.pre [⟨k, bs ((l.drop (skip l)).take n), v, (a + skip l : Nat)⟩] (all (a + skip l + n) ((l.drop (skip l)).drop n))) := by
  show allF (l.length + 1) a l = _
  conv => lhs; unfold allF
  by_cases he : l.drop (skip l) = []
  · rw [if_pos he, if_pos he]
  · rw [if_neg he, if_neg he]
    cases hx : first (l.drop (skip l)) with
    | no e => rfl
    | tok k n v =>
      have hn := first_len hx
      show Out.pre _ (allF l.length _ _) = Out.pre _ (allF _ _ _)
      rw [allF_more l.length]
      · rw [List.length_drop, List.length_drop] at *; omega
      · omega
theorem all_skip (a : Nat) (l : List UInt8) : all a l = all (a + skip l) (l.drop (skip l)) := by
  rw [all_eq a l, all_eq (a + skip l) (l.drop (skip l)), skip_skip, List.drop_zero, Nat.add_zero]
theorem all_nil (a : Nat) : all a [] = .ok [] := rfl
theorem all_no {a e : Nat} {l : List UInt8} (hs : skip l = 0) (hne : l ≠ []) (h : first l = .no e) : all a l = .no a e := by
  rw [all_eq, hs, List.drop_zero, if_neg hne, h]; rfl
theorem all_tok {a k n v : Nat} {l : List UInt8} (hs : skip l = 0) (hne : l ≠ []) (h : first l = .tok k n v) : all a l = Out.pre [⟨k, bs (l.take n), v, (a : Nat)⟩] (all (a + n) (l.drop n)) := by
  rw [all_eq, hs, List.drop_zero, if_neg hne, h, Nat.add_zero]
/-- The answer's parts. -/
def Out.toks : Out → List Token
  | .no .. => []
  | .ok ts => ts
def Out.at_ : Out → Nat
  | .no a _ => a
  | .ok _ => 0
def Out.err : Out → Nat
  | .no _ e => e
  | .ok _ => 0
theorem first_err {l : List UInt8} {e : Nat} (h : first l = .no e) : e = 3 ∨ e = 110 := by
  unfold first at h
  split at h
  · split at h
    · cases h; exact .inl rfl
    · cases h
  · split at h
    · unfold numbered at h
      split at h
      · cases h; exact .inl rfl
      · split at h
        · cases h; exact .inr rfl
        · cases h
    · split at h
      · cases h
      · cases h; exact .inr rfl
end Tk
namespace Tk
theorem bs_size (l : List UInt8) : (bs l).size = l.length := by show l.toArray.size = l.length; rw [List.size_toArray]
/-- What a token holds is small. -/
def Small (t : Token) : Prop := t.kind ≤ 3 ∧ t.text.size ≤ 65536 ∧ 0 ≤ t.num ∧ t.num ≤ 999999999 ∧ 0 ≤ t.pos ∧ t.pos ≤ 65536
theorem first_small {l : List UInt8} {k n v : Nat} (h : first l = .tok k n v) : k ≤ 3 ∧ v ≤ 999999999 := by
  unfold first at h
  split at h
  · split at h
    · cases h
    · cases h; exact ⟨by omega, by omega⟩
  · split at h
    · have hall := run_all digit l
      generalize hD : l.take (number l) = D at h
      have hd : ∀ c ∈ D, digit c = true := by rw [← hD]; exact hall
      unfold numbered at h
      split at h
      · cases h
      · split at h
        · cases h
        · cases h
          have := val_lt D.length D hd (Nat.le_refl _)
          rw [List.take_length] at this
          have h3 : 10 ^ D.length ≤ 10 ^ 9 := Nat.pow_le_pow_right (by omega) (by omega)
          exact ⟨by omega, by omega⟩
    · split at h
      · cases h; exact ⟨by omega, by omega⟩
      · cases h
theorem all_small : ∀ (m a : Nat) (l : List UInt8), l.length ≤ m → a + l.length ≤ 65536 → ∀ t ∈ (all a l).toks, Small t
  | m, a, l, hm, hl, t, ht => by
    rw [all_eq] at ht
    by_cases he : l.drop (skip l) = []
    · rw [if_pos he] at ht; simp [Out.toks] at ht
    · rw [if_neg he] at ht
      cases hf : first (l.drop (skip l)) with
      | no e => rw [hf] at ht; simp [Out.toks] at ht
      | tok k n v =>
        rw [hf] at ht
        have hn := first_len hf
        have hs := first_small hf
        have hsl := skip_le l
        rw [List.length_drop] at hn
        have hlen : ((l.drop (skip l)).drop n).length = l.length - skip l - n := by rw [List.length_drop, List.length_drop]
        simp only at ht
        cases m with
        | zero => omega
        | succ m =>
          have ih := all_small m (a + skip l + n) ((l.drop (skip l)).drop n) (by omega) (by omega) t
          generalize all (a + skip l + n) ((l.drop (skip l)).drop n) = o at *
          cases o with
          | no a' e' => simp [Out.toks, Out.pre] at ht
          | ok us =>
            rw [pre_ok] at ht
            simp only [Out.toks, List.cons_append, List.nil_append, List.mem_cons] at ht
            rcases ht with rfl | ht
            · refine ⟨hs.1, ?_, (by show (0 : Int) ≤ (v : Nat); omega), (by show ((v : Nat) : Int) ≤ 999999999; omega), (by show (0 : Int) ≤ ((a + skip l : Nat) : Int); omega), (by show ((a + skip l : Nat) : Int) ≤ 65536; omega)⟩
              show (bs ((l.drop (skip l)).take n)).size ≤ 65536
              rw [bs_size, List.length_take, List.length_drop]; omega
            · exact ih ht
/-- There are no more tokens than bytes. -/
theorem all_len : ∀ (m a : Nat) (l : List UInt8), l.length ≤ m → (all a l).toks.length ≤ l.length
  | m, a, l, hm => by
    rw [all_eq]
    by_cases he : l.drop (skip l) = []
    · rw [if_pos he]; exact Nat.zero_le _
    · rw [if_neg he]
      cases hf : first (l.drop (skip l)) with
      | no e => exact Nat.zero_le _
      | tok k n v =>
        have hn := first_len hf
        have hsl := skip_le l
        rw [List.length_drop] at hn
        have hlen : ((l.drop (skip l)).drop n).length = l.length - skip l - n := by rw [List.length_drop, List.length_drop]
        cases m with
        | zero => omega
        | succ m =>
          have ih := all_len m (a + skip l + n) ((l.drop (skip l)).drop n) (by omega)
          simp only
          generalize all (a + skip l + n) ((l.drop (skip l)).drop n) = o at *
          cases o with
          | no a' e' => exact Nat.zero_le _
          | ok us =>
            rw [pre_ok]
            simp only [Out.toks, List.cons_append, List.nil_append, List.length_cons] at ih ⊢
            omega
theorem out_bound {l : List UInt8} : (all 0 l).err ≤ 110 := by
  have : ∀ (m a : Nat) (l : List UInt8), l.length ≤ m → (all a l).err ≤ 110 := by
    intro m
    induction m with
    | zero =>
      intro a l hm
      have : l = [] := List.eq_nil_of_length_eq_zero (by omega)
      subst this; exact Nat.zero_le _
    | succ m ih =>
      intro a l hm
      rw [all_eq]
      by_cases he : l.drop (skip l) = []
      · rw [if_pos he]; exact Nat.zero_le _
      · rw [if_neg he]
        cases hf : first (l.drop (skip l)) with
        | no e => have := first_err hf; show e ≤ 110; omega
        | tok k n v =>
          have hn := first_len hf
          have hsl := skip_le l
          rw [List.length_drop] at hn
          have := ih (a + skip l + n) ((l.drop (skip l)).drop n) (by rw [List.length_drop, List.length_drop]; omega)
          simp only
          generalize all (a + skip l + n) ((l.drop (skip l)).drop n) = o at *
          cases o with
          | no a' e' => exact this
          | ok us => exact Nat.zero_le _
  exact this l.length 0 l (Nat.le_refl _)
/-- Would a token's text be read as another one, as several, or as none? -/
def wrong (t : Token) : Bool := match first t.text.data.toList with
  | .no _ => true
  | .tok k n v => !(decide (k = t.kind) && decide (bs (t.text.data.toList.take n) = t.text) && decide ((v : Int) = t.num))
theorem digit_wchar {c : UInt8} (h : wchar c = false) : digit c = false := by
  unfold wchar at h
  simp only [Bool.or_eq_false_iff] at h
  exact h.1.2
theorem word_append {l m : List UInt8} {d : UInt8} (hd : wchar d = false) (hl : l ≠ []) : word (l ++ d :: m) = word l := by
  cases l with
  | nil => exact absurd rfl hl
  | cons c r =>
    rw [List.cons_append, word_c, word_c, run_append wchar d hd]
theorem number_append {l m : List UInt8} {d : UInt8} (hd : digit d = false) : number (l ++ d :: m) = number l := run_append digit d hd m l
theorem two_append {l m : List UInt8} {d : UInt8} {a b : Nat} (hd : d.toNat ≠ b) (hl : l ≠ []) : two a b (l ++ d :: m) = two a b l := by
  match l, hl with
  | [c], _ =>
    show (decide (c.toNat = a) && decide (d.toNat = b)) = false
    rw [decide_eq_false hd, Bool.and_false]
  | c :: e :: r, _ => rfl
theorem sign_append {l m : List UInt8} {d : UInt8} (hd : d.toNat ≠ 62) (hl : l ≠ []) : sign (l ++ d :: m) = sign l := by
  have h := two_append (m := m) (a := 45) hd hl
  cases l with
  | nil => exact absurd rfl hl
  | cons c r =>
    show (if two 45 62 (c :: r ++ d :: m) then 2 else if signC c then 1 else 0) = (if two 45 62 (c :: r) then 2 else if signC c then 1 else 0)
    rw [h]
/-- What stands behind a byte that goes on with no token makes no difference. -/
theorem first_append {l m : List UInt8} {d : UInt8} (hd : wchar d = false) (h62 : d.toNat ≠ 62) (hl : l ≠ []) : first (l ++ d :: m) = first l := by
  unfold first
  rw [word_append hd hl, number_append (digit_wchar hd), sign_append h62 hl, List.take_append_of_le_length (number_le l)]
theorem word_take {l : List UInt8} {k : Nat} (h : word l ≤ k) (hk : 1 ≤ k) : word (l.take k) = word l := by
  cases l with
  | nil => simp [word]
  | cons c r =>
    obtain ⟨j, rfl⟩ : ∃ j, k = j + 1 := ⟨k - 1, by omega⟩
    rw [List.take_succ_cons, word_c, word_c]
    rw [word_c] at h
    split
    · rename_i hc
      rw [if_pos hc] at h
      rw [run_take wchar r j (by omega)]
    · rfl
theorem number_take {l : List UInt8} {k : Nat} (h : number l ≤ k) : number (l.take k) = number l := run_take digit l k h
theorem sign_take {l : List UInt8} (h : 0 < sign l) : sign (l.take (sign l)) = sign l := by
  match l with
  | [] => simp [sign, two] at h
  | [c] =>
    have e : sign [c] = if signC c then 1 else 0 := rfl
    by_cases hc : signC c = true
    · rw [e, if_pos hc]; show sign [c] = 1; rw [e, if_pos hc]
    · rw [e, if_neg hc] at h; omega
  | c :: d :: r =>
    have e : sign (c :: d :: r) = if two 45 62 (c :: d :: r) then 2 else if signC c then 1 else 0 := rfl
    by_cases ht : two 45 62 (c :: d :: r) = true
    · rw [e, if_pos ht]
      show (if two 45 62 [c, d] then 2 else if signC c then 1 else 0) = 2
      rw [show two 45 62 [c, d] = two 45 62 (c :: d :: r) from rfl, if_pos ht]
    · by_cases hc : signC c = true
      · rw [e, if_neg ht, if_pos hc]
        show (if two 45 62 [c] then 2 else if signC c then 1 else 0) = 1
        rw [show two 45 62 [c] = false from rfl, if_neg (by simp), if_pos hc]
      · rw [e, if_neg ht, if_neg hc] at h; omega
theorem val_take_all (l : List UInt8) : val (l.take l.length) = val l := by rw [List.take_length]
/-- A number is no word, and so on: which of the three a text begins with, its first byte says. -/
theorem word_digit {l : List UInt8} (h : 0 < number l) : word l = 0 := by
  cases l with
  | nil => rfl
  | cons c r =>
    have hd : digit c = true := by
      by_cases hd : digit c = true
      · exact hd
      · unfold number at h; rw [run_t, if_neg hd] at h; omega
    rw [word_c, if_neg]
    unfold digit at hd
    unfold letter
    simp only [Bool.and_eq_true, decide_eq_true_eq] at hd
    simp only [Bool.or_eq_true, Bool.and_eq_true, decide_eq_true_eq]
    omega
/-- A token's own text begins with that token. -/
theorem first_take {l : List UInt8} {k n v : Nat} (h : first l = .tok k n v) : first (l.take n) = .tok k n v := by
  have hn := first_len h
  unfold first at h ⊢
  by_cases h1 : 0 < word l
  · rw [if_pos h1] at h
    by_cases h2 : 32 < word l
    · rw [if_pos h2] at h; cases h
    · rw [if_neg h2] at h
      cases h
      rw [word_take (Nat.le_refl _) h1, if_pos h1, if_neg h2]
  · rw [if_neg h1] at h
    by_cases h2 : 0 < number l
    · rw [if_pos h2] at h
      have hlen : (l.take (number l)).length = number l := by rw [List.length_take, Nat.min_eq_left (number_le l)]
      have hn2 : n = number l := by
        unfold numbered at h
        split at h
        · cases h
        · split at h
          · cases h
          · cases h; exact hlen
      rw [hn2]
      rw [number_take (Nat.le_refl _), word_take (by omega) h2, if_neg h1, if_pos h2, List.take_take, Nat.min_self, h, hn2]
    · rw [if_neg h2] at h
      by_cases h3 : 0 < sign l
      · rw [if_pos h3] at h
        cases h
        rw [sign_take h3, if_pos h3, word_take (by omega) h3, if_neg h1, number_take (by omega), if_neg h2]
      · rw [if_neg h3] at h; cases h
theorem skip_pos {l : List UInt8} (h : skip l ≠ 0) : ∃ c r, l = c :: r ∧ (blank c = true ∨ c.toNat = 47) := by
  cases l with
  | nil => exact absurd rfl h
  | cons c r =>
    refine ⟨c, r, rfl, ?_⟩
    by_cases hb : blank c = true
    · exact .inl hb
    · refine .inr ?_
      by_cases ht : two 47 47 (c :: r) = true
      · cases r with
        | nil => simp [two] at ht
        | cons d r => simp only [two, Bool.and_eq_true, decide_eq_true_eq] at ht; exact ht.1
      · exact absurd (skip_none (fun c' r' e => by cases e; simpa using hb) (by simpa using ht)) h
/-- Where a token begins there is nothing to be passed over. -/
theorem first_skip {l : List UInt8} {k n v : Nat} (h : first l = .tok k n v) : skip l = 0 := by
  by_cases hs : skip l = 0
  · exact hs
  · obtain ⟨c, r, rfl, hc⟩ := skip_pos hs
    exfalso
    have hc2 : c.toNat = 32 ∨ c.toNat = 9 ∨ c.toNat = 10 ∨ c.toNat = 13 ∨ c.toNat = 47 := by
      rcases hc with hc | hc
      · unfold blank at hc; simp only [Bool.or_eq_true, decide_eq_true_eq] at hc; omega
      · omega
    have hw : word (c :: r) = 0 := by
      rw [word_c, if_neg]
      unfold letter
      simp only [Bool.or_eq_true, Bool.and_eq_true, decide_eq_true_eq]; omega
    have hd : number (c :: r) = 0 := by
      unfold number
      rw [run_t, if_neg]
      unfold digit
      simp only [Bool.and_eq_true, decide_eq_true_eq]; omega
    have ht : two 45 62 (c :: r) = false := by
      cases r with
      | nil => rfl
      | cons d r => show (decide (c.toNat = 45) && decide (d.toNat = 62)) = false; rw [decide_eq_false (by omega), Bool.false_and]
    have hg : sign (c :: r) = 0 := by
      show (if two 45 62 (c :: r) then 2 else if signC c then 1 else 0) = 0
      rw [ht, if_neg (by simp), if_neg]
      unfold signC
      simp only [Bool.or_eq_true, decide_eq_true_eq]; omega
    unfold first at h
    rw [hw, hd, hg] at h
    simp at h
theorem all_blank {a : Nat} {c : UInt8} {s : List UInt8} (h : blank c = true) : all a (c :: s) = all (a + 1) s := by
  rw [all_skip a (c :: s), skip_blank h, List.drop_succ_cons, all_skip (a + 1) s]
  congr 1; omega
theorem bs_inj {l m : List UInt8} (h : bs l = bs m) : l = m := by
  have := congrArg (fun b => b.data.toList) h
  simpa [bs] using this
theorem bs_data (l : List UInt8) : (bs l).data.toList = l := by simp [bs]
theorem data_bs (s : ByteArray) : bs s.data.toList = s := rfl
/-- What a right token's text begins with. -/
theorem not_wrong {t : Token} (h : wrong t = false) : first t.text.data.toList = .tok t.kind t.text.data.toList.length t.num.toNat ∧ 0 ≤ t.num := by
  unfold wrong at h
  cases hf : first t.text.data.toList with
  | no e => rw [hf] at h; cases h
  | tok k n v =>
    rw [hf] at h
    simp only [Bool.not_eq_false', Bool.and_eq_true, decide_eq_true_eq] at h
    obtain ⟨⟨h1, h2⟩, h3⟩ := h
    have h4 := first_len hf
    have h5 : t.text.data.toList.take n = t.text.data.toList := bs_inj h2
    have h6 := congrArg List.length h5
    rw [List.length_take] at h6
    have h7 : n = t.text.data.toList.length := by omega
    rw [← h3, Int.toNat_natCast, ← h7, h1]
    exact ⟨rfl, by omega⟩
theorem wrong_of {k n v : Nat} {l : List UInt8} {p : Int} (h : first l = .tok k n v) : wrong ⟨k, bs (l.take n), v, p⟩ = false := by
  unfold wrong
  show (match first (bs (l.take n)).data.toList with
    | .no _ => true
    | .tok k' n' v' => !(decide (k' = k) && decide (bs ((bs (l.take n)).data.toList.take n') = bs (l.take n)) && decide ((v' : Int) = (v : Nat)))) = false
  rw [bs_data, first_take h]
  simp [List.take_take]
theorem all_right : ∀ (m a : Nat) (l : List UInt8), l.length ≤ m → ∀ t ∈ (all a l).toks, wrong t = false
  | m, a, l, hm, t, ht => by
    rw [all_eq] at ht
    by_cases he : l.drop (skip l) = []
    · rw [if_pos he] at ht; simp [Out.toks] at ht
    · rw [if_neg he] at ht
      cases hf : first (l.drop (skip l)) with
      | no e => rw [hf] at ht; simp [Out.toks] at ht
      | tok k n v =>
        rw [hf] at ht
        have hn := first_len hf
        have hsl := skip_le l
        rw [List.length_drop] at hn
        simp only at ht
        cases m with
        | zero => omega
        | succ m =>
          have ih := all_right m (a + skip l + n) ((l.drop (skip l)).drop n) (by rw [List.length_drop, List.length_drop]; omega) t
          generalize all (a + skip l + n) ((l.drop (skip l)).drop n) = o at *
          cases o with
          | no a' e' => simp [Out.toks, Out.pre] at ht
          | ok us =>
            rw [pre_ok] at ht
            simp only [Out.toks, List.cons_append, List.nil_append, List.mem_cons] at ht
            rcases ht with rfl | ht
            · exact wrong_of hf
            · exact ih ht
def sizes (ts : List Token) : Nat := (ts.map fun t => t.text.size).sum
theorem all_sizes : ∀ (m a : Nat) (l : List UInt8), l.length ≤ m → sizes (all a l).toks ≤ l.length
  | m, a, l, hm => by
    rw [all_eq]
    by_cases he : l.drop (skip l) = []
    · rw [if_pos he]; exact Nat.zero_le _
    · rw [if_neg he]
      cases hf : first (l.drop (skip l)) with
      | no e => exact Nat.zero_le _
      | tok k n v =>
        have hn := first_len hf
        have hsl := skip_le l
        rw [List.length_drop] at hn
        have hlen : ((l.drop (skip l)).drop n).length = l.length - skip l - n := by rw [List.length_drop, List.length_drop]
        cases m with
        | zero => omega
        | succ m =>
          have ih := all_sizes m (a + skip l + n) ((l.drop (skip l)).drop n) (by omega)
          simp only
          generalize all (a + skip l + n) ((l.drop (skip l)).drop n) = o at *
          cases o with
          | no a' e' => exact Nat.zero_le _
          | ok us =>
            rw [pre_ok]
            have hts : (bs ((l.drop (skip l)).take n)).size = n := by rw [bs_size, List.length_take, List.length_drop]; omega
            simp only [Out.toks, List.cons_append, List.nil_append] at ih ⊢
            unfold sizes at ih ⊢
            rw [List.map_cons, List.sum_cons, hts]
            omega
def erase (t : Token) : Token := ⟨t.kind, t.text, t.num, 0⟩
/-- Tokens in order within a text, from a place. -/
def Chain (full : List UInt8) : Nat → List Token → Prop
  | _, [] => True
  | e, t :: r => ∃ p : Nat, t.pos = p ∧ e ≤ p ∧ 0 < t.text.size ∧ p + t.text.size ≤ full.length ∧ bs ((full.drop p).take t.text.size) = t.text ∧ Chain full (p + t.text.size) r
theorem all_chain (full : List UInt8) : ∀ (m a e : Nat), full.length - a ≤ m → a ≤ full.length → e ≤ a → Chain full e (all a (full.drop a)).toks
  | m, a, e, hm, ha, he => by
    rw [all_eq]
    by_cases hd : (full.drop a).drop (skip (full.drop a)) = []
    · rw [if_pos hd]; trivial
    · rw [if_neg hd]
      cases hf : first ((full.drop a).drop (skip (full.drop a))) with
      | no e => trivial
      | tok k n v =>
        have hn := first_len hf
        have hsl := skip_le (full.drop a)
        rw [List.length_drop] at hsl
        rw [List.length_drop, List.length_drop] at hn
        cases m with
        | zero => omega
        | succ m =>
          have ih := all_chain full m (a + skip (full.drop a) + n) (a + skip (full.drop a) + n) (by omega) (by omega) (Nat.le_refl _)
          have hts : (bs ((full.drop (a + skip (full.drop a))).take n)).size = n := by rw [bs_size, List.length_take, List.length_drop]; omega
          rw [List.drop_drop]
          simp only
          rw [List.drop_drop]
          generalize all (a + skip (full.drop a) + n) (full.drop (a + skip (full.drop a) + n)) = o at *
          cases o with
          | no a' e' => trivial
          | ok us =>
            rw [pre_ok]
            simp only [Out.toks, List.cons_append, List.nil_append] at ih ⊢
            refine ⟨a + skip (full.drop a), rfl, by omega, by rw [hts]; omega, by rw [hts]; omega, by rw [hts], ?_⟩
            rw [hts]; exact ih
theorem skipM_append {r : List UInt8} : ∀ (m : Bool) (l : List UInt8), (skipM m l < l.length → skipM m (l ++ 10 :: r) = skipM m l) ∧ (skipM m l = l.length → skipM m (l ++ 10 :: r) = l.length + 1 + skip r)
  | true, [] => ⟨fun h => absurd h (Nat.not_lt_zero _), fun _ => by
      show skipM true (10 :: r) = _
      rw [skipM_t, if_pos (by decide)]; show skip r + 1 = _; simp; omega⟩
  | false, [] => ⟨fun h => absurd h (Nat.not_lt_zero _), fun _ => by
      show skipM false (10 :: r) = _
      rw [skipM_f, if_pos (by decide)]; show skip r + 1 = _; simp; omega⟩
  | true, c :: t => by
    rw [List.cons_append, skipM_t, skipM_t]
    by_cases hc : c.toNat = 10
    · rw [if_pos hc, if_pos hc]
      have ih := skipM_append (r := r) false t
      exact ⟨fun h => by rw [ih.1 (by simpa using h)], fun h => by rw [ih.2 (by simpa using h)]; simp; omega⟩
    · rw [if_neg hc, if_neg hc]
      have ih := skipM_append (r := r) true t
      exact ⟨fun h => by rw [ih.1 (by simpa using h)], fun h => by rw [ih.2 (by simpa using h)]; simp; omega⟩
  | false, c :: t => by
    have ht : two 47 47 (c :: t ++ 10 :: r) = two 47 47 (c :: t) := two_append (by decide) (by simp)
    rw [List.cons_append] at ht
    rw [List.cons_append, skipM_f, skipM_f, ht]
    by_cases hb : blank c = true
    · rw [if_pos hb, if_pos hb]
      have ih := skipM_append (r := r) false t
      exact ⟨fun h => by rw [ih.1 (by simpa using h)], fun h => by rw [ih.2 (by simpa using h)]; simp; omega⟩
    · rw [if_neg hb, if_neg hb]
      by_cases h2 : two 47 47 (c :: t) = true
      · rw [if_pos h2, if_pos h2]
        have ih := skipM_append (r := r) true t
        exact ⟨fun h => by rw [ih.1 (by simpa using h)], fun h => by rw [ih.2 (by simpa using h)]; simp; omega⟩
      · rw [if_neg h2, if_neg h2]
        exact ⟨fun _ => rfl, fun h => by simp at h⟩
/-- What a text of which another one stands behind, on a new line, is read as. -/
def joined (p : Nat) (o : Out) (n : Nat) (r : List UInt8) : Out := match o with
  | .no a e => .no a e
  | .ok ts => Out.pre ts (all (p + n + 1) r)
theorem joined_pre (ts : List Token) (p n : Nat) (r : List UInt8) (o : Out) : joined p (Out.pre ts o) n r = Out.pre ts (joined p o n r) := by
  cases o with
  | no a e => rfl
  | ok us => show Out.pre (ts ++ us) _ = Out.pre ts (Out.pre us _); rw [pre_pre]
theorem joined_at {p q n m : Nat} (h : p + n = q + m) (o : Out) (r : List UInt8) : joined p o n r = joined q o m r := by
  unfold joined; rw [h]
theorem all_join (r : List UInt8) : ∀ (m p : Nat) (l : List UInt8), l.length ≤ m → all p (l ++ 10 :: r) = joined p (all p l) l.length r
  | m, p, l, hm => by
    obtain ⟨s1, s2⟩ := skipM_append (r := r) false l
    have hle := skip_le l
    by_cases hend : skip l = l.length
    · have he : all p l = .ok [] := by rw [all_eq, if_pos (by rw [hend, List.drop_length])]
      rw [he]
      show _ = Out.pre [] (all (p + l.length + 1) r)
      have hsk : skip (l ++ 10 :: r) = l.length + 1 + skip r := s2 hend
      have hdr : (l ++ 10 :: r).drop (l.length + 1 + skip r) = r.drop (skip r) := by
        rw [show l.length + 1 + skip r = l.length + (1 + skip r) by omega, ← List.drop_drop, List.drop_left, show 1 + skip r = skip r + 1 by omega, List.drop_succ_cons]
      rw [pre_nil, all_skip p, hsk, hdr, all_skip (p + l.length + 1) r]
      congr 1; omega
    · have hlt : skip l < l.length := by omega
      have hsk : skip (l ++ 10 :: r) = skip l := s1 hlt
      have hne : l.drop (skip l) ≠ [] := fun e => by have := congrArg List.length e; rw [List.length_drop] at this; simp at this; omega
      have hdr : (l ++ 10 :: r).drop (skip l) = l.drop (skip l) ++ 10 :: r := List.drop_append_of_le_length hle
      have hff : first (l.drop (skip l) ++ 10 :: r) = first (l.drop (skip l)) := first_append (by decide) (by decide) hne
      rw [all_eq p (l ++ 10 :: r), all_eq p l, hsk, hdr, if_neg (by simp), if_neg hne, hff]
      cases hf : first (l.drop (skip l)) with
      | no e => rfl
      | tok k n v =>
        have hn := first_len hf
        have hn2 := hn
        rw [List.length_drop] at hn2
        simp only
        rw [List.take_append_of_le_length hn.2, List.drop_append_of_le_length hn.2]
        cases m with
        | zero => omega
        | succ m =>
          rw [all_join r m (p + skip l + n) ((l.drop (skip l)).drop n) (by rw [List.length_drop, List.length_drop]; omega), joined_pre]
          congr 1
          exact joined_at (by rw [List.length_drop, List.length_drop]; omega) _ _
def shiftT (q : Nat) (t : Token) : Token := { t with pos := t.pos + (q : Nat) }
def Out.shift (q : Nat) : Out → Out
  | .no a e => .no (a + q) e
  | .ok ts => .ok (ts.map (shiftT q))
theorem shift_pre (q : Nat) (ts : List Token) (o : Out) : Out.shift q (Out.pre ts o) = Out.pre (ts.map (shiftT q)) (Out.shift q o) := by
  cases o with
  | no a e => rfl
  | ok us => show Out.ok _ = Out.ok _; rw [List.map_append]
theorem all_shift (q : Nat) : ∀ (m p : Nat) (l : List UInt8), l.length ≤ m → all (p + q) l = Out.shift q (all p l)
  | m, p, l, hm => by
    rw [all_eq (p + q) l, all_eq p l]
    by_cases he : l.drop (skip l) = []
    · rw [if_pos he, if_pos he]; rfl
    · rw [if_neg he, if_neg he]
      cases hf : first (l.drop (skip l)) with
      | no e => show Out.no _ _ = Out.no _ _; congr 1; omega
      | tok k n v =>
        have hn := first_len hf
        rw [List.length_drop] at hn
        simp only
        cases m with
        | zero => omega
        | succ m =>
          rw [shift_pre, ← all_shift q m (p + skip l + n) _ (by rw [List.length_drop, List.length_drop]; omega), show p + q + skip l + n = p + skip l + n + q by omega]
          congr 1
          show [_] = [_]
          unfold shiftT
          simp only [List.cons.injEq, Token.mk.injEq, and_true, true_and]
          omega
/-- A text put behind another one, on a new line. -/
theorem all_two (l r : List UInt8) : all 0 (l ++ 10 :: r) = match all 0 l with
    | .no a e => .no a e
    | .ok ts => Out.pre ts (Out.shift (l.length + 1) (all 0 r)) := by
  rw [all_join r l.length 0 l (Nat.le_refl _)]
  cases all 0 l with
  | no a e => rfl
  | ok ts =>
    show Out.pre ts (all (0 + l.length + 1) r) = Out.pre ts (Out.shift (l.length + 1) (all 0 r))
    rw [show 0 + l.length + 1 = 0 + (l.length + 1) by omega, all_shift (l.length + 1) r.length 0 r (Nat.le_refl _)]
theorem all_at {a er : Nat} {l : List UInt8} (h : Tk.all 0 l = .no a er) : a ≤ l.length := by
  have key : ∀ (m b : Nat) (l : List UInt8), l.length ≤ m → ∀ a er, Tk.all b l = .no a er → a ≤ b + l.length := by
    intro m
    induction m with
    | zero =>
      intro b l hm a er h
      have : l = [] := List.eq_nil_of_length_eq_zero (by omega)
      subst this; cases h
    | succ m ih =>
      intro b l hm a er h
      have hsl := Tk.skip_le l
      rw [Tk.all_eq] at h
      by_cases he : l.drop (Tk.skip l) = []
      · rw [if_pos he] at h; cases h
      · rw [if_neg he] at h
        cases hf : Tk.first (l.drop (Tk.skip l)) with
        | no e => rw [hf] at h; cases h; omega
        | tok k n v =>
          rw [hf] at h
          have hn := Tk.first_len hf
          rw [List.length_drop] at hn
          have := ih (b + Tk.skip l + n) ((l.drop (Tk.skip l)).drop n) (by rw [List.length_drop, List.length_drop]; omega)
          simp only at h
          rw [List.length_drop, List.length_drop] at this
          generalize Tk.all (b + Tk.skip l + n) ((l.drop (Tk.skip l)).drop n) = o at *
          cases o with
          | no a' e' => rw [Tk.pre_no] at h; cases h; have := this _ _ rfl; omega
          | ok us => cases h
  have := key l.length 0 l (Nat.le_refl _) a er h
  omega
theorem all_err {a er : Nat} {l : List UInt8} (h : Tk.all 0 l = .no a er) : er ≠ 0 := by
  have key : ∀ (m b : Nat) (l : List UInt8), l.length ≤ m → ∀ a er, Tk.all b l = .no a er → er ≠ 0 := by
    intro m
    induction m with
    | zero =>
      intro b l hm a er h
      have : l = [] := List.eq_nil_of_length_eq_zero (by omega)
      subst this; cases h
    | succ m ih =>
      intro b l hm a er h
      rw [Tk.all_eq] at h
      by_cases he : l.drop (Tk.skip l) = []
      · rw [if_pos he] at h; cases h
      · rw [if_neg he] at h
        cases hf : Tk.first (l.drop (Tk.skip l)) with
        | no e => rw [hf] at h; cases h; have := Tk.first_err hf; omega
        | tok k n v =>
          rw [hf] at h
          have hn := Tk.first_len hf
          have hsl := Tk.skip_le l
          rw [List.length_drop] at hn
          have := ih (b + Tk.skip l + n) ((l.drop (Tk.skip l)).drop n) (by rw [List.length_drop, List.length_drop]; omega)
          simp only at h
          generalize Tk.all (b + Tk.skip l + n) ((l.drop (Tk.skip l)).drop n) = o at *
          cases o with
          | no a' e' => rw [Tk.pre_no] at h; cases h; exact this _ _ rfl
          | ok us => cases h
  exact key l.length 0 l (Nat.le_refl _) a er h
end Tk
namespace Go.Proofs.YtnkdhmoocomjfaaGreatDoor
open Go.RowKit
theorem small_in {t : Tk.Token} (h : Tk.Small t) : TokIn t := by
  obtain ⟨h1, h2, h3, h4, h5, h6⟩ := h
  exact ⟨by omega, by unfold maxLen; omega, ⟨by omega, by omega⟩, ⟨by omega, by omega⟩⟩
theorem all_in (s : ByteArray) (hm : s.size ≤ 65536) : ∀ t ∈ (Tk.all 0 s.data.toList).toks, TokIn t := fun t ht =>
  small_in (Tk.all_small _ 0 _ (Nat.le_refl _) (by rw [list_len]; omega) t ht)
theorem all_count (s : ByteArray) (hm : s.size ≤ 65536) : (Tk.all 0 s.data.toList).toks.length ≤ 65536 := by
  have := Tk.all_len _ 0 s.data.toList (Nat.le_refl _)
  rw [list_len] at this; omega

end Go.Proofs.YtnkdhmoocomjfaaGreatDoor
namespace Tk
def kwds : List (List UInt8) := [[109, 111, 100, 117, 108, 101], [114, 101, 99, 111, 114, 100], [99, 104, 111, 105, 99, 101], [115, 101, 114, 118, 105, 99, 101], [115, 97, 103, 97], [100, 111], [97, 116], [117, 110, 100, 111], [103, 105, 118, 101], [116, 97, 107, 101], [110, 111, 116, 101], [110, 111, 110, 101], [98, 111, 111, 108], [105, 110, 116], [116, 101, 120, 116], [108, 105, 115, 116], [111, 112, 116]]
def keyword (s : ByteArray) : Bool := kwds.any fun k => k == s.data.toList
def name (s : ByteArray) : Bool := decide (0 < word s.data.toList) && decide (word s.data.toList = s.size) && decide (word s.data.toList ≤ 32) && !keyword s
end Tk
namespace Go.Proofs.YtnkdhmoocomjfaaGreatDoor
open Go.RowKit
theorem bytes_iff' {a b : ByteArray} : a = b ↔ a.toList = b.toList := by
  refine ⟨fun h => by rw [h], fun h => ?_⟩
  rw [Go.Lib.toList_data, Go.Lib.toList_data] at h
  obtain ⟨⟨a⟩⟩ := a
  obtain ⟨⟨b⟩⟩ := b
  simpa using h
def kwArr : Array Value := [.string ⟨#[109, 111, 100, 117, 108, 101]⟩, .string ⟨#[114, 101, 99, 111, 114, 100]⟩, .string ⟨#[99, 104, 111, 105, 99, 101]⟩, .string ⟨#[115, 101, 114, 118, 105, 99, 101]⟩, .string ⟨#[115, 97, 103, 97]⟩, .string ⟨#[100, 111]⟩, .string ⟨#[97, 116]⟩, .string ⟨#[117, 110, 100, 111]⟩, .string ⟨#[103, 105, 118, 101]⟩, .string ⟨#[116, 97, 107, 101]⟩, .string ⟨#[110, 111, 116, 101]⟩, .string ⟨#[110, 111, 110, 101]⟩, .string ⟨#[98, 111, 111, 108]⟩, .string ⟨#[105, 110, 116]⟩, .string ⟨#[116, 101, 120, 116]⟩, .string ⟨#[108, 105, 115, 116]⟩, .string ⟨#[111, 112, 116]⟩].toArray
/-- The variable holds the keywords. -/
def KwIs (w : World) : Prop := ∃ t fr, w.heap[0]? = some (.cells kwArr t fr)
theorem kw_at (k : Nat) (hk : k < 17) (w : World) : (Instr.index 238 (.agg kwArr) (.int .i64 (k : Nat))).run Tryz.prog w = .ok (.string (Tk.bs (Tk.kwds[k]'(by show k < 17; exact hk)))) w := by
  revert w
  obtain rfl | rfl | rfl | rfl | rfl | rfl | rfl | rfl | rfl | rfl | rfl | rfl | rfl | rfl | rfl | rfl | rfl : k = 0 ∨ k = 1 ∨ k = 2 ∨ k = 3 ∨ k = 4 ∨ k = 5 ∨ k = 6 ∨ k = 7 ∨ k = 8 ∨ k = 9 ∨ k = 10 ∨ k = 11 ∨ k = 12 ∨ k = 13 ∨ k = 14 ∨ k = 15 ∨ k = 16 := by omega
  all_goals (intro w; kernel_rfl)
theorem kw_any (s : ByteArray) (k : Nat) (hk : k < 17) (h : s = Tk.bs (Tk.kwds[k]'(by show k < 17; exact hk))) : Tk.keyword s = true := by
  unfold Tk.keyword
  rw [List.any_eq_true]
  exact ⟨_, List.getElem_mem (by show k < 17; exact hk), by rw [h]; simp [Tk.bs]⟩
theorem kw_none (s : ByteArray) (h : ∀ k, (hk : k < 17) → s ≠ Tk.bs (Tk.kwds[k]'(by show k < 17; exact hk))) : Tk.keyword s = false := by
  unfold Tk.keyword
  rw [List.any_eq_false]
  intro x hx
  obtain ⟨i, hi, rfl⟩ := List.getElem_of_mem hx
  intro e
  refine h i hi ?_
  have e2 := eq_of_beq e
  rw [e2]; rfl
set_option maxRecDepth 100000 in
set_option maxHeartbeats 4000000 in
theorem Keyword_any (s : ByteArray) (w : World) (hw : KwIs w) : Calls Tryz.prog 163 #[.string s] w fun e w' => e = .returned (.bool (Tk.keyword s)) ∧ w' = w := by
  obtain ⟨t, fr, hg⟩ := hw
  have HI := Lib.hid kw_at
  have HA := Lib.hid (kw_any s)
  have HN := Lib.hid (kw_none s)
  go_enter Tryz.func163, Tryz.ntmps163
  go_wp2_with (refine wpList_load_row rfl 238 _ rfl 0 rfl t _ fr _ hg Tryz.underlying238 rfl (by kernel_rfl) ?_)
  clear hg
  go_loopw [4, 6] (fun _ kv wr => ∃ k : Nat, k ≤ 17 ∧ kv = .int .i64 (k : Nat) ∧ Hid (∀ j, j < k → (hj : j < 17) → s ≠ Tk.bs (Tk.kwds[j]'(by show j < 17; exact hj))) ∧ wr = w) (fun _ kv _ => 17 - (intOf kv).toNat)
  case atStart => exact ⟨0, Nat.zero_le _, rfl, Lib.hid (fun j hj => absurd hj (Nat.not_lt_zero _)), rfl⟩
  case round =>
    obtain ⟨k, hk, rfl, H, rfl⟩ := hrel
    by_cases hlt : k < 17
    · have i1 : (k : Int) < 17 := by omega
      have i2 : (0 : Int) ≤ (k : Int) := by omega
      have hi := HI.out k hlt
      by_cases he : s = Tk.bs (Tk.kwds[k]'(by show k < 17; exact hlt))
      · have HY := Lib.hid (HA.out k hlt he)
        have q : (s.toList == (Tk.bs (Tk.kwds[k]'(by show k < 17; exact hlt))).toList) = true := by rw [← he]; exact beq_self_eq_true _
        clear he
        generalize Tk.bs (Tk.kwds[k]'(by show k < 17; exact hlt)) = x at *
        go_wp2_with fail
        go_ret
        exact ⟨by rw [HY.out]; rfl, rfl⟩
      · have q : (s.toList == (Tk.bs (Tk.kwds[k]'(by show k < 17; exact hlt))).toList) = false := by rw [beq_eq_false_iff_ne]; exact fun h => he (bytes_iff'.2 h)
        have HK : Hid (∀ j, j < k + 1 → (hj : j < 17) → s ≠ Tk.bs (Tk.kwds[j]'(by show j < 17; exact hj))) := Lib.hid fun j hj hj2 => by
          rcases Nat.lt_or_ge j k with h1 | h1
          · exact H.out j h1 hj2
          · have : j = k := by omega
            subst this; exact he
        clear he
        generalize Tk.bs (Tk.kwds[k]'(by show k < 17; exact hlt)) = x at *
        go_wp2_with fail
        go_roundw
        case rel => exact ⟨k + 1, by omega, by go_num, HK, by first | trivial | rfl⟩
        case measure => simp [intOf]; omega
    · have i1 : ¬ (k : Int) < 17 := by omega
      have HY := Lib.hid (HN.out fun j hj => H.out j (by omega) hj)
      go_wp2_with fail
      go_ret
      exact ⟨by rw [HY.out]; rfl, rfl⟩
end Go.Proofs.YtnkdhmoocomjfaaGreatDoor
namespace Go.Proofs.YtnkdhmoocomjfaaGreatDoor
open Go.RowKit
set_option maxRecDepth 100000 in
set_option maxHeartbeats 8000000 in
theorem RefKeyword_any (s : ByteArray) (w : World) : Calls Tryz.prog 137 #[.string s] w fun e w' => e = .returned (.bool (Tk.keyword s)) ∧ w' = w := by
  by_cases h : Tk.keyword s = true
  · rw [h]
    unfold Tk.keyword at h
    obtain ⟨x, hx, he⟩ := List.any_eq_true.1 h
    have hs : s = Tk.bs x := by rw [eq_of_beq he]; rfl
    unfold Tk.kwds at hx
    simp only [List.mem_cons, List.not_mem_nil, or_false] at hx
    clear h he
    rcases hx with rfl | rfl | rfl | rfl | rfl | rfl | rfl | rfl | rfl | rfl | rfl | rfl | rfl | rfl | rfl | rfl | rfl
    all_goals
      subst hs
      unfold Tk.bs
      go_enter Tryz.func137, Tryz.ntmps137
      go_wp2_with fail
      go_ret
      exact ⟨rfl, rfl⟩
  · rw [(Bool.not_eq_true _).mp h]
    have key : ∀ k, (hk : k < 17) → (s.toList == Tk.kwds[k]'(by show k < 17; exact hk)) = false := fun k hk => by
      rw [beq_eq_false_iff_ne]
      exact fun e => h (kw_any s k hk (bytes_iff'.2 (by rw [e, Go.Lib.toList_data]; simp [Tk.bs])))
    have q0 : (s.toList == ([109, 111, 100, 117, 108, 101] : List UInt8)) = false := key 0 (by omega)
    have q1 : (s.toList == ([114, 101, 99, 111, 114, 100] : List UInt8)) = false := key 1 (by omega)
    have q2 : (s.toList == ([99, 104, 111, 105, 99, 101] : List UInt8)) = false := key 2 (by omega)
    have q3 : (s.toList == ([115, 101, 114, 118, 105, 99, 101] : List UInt8)) = false := key 3 (by omega)
    have q4 : (s.toList == ([115, 97, 103, 97] : List UInt8)) = false := key 4 (by omega)
    have q5 : (s.toList == ([100, 111] : List UInt8)) = false := key 5 (by omega)
    have q6 : (s.toList == ([97, 116] : List UInt8)) = false := key 6 (by omega)
    have q7 : (s.toList == ([117, 110, 100, 111] : List UInt8)) = false := key 7 (by omega)
    have q8 : (s.toList == ([103, 105, 118, 101] : List UInt8)) = false := key 8 (by omega)
    have q9 : (s.toList == ([116, 97, 107, 101] : List UInt8)) = false := key 9 (by omega)
    have q10 : (s.toList == ([110, 111, 116, 101] : List UInt8)) = false := key 10 (by omega)
    have q11 : (s.toList == ([110, 111, 110, 101] : List UInt8)) = false := key 11 (by omega)
    have q12 : (s.toList == ([98, 111, 111, 108] : List UInt8)) = false := key 12 (by omega)
    have q13 : (s.toList == ([105, 110, 116] : List UInt8)) = false := key 13 (by omega)
    have q14 : (s.toList == ([116, 101, 120, 116] : List UInt8)) = false := key 14 (by omega)
    have q15 : (s.toList == ([108, 105, 115, 116] : List UInt8)) = false := key 15 (by omega)
    have q16 : (s.toList == ([111, 112, 116] : List UInt8)) = false := key 16 (by omega)
    clear key h
    go_enter Tryz.func137, Tryz.ntmps137
    go_wp2_with fail
    go_ret
    exact ⟨rfl, rfl⟩
set_option maxHeartbeats 4000000 in
theorem Name_any (s : ByteArray) (w : World) (hm : s.size ≤ maxLen) (hk : KwIs w) : Calls Tryz.prog 122 #[.string s] w fun e w' => e = .returned (.bool (Tk.name s)) ∧ w' = w := by
  have q1 := word_any s w hm
  have q2 := Keyword_any s w hk
  have hle : Tk.word s.data.toList ≤ s.size := by rw [← list_len s]; exact Tk.word_le _
  unfold Tk.name
  generalize Tk.word s.data.toList = n at *
  generalize Tk.keyword s = kb at *
  have hm2 : s.size ≤ 9223372036854775807 := hm
  clear hk hm
  by_cases h1 : 0 < n
  · have i1 : (0 : Int) < (n : Int) := by omega
    have i1n : decide (0 < n) = true := decide_eq_true h1
    by_cases h2 : n = s.size
    · have i2 : ((n : Int) == (s.size : Int)) = true := by rw [beq_iff_eq]; omega
      have i2n : decide (n = s.size) = true := decide_eq_true h2
      rw [i1n, i2n]
      clear h2 i1n i2n
      by_cases h3 : n ≤ 32
      · have i3 : (n : Int) ≤ 32 := by omega
        rw [decide_eq_true h3]
        cases kb with
        | true =>
          go_enter Tryz.func122, Tryz.ntmps122
          go_wp2_with (first | (go_at_call 162; refine q1.mono ?_; rintro e w' ⟨rfl, hw'⟩; obtain rfl := hw') | (go_at_call 163; refine q2.mono ?_; rintro e w' ⟨rfl, hw'⟩; obtain rfl := hw') | fail)
          go_ret
          exact ⟨rfl, rfl⟩
        | false =>
          go_enter Tryz.func122, Tryz.ntmps122
          go_wp2_with (first | (go_at_call 162; refine q1.mono ?_; rintro e w' ⟨rfl, hw'⟩; obtain rfl := hw') | (go_at_call 163; refine q2.mono ?_; rintro e w' ⟨rfl, hw'⟩; obtain rfl := hw') | fail)
          go_ret
          exact ⟨rfl, rfl⟩
      · have i3 : ¬ (n : Int) ≤ 32 := by omega
        rw [decide_eq_false h3]
        clear q2
        go_enter Tryz.func122, Tryz.ntmps122
        go_wp2_with (first | (go_at_call 162; refine q1.mono ?_; rintro e w' ⟨rfl, hw'⟩; obtain rfl := hw') | fail)
        go_ret
        exact ⟨rfl, rfl⟩
    · have i2 : ((n : Int) == (s.size : Int)) = false := by rw [beq_eq_false_iff_ne]; omega
      rw [i1n, decide_eq_false h2]
      clear h2 i1n q2
      go_enter Tryz.func122, Tryz.ntmps122
      go_wp2_with (first | (go_at_call 162; refine q1.mono ?_; rintro e w' ⟨rfl, hw'⟩; obtain rfl := hw') | fail)
      go_ret
      exact ⟨rfl, rfl⟩
  · have i1 : ¬ (0 : Int) < (n : Int) := by omega
    rw [decide_eq_false h1]
    clear h1 q2
    go_enter Tryz.func122, Tryz.ntmps122
    go_wp2_with (first | (go_at_call 162; refine q1.mono ?_; rintro e w' ⟨rfl, hw'⟩; obtain rfl := hw') | fail)
    go_ret
    exact ⟨rfl, rfl⟩
theorem beq_no' {a b : Nat} (h : a ≠ b) : (((a : Nat) : Int) == (b : Int)) = false := by rw [beq_eq_false_iff_ne]; omega
theorem name_false_1 {s : ByteArray} (h : Tk.word s.data.toList = 0) : Tk.name s = false := by unfold Tk.name; rw [h]; rfl
set_option maxRecDepth 100000 in
set_option maxHeartbeats 8000000 in
theorem RefName_any (s : ByteArray) (w : World) (hm : s.size ≤ maxLen) : Calls Tryz.prog 92 #[.string s] w fun e w' => e = .returned (.bool (Tk.name s)) ∧ w' = w := by
  have hl := list_len s
  have hm2 : s.size ≤ 9223372036854775807 := hm
  by_cases h0 : 0 < s.size
  · have g0 : ((s.size : Int) == 0) = false := beq_no' (b := 0) (by omega)
    have j0 : (0 : Int) < (s.size : Int) := by omega
    by_cases h32 : 32 < s.size
    · have i1 : (32 : Int) < (s.size : Int) := by omega
      have hf : Tk.name s = false := by
        unfold Tk.name
        by_cases h : Tk.word s.data.toList = s.size
        · rw [decide_eq_false (show ¬ Tk.word s.data.toList ≤ 32 by omega)]; simp
        · rw [decide_eq_false h]; simp
      rw [hf]
      clear hl hf
      go_enter Tryz.func92, Tryz.ntmps92
      go_wp2_with fail
      go_ret
      exact ⟨rfl, rfl⟩
    · have i1 : ¬ (32 : Int) < (s.size : Int) := by omega
      have qL := fun W => rletter_any s[0] W
      cases hc : Tk.letter s[0] with
      | false =>
        have hf := name_false_1 (Tk.word_none (l := s.data.toList) (by omega) hc)
        rw [hf]
        rw [hc] at qL
        clear hl hf hc
        go_enter Tryz.func92, Tryz.ntmps92
        go_wp2_with (first | (go_at_call 136; refine (qL _).mono ?_; rintro e w' ⟨rfl, hw'⟩; obtain rfl := hw') | fail)
        go_ret
        exact ⟨rfl, rfl⟩
      | true =>
        have qK := fun W => RefKeyword_any s W
        rw [hc] at qL
        have hp := Tk.word_pos (l := s.data.toList) (by omega) hc
        have hle : Tk.word s.data.toList ≤ s.size := by rw [← hl]; exact Tk.word_le _
        have hst : ∀ k (h1 : 1 ≤ k) (hk : k < s.size), k ≤ Tk.word s.data.toList → (Tk.wchar s[k] = true → k + 1 ≤ Tk.word s.data.toList) ∧ (Tk.wchar s[k] = false → Tk.word s.data.toList = k) :=
          fun k h1 hk hle => Tk.word_step (l := s.data.toList) (by omega) hc h1 (by omega) hle
        have hnm : Tk.name s = (decide (Tk.word s.data.toList = s.size) && !Tk.keyword s) := by
          unfold Tk.name
          rw [decide_eq_true (show 0 < Tk.word s.data.toList by omega), decide_eq_true (show Tk.word s.data.toList ≤ 32 by omega)]
          simp
        rw [hnm]
        generalize Tk.word s.data.toList = n at *
        cases hkw : Tk.keyword s with
        | true =>
          rw [hkw] at qK
          rw [show (decide (n = s.size) && !true) = false by simp]
          clear hl hc hst hnm hkw
          go_enter Tryz.func92, Tryz.ntmps92
          go_wp2_with (first | (go_at_call 136; refine (qL _).mono ?_; rintro e w' ⟨rfl, hw'⟩; obtain rfl := hw') | (go_at_call 137; refine (qK _).mono ?_; rintro e w' ⟨rfl, hw'⟩; obtain rfl := hw') | fail)
          go_ret
          exact ⟨rfl, rfl⟩
        | false =>
          rw [hkw] at qK
          rw [show (decide (n = s.size) && !false) = decide (n = s.size) by simp]
          have HST := Lib.hid hst
          clear hl hc hst hnm hkw
          go_enter Tryz.func92, Tryz.ntmps92
          go_wp2_with (first | (go_at_call 136; refine (qL _).mono ?_; rintro e w' ⟨rfl, hw'⟩; obtain rfl := hw') | (go_at_call 137; refine (qK _).mono ?_; rintro e w' ⟨rfl, hw'⟩; obtain rfl := hw') | fail)
          clear qL qK
          go_loopw [3] (fun kv wr => ∃ k : Nat, 1 ≤ k ∧ k ≤ n ∧ kv = .int .i64 (k : Nat) ∧ wr = w') (fun kv _ => s.size - (intOf kv).toNat)
          case atStart => exact ⟨1, by omega, hp, rfl, rfl⟩
          case round =>
            obtain ⟨k, h1, hk, rfl, rfl⟩ := hrel
            by_cases hks : k < s.size
            · have k1 : (k : Int) < (s.size : Int) := by omega
              have k2 : (0 : Int) ≤ (k : Int) := by omega
              obtain ⟨hy, hn⟩ := HST.out k h1 hks hk
              have q1 := fun W => rletter_any s[k] W
              have q2 := fun W => rdigit_any s[k] W
              have hw : Tk.wchar s[k] = (Tk.letter s[k] || Tk.digit s[k] || decide (s[k].toNat = 95)) := rfl
              rw [hw] at hy hn
              clear hw
              have q3 : ∀ v, decide (s[k].toNat = 95) = v → ((s[k].toNat : Int) == 95) = v := fun v h => beq_int (b := 95) h
              have q5 : ∀ v, decide (s[k].toNat = 95) = v → ((s[k].toNat : Int) != 95) = !v := fun v h => by show (!((s[k].toNat : Int) == 95)) = !v; rw [q3 v h]
              generalize Tk.letter s[k] = a at *
              generalize Tk.digit s[k] = b at *
              generalize decide (s[k].toNat = 95) = d at *
              have q4 := q5 d rfl
              clear q3 q5
              cases a with
              | true =>
                have HY := Lib.hid (hy rfl)
                clear hy hn
                go_wp2_with (first | (go_at_call 136; refine (q1 _).mono ?_; rintro e w9 ⟨rfl, hw9⟩; obtain rfl := hw9) | (go_at_call 138; refine (q2 _).mono ?_; rintro e w9 ⟨rfl, hw9⟩; obtain rfl := hw9) | fail)
                go_roundw
                case rel => exact ⟨k + 1, by omega, HY.out, by go_num, by first | trivial | rfl⟩
                case measure => simp [intOf]; omega
              | false =>
                cases b with
                | true =>
                  have HY := Lib.hid (hy rfl)
                  clear hy hn
                  go_wp2_with (first | (go_at_call 136; refine (q1 _).mono ?_; rintro e w9 ⟨rfl, hw9⟩; obtain rfl := hw9) | (go_at_call 138; refine (q2 _).mono ?_; rintro e w9 ⟨rfl, hw9⟩; obtain rfl := hw9) | fail)
                  go_roundw
                  case rel => exact ⟨k + 1, by omega, HY.out, by go_num, by first | trivial | rfl⟩
                  case measure => simp [intOf]; omega
                | false =>
                  cases d with
                  | true =>
                    have HY := Lib.hid (hy rfl)
                    clear hy hn
                    go_wp2_with (first | (go_at_call 136; refine (q1 _).mono ?_; rintro e w9 ⟨rfl, hw9⟩; obtain rfl := hw9) | (go_at_call 138; refine (q2 _).mono ?_; rintro e w9 ⟨rfl, hw9⟩; obtain rfl := hw9) | fail)
                    go_roundw
                    case rel => exact ⟨k + 1, by omega, HY.out, by go_num, by first | trivial | rfl⟩
                    case measure => simp [intOf]; omega
                  | false =>
                    have HN := Lib.hid (hn rfl)
                    clear hy hn
                    go_wp2_with (first | (go_at_call 136; refine (q1 _).mono ?_; rintro e w9 ⟨rfl, hw9⟩; obtain rfl := hw9) | (go_at_call 138; refine (q2 _).mono ?_; rintro e w9 ⟨rfl, hw9⟩; obtain rfl := hw9) | fail)
                    go_ret
                    exact ⟨ret_bool' (by rw [decide_eq_false (by have := HN.out; omega)]), rfl⟩
            · have HN : Hid (n = s.size) := Lib.hid (by omega)
              have k1 : ¬ (k : Int) < (s.size : Int) := by omega
              go_wp2_with fail
              go_ret
              exact ⟨ret_bool' (by rw [decide_eq_true HN.out]), rfl⟩
  · obtain rfl := is_empty (show s.size = 0 by omega)
    rw [name_false_1 (s := ⟨#[]⟩) rfl]
    clear hl h0 hm hm2
    go_enter Tryz.func92, Tryz.ntmps92
    go_wp2_with fail
    go_ret
    exact ⟨rfl, rfl⟩
end Go.Proofs.YtnkdhmoocomjfaaGreatDoor
namespace Go.Proofs.YtnkdhmoocomjfaaGreatDoor
open Go.Shelf
def laysClone_ren : Go.Shelf.Ren := ⟨fun | 316 => 91 | n => n, fun | 9 => 9 | 3 => 3 | 4 => 4 | 37 => 88 | 0 => 0 | 127 => 156 | 5 => 5 | n => n, fun | n => n⟩
theorem laysClone : Go.Proofs.LaysM.n316 Tryz.prog laysClone_ren := {
  mixed := by kernel_rfl
  f316 := Tryz.func91.trans (congrArg some (by kernel_rfl))
  t0 := Tryz.underlying0
  a0 := Tryz.isAgg0
  z0 := Tryz.sizeOf0
  v0 := Tryz.zeroValue0
  t3 := Tryz.underlying3
  a3 := Tryz.isAgg3
  z3 := Tryz.sizeOf3
  v3 := Tryz.zeroValue3
  t4 := Tryz.underlying4
  a4 := Tryz.isAgg4
  z4 := Tryz.sizeOf4
  v4 := Tryz.zeroValue4
  t9 := Tryz.underlying9
  a9 := Tryz.isAgg9
  z9 := Tryz.sizeOf9
  v9 := Tryz.zeroValue9
  t37 := Tryz.underlying88
  a37 := Tryz.isAgg88
  z37 := Tryz.sizeOf88
  v37 := Tryz.zeroValue88
  t127 := Tryz.underlying156
  a127 := Tryz.isAgg156
  z127 := Tryz.sizeOf156
  v127 := Tryz.zeroValue156
  t5 := Tryz.underlying5
  a5 := Tryz.isAgg5
  z5 := Tryz.sizeOf5
  v5 := Tryz.zeroValue5
  i0 := by kernel_rfl
  i3 := by kernel_rfl
  i4 := by kernel_rfl
  i5 := by kernel_rfl
  i9 := by kernel_rfl
  i37 := by kernel_rfl
  i127 := by kernel_rfl }
open Go.RowKit in
theorem clone_lite (s : ByteArray) (w : World) (hlim : s.size ≤ 281474976710656) :
    Calls Tryz.prog 91 #[.string s] w fun e w' => e = .returned (.string s) ∧ Below w.heap.size w w' := Any.stringslite_Clone laysClone s w hlim
open Go.RowKit in
set_option maxHeartbeats 400000 in
theorem clone_any (s : ByteArray) (w : World) (hlim : s.size ≤ 281474976710656) :
    Calls Tryz.prog 44 #[.string s] w fun e w' => e = .returned (.string s) ∧ Below w.heap.size w w' := by
  go_enter Tryz.func44, Tryz.ntmps44
  go_wp2_with fail
  refine (clone_lite s _ hlim).mono ?_
  rintro e w2 ⟨rfl, h2⟩
  go_wp2_with fail
  go_ret
  exact ⟨rfl, h2⟩
end Go.Proofs.YtnkdhmoocomjfaaGreatDoor
namespace Go.Proofs.YtnkdhmoocomjfaaGreatDoor
open Go.RowKit
/-- What a call of All answers. -/
def Alls (o : Tk.Out) (w : World) (e : Ending) (w' : World) : Prop :=
  ∃ v, e = .returned (.tuple #[v, .int .i64 (o.at_ : Nat), .int .i64 (o.err : Nat)]) ∧ OwnTok w' w.heap.size v o.toks ∧ Below w.heap.size w w'
theorem own_tok_set {W : World} {base : Nat} {v : Value} {xs : List Tk.Token} (h : OwnTok W base v xs) {b i : Nat} {x : Value} (hb : ∀ k, v.ownBlock = some k → k ≠ b) : OwnTok (W.setCell ⟨b, i, none⟩ x) base v xs :=
  h.stays fun k _ hk => Below.heap_setCell _ _ _ _ (hb k hk)

end Go.Proofs.YtnkdhmoocomjfaaGreatDoor
