/-
  Plain facts on the tokens of a text: blanks and remarks, the token that a text begins with, all tokens. No program. Conditions: those in the theorems.
-/
import Derived.Lib.Hide
set_option linter.unusedSimpArgs false
set_option linter.unusedVariables false
namespace Tk
def letter (c : UInt8) : Bool := (decide (97 ≤ c.toNat) && decide (c.toNat ≤ 122)) || (decide (65 ≤ c.toNat) && decide (c.toNat ≤ 90))
def digit (c : UInt8) : Bool := decide (48 ≤ c.toNat) && decide (c.toNat ≤ 57)
def wchar (c : UInt8) : Bool := letter c || digit c || decide (c.toNat = 95)
def blank (c : UInt8) : Bool := decide (c.toNat = 32) || decide (c.toNat = 9) || decide (c.toNat = 10) || decide (c.toNat = 13)
def signC (c : UInt8) : Bool := decide (c.toNat = 123) || decide (c.toNat = 125) || decide (c.toNat = 40) || decide (c.toNat = 41) || decide (c.toNat = 59) || decide (c.toNat = 58) || decide (c.toNat = 44) || decide (c.toNat = 46)
/-- How many bytes satisfy p from the beginning. -/
def run (p : UInt8 → Bool) : List UInt8 → Nat
  | [] => 0
  | c :: r => if p c then run p r + 1 else 0
def noLine (c : UInt8) : Bool := !decide (c.toNat = 10)
/-- How many bytes a text has up to its first byte 10. -/
def line (l : List UInt8) : Nat := run noLine l
/-- Does a text begin with these two? -/
def two (a b : Nat) : List UInt8 → Bool
  | c :: d :: _ => decide (c.toNat = a) && decide (d.toNat = b)
  | _ => false
/-- Blanks and remarks; m: within a remark. -/
def skipM : Bool → List UInt8 → Nat
  | _, [] => 0
  | true, c :: r => if c.toNat = 10 then skipM false r + 1 else skipM true r + 1
  | false, c :: r => if blank c then skipM false r + 1 else if two 47 47 (c :: r) then skipM true r + 1 else 0
def skip (l : List UInt8) : Nat := skipM false l
def word : List UInt8 → Nat
  | [] => 0
  | c :: r => if letter c then run wchar r + 1 else 0
def number (l : List UInt8) : Nat := run digit l
def sign (l : List UInt8) : Nat := if two 45 62 l then 2 else match l with
  | [] => 0
  | c :: _ => if signC c then 1 else 0
def val (l : List UInt8) : Nat := l.foldl (fun n c => n * 10 + (c.toNat - 48)) 0
inductive Res
  | no (e : Nat)
  | tok (kind len num : Nat)
/-- The number that all these digits are. -/
def numbered (l : List UInt8) : Res := if 9 < l.length then .no 3 else if 1 < l.length ∧ (l.head?.getD 0).toNat = 48 then .no 110 else .tok 2 l.length (val l)
/-- The token that a text begins with. -/
def first (l : List UInt8) : Res :=
  if 0 < word l then (if 32 < word l then .no 3 else .tok 1 (word l) 0)
  else if 0 < number l then numbered (l.take (number l))
  else if 0 < sign l then .tok 3 (sign l) 0
  else .no 110
def bs (l : List UInt8) : ByteArray := ⟨l.toArray⟩
structure Token where
  kind : Nat
  text : ByteArray
  num : Int
  pos : Int
inductive Out
  | no (at_ : Nat) (e : Nat)
  | ok (ts : List Token)
def Out.pre (ts : List Token) : Out → Out
  | .no a e => .no a e
  | .ok us => .ok (ts ++ us)
theorem pre_no (ts : List Token) (a e : Nat) : Out.pre ts (.no a e) = .no a e := rfl
theorem pre_ok (ts us : List Token) : Out.pre ts (.ok us) = .ok (ts ++ us) := rfl
theorem pre_nil (o : Out) : Out.pre [] o = o := by cases o <;> rfl
theorem pre_pre (a b : List Token) (o : Out) : Out.pre a (Out.pre b o) = Out.pre (a ++ b) o := by cases o <;> simp [Out.pre]
/-- All tokens of a text that begins at a place. -/
def allF : Nat → Nat → List UInt8 → Out
  | 0, _, _ => .ok []
  | fuel + 1, a, l =>
    if l.drop (skip l) = [] then .ok [] else
    match first (l.drop (skip l)) with
    | .no e => .no (a + skip l) e
    | .tok k n v => Out.pre [⟨k, bs ((l.drop (skip l)).take n), v, (a + skip l : Nat)⟩] (allF fuel (a + skip l + n) ((l.drop (skip l)).drop n))
def all (a : Nat) (l : List UInt8) : Out := allF (l.length + 1) a l

theorem run_t (p : UInt8 → Bool) (c : UInt8) (r : List UInt8) : run p (c :: r) = if p c then run p r + 1 else 0 := rfl
theorem run_le (p : UInt8 → Bool) : ∀ l, run p l ≤ l.length
  | [] => Nat.le_refl _
  | c :: r => by unfold run; split; · have := run_le p r; simp; omega
                 · simp
theorem run_append (p : UInt8 → Bool) (d : UInt8) (hd : p d = false) (m : List UInt8) : ∀ (l : List UInt8), run p (l ++ d :: m) = run p l
  | [] => by simp [run, hd]
  | c :: r => by
    show run p (c :: (r ++ d :: m)) = _
    unfold run
    rw [run_append p d hd m r]
theorem run_take (p : UInt8 → Bool) : ∀ (l : List UInt8) (k : Nat), run p l ≤ k → run p (l.take k) = run p l
  | [], k, _ => by simp
  | c :: r, 0, h => by
    have : run p (c :: r) = 0 := by omega
    rw [this]; rfl
  | c :: r, k + 1, h => by
    rw [List.take_succ_cons]
    unfold run at h ⊢
    by_cases hc : p c = true
    · rw [if_pos hc] at h ⊢; rw [if_pos hc, run_take p r k (by omega)]
    · rw [if_neg hc, if_neg hc]
/-- A step of the count. -/
theorem run_step (p : UInt8 → Bool) : ∀ (l : List UInt8) (k : Nat) (hk : k < l.length), k ≤ run p l → (p l[k] = true → k + 1 ≤ run p l) ∧ (p l[k] = false → run p l = k)
  | [], k, hk, _ => absurd hk (Nat.not_lt_zero _)
  | c :: r, 0, _, h => by
    refine ⟨fun e => ?_, fun e => ?_⟩
    · unfold run; rw [if_pos (by simpa using e)]; omega
    · unfold run; rw [if_neg (by simpa using e)]
  | c :: r, k + 1, hk, h => by
    have hc : p c = true := by
      by_cases hc : p c = true
      · exact hc
      · unfold run at h; rw [if_neg hc] at h; omega
    unfold run at h ⊢
    rw [if_pos hc] at h ⊢
    have := run_step p r k (by simpa using hk) (by omega)
    simp only [List.getElem_cons_succ]
    exact ⟨fun e => by have := this.1 e; omega, fun e => by have := this.2 e; omega⟩
theorem run_end (p : UInt8 → Bool) (l : List UInt8) (h : l.length ≤ run p l) : run p l = l.length := Nat.le_antisymm (run_le p l) h
theorem run_all (p : UInt8 → Bool) : ∀ (l : List UInt8), ∀ c ∈ l.take (run p l), p c = true
  | [], c, h => by simp at h
  | d :: r, c, h => by
    unfold run at h
    by_cases hd : p d = true
    · rw [if_pos hd, List.take_succ_cons] at h
      rcases List.mem_cons.1 h with rfl | h
      · exact hd
      · exact run_all p r c h
    · rw [if_neg hd] at h; simp at h
theorem skipM_le : ∀ m l, skipM m l ≤ l.length
  | m, [] => by cases m <;> simp [skipM]
  | true, c :: r => by
    unfold skipM; split
    · have := skipM_le false r; simp; omega
    · have := skipM_le true r; simp; omega
  | false, c :: r => by
    unfold skipM; split
    · have := skipM_le false r; simp; omega
    · split
      · have := skipM_le true r; simp; omega
      · simp
theorem skip_le (l : List UInt8) : skip l ≤ l.length := skipM_le false l
theorem skipM_t (c : UInt8) (r : List UInt8) : skipM true (c :: r) = if c.toNat = 10 then skipM false r + 1 else skipM true r + 1 := rfl
theorem skipM_f (c : UInt8) (r : List UInt8) : skipM false (c :: r) = if blank c then skipM false r + 1 else if two 47 47 (c :: r) then skipM true r + 1 else 0 := rfl
theorem skipM_true : ∀ (l : List UInt8), skipM true l = line l + skipM false (l.drop (line l))
  | [] => by simp [skipM, line, run]
  | c :: r => by
    rw [skipM_t]
    by_cases hc : c.toNat = 10
    · have hl : line (c :: r) = 0 := by unfold line run; rw [if_neg (by simp [noLine, hc])]
      rw [if_pos hc, hl, List.drop_zero, Nat.zero_add, skipM_f, if_pos (by simp [blank, hc])]
    · have hl : line (c :: r) = line r + 1 := by show run noLine (c :: r) = _; rw [run_t, if_pos (by simp [noLine, hc])]; rfl
      rw [if_neg hc, hl, skipM_true r, List.drop_succ_cons]
      omega
/-- The three ways of a place. -/
theorem skip_blank {c : UInt8} {r : List UInt8} (h : blank c = true) : skip (c :: r) = skip r + 1 := by
  show skipM false _ = _; unfold skipM; rw [if_pos h]; rfl
theorem skip_remark {l : List UInt8} (h : two 47 47 l = true) : skip l = line l + skip (l.drop (line l)) := by
  match l, h with
  | c :: d :: r, h =>
    have h' := h
    simp only [two, Bool.and_eq_true, decide_eq_true_eq] at h
    obtain ⟨hc, hd⟩ := h
    have hl : line (c :: d :: r) = line (d :: r) + 1 := by unfold line run; rw [if_pos (by simp [noLine, hc])]; rfl
    rw [hl, List.drop_succ_cons]
    show skipM false _ = _
    unfold skipM
    rw [if_neg (by simp [blank, hc]), if_pos h', skipM_true]
    show _ = line (d :: r) + 1 + skipM false _
    omega
theorem skip_none {l : List UInt8} (h1 : ∀ c r, l = c :: r → blank c = false) (h2 : two 47 47 l = false) : skip l = 0 := by
  cases l with
  | nil => rfl
  | cons c r =>
    show skipM false _ = _; unfold skipM
    rw [if_neg (by rw [h1 c r rfl]; simp), if_neg (by rw [h2]; simp)]
theorem line_pos {l : List UInt8} (h : two 47 47 l = true) : 1 ≤ line l := by
  match l, h with
  | c :: d :: r, h =>
    simp only [two, Bool.and_eq_true, decide_eq_true_eq] at h
    unfold line run; rw [if_pos (by simp [noLine, h.1])]; omega
theorem line_le (l : List UInt8) : line l ≤ l.length := run_le _ _
theorem skipM_skip : ∀ (m : Bool) (l : List UInt8), skip (l.drop (skipM m l)) = 0
  | m, [] => by cases m <;> simp [skipM, skip]
  | true, c :: r => by
    rw [skipM_t]; split
    · exact skipM_skip false r
    · exact skipM_skip true r
  | false, c :: r => by
    by_cases hb : blank c = true
    · rw [show skipM false (c :: r) = skipM false r + 1 from skip_blank hb]; exact skipM_skip false r
    · by_cases ht : two 47 47 (c :: r) = true
      · have e : skipM false (c :: r) = skipM true r + 1 := by rw [skipM_f, if_neg hb, if_pos ht]
        rw [e]; exact skipM_skip true r
      · have e : skipM false (c :: r) = 0 := by rw [skipM_f, if_neg hb, if_neg ht]
        rw [e, List.drop_zero]; exact e
theorem skip_skip (l : List UInt8) : skip (l.drop (skip l)) = 0 := skipM_skip false l
theorem word_c (c : UInt8) (r : List UInt8) : word (c :: r) = if letter c then run wchar r + 1 else 0 := rfl
theorem word_le (l : List UInt8) : word l ≤ l.length := by
  cases l with
  | nil => exact Nat.le_refl _
  | cons c r =>
    rw [word_c]
    have := run_le wchar r
    split <;> simp <;> omega
theorem word_pos {l : List UInt8} (h : 0 < l.length) (hc : letter l[0] = true) : 1 ≤ word l := by
  cases l with
  | nil => simp at h
  | cons c r => rw [word_c, if_pos (by simpa using hc)]; omega
theorem word_none {l : List UInt8} (h : 0 < l.length) (hc : letter l[0] = false) : word l = 0 := by
  cases l with
  | nil => simp at h
  | cons c r => rw [word_c, if_neg (by simpa using hc)]
theorem word_step {l : List UInt8} (h : 0 < l.length) (hc : letter l[0] = true) {k : Nat} (h1 : 1 ≤ k) (hk : k < l.length) (hle : k ≤ word l) :
    (wchar l[k] = true → k + 1 ≤ word l) ∧ (wchar l[k] = false → word l = k) := by
  cases l with
  | nil => simp at h
  | cons c r =>
    obtain ⟨j, rfl⟩ : ∃ j, k = j + 1 := ⟨k - 1, by omega⟩
    have hw : word (c :: r) = run wchar r + 1 := by rw [word_c, if_pos (by simpa using hc)]
    rw [hw] at hle ⊢
    have := run_step wchar r j (by simpa using hk) (by omega)
    simp only [List.getElem_cons_succ]
    exact ⟨fun e => by have := this.1 e; omega, fun e => by have := this.2 e; omega⟩
theorem sign_le (l : List UInt8) : sign l ≤ l.length := by
  match l with
  | [] => exact Nat.le_refl _
  | [c] =>
    show (if two 45 62 [c] then 2 else if signC c then 1 else 0) ≤ 1
    rw [show two 45 62 [c] = false from rfl]
    simp only [Bool.false_eq_true, if_false]
    split <;> omega
  | c :: d :: r =>
    show (if two 45 62 (c :: d :: r) then 2 else if signC c then 1 else 0) ≤ _
    simp only [List.length_cons]
    split
    · omega
    · split <;> omega
end Tk
