/-
  Plain facts on a log: its names, the numbers in its files' names, its spare file. No condition but those in the theorems.
-/
import Derived.Test.YtoecbkndbcblpaaGreatDoorWalReadNone
namespace Wm
theorem dropWhile_nil {p : UInt8 → Bool} : ∀ l : List UInt8, l.dropWhile p = [] ↔ ∀ c ∈ l, p c = true
  | [] => by simp
  | c :: r => by
    rw [List.dropWhile_cons]
    cases h : p c with
    | true => rw [if_pos rfl, dropWhile_nil r]; simp [h]
    | false => rw [if_neg (by simp)]; simp [h]
theorem all_of_rest {p : UInt8 → Bool} : ∀ m : List UInt8, (∀ c ∈ m.dropWhile p, p c = true) → ∀ c ∈ m, p c = true
  | [], _ => fun c hc => nomatch hc
  | c :: r, h => by
    rw [List.dropWhile_cons] at h
    cases hp : p c with
    | true =>
      rw [hp, if_pos rfl] at h
      intro d hd
      rcases List.mem_cons.1 hd with rfl | hd
      · exact hp
      · exact all_of_rest r h d hd
    | false =>
      rw [hp, if_neg (by simp)] at h
      have := h c List.mem_cons_self
      rw [hp] at this; cases this
theorem trimS_nil (l cs : List UInt8) : Go.Lib.trimS l cs = [] ↔ ∀ c ∈ l, cs.contains c = true := by
  unfold Go.Lib.trimS Go.Lib.trimLeftS Go.Lib.trimRightS
  rw [dropWhile_nil]
  constructor
  · intro h c hc
    exact all_of_rest l.reverse (fun d hd => h d (List.mem_reverse.2 hd)) c (List.mem_reverse.2 hc)
  · intro h c hc
    have hm : c ∈ l.reverse := (List.dropWhile_sublist _).subset (List.mem_reverse.1 hc)
    exact h c (List.mem_reverse.1 hm)
/-- A spare file that is not there: nothing is done. -/
theorem sweep_none {D : Dm.Disk} {log : ByteArray} (hd : D.down = false) (hg : Dm.get D.files (spare log).data.toList = none) : sweep D log = (0, D) := by
  have h : Dm.remove D (spare log).data.toList = (4, D) := by
    unfold Dm.remove
    rw [hd, hg]; rfl
  unfold sweep
  rw [h]; rfl
/-- The nineteen digits of a number below 100. -/
def nineteen (n : Nat) : List UInt8 := Go.Lib.repeatL [48] (19 - (Go.Lib.decDigits n).length) ++ Go.Lib.decDigits n
theorem nameOf_list (log : ByteArray) (n : Nat) : (nameOf log n).data.toList = log.data.toList ++ nineteen n := by
  unfold nameOf nineteen
  simp
def nineteen_ (n : Nat) : List UInt8 := if n < 10 then Go.Lib.repeatL [48] 18 ++ [UInt8.ofNat (48 + n)] else Go.Lib.repeatL [48] 17 ++ [UInt8.ofNat (48 + n / 10), UInt8.ofNat (48 + n % 10)]
theorem nineteen_eq (n : Nat) (hn : n < 100) : nineteen n = nineteen_ n := by
  unfold nineteen nineteen_
  by_cases h : n < 10
  · rw [if_pos h, Go.Lib.decDigits, dif_pos h]; rfl
  · rw [if_neg h, Go.Lib.decDigits, dif_neg h, Go.Lib.decDigits, dif_pos (by omega)]; rfl
theorem nineteen_all : ∀ n, n < 100 → (nineteen_ n).length = 19 ∧ (nineteen_ n).all (fun c => decide (48 ≤ c.toNat) && decide (c.toNat ≤ 57)) = true ∧ val (nineteen_ n) = n := by
  decide +kernel
theorem nineteen_facts (n : Nat) (hn : n < 100) : (nineteen n).length = 19 ∧ Digits (nineteen n) ∧ val (nineteen n) = n := by
  rw [nineteen_eq n hn]
  obtain ⟨h1, h2, h3⟩ := nineteen_all n hn
  refine ⟨h1, fun c hc => ?_, h3⟩
  have := List.all_eq_true.1 h2 c hc
  simpa using this
/-- The number in a file's name is told again. -/
theorem trim_name (log : ByteArray) (n : Nat) : Go.Lib.hasPrefix (nameOf log n).data.toList log.data.toList = true ∧ Go.Lib.trimPrefix (nameOf log n).data.toList log.data.toList = nineteen n := by
  have h : Go.Lib.hasPrefix (nameOf log n).data.toList log.data.toList = true := by
    unfold Go.Lib.hasPrefix
    rw [nameOf_list]
    exact List.isPrefixOf_iff_prefix.2 (List.prefix_append _ _)
  refine ⟨h, ?_⟩
  unfold Go.Lib.trimPrefix
  rw [if_pos h, nameOf_list, List.drop_left]
/-- A log's name: 1 to 12 letters. -/
theorem isName_iff (s : ByteArray) : isName s = true ↔ 1 ≤ s.size ∧ s.size ≤ 12 ∧ ∀ c ∈ s.data.toList, alphabet.contains c = true := by
  unfold isName
  simp only [Bool.and_eq_true, decide_eq_true_eq, List.isEmpty_iff, trimS_nil, and_assoc]
end Wm
