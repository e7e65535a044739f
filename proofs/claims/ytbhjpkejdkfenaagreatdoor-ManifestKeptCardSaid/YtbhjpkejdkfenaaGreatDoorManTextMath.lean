/-
  Plain facts on the text that keeps a manifest's state: frames of its numbers and keys. No program, no walk.
-/
import Derived.Test.YtbhjpkejdkfenaaGreatDoorManMath
import Derived.Test.YtbhjpkejdkfenaaGreatDoorSumMath
import Derived.Lib.ItoaNum
import Derived.Lib.ItoaLen
import Derived.Lib.Atoi
namespace Go.Lib
theorem decFrom_snoc (l : List UInt8) (b : UInt8) : ∀ acc, decFrom acc (l ++ [b]) = (decFrom acc l).bind fun n => (digitVal b).map (n * 10 + ·) := by
  induction l with
  | nil =>
    intro acc
    simp only [List.nil_append, decFrom, Option.bind_some]
    cases digitVal b <;> rfl
  | cons a r ih =>
    intro acc
    rw [List.cons_append]
    simp only [decFrom]
    cases digitVal a with
    | none => rfl
    | some d => exact ih _
theorem digitVal_dec (d : Nat) (h : d < 10) : digitVal (UInt8.ofNat (48 + d)) = some d := by
  unfold digitVal
  have e : (UInt8.ofNat (48 + d)).toNat = 48 + d := by rw [UInt8.toNat_ofNat']; omega
  rw [e, if_pos (by omega)]; congr 1; omega
theorem decFrom_digits (u : Nat) : decFrom 0 (decDigits u) = some u := by
  induction u using Nat.strongRecOn with
  | _ u ih =>
    by_cases h : u < 10
    · rw [decDigits_one h]
      simp only [decFrom, digitVal_dec u h, Nat.zero_mul, Nat.zero_add]
    · rw [decDigits, dif_neg h, decFrom_snoc, ih (u / 10) (by omega), Option.bind_some, digitVal_dec _ (by omega)]
      simp only [Option.map_some]
      congr 1; omega
theorem atoi_itoa {n : Int} (h : 0 ≤ n) : atoi (itoa n) = some n := by
  have e : itoa n = decDigits n.toNat := by unfold itoa; rw [if_neg (by omega)]
  have hd := decFrom_digits n.toNat
  have hl := decDigits_length n.toNat
  have hp := nDigits_pos n.toNat
  rw [e]
  cases hq : decDigits n.toNat with
  | nil => rw [hq] at hl; simp at hl; omega
  | cons b r =>
    rw [hq] at hd
    obtain ⟨d, hb⟩ := digit_of_decFrom _ _ _ hd 0 b rfl
    obtain ⟨h1, h2, -⟩ := digitVal_eq hb
    have n1 : (b == 45) = false := beq_eq_false_iff_ne.2 fun e => by rw [e] at h1; simp at h1
    have n2 : (b == 43) = false := beq_eq_false_iff_ne.2 fun e => by rw [e] at h1; simp at h1
    unfold atoi
    simp only [n1, n2, Bool.false_eq_true, if_false]
    unfold decNat
    rw [if_neg (by simp), hd]
    simp only [Option.map_some]
    congr 1; omega
end Go.Lib
namespace Go.Proofs.YtbhjpkejdkfenaaGreatDoor
open Mf (File State)
def numB (n : Int) : ByteArray := ⟨(Lib.itoa n).toArray⟩
theorem numB_list (n : Int) : (numB n).data.toList = Lib.itoa n := by simp [numB]
theorem numB_size {n : Int} (h0 : 0 ≤ n) (h1 : n ≤ 1099511627776) : (numB n).size ≤ 13 := by
  have e : (numB n).size = (Lib.itoa n).length := by simp [numB, ByteArray.size]
  have e2 : Lib.itoa n = Lib.decDigits n.toNat := by unfold Lib.itoa; rw [if_neg (by omega)]
  rw [e, e2, Lib.decDigits_length]
  refine Nat.not_lt.1 fun h => ?_
  have key : ∀ (k u : Nat), k < Lib.nDigits u → 10 ^ k ≤ u ∨ k = 0 := by
    intro k
    induction k with
    | zero => intro _ _; exact .inr rfl
    | succ k ih =>
      intro u hu
      by_cases h : u < 10
      · rw [Lib.nDigits_small h] at hu; omega
      · rw [Lib.nDigits_big h] at hu
        left
        rcases ih (u / 10) (by omega) with h' | h'
        · rw [Nat.pow_succ]; omega
        · subst h'; omega
  rcases key 13 _ h with h' | h'
  · have : (10 : Nat) ^ 13 ≤ 1099511627776 := Nat.le_trans h' (by omega)
    exact absurd this (by decide)
  · omega
def fileBodies (f : File) : List ByteArray := [numB f.n, numB f.level, numB f.count, f.first, f.last]
def headBodies (s : State) : List ByteArray := [numB s.next, numB s.log, numB s.files.length]
def bodiesS (s : State) : List ByteArray := headBodies s ++ s.files.flatMap fileBodies
def lists (l : List ByteArray) : List (List UInt8) := l.map (·.data.toList)
def textL (l : List ByteArray) : List UInt8 := Sm.frames (lists l)
theorem textL_append (a b : List ByteArray) : textL (a ++ b) = textL a ++ textL b := by unfold textL lists; rw [List.map_append, Sm.frames_append]
theorem textL_len (l : List ByteArray) {m : Nat} (h : ∀ b ∈ l, b.size ≤ m) : (textL l).length ≤ l.length * (m + 8) := by
  induction l with
  | nil => exact Nat.zero_le _
  | cons b r ih =>
    have h1 := h b List.mem_cons_self
    have h2 := ih fun x hx => h x (List.mem_cons_of_mem _ hx)
    have e : textL (b :: r) = Sm.frame b.data.toList ++ textL r := rfl
    have e2 : b.data.toList.length = b.size := by rw [Array.length_toList]; rfl
    rw [e, List.length_append, Sm.frame_len, e2, List.length_cons, Nat.succ_mul]; omega
theorem textL_le (l : List ByteArray) : l.length * 8 ≤ (textL l).length := by
  induction l with
  | nil => exact Nat.zero_le _
  | cons b r ih =>
    have e : textL (b :: r) = Sm.frame b.data.toList ++ textL r := rfl
    rw [e, List.length_append, Sm.frame_len, List.length_cons]; omega
def textS (s : State) : ByteArray := ⟨(textL (bodiesS s)).toArray⟩
theorem textS_list (s : State) : (textS s).data.toList = textL (bodiesS s) := by simp [textS]
theorem flat_len (l : List File) : (l.flatMap fileBodies).length = l.length * 5 := by
  induction l with
  | nil => rfl
  | cons f r ih => rw [List.flatMap_cons, List.length_append, ih]; simp [fileBodies]; omega
theorem bodies_small {s : State} (h : Mf.Right s) : ∀ b ∈ bodiesS s, b.size ≤ 128 := by
  intro b hb
  unfold bodiesS headBodies at hb
  have l1 := h.few
  rcases List.mem_append.1 hb with hb | hb
  · simp only [List.mem_cons, List.not_mem_nil, or_false] at hb
    rcases hb with rfl | rfl | rfl
    · exact Nat.le_trans (numB_size (by have := h.next; omega) h.next.2) (by omega)
    · exact Nat.le_trans (numB_size h.log.1 h.log.2) (by omega)
    · exact Nat.le_trans (numB_size (by omega) (by omega)) (by omega)
  · rw [List.mem_flatMap] at hb
    obtain ⟨f, hf, hb⟩ := hb
    obtain ⟨a1, a2, a3, a4, a5, a6, a7, a8, -⟩ := h.files f hf
    have a0 := h.numbered.1 f hf
    have a9 := h.next
    simp only [fileBodies, List.mem_cons, List.not_mem_nil, or_false] at hb
    rcases hb with rfl | rfl | rfl | rfl | rfl
    · exact Nat.le_trans (numB_size (by omega) (by omega)) (by omega)
    · exact Nat.le_trans (numB_size (by omega) (by omega)) (by omega)
    · exact Nat.le_trans (numB_size (by omega) (by omega)) (by omega)
    · omega
    · omega
theorem textS_size {s : State} (h : Mf.Right s) : 24 ≤ (textS s).size ∧ (textS s).size ≤ 136408 := by
  have e : (textS s).size = (textL (bodiesS s)).length := by simp [textS, ByteArray.size]
  have hl : (bodiesS s).length = 3 + s.files.length * 5 := by unfold bodiesS headBodies; rw [List.length_append, flat_len]; rfl
  have h1 := textL_len (bodiesS s) (bodies_small h)
  have h2 := textL_le (bodiesS s)
  have h3 := h.few
  rw [hl] at h1 h2
  rw [e]; omega
/-- What is told of a text of frames are their bodies. -/
theorem chain_text (l : List ByteArray) (h : ∀ b ∈ l, b.size ≤ 65536) : ∃ es, Sm.Chain (textL l) 0 es ∧ Sm.bodiesOf (textL l) 0 es = l := by
  have hb : ∀ b ∈ lists l, b.length ≤ 65536 := fun b hb => by
    obtain ⟨x, hx, rfl⟩ := List.mem_map.1 hb
    have e2 : x.data.toList.length = x.size := by rw [Array.length_toList]; rfl
    rw [e2]; exact h x hx
  have h0 : Sm.Chain ([] ++ (Sm.frames (lists l) ++ [])) (([] : List UInt8).length + (Sm.frames (lists l)).length) [] := by
    refine .stop ?_
    unfold Sm.behindAt
    rw [if_neg]
    simp
  have h1 := Sm.chain_frames (lists l) [] [] [] hb h0
  have h2 := Sm.bodies_frames (lists l) [] [] []
  rw [List.nil_append, List.append_nil, List.append_nil] at h1 h2
  refine ⟨_, h1, ?_⟩
  refine h2.trans ?_
  have e3 : Sm.bodiesOf (Sm.frames (lists l)) (([] : List UInt8).length + (Sm.frames (lists l)).length) [] = [] := rfl
  rw [e3, List.append_nil]
  unfold lists
  rw [List.map_map]
  refine (List.map_congr_left fun b _ => ?_).trans (List.map_id _)
  simp
end Go.Proofs.YtbhjpkejdkfenaaGreatDoor
