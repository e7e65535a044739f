/-
  Walks over package token and over the document's: Keyword, Name. Conditions: those in the theorems (the keywords' variable holds what the row lists).
-/
import Derived.Test.YtlmjcnfiolbfpaaDoorTokWord
import Derived.Laws.Rows
import Derived.Lib.LaidTab
set_option linter.unusedSimpArgs false
set_option linter.unusedVariables false
namespace Tk
def kwds : List (List UInt8) := [[109, 111, 100, 117, 108, 101], [114, 101, 99, 111, 114, 100], [99, 104, 111, 105, 99, 101], [115, 101, 114, 118, 105, 99, 101], [115, 97, 103, 97], [100, 111], [97, 116], [117, 110, 100, 111], [103, 105, 118, 101], [116, 97, 107, 101], [110, 111, 116, 101], [110, 111, 110, 101], [98, 111, 111, 108], [105, 110, 116], [116, 101, 120, 116], [108, 105, 115, 116], [111, 112, 116]]
def keyword (s : ByteArray) : Bool := kwds.any fun k => k == s.data.toList
def name (s : ByteArray) : Bool := decide (0 < word s.data.toList) && decide (word s.data.toList = s.size) && decide (word s.data.toList ≤ 32) && !keyword s
end Tk
namespace Go.Proofs.YtlmjcnfiolbfpaaDoor
open Go.RowKit
theorem bytes_iff' {a b : ByteArray} : a = b ↔ a.toList = b.toList := by
  refine ⟨fun h => by rw [h], fun h => ?_⟩
  rw [Go.Lib.toList_data, Go.Lib.toList_data] at h
  obtain ⟨⟨a⟩⟩ := a
  obtain ⟨⟨b⟩⟩ := b
  simpa using h
def kwArr : Array Value := [.string ⟨#[109, 111, 100, 117, 108, 101]⟩, .string ⟨#[114, 101, 99, 111, 114, 100]⟩, .string ⟨#[99, 104, 111, 105, 99, 101]⟩, .string ⟨#[115, 101, 114, 118, 105, 99, 101]⟩, .string ⟨#[115, 97, 103, 97]⟩, .string ⟨#[100, 111]⟩, .string ⟨#[97, 116]⟩, .string ⟨#[117, 110, 100, 111]⟩, .string ⟨#[103, 105, 118, 101]⟩, .string ⟨#[116, 97, 107, 101]⟩, .string ⟨#[110, 111, 116, 101]⟩, .string ⟨#[110, 111, 110, 101]⟩, .string ⟨#[98, 111, 111, 108]⟩, .string ⟨#[105, 110, 116]⟩, .string ⟨#[116, 101, 120, 116]⟩, .string ⟨#[108, 105, 115, 116]⟩, .string ⟨#[111, 112, 116]⟩].toArray
/-- The variable holds the keywords. -/
def KwIs (w : World) : Prop := ∃ t fr, w.heap[0]? = some (.cells kwArr t fr)
theorem kw_at (k : Nat) (hk : k < 17) (w : World) : (Instr.index 117 (.agg kwArr) (.int .i64 (k : Nat))).run Tryd.prog w = .ok (.string (Tk.bs (Tk.kwds[k]'(by show k < 17; exact hk)))) w := by
  revert w
  obtain rfl | rfl | rfl | rfl | rfl | rfl | rfl | rfl | rfl | rfl | rfl | rfl | rfl | rfl | rfl | rfl | rfl : k = 0 ∨ k = 1 ∨ k = 2 ∨ k = 3 ∨ k = 4 ∨ k = 5 ∨ k = 6 ∨ k = 7 ∨ k = 8 ∨ k = 9 ∨ k = 10 ∨ k = 11 ∨ k = 12 ∨ k = 13 ∨ k = 14 ∨ k = 15 ∨ k = 16 := by omega
  all_goals (intro w; kernel_rfl)
theorem kw_any (s : ByteArray) (k : Nat) (hk : k < 17) (h : s = Tk.bs (Tk.kwds[k]'(by show k < 17; exact hk))) : Tk.keyword s = true := by
  unfold Tk.keyword
  rw [List.any_eq_true]
  exact ⟨_, List.getElem_mem (by show k < 17; exact hk), by rw [h]; simp [Tk.bs]⟩
theorem kw_none (s : ByteArray) (h : ∀ k, (hk : k < 17) → s ≠ Tk.bs (Tk.kwds[k]'(by show k < 17; exact hk))) : Tk.keyword s = false := by
  unfold Tk.keyword
  rw [List.any_eq_false]
  intro x hx
  obtain ⟨i, hi, rfl⟩ := List.getElem_of_mem hx
  intro e
  refine h i hi ?_
  have e2 := eq_of_beq e
  rw [e2]; rfl
set_option maxRecDepth 100000 in
set_option maxHeartbeats 4000000 in
theorem Keyword_any (s : ByteArray) (w : World) (hw : KwIs w) : Calls Tryd.prog 70 #[.string s] w fun e w' => e = .returned (.bool (Tk.keyword s)) ∧ w' = w := by
  obtain ⟨t, fr, hg⟩ := hw
  have HI := Lib.hid kw_at
  have HA := Lib.hid (kw_any s)
  have HN := Lib.hid (kw_none s)
  go_enter Tryd.func70, Tryd.ntmps70
  go_wp2_with (refine wpList_load_row rfl 117 _ rfl 0 rfl t _ fr _ hg Tryd.underlying117 rfl (by kernel_rfl) ?_)
  clear hg
  go_loopw [4, 6] (fun _ kv wr => ∃ k : Nat, k ≤ 17 ∧ kv = .int .i64 (k : Nat) ∧ Hid (∀ j, j < k → (hj : j < 17) → s ≠ Tk.bs (Tk.kwds[j]'(by show j < 17; exact hj))) ∧ wr = w) (fun _ kv _ => 17 - (intOf kv).toNat)
  case atStart => exact ⟨0, Nat.zero_le _, rfl, Lib.hid (fun j hj => absurd hj (Nat.not_lt_zero _)), rfl⟩
  case round =>
    obtain ⟨k, hk, rfl, H, rfl⟩ := hrel
    by_cases hlt : k < 17
    · have i1 : (k : Int) < 17 := by omega
      have i2 : (0 : Int) ≤ (k : Int) := by omega
      have hi := HI.out k hlt
      by_cases he : s = Tk.bs (Tk.kwds[k]'(by show k < 17; exact hlt))
      · have HY := Lib.hid (HA.out k hlt he)
        have q : (s.toList == (Tk.bs (Tk.kwds[k]'(by show k < 17; exact hlt))).toList) = true := by rw [← he]; exact beq_self_eq_true _
        clear he
        generalize Tk.bs (Tk.kwds[k]'(by show k < 17; exact hlt)) = x at *
        go_wp2_with fail
        go_ret
        exact ⟨by rw [HY.out]; rfl, rfl⟩
      · have q : (s.toList == (Tk.bs (Tk.kwds[k]'(by show k < 17; exact hlt))).toList) = false := by rw [beq_eq_false_iff_ne]; exact fun h => he (bytes_iff'.2 h)
        have HK : Hid (∀ j, j < k + 1 → (hj : j < 17) → s ≠ Tk.bs (Tk.kwds[j]'(by show j < 17; exact hj))) := Lib.hid fun j hj hj2 => by
          rcases Nat.lt_or_ge j k with h1 | h1
          · exact H.out j h1 hj2
          · have : j = k := by omega
            subst this; exact he
        clear he
        generalize Tk.bs (Tk.kwds[k]'(by show k < 17; exact hlt)) = x at *
        go_wp2_with fail
        go_roundw
        case rel => exact ⟨k + 1, by omega, by go_num, HK, by first | trivial | rfl⟩
        case measure => simp [intOf]; omega
    · have i1 : ¬ (k : Int) < 17 := by omega
      have HY := Lib.hid (HN.out fun j hj => H.out j (by omega) hj)
      go_wp2_with fail
      go_ret
      exact ⟨by rw [HY.out]; rfl, rfl⟩
end Go.Proofs.YtlmjcnfiolbfpaaDoor
