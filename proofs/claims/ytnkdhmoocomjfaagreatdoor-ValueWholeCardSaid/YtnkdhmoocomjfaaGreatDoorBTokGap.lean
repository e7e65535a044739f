/-
  Walks over the document's answer for tokens: Gap. Conditions: those in the theorems.
-/
import Derived.Test.YtnkdhmoocomjfaaGreatDoorTokBase
set_option linter.unusedSimpArgs false
set_option linter.unusedVariables false
namespace Tk
theorem two_iff {l : List UInt8} {k a b : Nat} (h : k < l.length) : two a b (l.drop k) = true ↔ l[k].toNat = a ∧ ∃ h2 : k + 1 < l.length, l[k + 1].toNat = b := by
  rw [List.drop_eq_getElem_cons h]
  by_cases h2 : k + 1 < l.length
  · rw [List.drop_eq_getElem_cons h2]
    simp only [two, Bool.and_eq_true, decide_eq_true_eq]
    exact ⟨fun ⟨x, y⟩ => ⟨x, h2, y⟩, fun ⟨x, _, y⟩ => ⟨x, y⟩⟩
  · rw [List.drop_of_length_le (by omega)]
    simp only [two]
    exact ⟨fun e => by simp at e, fun ⟨_, e, _⟩ => absurd e h2⟩
theorem line_step {l : List UInt8} {k j : Nat} (hkj : k ≤ j) (hj : j < l.length) (hle : j ≤ k + line (l.drop k)) :
    (l[j].toNat ≠ 10 → j + 1 ≤ k + line (l.drop k)) ∧ (l[j].toNat = 10 → k + line (l.drop k) = j) := by
  have hlt : j - k < (l.drop k).length := by rw [List.length_drop]; omega
  have h := run_step noLine (l.drop k) (j - k) hlt (by unfold line at hle; omega)
  have he : (l.drop k)[j - k] = l[j] := by rw [List.getElem_drop]; congr 1; omega
  rw [he] at h
  unfold line
  exact ⟨fun e => by have := h.1 (by simp [noLine, e]); omega, fun e => by have := h.2 (by simp [noLine, e]); omega⟩
end Tk
namespace Go.Proofs.YtnkdhmoocomjfaaGreatDoor
open Go.RowKit

theorem beq_no {a b : Nat} (h : a ≠ b) : (((a : Nat) : Int) == (b : Int)) = false := by rw [beq_eq_false_iff_ne]; omega
theorem bne_yes {a b : Nat} (h : a ≠ b) : (((a : Nat) : Int) != (b : Int)) = true := by rw [bne_iff_ne]; omega

set_option maxRecDepth 100000 in
set_option maxHeartbeats 4000000 in
theorem Gap_any (s : ByteArray) (a : Nat) (w : World) (ha : a ≤ s.size) (hm : s.size ≤ maxLen) :
    Calls Tryz.prog 142 #[.string s, .int .i64 (a : Nat)] w fun e w' => e = .returned (.int .i64 (a + Tk.skip (s.data.toList.drop a) : Nat)) ∧ w' = w := by
  have hl := list_len s
  obtain ⟨n, hn⟩ : ∃ n, n = a + Tk.skip (s.data.toList.drop a) := ⟨_, rfl⟩
  have HN := Lib.hid hn
  rw [← hn]
  have hm2 : s.size ≤ 9223372036854775807 := hm
  have HST : Hid (∀ k (hk : k < s.size), n = k + Tk.skip (s.data.toList.drop k) →
      (Tk.blank s[k] = true → n = (k + 1 : Nat) + Tk.skip (s.data.toList.drop (k + 1))) ∧
      (Tk.two 47 47 (s.data.toList.drop k) = true → Tk.blank s[k] = false → 1 ≤ Tk.line (s.data.toList.drop k) ∧ k + Tk.line (s.data.toList.drop k) ≤ s.size ∧ n = (k + Tk.line (s.data.toList.drop k)) + Tk.skip (s.data.toList.drop (k + Tk.line (s.data.toList.drop k)))) ∧
      (Tk.two 47 47 (s.data.toList.drop k) = false → Tk.blank s[k] = false → n = k)) := Lib.hid fun k hk e =>
    ⟨fun h => by rw [e, Tk.skip_at (by omega) h]; omega,
     fun h _ => ⟨Tk.line_pos h, by have := Tk.line_le (s.data.toList.drop k); rw [List.length_drop, hl] at this; omega, by rw [e]; have := Tk.skip_at_remark h; omega⟩,
     fun h hb => by rw [e, Tk.skip_at_none (by omega) hb h]; omega⟩
  have HEND : Hid (∀ k, s.size ≤ k → n = k + Tk.skip (s.data.toList.drop k) → n = k) := Lib.hid fun k hk e => by rw [e, Tk.skip_at_end (by omega)]; omega
  have HTW : Hid (∀ k (hk : k < s.size), Tk.two 47 47 (s.data.toList.drop k) = true ↔ s[k].toNat = 47 ∧ ∃ h2 : k + 1 < s.size, s[k + 1].toNat = 47) := Lib.hid fun k hk => by
    have := Tk.two_iff (a := 47) (b := 47) (l := s.data.toList) (k := k) (by omega)
    rw [this]
    constructor
    · rintro ⟨x, h2, y⟩; exact ⟨x, by omega, y⟩
    · rintro ⟨x, h2, y⟩; exact ⟨x, by omega, y⟩
  have HLS : Hid (∀ k j (hkj : k ≤ j) (hj : j < s.size), j ≤ k + Tk.line (s.data.toList.drop k) → (s[j].toNat ≠ 10 → j + 1 ≤ k + Tk.line (s.data.toList.drop k)) ∧ (s[j].toNat = 10 → k + Tk.line (s.data.toList.drop k) = j)) :=
    Lib.hid fun k j hkj hj hle => Tk.line_step (l := s.data.toList) hkj (by omega) hle
  clear hl hn hm
  go_enter Tryz.func142, Tryz.ntmps142
  go_wp2_with fail
  go_loopw [1, 5] (fun kv _ wr => ∃ k : Nat, k ≤ s.size ∧ kv = .int .i64 (k : Nat) ∧ Hid (n = k + Tk.skip (s.data.toList.drop k)) ∧ wr = w) (fun kv _ _ => s.size - (intOf kv).toNat)
  case atStart => exact ⟨a, ha, rfl, HN, rfl⟩
  case round =>
    obtain ⟨k, hk, rfl, HK, rfl⟩ := hrel
    by_cases hks : k < s.size
    · have j1 : (k : Int) < (s.size : Int) := by omega
      have j2 : (0 : Int) ≤ (k : Int) := by omega
      obtain ⟨y1, y2, y3⟩ := HST.out k hks HK.out
      have htw := HTW.out k hks
      by_cases hbl : s[k].toNat = 32 ∨ s[k].toNat = 9 ∨ s[k].toNat = 10 ∨ s[k].toNat = 13
      · have HY := Lib.hid (y1 (by simp only [Tk.blank, Bool.or_eq_true, decide_eq_true_eq]; omega))
        clear y1 y2 y3 htw
        rcases hbl with hbl | hbl | hbl | hbl
        all_goals
          go_wp2_with fail
          go_roundw
          case rel => exact ⟨k + 1, by omega, by go_num, HY, by first | trivial | rfl⟩
          case measure => simp [intOf]; omega
      · have hbf : Tk.blank s[k] = false := by
          rw [← Bool.not_eq_true]
          simp only [Tk.blank, Bool.or_eq_true, decide_eq_true_eq]; omega
        have b1 : ((s[k].toNat : Int) == 32) = false := beq_no (b := 32) (by omega)
        have b2 : ((s[k].toNat : Int) == 9) = false := beq_no (b := 9) (by omega)
        have b3 : ((s[k].toNat : Int) == 10) = false := beq_no (b := 10) (by omega)
        have b4 : ((s[k].toNat : Int) == 13) = false := beq_no (b := 13) (by omega)
        clear y1 hbl
        by_cases hc : s[k].toNat = 47
        · by_cases h2 : k + 1 < s.size
          · have j3 : (k : Int) + 1 < (s.size : Int) := by omega
            by_cases hd : s[k + 1].toNat = 47
            · obtain ⟨z1, z2, z3⟩ := y2 (htw.2 ⟨hc, h2, hd⟩) hbf
              have HY := Lib.hid z3
              have HJ : Hid (∀ j (hkj : k ≤ j) (hj : j < s.size), j ≤ k + Tk.line (s.data.toList.drop k) → (s[j].toNat ≠ 10 → j + 1 ≤ k + Tk.line (s.data.toList.drop k)) ∧ (s[j].toNat = 10 → k + Tk.line (s.data.toList.drop k) = j)) := Lib.hid (HLS.out k)
              generalize Tk.line (s.data.toList.drop k) = m at *
              have HD := Lib.hid hd
              clear y2 y3 htw hbf z3
              go_wp2_with fail
              obtain ⟨W1, hW1⟩ : ∃ W1, W1 = wr := ⟨_, rfl⟩
              rw [← hW1]
              have HW1 := Lib.hid hW1
              clear hW1
              go_loopw [1] (fun jv wr2 => ∃ j : Nat, k ≤ j ∧ j ≤ k + m ∧ jv = .int .i64 (j : Nat) ∧ wr2 = W1) (fun jv _ => s.size - (intOf jv).toNat)
              case atStart => exact ⟨k, Nat.le_refl _, by omega, rfl, rfl⟩
              case round =>
                obtain ⟨j, hkj, hj, rfl, rfl⟩ := hrel
                clear hc hd b1 b2 b3 b4
                by_cases hjs : j < s.size
                · have l1 : (j : Int) < (s.size : Int) := by omega
                  have l2 : (0 : Int) ≤ (j : Int) := by omega
                  obtain ⟨x1, x2⟩ := HJ.out j hkj hjs hj
                  by_cases h10 : s[j].toNat = 10
                  · have HX := Lib.hid (x2 h10)
                    clear x1 x2
                    go_wp2_with fail
                    go_roundw
                    case rel => exact ⟨k + m, by omega, by rw [HX.out], HY, by first | trivial | exact HW1.out | rfl⟩
                    case measure => have := HX.out; simp [intOf]; omega
                  · have HX := Lib.hid (x1 h10)
                    have bb : ((s[j].toNat : Int) != 10) = true := bne_yes (b := 10) h10
                    clear x1 x2 h10
                    go_wp2_with fail
                    go_roundw
                    case rel => exact ⟨j + 1, by omega, HX.out, by go_num, by first | trivial | rfl⟩
                    case measure => simp [intOf]; omega
                · have HX : Hid (k + m = j) := Lib.hid (by omega)
                  have l1 : ¬ (j : Int) < (s.size : Int) := by omega
                  go_wp2_with fail
                  go_roundw
                  case rel => exact ⟨k + m, by omega, by rw [HX.out], HY, by first | trivial | exact HW1.out | rfl⟩
                  case measure => have := HX.out; simp [intOf]; omega
            · have HY := Lib.hid (y3 (by rw [← Bool.not_eq_true]; intro e; obtain ⟨_, _, e2⟩ := htw.1 e; exact hd e2) hbf)
              have b5 : ((s[k + 1].toNat : Int) == 47) = false := beq_no (b := 47) hd
              clear y2 y3 htw hbf hd
              go_wp2_with fail
              go_ret
              exact ⟨by rw [HY.out]; rfl, rfl⟩
          · have j3 : ¬ (k : Int) + 1 < (s.size : Int) := by omega
            have HY := Lib.hid (y3 (by rw [← Bool.not_eq_true]; intro e; obtain ⟨_, e2, _⟩ := htw.1 e; exact h2 e2) hbf)
            clear y2 y3 htw hbf
            go_wp2_with fail
            go_ret
            exact ⟨by rw [HY.out]; rfl, rfl⟩
        · have HY := Lib.hid (y3 (by rw [← Bool.not_eq_true]; intro e; exact hc (htw.1 e).1) hbf)
          have b5 : ((s[k].toNat : Int) == 47) = false := beq_no (b := 47) hc
          clear y2 y3 htw hbf hc
          go_wp2_with fail
          go_ret
          exact ⟨by rw [HY.out]; rfl, rfl⟩
    · have HY := Lib.hid (HEND.out k (by omega) HK.out)
      have j1 : ¬ (k : Int) < (s.size : Int) := by omega
      go_wp2_with fail
      go_ret
      exact ⟨by rw [HY.out]; rfl, rfl⟩
end Go.Proofs.YtnkdhmoocomjfaaGreatDoor
