/-
  Walks over package token: words, numbers, signs. Conditions: those in the theorems.
-/
import Derived.Test.YtlmjcnfiolbfpaaDoorTokLetter
import Derived.Deep.RegionWith
import Derived.Deep.LoopGhost
set_option linter.unusedSimpArgs false
set_option linter.unusedVariables false
namespace Go.Proofs.YtlmjcnfiolbfpaaDoor
open Go.RowKit

theorem list_at (s : ByteArray) (k : Nat) (h : k < s.size) : s.data.toList[k]'(by simpa using h) = s[k] := rfl
theorem list_len (s : ByteArray) : s.data.toList.length = s.size := by rw [Array.length_toList]; rfl
theorem not_empty {s : ByteArray} (h0 : 0 < s.size) : s.toList.isEmpty = false := by
  rw [← decide_eq_emptyBytes]; exact decide_eq_false (fun h => by rw [h] at h0; exact absurd h0 (by decide))
theorem is_empty {s : ByteArray} (h0 : s.size = 0) : s = ⟨#[]⟩ := by
  obtain ⟨d⟩ := s
  have h : d.size = 0 := h0
  rw [Array.eq_empty_of_size_eq_zero h]
theorem beq_int {a : Nat} {b : Nat} {v : Bool} (h : decide (a = b) = v) : (((a : Nat) : Int) == (b : Int)) = v := by
  rw [← h, Bool.eq_iff_iff]; simp; omega

set_option maxHeartbeats 2000000 in
theorem word_any (s : ByteArray) (w : World) (hm : s.size ≤ maxLen) : Calls Tryd.prog 48 #[.string s] w fun e w' => e = .returned (.int .i64 (Tk.word s.data.toList : Nat)) ∧ w' = w := by
  have hl := list_len s
  by_cases h0 : 0 < s.size
  · have he := not_empty h0
    have hlt := letter_any s[0] w
    have i0 : (0 : Int) < (s.size : Int) := by omega
    by_cases hc : Tk.letter s[0] = true
    · rw [hc] at hlt
      have hst : ∀ k (h1 : 1 ≤ k) (hk : k < s.size), k ≤ Tk.word s.data.toList → (Tk.wchar s[k] = true → k + 1 ≤ Tk.word s.data.toList) ∧ (Tk.wchar s[k] = false → Tk.word s.data.toList = k) :=
        fun k h1 hk hle => Tk.word_step (l := s.data.toList) (by omega) hc h1 (by omega) hle
      have hp : 1 ≤ Tk.word s.data.toList := Tk.word_pos (by omega) hc
      have hle : Tk.word s.data.toList ≤ s.size := by rw [← hl]; exact Tk.word_le _
      generalize Tk.word s.data.toList = n at *
      have HST := Lib.hid hst
      unfold maxLen at hm
      clear hst hl hc
      go_enter Tryd.func48, Tryd.ntmps48
      go_wp2_with (go_at_call 67; refine hlt.mono ?_; rintro e w' ⟨rfl, hw⟩; obtain rfl := hw)
      clear hlt
      go_loopw [3] (fun kv wr => ∃ k : Nat, 1 ≤ k ∧ k ≤ n ∧ kv = .int .i64 (k : Nat) ∧ wr = w') (fun kv _ => s.size - (intOf kv).toNat)
      case atStart => exact ⟨1, by omega, hp, rfl, rfl⟩
      case round =>
        obtain ⟨k, h1, hk, rfl, rfl⟩ := hrel
        by_cases hks : k < s.size
        · have i1 : (k : Int) < (s.size : Int) := by omega
          have i2 : (0 : Int) ≤ (k : Int) := by omega
          obtain ⟨hy, hn⟩ := HST.out k h1 hks hk
          have q1 := fun W => letter_any s[k] W
          have q2 := fun W => digit_any s[k] W
          have hw : Tk.wchar s[k] = (Tk.letter s[k] || Tk.digit s[k] || decide (s[k].toNat = 95)) := rfl
          rw [hw] at hy hn
          clear hw
          have q3 : ∀ v, decide (s[k].toNat = 95) = v → ((s[k].toNat : Int) == 95) = v := fun v h => beq_int (b := 95) h
          generalize Tk.letter s[k] = a at *
          generalize Tk.digit s[k] = b at *
          generalize decide (s[k].toNat = 95) = d at *
          have q4 := q3 d rfl
          clear q3
          cases a with
          | true =>
            have HY := Lib.hid (hy rfl)
            clear hy hn
            go_wp2_with (first | (go_at_call 67; refine (q1 _).mono ?_; rintro e w' ⟨rfl, hw'⟩; obtain rfl := hw') | (go_at_call 68; refine (q2 _).mono ?_; rintro e w' ⟨rfl, hw'⟩; obtain rfl := hw') | fail)
            go_roundw
            case rel => exact ⟨k + 1, by omega, HY.out, by go_num, by first | trivial | rfl⟩
            case measure => simp [intOf]; omega
          | false =>
            cases b with
            | true =>
              have HY := Lib.hid (hy rfl)
              clear hy hn
              go_wp2_with (first | (go_at_call 67; refine (q1 _).mono ?_; rintro e w' ⟨rfl, hw'⟩; obtain rfl := hw') | (go_at_call 68; refine (q2 _).mono ?_; rintro e w' ⟨rfl, hw'⟩; obtain rfl := hw') | fail)
              go_roundw
              case rel => exact ⟨k + 1, by omega, HY.out, by go_num, by first | trivial | rfl⟩
              case measure => simp [intOf]; omega
            | false =>
              cases d with
              | true =>
                have HY := Lib.hid (hy rfl)
                clear hy hn
                go_wp2_with (first | (go_at_call 67; refine (q1 _).mono ?_; rintro e w' ⟨rfl, hw'⟩; obtain rfl := hw') | (go_at_call 68; refine (q2 _).mono ?_; rintro e w' ⟨rfl, hw'⟩; obtain rfl := hw') | fail)
                go_roundw
                case rel => exact ⟨k + 1, by omega, HY.out, by go_num, by first | trivial | rfl⟩
                case measure => simp [intOf]; omega
              | false =>
                have HN := Lib.hid (hn rfl)
                clear hy hn
                go_wp2_with (first | (go_at_call 67; refine (q1 _).mono ?_; rintro e w' ⟨rfl, hw'⟩; obtain rfl := hw') | (go_at_call 68; refine (q2 _).mono ?_; rintro e w' ⟨rfl, hw'⟩; obtain rfl := hw') | fail)
                go_ret
                exact ⟨by rw [HN.out]; rfl, rfl⟩
        · have HN : Hid (n = k) := Lib.hid (by omega)
          have i1 : ¬ (k : Int) < (s.size : Int) := by omega
          go_wp2_with fail
          go_ret
          exact ⟨by rw [HN.out]; rfl, rfl⟩
    · have hz := Tk.word_none (l := s.data.toList) (by omega) ((Bool.not_eq_true _).mp hc)
      rw [hz]
      rw [(Bool.not_eq_true _).mp hc] at hlt
      clear hz hl hc
      go_enter Tryd.func48, Tryd.ntmps48
      go_wp2_with (go_at_call 67; refine hlt.mono ?_; rintro e w' ⟨rfl, hw⟩; obtain rfl := hw)
      go_ret
      exact ⟨rfl, rfl⟩
  · obtain rfl := is_empty (show s.size = 0 by omega)
    clear hl h0 hm
    go_enter Tryd.func48, Tryd.ntmps48
    go_wp2_with fail
    go_ret
    exact ⟨rfl, rfl⟩

set_option maxHeartbeats 2000000 in
theorem number_any (s : ByteArray) (w : World) (hm : s.size ≤ maxLen) : Calls Tryd.prog 49 #[.string s] w fun e w' => e = .returned (.int .i64 (Tk.number s.data.toList : Nat)) ∧ w' = w := by
  have hl := list_len s
  have hst : ∀ k (hk : k < s.size), k ≤ Tk.number s.data.toList → (Tk.digit s[k] = true → k + 1 ≤ Tk.number s.data.toList) ∧ (Tk.digit s[k] = false → Tk.number s.data.toList = k) :=
    fun k hk hle => Tk.run_step Tk.digit s.data.toList k (by omega) hle
  have hle : Tk.number s.data.toList ≤ s.size := by rw [← hl]; exact Tk.run_le _ _
  generalize Tk.number s.data.toList = n at *
  have HST := Lib.hid hst
  unfold maxLen at hm
  clear hst hl
  go_enter Tryd.func49, Tryd.ntmps49
  go_wp2_with fail
  go_loopw [3] (fun kv wr => ∃ k : Nat, k ≤ n ∧ kv = .int .i64 (k : Nat) ∧ wr = w) (fun kv _ => s.size - (intOf kv).toNat)
  case atStart => exact ⟨0, by omega, rfl, rfl⟩
  case round =>
    obtain ⟨k, hk, rfl, rfl⟩ := hrel
    by_cases hks : k < s.size
    · have i1 : (k : Int) < (s.size : Int) := by omega
      have i2 : (0 : Int) ≤ (k : Int) := by omega
      obtain ⟨hy, hn⟩ := HST.out k hks hk
      have q2 := digit_any s[k] wr
      generalize Tk.digit s[k] = b at *
      cases b with
      | true =>
        have HY := Lib.hid (hy rfl)
        clear hy hn
        go_wp2_with (go_at_call 68; refine q2.mono ?_; rintro e w' ⟨rfl, hw'⟩; obtain rfl := hw')
        go_roundw
        case rel => exact ⟨k + 1, HY.out, by go_num, by first | trivial | rfl⟩
        case measure => simp [intOf]; omega
      | false =>
        have HN := Lib.hid (hn rfl)
        clear hy hn
        go_wp2_with (go_at_call 68; refine q2.mono ?_; rintro e w' ⟨rfl, hw'⟩; obtain rfl := hw')
        go_ret
        exact ⟨by rw [HN.out]; rfl, rfl⟩
    · have HN : Hid (n = k) := Lib.hid (by omega)
      have i1 : ¬ (k : Int) < (s.size : Int) := by omega
      go_wp2_with fail
      go_ret
      exact ⟨by rw [HN.out]; rfl, rfl⟩

theorem sign_c (c : UInt8) (r : List UInt8) : Tk.sign (c :: r) = if Tk.two 45 62 (c :: r) then 2 else if Tk.signC c then 1 else 0 := rfl
set_option maxHeartbeats 2000000 in
theorem sign_any (s : ByteArray) (w : World) (hm : s.size ≤ maxLen) : Calls Tryd.prog 51 #[.string s] w fun e w' => e = .returned (.int .i64 (Tk.sign s.data.toList : Nat)) ∧ w' = w := by
  have hl := list_len s
  have hp := tk_strings_HasPrefix s ⟨#[45, 62]⟩ w
  rw [show (⟨#[45, 62]⟩ : ByteArray).data.toList = [45, 62] from rfl, two_prefix] at hp
  by_cases h0 : 0 < s.size
  · have he := not_empty h0
    have hi := fun W => tk_strings_IndexByte ⟨#[123, 125, 40, 41, 59, 58, 44, 46]⟩ (s[0].toNat : Int) W
    rw [show (⟨#[123, 125, 40, 41, 59, 58, 44, 46]⟩ : ByteArray).data.toList = [123, 125, 40, 41, 59, 58, 44, 46] from rfl, u8_back] at hi
    have hsi := sign_index s[0]
    obtain ⟨r, hr⟩ : ∃ r, s.data.toList = s[0] :: r := by
      cases hL : s.data.toList with
      | nil => rw [hL] at hl; simp at hl; omega
      | cons c r =>
        refine ⟨r, ?_⟩
        have : s.data.toList[0]'(by omega) = s[0] := rfl
        simp only [hL, List.getElem_cons_zero] at this
        rw [this]
    have hs := sign_c s[0] r
    rw [← hr] at hs
    generalize Go.Lib.indexByte [123, 125, 40, 41, 59, 58, 44, 46] s[0] = x at *
    rw [show (45 : UInt8).toNat = 45 from rfl, show (62 : UInt8).toNat = 62 from rfl] at hp
    rw [hs]
    clear hr hs hl
    unfold maxLen at hm
    generalize Tk.two 45 62 s.data.toList = tt at *
    cases tt with
    | true =>
      go_enter Tryd.func51, Tryd.ntmps51
      go_wp2_with (first | (go_at_call 46; refine hp.mono ?_; rintro e w' ⟨rfl, hw⟩; obtain rfl := hw) | fail)
      go_ret
      exact ⟨rfl, rfl⟩
    | false =>
      cases hsc : Tk.signC s[0] with
      | true =>
        have hx : (0 : Int) ≤ x := by rw [hsc] at hsi; exact of_decide_eq_true hsi
        clear hsi hsc
        go_enter Tryd.func51, Tryd.ntmps51
        go_wp2_with (first | (go_at_call 46; refine hp.mono ?_; rintro e w' ⟨rfl, hw⟩; obtain rfl := hw) | (go_at_call 45; refine (hi _).mono ?_; rintro e w' ⟨rfl, hw⟩; obtain rfl := hw) | fail)
        go_ret
        exact ⟨rfl, rfl⟩
      | false =>
        have hx : ¬ (0 : Int) ≤ x := by rw [hsc] at hsi; exact of_decide_eq_false hsi
        clear hsi hsc
        go_enter Tryd.func51, Tryd.ntmps51
        go_wp2_with (first | (go_at_call 46; refine hp.mono ?_; rintro e w' ⟨rfl, hw⟩; obtain rfl := hw) | (go_at_call 45; refine (hi _).mono ?_; rintro e w' ⟨rfl, hw⟩; obtain rfl := hw) | fail)
        go_ret
        exact ⟨rfl, rfl⟩
  · obtain rfl := is_empty (show s.size = 0 by omega)
    rw [show Tk.two (45 : UInt8).toNat (62 : UInt8).toNat (⟨#[]⟩ : ByteArray).data.toList = false from rfl] at hp
    clear hl h0 hm
    go_enter Tryd.func51, Tryd.ntmps51
    go_wp2_with (first | (go_at_call 46; refine hp.mono ?_; rintro e w' ⟨rfl, hw⟩; obtain rfl := hw) | fail)
    go_ret
    exact ⟨rfl, rfl⟩
end Go.Proofs.YtlmjcnfiolbfpaaDoor
