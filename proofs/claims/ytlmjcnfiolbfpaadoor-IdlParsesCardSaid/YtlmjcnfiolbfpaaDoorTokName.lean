/-
  Walks over package token and over the document's: Keyword of the document, Name of both. Conditions: those in the theorems (the keywords' variable holds what the row lists).
-/
import Derived.Test.YtlmjcnfiolbfpaaDoorTokKey
import Derived.Test.YtlmjcnfiolbfpaaDoorTokRow
set_option linter.unusedSimpArgs false
set_option linter.unusedVariables false
namespace Go.Proofs.YtlmjcnfiolbfpaaDoor
open Go.RowKit
set_option maxRecDepth 100000 in
set_option maxHeartbeats 8000000 in
theorem RefKeyword_any (s : ByteArray) (w : World) : Calls Tryd.prog 78 #[.string s] w fun e w' => e = .returned (.bool (Tk.keyword s)) ∧ w' = w := by
  by_cases h : Tk.keyword s = true
  · rw [h]
    unfold Tk.keyword at h
    obtain ⟨x, hx, he⟩ := List.any_eq_true.1 h
    have hs : s = Tk.bs x := by rw [eq_of_beq he]; rfl
    unfold Tk.kwds at hx
    simp only [List.mem_cons, List.not_mem_nil, or_false] at hx
    clear h he
    rcases hx with rfl | rfl | rfl | rfl | rfl | rfl | rfl | rfl | rfl | rfl | rfl | rfl | rfl | rfl | rfl | rfl | rfl
    all_goals
      subst hs
      unfold Tk.bs
      go_enter Tryd.func78, Tryd.ntmps78
      go_wp2_with fail
      go_ret
      exact ⟨rfl, rfl⟩
  · rw [(Bool.not_eq_true _).mp h]
    have key : ∀ k, (hk : k < 17) → (s.toList == Tk.kwds[k]'(by show k < 17; exact hk)) = false := fun k hk => by
      rw [beq_eq_false_iff_ne]
      exact fun e => h (kw_any s k hk (bytes_iff'.2 (by rw [e, Go.Lib.toList_data]; simp [Tk.bs])))
    have q0 : (s.toList == ([109, 111, 100, 117, 108, 101] : List UInt8)) = false := key 0 (by omega)
    have q1 : (s.toList == ([114, 101, 99, 111, 114, 100] : List UInt8)) = false := key 1 (by omega)
    have q2 : (s.toList == ([99, 104, 111, 105, 99, 101] : List UInt8)) = false := key 2 (by omega)
    have q3 : (s.toList == ([115, 101, 114, 118, 105, 99, 101] : List UInt8)) = false := key 3 (by omega)
    have q4 : (s.toList == ([115, 97, 103, 97] : List UInt8)) = false := key 4 (by omega)
    have q5 : (s.toList == ([100, 111] : List UInt8)) = false := key 5 (by omega)
    have q6 : (s.toList == ([97, 116] : List UInt8)) = false := key 6 (by omega)
    have q7 : (s.toList == ([117, 110, 100, 111] : List UInt8)) = false := key 7 (by omega)
    have q8 : (s.toList == ([103, 105, 118, 101] : List UInt8)) = false := key 8 (by omega)
    have q9 : (s.toList == ([116, 97, 107, 101] : List UInt8)) = false := key 9 (by omega)
    have q10 : (s.toList == ([110, 111, 116, 101] : List UInt8)) = false := key 10 (by omega)
    have q11 : (s.toList == ([110, 111, 110, 101] : List UInt8)) = false := key 11 (by omega)
    have q12 : (s.toList == ([98, 111, 111, 108] : List UInt8)) = false := key 12 (by omega)
    have q13 : (s.toList == ([105, 110, 116] : List UInt8)) = false := key 13 (by omega)
    have q14 : (s.toList == ([116, 101, 120, 116] : List UInt8)) = false := key 14 (by omega)
    have q15 : (s.toList == ([108, 105, 115, 116] : List UInt8)) = false := key 15 (by omega)
    have q16 : (s.toList == ([111, 112, 116] : List UInt8)) = false := key 16 (by omega)
    clear key h
    go_enter Tryd.func78, Tryd.ntmps78
    go_wp2_with fail
    go_ret
    exact ⟨rfl, rfl⟩
set_option maxHeartbeats 4000000 in
theorem Name_any (s : ByteArray) (w : World) (hm : s.size ≤ maxLen) (hk : KwIs w) : Calls Tryd.prog 57 #[.string s] w fun e w' => e = .returned (.bool (Tk.name s)) ∧ w' = w := by
  have q1 := word_any s w hm
  have q2 := Keyword_any s w hk
  have hle : Tk.word s.data.toList ≤ s.size := by rw [← list_len s]; exact Tk.word_le _
  unfold Tk.name
  generalize Tk.word s.data.toList = n at *
  generalize Tk.keyword s = kb at *
  have hm2 : s.size ≤ 9223372036854775807 := hm
  clear hk hm
  by_cases h1 : 0 < n
  · have i1 : (0 : Int) < (n : Int) := by omega
    have i1n : decide (0 < n) = true := decide_eq_true h1
    by_cases h2 : n = s.size
    · have i2 : ((n : Int) == (s.size : Int)) = true := by rw [beq_iff_eq]; omega
      have i2n : decide (n = s.size) = true := decide_eq_true h2
      rw [i1n, i2n]
      clear h2 i1n i2n
      by_cases h3 : n ≤ 32
      · have i3 : (n : Int) ≤ 32 := by omega
        rw [decide_eq_true h3]
        cases kb with
        | true =>
          go_enter Tryd.func57, Tryd.ntmps57
          go_wp2_with (first | (go_at_call 48; refine q1.mono ?_; rintro e w' ⟨rfl, hw'⟩; obtain rfl := hw') | (go_at_call 70; refine q2.mono ?_; rintro e w' ⟨rfl, hw'⟩; obtain rfl := hw') | fail)
          go_ret
          exact ⟨rfl, rfl⟩
        | false =>
          go_enter Tryd.func57, Tryd.ntmps57
          go_wp2_with (first | (go_at_call 48; refine q1.mono ?_; rintro e w' ⟨rfl, hw'⟩; obtain rfl := hw') | (go_at_call 70; refine q2.mono ?_; rintro e w' ⟨rfl, hw'⟩; obtain rfl := hw') | fail)
          go_ret
          exact ⟨rfl, rfl⟩
      · have i3 : ¬ (n : Int) ≤ 32 := by omega
        rw [decide_eq_false h3]
        clear q2
        go_enter Tryd.func57, Tryd.ntmps57
        go_wp2_with (first | (go_at_call 48; refine q1.mono ?_; rintro e w' ⟨rfl, hw'⟩; obtain rfl := hw') | fail)
        go_ret
        exact ⟨rfl, rfl⟩
    · have i2 : ((n : Int) == (s.size : Int)) = false := by rw [beq_eq_false_iff_ne]; omega
      rw [i1n, decide_eq_false h2]
      clear h2 i1n q2
      go_enter Tryd.func57, Tryd.ntmps57
      go_wp2_with (first | (go_at_call 48; refine q1.mono ?_; rintro e w' ⟨rfl, hw'⟩; obtain rfl := hw') | fail)
      go_ret
      exact ⟨rfl, rfl⟩
  · have i1 : ¬ (0 : Int) < (n : Int) := by omega
    rw [decide_eq_false h1]
    clear h1 q2
    go_enter Tryd.func57, Tryd.ntmps57
    go_wp2_with (first | (go_at_call 48; refine q1.mono ?_; rintro e w' ⟨rfl, hw'⟩; obtain rfl := hw') | fail)
    go_ret
    exact ⟨rfl, rfl⟩
theorem beq_no' {a b : Nat} (h : a ≠ b) : (((a : Nat) : Int) == (b : Int)) = false := by rw [beq_eq_false_iff_ne]; omega
theorem name_false_1 {s : ByteArray} (h : Tk.word s.data.toList = 0) : Tk.name s = false := by unfold Tk.name; rw [h]; rfl
set_option maxRecDepth 100000 in
set_option maxHeartbeats 8000000 in
theorem RefName_any (s : ByteArray) (w : World) (hm : s.size ≤ maxLen) : Calls Tryd.prog 63 #[.string s] w fun e w' => e = .returned (.bool (Tk.name s)) ∧ w' = w := by
  have hl := list_len s
  have hm2 : s.size ≤ 9223372036854775807 := hm
  by_cases h0 : 0 < s.size
  · have g0 : ((s.size : Int) == 0) = false := beq_no' (b := 0) (by omega)
    have j0 : (0 : Int) < (s.size : Int) := by omega
    by_cases h32 : 32 < s.size
    · have i1 : (32 : Int) < (s.size : Int) := by omega
      have hf : Tk.name s = false := by
        unfold Tk.name
        by_cases h : Tk.word s.data.toList = s.size
        · rw [decide_eq_false (show ¬ Tk.word s.data.toList ≤ 32 by omega)]; simp
        · rw [decide_eq_false h]; simp
      rw [hf]
      clear hl hf
      go_enter Tryd.func63, Tryd.ntmps63
      go_wp2_with fail
      go_ret
      exact ⟨rfl, rfl⟩
    · have i1 : ¬ (32 : Int) < (s.size : Int) := by omega
      have qL := fun W => rletter_any s[0] W
      cases hc : Tk.letter s[0] with
      | false =>
        have hf := name_false_1 (Tk.word_none (l := s.data.toList) (by omega) hc)
        rw [hf]
        rw [hc] at qL
        clear hl hf hc
        go_enter Tryd.func63, Tryd.ntmps63
        go_wp2_with (first | (go_at_call 61; refine (qL _).mono ?_; rintro e w' ⟨rfl, hw'⟩; obtain rfl := hw') | fail)
        go_ret
        exact ⟨rfl, rfl⟩
      | true =>
        have qK := fun W => RefKeyword_any s W
        rw [hc] at qL
        have hp := Tk.word_pos (l := s.data.toList) (by omega) hc
        have hle : Tk.word s.data.toList ≤ s.size := by rw [← hl]; exact Tk.word_le _
        have hst : ∀ k (h1 : 1 ≤ k) (hk : k < s.size), k ≤ Tk.word s.data.toList → (Tk.wchar s[k] = true → k + 1 ≤ Tk.word s.data.toList) ∧ (Tk.wchar s[k] = false → Tk.word s.data.toList = k) :=
          fun k h1 hk hle => Tk.word_step (l := s.data.toList) (by omega) hc h1 (by omega) hle
        have hnm : Tk.name s = (decide (Tk.word s.data.toList = s.size) && !Tk.keyword s) := by
          unfold Tk.name
          rw [decide_eq_true (show 0 < Tk.word s.data.toList by omega), decide_eq_true (show Tk.word s.data.toList ≤ 32 by omega)]
          simp
        rw [hnm]
        generalize Tk.word s.data.toList = n at *
        cases hkw : Tk.keyword s with
        | true =>
          rw [hkw] at qK
          rw [show (decide (n = s.size) && !true) = false by simp]
          clear hl hc hst hnm hkw
          go_enter Tryd.func63, Tryd.ntmps63
          go_wp2_with (first | (go_at_call 61; refine (qL _).mono ?_; rintro e w' ⟨rfl, hw'⟩; obtain rfl := hw') | (go_at_call 78; refine (qK _).mono ?_; rintro e w' ⟨rfl, hw'⟩; obtain rfl := hw') | fail)
          go_ret
          exact ⟨rfl, rfl⟩
        | false =>
          rw [hkw] at qK
          rw [show (decide (n = s.size) && !false) = decide (n = s.size) by simp]
          have HST := Lib.hid hst
          clear hl hc hst hnm hkw
          go_enter Tryd.func63, Tryd.ntmps63
          go_wp2_with (first | (go_at_call 61; refine (qL _).mono ?_; rintro e w' ⟨rfl, hw'⟩; obtain rfl := hw') | (go_at_call 78; refine (qK _).mono ?_; rintro e w' ⟨rfl, hw'⟩; obtain rfl := hw') | fail)
          clear qL qK
          go_loopw [3] (fun kv wr => ∃ k : Nat, 1 ≤ k ∧ k ≤ n ∧ kv = .int .i64 (k : Nat) ∧ wr = w') (fun kv _ => s.size - (intOf kv).toNat)
          case atStart => exact ⟨1, by omega, hp, rfl, rfl⟩
          case round =>
            obtain ⟨k, h1, hk, rfl, rfl⟩ := hrel
            by_cases hks : k < s.size
            · have k1 : (k : Int) < (s.size : Int) := by omega
              have k2 : (0 : Int) ≤ (k : Int) := by omega
              obtain ⟨hy, hn⟩ := HST.out k h1 hks hk
              have q1 := fun W => rletter_any s[k] W
              have q2 := fun W => rdigit_any s[k] W
              have hw : Tk.wchar s[k] = (Tk.letter s[k] || Tk.digit s[k] || decide (s[k].toNat = 95)) := rfl
              rw [hw] at hy hn
              clear hw
              have q3 : ∀ v, decide (s[k].toNat = 95) = v → ((s[k].toNat : Int) == 95) = v := fun v h => beq_int (b := 95) h
              have q5 : ∀ v, decide (s[k].toNat = 95) = v → ((s[k].toNat : Int) != 95) = !v := fun v h => by show (!((s[k].toNat : Int) == 95)) = !v; rw [q3 v h]
              generalize Tk.letter s[k] = a at *
              generalize Tk.digit s[k] = b at *
              generalize decide (s[k].toNat = 95) = d at *
              have q4 := q5 d rfl
              clear q3 q5
              cases a with
              | true =>
                have HY := Lib.hid (hy rfl)
                clear hy hn
                go_wp2_with (first | (go_at_call 61; refine (q1 _).mono ?_; rintro e w9 ⟨rfl, hw9⟩; obtain rfl := hw9) | (go_at_call 62; refine (q2 _).mono ?_; rintro e w9 ⟨rfl, hw9⟩; obtain rfl := hw9) | fail)
                go_roundw
                case rel => exact ⟨k + 1, by omega, HY.out, by go_num, by first | trivial | rfl⟩
                case measure => simp [intOf]; omega
              | false =>
                cases b with
                | true =>
                  have HY := Lib.hid (hy rfl)
                  clear hy hn
                  go_wp2_with (first | (go_at_call 61; refine (q1 _).mono ?_; rintro e w9 ⟨rfl, hw9⟩; obtain rfl := hw9) | (go_at_call 62; refine (q2 _).mono ?_; rintro e w9 ⟨rfl, hw9⟩; obtain rfl := hw9) | fail)
                  go_roundw
                  case rel => exact ⟨k + 1, by omega, HY.out, by go_num, by first | trivial | rfl⟩
                  case measure => simp [intOf]; omega
                | false =>
                  cases d with
                  | true =>
                    have HY := Lib.hid (hy rfl)
                    clear hy hn
                    go_wp2_with (first | (go_at_call 61; refine (q1 _).mono ?_; rintro e w9 ⟨rfl, hw9⟩; obtain rfl := hw9) | (go_at_call 62; refine (q2 _).mono ?_; rintro e w9 ⟨rfl, hw9⟩; obtain rfl := hw9) | fail)
                    go_roundw
                    case rel => exact ⟨k + 1, by omega, HY.out, by go_num, by first | trivial | rfl⟩
                    case measure => simp [intOf]; omega
                  | false =>
                    have HN := Lib.hid (hn rfl)
                    clear hy hn
                    go_wp2_with (first | (go_at_call 61; refine (q1 _).mono ?_; rintro e w9 ⟨rfl, hw9⟩; obtain rfl := hw9) | (go_at_call 62; refine (q2 _).mono ?_; rintro e w9 ⟨rfl, hw9⟩; obtain rfl := hw9) | fail)
                    go_ret
                    exact ⟨ret_bool' (by rw [decide_eq_false (by have := HN.out; omega)]), rfl⟩
            · have HN : Hid (n = s.size) := Lib.hid (by omega)
              have k1 : ¬ (k : Int) < (s.size : Int) := by omega
              go_wp2_with fail
              go_ret
              exact ⟨ret_bool' (by rw [decide_eq_true HN.out]), rfl⟩
  · obtain rfl := is_empty (show s.size = 0 by omega)
    rw [name_false_1 (s := ⟨#[]⟩) rfl]
    clear hl h0 hm hm2
    go_enter Tryd.func63, Tryd.ntmps63
    go_wp2_with fail
    go_ret
    exact ⟨rfl, rfl⟩
end Go.Proofs.YtlmjcnfiolbfpaaDoor
