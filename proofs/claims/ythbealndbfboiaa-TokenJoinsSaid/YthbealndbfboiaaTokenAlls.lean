/-
  The law TokenAlls, walked: a text's tokens, or its first fault and where, are the document's. Conditions: those in the theorems.
-/
import Derived.Test.YthbealndbfboiaaTokSame
import Derived.Test.YthbealndbfboiaaTokRefAll
set_option linter.unusedSimpArgs false
set_option linter.unusedVariables false
namespace Tk
theorem bs_size (l : List UInt8) : (bs l).size = l.length := by show l.toArray.size = l.length; rw [List.size_toArray]
/-- What a token holds is small. -/
def Small (t : Token) : Prop := t.kind ≤ 3 ∧ t.text.size ≤ 65536 ∧ 0 ≤ t.num ∧ t.num ≤ 999999999 ∧ 0 ≤ t.pos ∧ t.pos ≤ 65536
theorem first_small {l : List UInt8} {k n v : Nat} (h : first l = .tok k n v) : k ≤ 3 ∧ v ≤ 999999999 := by
  unfold first at h
  split at h
  · split at h
    · cases h
    · cases h; exact ⟨by omega, by omega⟩
  · split at h
    · have hall := run_all digit l
      generalize hD : l.take (number l) = D at h
      have hd : ∀ c ∈ D, digit c = true := by rw [← hD]; exact hall
      unfold numbered at h
      split at h
      · cases h
      · split at h
        · cases h
        · cases h
          have := val_lt D.length D hd (Nat.le_refl _)
          rw [List.take_length] at this
          have h3 : 10 ^ D.length ≤ 10 ^ 9 := Nat.pow_le_pow_right (by omega) (by omega)
          exact ⟨by omega, by omega⟩
    · split at h
      · cases h; exact ⟨by omega, by omega⟩
      · cases h
theorem all_small : ∀ (m a : Nat) (l : List UInt8), l.length ≤ m → a + l.length ≤ 65536 → ∀ t ∈ (all a l).toks, Small t
  | m, a, l, hm, hl, t, ht => by
    rw [all_eq] at ht
    by_cases he : l.drop (skip l) = []
    · rw [if_pos he] at ht; simp [Out.toks] at ht
    · rw [if_neg he] at ht
      cases hf : first (l.drop (skip l)) with
      | no e => rw [hf] at ht; simp [Out.toks] at ht
      | tok k n v =>
        rw [hf] at ht
        have hn := first_len hf
        have hs := first_small hf
        have hsl := skip_le l
        rw [List.length_drop] at hn
        have hlen : ((l.drop (skip l)).drop n).length = l.length - skip l - n := by rw [List.length_drop, List.length_drop]
        simp only at ht
        cases m with
        | zero => omega
        | succ m =>
          have ih := all_small m (a + skip l + n) ((l.drop (skip l)).drop n) (by omega) (by omega) t
          generalize all (a + skip l + n) ((l.drop (skip l)).drop n) = o at *
          cases o with
          | no a' e' => simp [Out.toks, Out.pre] at ht
          | ok us =>
            rw [pre_ok] at ht
            simp only [Out.toks, List.cons_append, List.nil_append, List.mem_cons] at ht
            rcases ht with rfl | ht
            · refine ⟨hs.1, ?_, (by show (0 : Int) ≤ (v : Nat); omega), (by show ((v : Nat) : Int) ≤ 999999999; omega), (by show (0 : Int) ≤ ((a + skip l : Nat) : Int); omega), (by show ((a + skip l : Nat) : Int) ≤ 65536; omega)⟩
              show (bs ((l.drop (skip l)).take n)).size ≤ 65536
              rw [bs_size, List.length_take, List.length_drop]; omega
            · exact ih ht
/-- There are no more tokens than bytes. -/
theorem all_len : ∀ (m a : Nat) (l : List UInt8), l.length ≤ m → (all a l).toks.length ≤ l.length
  | m, a, l, hm => by
    rw [all_eq]
    by_cases he : l.drop (skip l) = []
    · rw [if_pos he]; exact Nat.zero_le _
    · rw [if_neg he]
      cases hf : first (l.drop (skip l)) with
      | no e => exact Nat.zero_le _
      | tok k n v =>
        have hn := first_len hf
        have hsl := skip_le l
        rw [List.length_drop] at hn
        have hlen : ((l.drop (skip l)).drop n).length = l.length - skip l - n := by rw [List.length_drop, List.length_drop]
        cases m with
        | zero => omega
        | succ m =>
          have ih := all_len m (a + skip l + n) ((l.drop (skip l)).drop n) (by omega)
          simp only
          generalize all (a + skip l + n) ((l.drop (skip l)).drop n) = o at *
          cases o with
          | no a' e' => exact Nat.zero_le _
          | ok us =>
            rw [pre_ok]
            simp only [Out.toks, List.cons_append, List.nil_append, List.length_cons] at ih ⊢
            omega
theorem out_bound {l : List UInt8} : (all 0 l).err ≤ 110 := by
  have : ∀ (m a : Nat) (l : List UInt8), l.length ≤ m → (all a l).err ≤ 110 := by
    intro m
    induction m with
    | zero =>
      intro a l hm
      have : l = [] := List.eq_nil_of_length_eq_zero (by omega)
      subst this; exact Nat.zero_le _
    | succ m ih =>
      intro a l hm
      rw [all_eq]
      by_cases he : l.drop (skip l) = []
      · rw [if_pos he]; exact Nat.zero_le _
      · rw [if_neg he]
        cases hf : first (l.drop (skip l)) with
        | no e => have := first_err hf; show e ≤ 110; omega
        | tok k n v =>
          have hn := first_len hf
          have hsl := skip_le l
          rw [List.length_drop] at hn
          have := ih (a + skip l + n) ((l.drop (skip l)).drop n) (by rw [List.length_drop, List.length_drop]; omega)
          simp only
          generalize all (a + skip l + n) ((l.drop (skip l)).drop n) = o at *
          cases o with
          | no a' e' => exact this
          | ok us => exact Nat.zero_le _
  exact this l.length 0 l (Nat.le_refl _)
end Tk
namespace Go.Proofs.Ythbealndbfboiaa
open Go.RowKit
theorem small_in {t : Tk.Token} (h : Tk.Small t) : TokIn t := by
  obtain ⟨h1, h2, h3, h4, h5, h6⟩ := h
  exact ⟨by omega, by unfold maxLen; omega, ⟨by omega, by omega⟩, ⟨by omega, by omega⟩⟩
theorem all_in (s : ByteArray) (hm : s.size ≤ 65536) : ∀ t ∈ (Tk.all 0 s.data.toList).toks, TokIn t := fun t ht =>
  small_in (Tk.all_small _ 0 _ (Nat.le_refl _) (by rw [list_len]; omega) t ht)
theorem all_count (s : ByteArray) (hm : s.size ≤ 65536) : (Tk.all 0 s.data.toList).toks.length ≤ 65536 := by
  have := Tk.all_len _ 0 s.data.toList (Nat.le_refl _)
  rw [list_len] at this; omega

/-- Both answers beside one another: they are the same. -/
theorem alls_two {o : Tk.Out} {w w1 w2 : World} {v1 v2 : Value} (h1 : OwnTok w1 w.heap.size v1 o.toks) (h2 : OwnTok w2 w1.heap.size v2 o.toks) (hb : Below w1.heap.size w1 w2) (hin : ∀ t ∈ o.toks, TokIn t) (hc : o.toks.length ≤ 65536) :
    ∃ p c q d, v1 = .slice p o.toks.length c ∧ v2 = .slice q o.toks.length d ∧ Calls Try.prog 9 #[.slice p o.toks.length c, .slice q o.toks.length d] w2 fun e w' => e = .returned (.bool true) ∧ Below w2.heap.size w2 w' := by
  obtain ⟨p, c, e1, -, -, t1⟩ := h1.toks hin
  obtain ⟨q, d, e2, -, -, t2⟩ := h2.toks hin
  exact ⟨p, c, q, d, e1, e2, Same_any (t1.below hb) t2 (by omega)⟩
/-- Both answers to one text. -/
theorem both_all (x : ByteArray) (hx : x.size ≤ 65536) : ∃ o : Tk.Out, (∀ W, Calls Try.prog 7 #[.string x] W (Alls o W)) ∧ (∀ W, Calls Try.prog 8 #[.string x] W (Alls o W)) ∧ (∀ t ∈ o.toks, TokIn t) ∧ o.toks.length ≤ 65536 :=
  ⟨_, fun W => All_any x W hx, fun W => RefAll_any x W hx, all_in x hx, all_count x hx⟩
set_option maxRecDepth 100000 in
set_option maxHeartbeats 4000000 in
theorem tokenAlls_any (s : ByteArray) (w : World) (hm : s.size ≤ maxLen) : Calls Try.prog 3 #[.string s] w fun e w' => e = .returned (.bool true) ∧ Below w.heap.size w w' := by
  have hm2 : s.size ≤ 9223372036854775807 := hm
  by_cases h1 : 6000 < s.size
  · have i1 : (6000 : Int) < (s.size : Int) := by omega
    by_cases h2 : s.size ≤ 65536
    · have i2 : (s.size : Int) ≤ 65536 := by omega
      have hx : (s.extract 0 6000).size ≤ 65536 := by rw [ByteArray.size_extract]; omega
      obtain ⟨o, QA, QR, hin, hct⟩ := both_all (s.extract 0 6000) hx
      go_enter Try.func3, Try.ntmps3
      go_wp2_with fail
      refine (QA _).mono ?_
      rintro e w1 ⟨v1, rfl, ho1, hb1⟩
      go_wp2_with fail
      refine (QR _).mono ?_
      rintro e w2 ⟨v2, rfl, ho2, hb2⟩
      obtain ⟨p, c, q, d, rfl, rfl, hs⟩ := alls_two ho1 ho2 hb2 hin hct
      have HB := Lib.hid (hb1.trans (hb2.mono hb1.size))
      generalize o.toks.length = n at *
      generalize o.at_ = x at *
      generalize o.err = y at *
      clear ho1 ho2 hb1 hb2 QA QR
      go_wp2_with (first | (go_at_call 9; refine hs.mono ?_; rintro e w3 ⟨rfl, hb3⟩) | (go_at_call 10; refine (wakes_any _).mono ?_; rintro e w4 ⟨rfl, hb4⟩) | fail)
      go_ret
      exact ⟨rfl, HB.out.trans ((hb3.trans (hb4.mono hb3.size)).mono HB.out.size)⟩
    · have i2 : ¬ (s.size : Int) ≤ 65536 := by omega
      go_enter Try.func3, Try.ntmps3
      go_wp2_with fail
      refine (All_long s _ (by omega)).mono ?_
      rintro e w1 ⟨rfl, rfl⟩
      go_wp2_with fail
      refine (RefAll_long s _ (by omega)).mono ?_
      rintro e w2 ⟨rfl, rfl⟩
      have hs := Same_any (w := w2) (p := none) (q := none) (cap := 0) (cap2 := 0) (ts := []) (ToksAt.nil _ _) (ToksAt.nil _ _) (Nat.zero_le _)
      go_wp2_with (first | (go_at_call 9; refine hs.mono ?_; rintro e w3 ⟨rfl, hb3⟩) | (go_at_call 10; refine (wakes_any _).mono ?_; rintro e w4 ⟨rfl, hb4⟩) | fail)
      go_ret
      exact ⟨rfl, hb3.trans (hb4.mono hb3.size)⟩
  · have i1 : ¬ (6000 : Int) < (s.size : Int) := by omega
    have hx : s.size ≤ 65536 := by omega
    obtain ⟨o, QA, QR, hin, hct⟩ := both_all s hx
    go_enter Try.func3, Try.ntmps3
    go_wp2_with fail
    refine (QA _).mono ?_
    rintro e w1 ⟨v1, rfl, ho1, hb1⟩
    go_wp2_with fail
    refine (QR _).mono ?_
    rintro e w2 ⟨v2, rfl, ho2, hb2⟩
    obtain ⟨p, c, q, d, rfl, rfl, hs⟩ := alls_two ho1 ho2 hb2 hin hct
    have HB := Lib.hid (hb1.trans (hb2.mono hb1.size))
    generalize o.toks.length = n at *
    generalize o.at_ = x at *
    generalize o.err = y at *
    clear ho1 ho2 hb1 hb2 QA QR
    go_wp2_with (first | (go_at_call 9; refine hs.mono ?_; rintro e w3 ⟨rfl, hb3⟩) | (go_at_call 10; refine (wakes_any _).mono ?_; rintro e w4 ⟨rfl, hb4⟩) | fail)
    go_ret
    exact ⟨rfl, HB.out.trans ((hb3.trans (hb4.mono hb3.size)).mono HB.out.size)⟩
end Go.Proofs.Ythbealndbfboiaa
