/-
  Plain facts on the tokens of a text, for those who stand on them: what a token holds, how many there are, where a token ends, texts behind one another. No program. Conditions: those in the theorems.
-/
import Derived.Test.YtlmjcnfiolbfpaaDoorTokRow
import Derived.Test.YtlmjcnfiolbfpaaDoorTokMore
set_option linter.unusedSimpArgs false
set_option linter.unusedVariables false
namespace Tk
theorem bs_size (l : List UInt8) : (bs l).size = l.length := by show l.toArray.size = l.length; rw [List.size_toArray]
/-- What a token holds is small. -/
def Small (t : Token) : Prop := t.kind ≤ 3 ∧ t.text.size ≤ 65536 ∧ 0 ≤ t.num ∧ t.num ≤ 999999999 ∧ 0 ≤ t.pos ∧ t.pos ≤ 65536
theorem first_small {l : List UInt8} {k n v : Nat} (h : first l = .tok k n v) : k ≤ 3 ∧ v ≤ 999999999 := by
  unfold first at h
  split at h
  · split at h
    · cases h
    · cases h; exact ⟨by omega, by omega⟩
  · split at h
    · have hall := run_all digit l
      generalize hD : l.take (number l) = D at h
      have hd : ∀ c ∈ D, digit c = true := by rw [← hD]; exact hall
      unfold numbered at h
      split at h
      · cases h
      · split at h
        · cases h
        · cases h
          have := val_lt D.length D hd (Nat.le_refl _)
          rw [List.take_length] at this
          have h3 : 10 ^ D.length ≤ 10 ^ 9 := Nat.pow_le_pow_right (by omega) (by omega)
          exact ⟨by omega, by omega⟩
    · split at h
      · cases h; exact ⟨by omega, by omega⟩
      · cases h
theorem all_small : ∀ (m a : Nat) (l : List UInt8), l.length ≤ m → a + l.length ≤ 65536 → ∀ t ∈ (all a l).toks, Small t
  | m, a, l, hm, hl, t, ht => by
    rw [all_eq] at ht
    by_cases he : l.drop (skip l) = []
    · rw [if_pos he] at ht; simp [Out.toks] at ht
    · rw [if_neg he] at ht
      cases hf : first (l.drop (skip l)) with
      | no e => rw [hf] at ht; simp [Out.toks] at ht
      | tok k n v =>
        rw [hf] at ht
        have hn := first_len hf
        have hs := first_small hf
        have hsl := skip_le l
        rw [List.length_drop] at hn
        have hlen : ((l.drop (skip l)).drop n).length = l.length - skip l - n := by rw [List.length_drop, List.length_drop]
        simp only at ht
        cases m with
        | zero => omega
        | succ m =>
          have ih := all_small m (a + skip l + n) ((l.drop (skip l)).drop n) (by omega) (by omega) t
          generalize all (a + skip l + n) ((l.drop (skip l)).drop n) = o at *
          cases o with
          | no a' e' => simp [Out.toks, Out.pre] at ht
          | ok us =>
            rw [pre_ok] at ht
            simp only [Out.toks, List.cons_append, List.nil_append, List.mem_cons] at ht
            rcases ht with rfl | ht
            · refine ⟨hs.1, ?_, (by show (0 : Int) ≤ (v : Nat); omega), (by show ((v : Nat) : Int) ≤ 999999999; omega), (by show (0 : Int) ≤ ((a + skip l : Nat) : Int); omega), (by show ((a + skip l : Nat) : Int) ≤ 65536; omega)⟩
              show (bs ((l.drop (skip l)).take n)).size ≤ 65536
              rw [bs_size, List.length_take, List.length_drop]; omega
            · exact ih ht
/-- There are no more tokens than bytes. -/
theorem all_len : ∀ (m a : Nat) (l : List UInt8), l.length ≤ m → (all a l).toks.length ≤ l.length
  | m, a, l, hm => by
    rw [all_eq]
    by_cases he : l.drop (skip l) = []
    · rw [if_pos he]; exact Nat.zero_le _
    · rw [if_neg he]
      cases hf : first (l.drop (skip l)) with
      | no e => exact Nat.zero_le _
      | tok k n v =>
        have hn := first_len hf
        have hsl := skip_le l
        rw [List.length_drop] at hn
        have hlen : ((l.drop (skip l)).drop n).length = l.length - skip l - n := by rw [List.length_drop, List.length_drop]
        cases m with
        | zero => omega
        | succ m =>
          have ih := all_len m (a + skip l + n) ((l.drop (skip l)).drop n) (by omega)
          simp only
          generalize all (a + skip l + n) ((l.drop (skip l)).drop n) = o at *
          cases o with
          | no a' e' => exact Nat.zero_le _
          | ok us =>
            rw [pre_ok]
            simp only [Out.toks, List.cons_append, List.nil_append, List.length_cons] at ih ⊢
            omega
theorem out_bound {l : List UInt8} : (all 0 l).err ≤ 110 := by
  have : ∀ (m a : Nat) (l : List UInt8), l.length ≤ m → (all a l).err ≤ 110 := by
    intro m
    induction m with
    | zero =>
      intro a l hm
      have : l = [] := List.eq_nil_of_length_eq_zero (by omega)
      subst this; exact Nat.zero_le _
    | succ m ih =>
      intro a l hm
      rw [all_eq]
      by_cases he : l.drop (skip l) = []
      · rw [if_pos he]; exact Nat.zero_le _
      · rw [if_neg he]
        cases hf : first (l.drop (skip l)) with
        | no e => have := first_err hf; show e ≤ 110; omega
        | tok k n v =>
          have hn := first_len hf
          have hsl := skip_le l
          rw [List.length_drop] at hn
          have := ih (a + skip l + n) ((l.drop (skip l)).drop n) (by rw [List.length_drop, List.length_drop]; omega)
          simp only
          generalize all (a + skip l + n) ((l.drop (skip l)).drop n) = o at *
          cases o with
          | no a' e' => exact this
          | ok us => exact Nat.zero_le _
  exact this l.length 0 l (Nat.le_refl _)
/-- Would a token's text be read as another one, as several, or as none? -/
def wrong (t : Token) : Bool := match first t.text.data.toList with
  | .no _ => true
  | .tok k n v => !(decide (k = t.kind) && decide (bs (t.text.data.toList.take n) = t.text) && decide ((v : Int) = t.num))
theorem digit_wchar {c : UInt8} (h : wchar c = false) : digit c = false := by
  unfold wchar at h
  simp only [Bool.or_eq_false_iff] at h
  exact h.1.2
theorem word_append {l m : List UInt8} {d : UInt8} (hd : wchar d = false) (hl : l ≠ []) : word (l ++ d :: m) = word l := by
  cases l with
  | nil => exact absurd rfl hl
  | cons c r =>
    rw [List.cons_append, word_c, word_c, run_append wchar d hd]
theorem number_append {l m : List UInt8} {d : UInt8} (hd : digit d = false) : number (l ++ d :: m) = number l := run_append digit d hd m l
theorem two_append {l m : List UInt8} {d : UInt8} {a b : Nat} (hd : d.toNat ≠ b) (hl : l ≠ []) : two a b (l ++ d :: m) = two a b l := by
  match l, hl with
  | [c], _ =>
    show (decide (c.toNat = a) && decide (d.toNat = b)) = false
    rw [decide_eq_false hd, Bool.and_false]
  | c :: e :: r, _ => rfl
theorem sign_append {l m : List UInt8} {d : UInt8} (hd : d.toNat ≠ 62) (hl : l ≠ []) : sign (l ++ d :: m) = sign l := by
  have h := two_append (m := m) (a := 45) hd hl
  cases l with
  | nil => exact absurd rfl hl
  | cons c r =>
    show (if two 45 62 (c :: r ++ d :: m) then 2 else if signC c then 1 else 0) = (if two 45 62 (c :: r) then 2 else if signC c then 1 else 0)
    rw [h]
/-- What stands behind a byte that goes on with no token makes no difference. -/
theorem first_append {l m : List UInt8} {d : UInt8} (hd : wchar d = false) (h62 : d.toNat ≠ 62) (hl : l ≠ []) : first (l ++ d :: m) = first l := by
  unfold first
  rw [word_append hd hl, number_append (digit_wchar hd), sign_append h62 hl, List.take_append_of_le_length (number_le l)]
theorem word_take {l : List UInt8} {k : Nat} (h : word l ≤ k) (hk : 1 ≤ k) : word (l.take k) = word l := by
  cases l with
  | nil => simp [word]
  | cons c r =>
    obtain ⟨j, rfl⟩ : ∃ j, k = j + 1 := ⟨k - 1, by omega⟩
    rw [List.take_succ_cons, word_c, word_c]
    rw [word_c] at h
    split
    · rename_i hc
      rw [if_pos hc] at h
      rw [run_take wchar r j (by omega)]
    · rfl
theorem number_take {l : List UInt8} {k : Nat} (h : number l ≤ k) : number (l.take k) = number l := run_take digit l k h
theorem sign_take {l : List UInt8} (h : 0 < sign l) : sign (l.take (sign l)) = sign l := by
  match l with
  | [] => simp [sign, two] at h
  | [c] =>
    have e : sign [c] = if signC c then 1 else 0 := rfl
    by_cases hc : signC c = true
    · rw [e, if_pos hc]; show sign [c] = 1; rw [e, if_pos hc]
    · rw [e, if_neg hc] at h; omega
  | c :: d :: r =>
    have e : sign (c :: d :: r) = if two 45 62 (c :: d :: r) then 2 else if signC c then 1 else 0 := rfl
    by_cases ht : two 45 62 (c :: d :: r) = true
    · rw [e, if_pos ht]
      show (if two 45 62 [c, d] then 2 else if signC c then 1 else 0) = 2
      rw [show two 45 62 [c, d] = two 45 62 (c :: d :: r) from rfl, if_pos ht]
    · by_cases hc : signC c = true
      · rw [e, if_neg ht, if_pos hc]
        show (if two 45 62 [c] then 2 else if signC c then 1 else 0) = 1
        rw [show two 45 62 [c] = false from rfl, if_neg (by simp), if_pos hc]
      · rw [e, if_neg ht, if_neg hc] at h; omega
theorem val_take_all (l : List UInt8) : val (l.take l.length) = val l := by rw [List.take_length]
/-- A number is no word, and so on: which of the three a text begins with, its first byte says. -/
theorem word_digit {l : List UInt8} (h : 0 < number l) : word l = 0 := by
  cases l with
  | nil => rfl
  | cons c r =>
    have hd : digit c = true := by
      by_cases hd : digit c = true
      · exact hd
      · unfold number at h; rw [run_t, if_neg hd] at h; omega
    rw [word_c, if_neg]
    unfold digit at hd
    unfold letter
    simp only [Bool.and_eq_true, decide_eq_true_eq] at hd
    simp only [Bool.or_eq_true, Bool.and_eq_true, decide_eq_true_eq]
    omega
/-- A token's own text begins with that token. -/
theorem first_take {l : List UInt8} {k n v : Nat} (h : first l = .tok k n v) : first (l.take n) = .tok k n v := by
  have hn := first_len h
  unfold first at h ⊢
  by_cases h1 : 0 < word l
  · rw [if_pos h1] at h
    by_cases h2 : 32 < word l
    · rw [if_pos h2] at h; cases h
    · rw [if_neg h2] at h
      cases h
      rw [word_take (Nat.le_refl _) h1, if_pos h1, if_neg h2]
  · rw [if_neg h1] at h
    by_cases h2 : 0 < number l
    · rw [if_pos h2] at h
      have hlen : (l.take (number l)).length = number l := by rw [List.length_take, Nat.min_eq_left (number_le l)]
      have hn2 : n = number l := by
        unfold numbered at h
        split at h
        · cases h
        · split at h
          · cases h
          · cases h; exact hlen
      rw [hn2]
      rw [number_take (Nat.le_refl _), word_take (by omega) h2, if_neg h1, if_pos h2, List.take_take, Nat.min_self, h, hn2]
    · rw [if_neg h2] at h
      by_cases h3 : 0 < sign l
      · rw [if_pos h3] at h
        cases h
        rw [sign_take h3, if_pos h3, word_take (by omega) h3, if_neg h1, number_take (by omega), if_neg h2]
      · rw [if_neg h3] at h; cases h
theorem skip_pos {l : List UInt8} (h : skip l ≠ 0) : ∃ c r, l = c :: r ∧ (blank c = true ∨ c.toNat = 47) := by
  cases l with
  | nil => exact absurd rfl h
  | cons c r =>
    refine ⟨c, r, rfl, ?_⟩
    by_cases hb : blank c = true
    · exact .inl hb
    · refine .inr ?_
      by_cases ht : two 47 47 (c :: r) = true
      · cases r with
        | nil => simp [two] at ht
        | cons d r => simp only [two, Bool.and_eq_true, decide_eq_true_eq] at ht; exact ht.1
      · exact absurd (skip_none (fun c' r' e => by cases e; simpa using hb) (by simpa using ht)) h
/-- Where a token begins there is nothing to be passed over. -/
theorem first_skip {l : List UInt8} {k n v : Nat} (h : first l = .tok k n v) : skip l = 0 := by
  by_cases hs : skip l = 0
  · exact hs
  · obtain ⟨c, r, rfl, hc⟩ := skip_pos hs
    exfalso
    have hc2 : c.toNat = 32 ∨ c.toNat = 9 ∨ c.toNat = 10 ∨ c.toNat = 13 ∨ c.toNat = 47 := by
      rcases hc with hc | hc
      · unfold blank at hc; simp only [Bool.or_eq_true, decide_eq_true_eq] at hc; omega
      · omega
    have hw : word (c :: r) = 0 := by
      rw [word_c, if_neg]
      unfold letter
      simp only [Bool.or_eq_true, Bool.and_eq_true, decide_eq_true_eq]; omega
    have hd : number (c :: r) = 0 := by
      unfold number
      rw [run_t, if_neg]
      unfold digit
      simp only [Bool.and_eq_true, decide_eq_true_eq]; omega
    have ht : two 45 62 (c :: r) = false := by
      cases r with
      | nil => rfl
      | cons d r => show (decide (c.toNat = 45) && decide (d.toNat = 62)) = false; rw [decide_eq_false (by omega), Bool.false_and]
    have hg : sign (c :: r) = 0 := by
      show (if two 45 62 (c :: r) then 2 else if signC c then 1 else 0) = 0
      rw [ht, if_neg (by simp), if_neg]
      unfold signC
      simp only [Bool.or_eq_true, decide_eq_true_eq]; omega
    unfold first at h
    rw [hw, hd, hg] at h
    simp at h
theorem all_blank {a : Nat} {c : UInt8} {s : List UInt8} (h : blank c = true) : all a (c :: s) = all (a + 1) s := by
  rw [all_skip a (c :: s), skip_blank h, List.drop_succ_cons, all_skip (a + 1) s]
  congr 1; omega
theorem bs_inj {l m : List UInt8} (h : bs l = bs m) : l = m := by
  have := congrArg (fun b => b.data.toList) h
  simpa [bs] using this
theorem bs_data (l : List UInt8) : (bs l).data.toList = l := by simp [bs]
theorem data_bs (s : ByteArray) : bs s.data.toList = s := rfl
/-- What a right token's text begins with. -/
theorem not_wrong {t : Token} (h : wrong t = false) : first t.text.data.toList = .tok t.kind t.text.data.toList.length t.num.toNat ∧ 0 ≤ t.num := by
  unfold wrong at h
  cases hf : first t.text.data.toList with
  | no e => rw [hf] at h; cases h
  | tok k n v =>
    rw [hf] at h
    simp only [Bool.not_eq_false', Bool.and_eq_true, decide_eq_true_eq] at h
    obtain ⟨⟨h1, h2⟩, h3⟩ := h
    have h4 := first_len hf
    have h5 : t.text.data.toList.take n = t.text.data.toList := bs_inj h2
    have h6 := congrArg List.length h5
    rw [List.length_take] at h6
    have h7 : n = t.text.data.toList.length := by omega
    rw [← h3, Int.toNat_natCast, ← h7, h1]
    exact ⟨rfl, by omega⟩
theorem wrong_of {k n v : Nat} {l : List UInt8} {p : Int} (h : first l = .tok k n v) : wrong ⟨k, bs (l.take n), v, p⟩ = false := by
  unfold wrong
  show (match first (bs (l.take n)).data.toList with
    | .no _ => true
    | .tok k' n' v' => !(decide (k' = k) && decide (bs ((bs (l.take n)).data.toList.take n') = bs (l.take n)) && decide ((v' : Int) = (v : Nat)))) = false
  rw [bs_data, first_take h]
  simp [List.take_take]
theorem all_right : ∀ (m a : Nat) (l : List UInt8), l.length ≤ m → ∀ t ∈ (all a l).toks, wrong t = false
  | m, a, l, hm, t, ht => by
    rw [all_eq] at ht
    by_cases he : l.drop (skip l) = []
    · rw [if_pos he] at ht; simp [Out.toks] at ht
    · rw [if_neg he] at ht
      cases hf : first (l.drop (skip l)) with
      | no e => rw [hf] at ht; simp [Out.toks] at ht
      | tok k n v =>
        rw [hf] at ht
        have hn := first_len hf
        have hsl := skip_le l
        rw [List.length_drop] at hn
        simp only at ht
        cases m with
        | zero => omega
        | succ m =>
          have ih := all_right m (a + skip l + n) ((l.drop (skip l)).drop n) (by rw [List.length_drop, List.length_drop]; omega) t
          generalize all (a + skip l + n) ((l.drop (skip l)).drop n) = o at *
          cases o with
          | no a' e' => simp [Out.toks, Out.pre] at ht
          | ok us =>
            rw [pre_ok] at ht
            simp only [Out.toks, List.cons_append, List.nil_append, List.mem_cons] at ht
            rcases ht with rfl | ht
            · exact wrong_of hf
            · exact ih ht
def sizes (ts : List Token) : Nat := (ts.map fun t => t.text.size).sum
theorem all_sizes : ∀ (m a : Nat) (l : List UInt8), l.length ≤ m → sizes (all a l).toks ≤ l.length
  | m, a, l, hm => by
    rw [all_eq]
    by_cases he : l.drop (skip l) = []
    · rw [if_pos he]; exact Nat.zero_le _
    · rw [if_neg he]
      cases hf : first (l.drop (skip l)) with
      | no e => exact Nat.zero_le _
      | tok k n v =>
        have hn := first_len hf
        have hsl := skip_le l
        rw [List.length_drop] at hn
        have hlen : ((l.drop (skip l)).drop n).length = l.length - skip l - n := by rw [List.length_drop, List.length_drop]
        cases m with
        | zero => omega
        | succ m =>
          have ih := all_sizes m (a + skip l + n) ((l.drop (skip l)).drop n) (by omega)
          simp only
          generalize all (a + skip l + n) ((l.drop (skip l)).drop n) = o at *
          cases o with
          | no a' e' => exact Nat.zero_le _
          | ok us =>
            rw [pre_ok]
            have hts : (bs ((l.drop (skip l)).take n)).size = n := by rw [bs_size, List.length_take, List.length_drop]; omega
            simp only [Out.toks, List.cons_append, List.nil_append] at ih ⊢
            unfold sizes at ih ⊢
            rw [List.map_cons, List.sum_cons, hts]
            omega
def erase (t : Token) : Token := ⟨t.kind, t.text, t.num, 0⟩
/-- Tokens in order within a text, from a place. -/
def Chain (full : List UInt8) : Nat → List Token → Prop
  | _, [] => True
  | e, t :: r => ∃ p : Nat, t.pos = p ∧ e ≤ p ∧ 0 < t.text.size ∧ p + t.text.size ≤ full.length ∧ bs ((full.drop p).take t.text.size) = t.text ∧ Chain full (p + t.text.size) r
theorem all_chain (full : List UInt8) : ∀ (m a e : Nat), full.length - a ≤ m → a ≤ full.length → e ≤ a → Chain full e (all a (full.drop a)).toks
  | m, a, e, hm, ha, he => by
    rw [all_eq]
    by_cases hd : (full.drop a).drop (skip (full.drop a)) = []
    · rw [if_pos hd]; trivial
    · rw [if_neg hd]
      cases hf : first ((full.drop a).drop (skip (full.drop a))) with
      | no e => trivial
      | tok k n v =>
        have hn := first_len hf
        have hsl := skip_le (full.drop a)
        rw [List.length_drop] at hsl
        rw [List.length_drop, List.length_drop] at hn
        cases m with
        | zero => omega
        | succ m =>
          have ih := all_chain full m (a + skip (full.drop a) + n) (a + skip (full.drop a) + n) (by omega) (by omega) (Nat.le_refl _)
          have hts : (bs ((full.drop (a + skip (full.drop a))).take n)).size = n := by rw [bs_size, List.length_take, List.length_drop]; omega
          rw [List.drop_drop]
          simp only
          rw [List.drop_drop]
          generalize all (a + skip (full.drop a) + n) (full.drop (a + skip (full.drop a) + n)) = o at *
          cases o with
          | no a' e' => trivial
          | ok us =>
            rw [pre_ok]
            simp only [Out.toks, List.cons_append, List.nil_append] at ih ⊢
            refine ⟨a + skip (full.drop a), rfl, by omega, by rw [hts]; omega, by rw [hts]; omega, by rw [hts], ?_⟩
            rw [hts]; exact ih
theorem skipM_append {r : List UInt8} : ∀ (m : Bool) (l : List UInt8), (skipM m l < l.length → skipM m (l ++ 10 :: r) = skipM m l) ∧ (skipM m l = l.length → skipM m (l ++ 10 :: r) = l.length + 1 + skip r)
  | true, [] => ⟨fun h => absurd h (Nat.not_lt_zero _), fun _ => by
      show skipM true (10 :: r) = _
      rw [skipM_t, if_pos (by decide)]; show skip r + 1 = _; simp; omega⟩
  | false, [] => ⟨fun h => absurd h (Nat.not_lt_zero _), fun _ => by
      show skipM false (10 :: r) = _
      rw [skipM_f, if_pos (by decide)]; show skip r + 1 = _; simp; omega⟩
  | true, c :: t => by
    rw [List.cons_append, skipM_t, skipM_t]
    by_cases hc : c.toNat = 10
    · rw [if_pos hc, if_pos hc]
      have ih := skipM_append (r := r) false t
      exact ⟨fun h => by rw [ih.1 (by simpa using h)], fun h => by rw [ih.2 (by simpa using h)]; simp; omega⟩
    · rw [if_neg hc, if_neg hc]
      have ih := skipM_append (r := r) true t
      exact ⟨fun h => by rw [ih.1 (by simpa using h)], fun h => by rw [ih.2 (by simpa using h)]; simp; omega⟩
  | false, c :: t => by
    have ht : two 47 47 (c :: t ++ 10 :: r) = two 47 47 (c :: t) := two_append (by decide) (by simp)
    rw [List.cons_append] at ht
    rw [List.cons_append, skipM_f, skipM_f, ht]
    by_cases hb : blank c = true
    · rw [if_pos hb, if_pos hb]
      have ih := skipM_append (r := r) false t
      exact ⟨fun h => by rw [ih.1 (by simpa using h)], fun h => by rw [ih.2 (by simpa using h)]; simp; omega⟩
    · rw [if_neg hb, if_neg hb]
      by_cases h2 : two 47 47 (c :: t) = true
      · rw [if_pos h2, if_pos h2]
        have ih := skipM_append (r := r) true t
        exact ⟨fun h => by rw [ih.1 (by simpa using h)], fun h => by rw [ih.2 (by simpa using h)]; simp; omega⟩
      · rw [if_neg h2, if_neg h2]
        exact ⟨fun _ => rfl, fun h => by simp at h⟩
/-- What a text of which another one stands behind, on a new line, is read as. -/
def joined (p : Nat) (o : Out) (n : Nat) (r : List UInt8) : Out := match o with
  | .no a e => .no a e
  | .ok ts => Out.pre ts (all (p + n + 1) r)
theorem joined_pre (ts : List Token) (p n : Nat) (r : List UInt8) (o : Out) : joined p (Out.pre ts o) n r = Out.pre ts (joined p o n r) := by
  cases o with
  | no a e => rfl
  | ok us => show Out.pre (ts ++ us) _ = Out.pre ts (Out.pre us _); rw [pre_pre]
theorem joined_at {p q n m : Nat} (h : p + n = q + m) (o : Out) (r : List UInt8) : joined p o n r = joined q o m r := by
  unfold joined; rw [h]
theorem all_join (r : List UInt8) : ∀ (m p : Nat) (l : List UInt8), l.length ≤ m → all p (l ++ 10 :: r) = joined p (all p l) l.length r
  | m, p, l, hm => by
    obtain ⟨s1, s2⟩ := skipM_append (r := r) false l
    have hle := skip_le l
    by_cases hend : skip l = l.length
    · have he : all p l = .ok [] := by rw [all_eq, if_pos (by rw [hend, List.drop_length])]
      rw [he]
      show _ = Out.pre [] (all (p + l.length + 1) r)
      have hsk : skip (l ++ 10 :: r) = l.length + 1 + skip r := s2 hend
      have hdr : (l ++ 10 :: r).drop (l.length + 1 + skip r) = r.drop (skip r) := by
        rw [show l.length + 1 + skip r = l.length + (1 + skip r) by omega, ← List.drop_drop, List.drop_left, show 1 + skip r = skip r + 1 by omega, List.drop_succ_cons]
      rw [pre_nil, all_skip p, hsk, hdr, all_skip (p + l.length + 1) r]
      congr 1; omega
    · have hlt : skip l < l.length := by omega
      have hsk : skip (l ++ 10 :: r) = skip l := s1 hlt
      have hne : l.drop (skip l) ≠ [] := fun e => by have := congrArg List.length e; rw [List.length_drop] at this; simp at this; omega
      have hdr : (l ++ 10 :: r).drop (skip l) = l.drop (skip l) ++ 10 :: r := List.drop_append_of_le_length hle
      have hff : first (l.drop (skip l) ++ 10 :: r) = first (l.drop (skip l)) := first_append (by decide) (by decide) hne
      rw [all_eq p (l ++ 10 :: r), all_eq p l, hsk, hdr, if_neg (by simp), if_neg hne, hff]
      cases hf : first (l.drop (skip l)) with
      | no e => rfl
      | tok k n v =>
        have hn := first_len hf
        have hn2 := hn
        rw [List.length_drop] at hn2
        simp only
        rw [List.take_append_of_le_length hn.2, List.drop_append_of_le_length hn.2]
        cases m with
        | zero => omega
        | succ m =>
          rw [all_join r m (p + skip l + n) ((l.drop (skip l)).drop n) (by rw [List.length_drop, List.length_drop]; omega), joined_pre]
          congr 1
          exact joined_at (by rw [List.length_drop, List.length_drop]; omega) _ _
def shiftT (q : Nat) (t : Token) : Token := { t with pos := t.pos + (q : Nat) }
def Out.shift (q : Nat) : Out → Out
  | .no a e => .no (a + q) e
  | .ok ts => .ok (ts.map (shiftT q))
theorem shift_pre (q : Nat) (ts : List Token) (o : Out) : Out.shift q (Out.pre ts o) = Out.pre (ts.map (shiftT q)) (Out.shift q o) := by
  cases o with
  | no a e => rfl
  | ok us => show Out.ok _ = Out.ok _; rw [List.map_append]
theorem all_shift (q : Nat) : ∀ (m p : Nat) (l : List UInt8), l.length ≤ m → all (p + q) l = Out.shift q (all p l)
  | m, p, l, hm => by
    rw [all_eq (p + q) l, all_eq p l]
    by_cases he : l.drop (skip l) = []
    · rw [if_pos he, if_pos he]; rfl
    · rw [if_neg he, if_neg he]
      cases hf : first (l.drop (skip l)) with
      | no e => show Out.no _ _ = Out.no _ _; congr 1; omega
      | tok k n v =>
        have hn := first_len hf
        rw [List.length_drop] at hn
        simp only
        cases m with
        | zero => omega
        | succ m =>
          rw [shift_pre, ← all_shift q m (p + skip l + n) _ (by rw [List.length_drop, List.length_drop]; omega), show p + q + skip l + n = p + skip l + n + q by omega]
          congr 1
          show [_] = [_]
          unfold shiftT
          simp only [List.cons.injEq, Token.mk.injEq, and_true, true_and]
          omega
/-- A text put behind another one, on a new line. -/
theorem all_two (l r : List UInt8) : all 0 (l ++ 10 :: r) = match all 0 l with
    | .no a e => .no a e
    | .ok ts => Out.pre ts (Out.shift (l.length + 1) (all 0 r)) := by
  rw [all_join r l.length 0 l (Nat.le_refl _)]
  cases all 0 l with
  | no a e => rfl
  | ok ts =>
    show Out.pre ts (all (0 + l.length + 1) r) = Out.pre ts (Out.shift (l.length + 1) (all 0 r))
    rw [show 0 + l.length + 1 = 0 + (l.length + 1) by omega, all_shift (l.length + 1) r.length 0 r (Nat.le_refl _)]
theorem all_at {a er : Nat} {l : List UInt8} (h : Tk.all 0 l = .no a er) : a ≤ l.length := by
  have key : ∀ (m b : Nat) (l : List UInt8), l.length ≤ m → ∀ a er, Tk.all b l = .no a er → a ≤ b + l.length := by
    intro m
    induction m with
    | zero =>
      intro b l hm a er h
      have : l = [] := List.eq_nil_of_length_eq_zero (by omega)
      subst this; cases h
    | succ m ih =>
      intro b l hm a er h
      have hsl := Tk.skip_le l
      rw [Tk.all_eq] at h
      by_cases he : l.drop (Tk.skip l) = []
      · rw [if_pos he] at h; cases h
      · rw [if_neg he] at h
        cases hf : Tk.first (l.drop (Tk.skip l)) with
        | no e => rw [hf] at h; cases h; omega
        | tok k n v =>
          rw [hf] at h
          have hn := Tk.first_len hf
          rw [List.length_drop] at hn
          have := ih (b + Tk.skip l + n) ((l.drop (Tk.skip l)).drop n) (by rw [List.length_drop, List.length_drop]; omega)
          simp only at h
          rw [List.length_drop, List.length_drop] at this
          generalize Tk.all (b + Tk.skip l + n) ((l.drop (Tk.skip l)).drop n) = o at *
          cases o with
          | no a' e' => rw [Tk.pre_no] at h; cases h; have := this _ _ rfl; omega
          | ok us => cases h
  have := key l.length 0 l (Nat.le_refl _) a er h
  omega
theorem all_err {a er : Nat} {l : List UInt8} (h : Tk.all 0 l = .no a er) : er ≠ 0 := by
  have key : ∀ (m b : Nat) (l : List UInt8), l.length ≤ m → ∀ a er, Tk.all b l = .no a er → er ≠ 0 := by
    intro m
    induction m with
    | zero =>
      intro b l hm a er h
      have : l = [] := List.eq_nil_of_length_eq_zero (by omega)
      subst this; cases h
    | succ m ih =>
      intro b l hm a er h
      rw [Tk.all_eq] at h
      by_cases he : l.drop (Tk.skip l) = []
      · rw [if_pos he] at h; cases h
      · rw [if_neg he] at h
        cases hf : Tk.first (l.drop (Tk.skip l)) with
        | no e => rw [hf] at h; cases h; have := Tk.first_err hf; omega
        | tok k n v =>
          rw [hf] at h
          have hn := Tk.first_len hf
          have hsl := Tk.skip_le l
          rw [List.length_drop] at hn
          have := ih (b + Tk.skip l + n) ((l.drop (Tk.skip l)).drop n) (by rw [List.length_drop, List.length_drop]; omega)
          simp only at h
          generalize Tk.all (b + Tk.skip l + n) ((l.drop (Tk.skip l)).drop n) = o at *
          cases o with
          | no a' e' => rw [Tk.pre_no] at h; cases h; exact this _ _ rfl
          | ok us => cases h
  exact key l.length 0 l (Nat.le_refl _) a er h
end Tk
namespace Go.Proofs.YtlmjcnfiolbfpaaDoor
open Go.RowKit
theorem small_in {t : Tk.Token} (h : Tk.Small t) : TokIn t := by
  obtain ⟨h1, h2, h3, h4, h5, h6⟩ := h
  exact ⟨by omega, by unfold maxLen; omega, ⟨by omega, by omega⟩, ⟨by omega, by omega⟩⟩
theorem all_in (s : ByteArray) (hm : s.size ≤ 65536) : ∀ t ∈ (Tk.all 0 s.data.toList).toks, TokIn t := fun t ht =>
  small_in (Tk.all_small _ 0 _ (Nat.le_refl _) (by rw [list_len]; omega) t ht)
theorem all_count (s : ByteArray) (hm : s.size ≤ 65536) : (Tk.all 0 s.data.toList).toks.length ≤ 65536 := by
  have := Tk.all_len _ 0 s.data.toList (Nat.le_refl _)
  rw [list_len] at this; omega

end Go.Proofs.YtlmjcnfiolbfpaaDoor
