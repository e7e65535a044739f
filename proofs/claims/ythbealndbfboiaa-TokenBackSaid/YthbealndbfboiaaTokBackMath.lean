/-
  Plain facts on the tokens of a text: a token ends where it ends, whatever else stands behind it; what is spelled has the same tokens; texts behind one another. No program. Conditions: those in the theorems.
-/
import Derived.Test.YthbealndbfboiaaTokSpell
import Derived.Test.YthbealndbfboiaaTokenAlls
set_option linter.unusedSimpArgs false
set_option linter.unusedVariables false
namespace Tk
theorem digit_wchar {c : UInt8} (h : wchar c = false) : digit c = false := by
  unfold wchar at h
  simp only [Bool.or_eq_false_iff] at h
  exact h.1.2
theorem word_append {l m : List UInt8} {d : UInt8} (hd : wchar d = false) (hl : l ≠ []) : word (l ++ d :: m) = word l := by
  cases l with
  | nil => exact absurd rfl hl
  | cons c r =>
    rw [List.cons_append, word_c, word_c, run_append wchar d hd]
theorem number_append {l m : List UInt8} {d : UInt8} (hd : digit d = false) : number (l ++ d :: m) = number l := run_append digit d hd m l
theorem two_append {l m : List UInt8} {d : UInt8} {a b : Nat} (hd : d.toNat ≠ b) (hl : l ≠ []) : two a b (l ++ d :: m) = two a b l := by
  match l, hl with
  | [c], _ =>
    show (decide (c.toNat = a) && decide (d.toNat = b)) = false
    rw [decide_eq_false hd, Bool.and_false]
  | c :: e :: r, _ => rfl
theorem sign_append {l m : List UInt8} {d : UInt8} (hd : d.toNat ≠ 62) (hl : l ≠ []) : sign (l ++ d :: m) = sign l := by
  have h := two_append (m := m) (a := 45) hd hl
  cases l with
  | nil => exact absurd rfl hl
  | cons c r =>
    show (if two 45 62 (c :: r ++ d :: m) then 2 else if signC c then 1 else 0) = (if two 45 62 (c :: r) then 2 else if signC c then 1 else 0)
    rw [h]
/-- What stands behind a byte that goes on with no token makes no difference. -/
theorem first_append {l m : List UInt8} {d : UInt8} (hd : wchar d = false) (h62 : d.toNat ≠ 62) (hl : l ≠ []) : first (l ++ d :: m) = first l := by
  unfold first
  rw [word_append hd hl, number_append (digit_wchar hd), sign_append h62 hl, List.take_append_of_le_length (number_le l)]
theorem word_take {l : List UInt8} {k : Nat} (h : word l ≤ k) (hk : 1 ≤ k) : word (l.take k) = word l := by
  cases l with
  | nil => simp [word]
  | cons c r =>
    obtain ⟨j, rfl⟩ : ∃ j, k = j + 1 := ⟨k - 1, by omega⟩
    rw [List.take_succ_cons, word_c, word_c]
    rw [word_c] at h
    split
    · rename_i hc
      rw [if_pos hc] at h
      rw [run_take wchar r j (by omega)]
    · rfl
theorem number_take {l : List UInt8} {k : Nat} (h : number l ≤ k) : number (l.take k) = number l := run_take digit l k h
theorem sign_take {l : List UInt8} (h : 0 < sign l) : sign (l.take (sign l)) = sign l := by
  match l with
  | [] => simp [sign, two] at h
  | [c] =>
    have e : sign [c] = if signC c then 1 else 0 := rfl
    by_cases hc : signC c = true
    · rw [e, if_pos hc]; show sign [c] = 1; rw [e, if_pos hc]
    · rw [e, if_neg hc] at h; omega
  | c :: d :: r =>
    have e : sign (c :: d :: r) = if two 45 62 (c :: d :: r) then 2 else if signC c then 1 else 0 := rfl
    by_cases ht : two 45 62 (c :: d :: r) = true
    · rw [e, if_pos ht]
      show (if two 45 62 [c, d] then 2 else if signC c then 1 else 0) = 2
      rw [show two 45 62 [c, d] = two 45 62 (c :: d :: r) from rfl, if_pos ht]
    · by_cases hc : signC c = true
      · rw [e, if_neg ht, if_pos hc]
        show (if two 45 62 [c] then 2 else if signC c then 1 else 0) = 1
        rw [show two 45 62 [c] = false from rfl, if_neg (by simp), if_pos hc]
      · rw [e, if_neg ht, if_neg hc] at h; omega
theorem val_take_all (l : List UInt8) : val (l.take l.length) = val l := by rw [List.take_length]
/-- A number is no word, and so on: which of the three a text begins with, its first byte says. -/
theorem word_digit {l : List UInt8} (h : 0 < number l) : word l = 0 := by
  cases l with
  | nil => rfl
  | cons c r =>
    have hd : digit c = true := by
      by_cases hd : digit c = true
      · exact hd
      · unfold number at h; rw [run_t, if_neg hd] at h; omega
    rw [word_c, if_neg]
    unfold digit at hd
    unfold letter
    simp only [Bool.and_eq_true, decide_eq_true_eq] at hd
    simp only [Bool.or_eq_true, Bool.and_eq_true, decide_eq_true_eq]
    omega
/-- A token's own text begins with that token. -/
theorem first_take {l : List UInt8} {k n v : Nat} (h : first l = .tok k n v) : first (l.take n) = .tok k n v := by
  have hn := first_len h
  unfold first at h ⊢
  by_cases h1 : 0 < word l
  · rw [if_pos h1] at h
    by_cases h2 : 32 < word l
    · rw [if_pos h2] at h; cases h
    · rw [if_neg h2] at h
      cases h
      rw [word_take (Nat.le_refl _) h1, if_pos h1, if_neg h2]
  · rw [if_neg h1] at h
    by_cases h2 : 0 < number l
    · rw [if_pos h2] at h
      have hlen : (l.take (number l)).length = number l := by rw [List.length_take, Nat.min_eq_left (number_le l)]
      have hn2 : n = number l := by
        unfold numbered at h
        split at h
        · cases h
        · split at h
          · cases h
          · cases h; exact hlen
      rw [hn2]
      rw [number_take (Nat.le_refl _), word_take (by omega) h2, if_neg h1, if_pos h2, List.take_take, Nat.min_self, h, hn2]
    · rw [if_neg h2] at h
      by_cases h3 : 0 < sign l
      · rw [if_pos h3] at h
        cases h
        rw [sign_take h3, if_pos h3, word_take (by omega) h3, if_neg h1, number_take (by omega), if_neg h2]
      · rw [if_neg h3] at h; cases h
theorem skip_pos {l : List UInt8} (h : skip l ≠ 0) : ∃ c r, l = c :: r ∧ (blank c = true ∨ c.toNat = 47) := by
  cases l with
  | nil => exact absurd rfl h
  | cons c r =>
    refine ⟨c, r, rfl, ?_⟩
    by_cases hb : blank c = true
    · exact .inl hb
    · refine .inr ?_
      by_cases ht : two 47 47 (c :: r) = true
      · cases r with
        | nil => simp [two] at ht
        | cons d r => simp only [two, Bool.and_eq_true, decide_eq_true_eq] at ht; exact ht.1
      · exact absurd (skip_none (fun c' r' e => by cases e; simpa using hb) (by simpa using ht)) h
/-- Where a token begins there is nothing to be passed over. -/
theorem first_skip {l : List UInt8} {k n v : Nat} (h : first l = .tok k n v) : skip l = 0 := by
  by_cases hs : skip l = 0
  · exact hs
  · obtain ⟨c, r, rfl, hc⟩ := skip_pos hs
    exfalso
    have hc2 : c.toNat = 32 ∨ c.toNat = 9 ∨ c.toNat = 10 ∨ c.toNat = 13 ∨ c.toNat = 47 := by
      rcases hc with hc | hc
      · unfold blank at hc; simp only [Bool.or_eq_true, decide_eq_true_eq] at hc; omega
      · omega
    have hw : word (c :: r) = 0 := by
      rw [word_c, if_neg]
      unfold letter
      simp only [Bool.or_eq_true, Bool.and_eq_true, decide_eq_true_eq]; omega
    have hd : number (c :: r) = 0 := by
      unfold number
      rw [run_t, if_neg]
      unfold digit
      simp only [Bool.and_eq_true, decide_eq_true_eq]; omega
    have ht : two 45 62 (c :: r) = false := by
      cases r with
      | nil => rfl
      | cons d r => show (decide (c.toNat = 45) && decide (d.toNat = 62)) = false; rw [decide_eq_false (by omega), Bool.false_and]
    have hg : sign (c :: r) = 0 := by
      show (if two 45 62 (c :: r) then 2 else if signC c then 1 else 0) = 0
      rw [ht, if_neg (by simp), if_neg]
      unfold signC
      simp only [Bool.or_eq_true, decide_eq_true_eq]; omega
    unfold first at h
    rw [hw, hd, hg] at h
    simp at h
theorem all_blank {a : Nat} {c : UInt8} {s : List UInt8} (h : blank c = true) : all a (c :: s) = all (a + 1) s := by
  rw [all_skip a (c :: s), skip_blank h, List.drop_succ_cons, all_skip (a + 1) s]
  congr 1; omega
theorem bs_inj {l m : List UInt8} (h : bs l = bs m) : l = m := by
  have := congrArg (fun b => b.data.toList) h
  simpa [bs] using this
theorem bs_data (l : List UInt8) : (bs l).data.toList = l := by simp [bs]
theorem data_bs (s : ByteArray) : bs s.data.toList = s := rfl
/-- What a right token's text begins with. -/
theorem not_wrong {t : Token} (h : wrong t = false) : first t.text.data.toList = .tok t.kind t.text.data.toList.length t.num.toNat ∧ 0 ≤ t.num := by
  unfold wrong at h
  cases hf : first t.text.data.toList with
  | no e => rw [hf] at h; cases h
  | tok k n v =>
    rw [hf] at h
    simp only [Bool.not_eq_false', Bool.and_eq_true, decide_eq_true_eq] at h
    obtain ⟨⟨h1, h2⟩, h3⟩ := h
    have h4 := first_len hf
    have h5 : t.text.data.toList.take n = t.text.data.toList := bs_inj h2
    have h6 := congrArg List.length h5
    rw [List.length_take] at h6
    have h7 : n = t.text.data.toList.length := by omega
    rw [← h3, Int.toNat_natCast, ← h7, h1]
    exact ⟨rfl, by omega⟩
theorem wrong_of {k n v : Nat} {l : List UInt8} {p : Int} (h : first l = .tok k n v) : wrong ⟨k, bs (l.take n), v, p⟩ = false := by
  unfold wrong
  show (match first (bs (l.take n)).data.toList with
    | .no _ => true
    | .tok k' n' v' => !(decide (k' = k) && decide (bs ((bs (l.take n)).data.toList.take n') = bs (l.take n)) && decide ((v' : Int) = (v : Nat)))) = false
  rw [bs_data, first_take h]
  simp [List.take_take]
theorem all_right : ∀ (m a : Nat) (l : List UInt8), l.length ≤ m → ∀ t ∈ (all a l).toks, wrong t = false
  | m, a, l, hm, t, ht => by
    rw [all_eq] at ht
    by_cases he : l.drop (skip l) = []
    · rw [if_pos he] at ht; simp [Out.toks] at ht
    · rw [if_neg he] at ht
      cases hf : first (l.drop (skip l)) with
      | no e => rw [hf] at ht; simp [Out.toks] at ht
      | tok k n v =>
        rw [hf] at ht
        have hn := first_len hf
        have hsl := skip_le l
        rw [List.length_drop] at hn
        simp only at ht
        cases m with
        | zero => omega
        | succ m =>
          have ih := all_right m (a + skip l + n) ((l.drop (skip l)).drop n) (by rw [List.length_drop, List.length_drop]; omega) t
          generalize all (a + skip l + n) ((l.drop (skip l)).drop n) = o at *
          cases o with
          | no a' e' => simp [Out.toks, Out.pre] at ht
          | ok us =>
            rw [pre_ok] at ht
            simp only [Out.toks, List.cons_append, List.nil_append, List.mem_cons] at ht
            rcases ht with rfl | ht
            · exact wrong_of hf
            · exact ih ht
def sizes (ts : List Token) : Nat := (ts.map fun t => t.text.size).sum
theorem all_sizes : ∀ (m a : Nat) (l : List UInt8), l.length ≤ m → sizes (all a l).toks ≤ l.length
  | m, a, l, hm => by
    rw [all_eq]
    by_cases he : l.drop (skip l) = []
    · rw [if_pos he]; exact Nat.zero_le _
    · rw [if_neg he]
      cases hf : first (l.drop (skip l)) with
      | no e => exact Nat.zero_le _
      | tok k n v =>
        have hn := first_len hf
        have hsl := skip_le l
        rw [List.length_drop] at hn
        have hlen : ((l.drop (skip l)).drop n).length = l.length - skip l - n := by rw [List.length_drop, List.length_drop]
        cases m with
        | zero => omega
        | succ m =>
          have ih := all_sizes m (a + skip l + n) ((l.drop (skip l)).drop n) (by omega)
          simp only
          generalize all (a + skip l + n) ((l.drop (skip l)).drop n) = o at *
          cases o with
          | no a' e' => exact Nat.zero_le _
          | ok us =>
            rw [pre_ok]
            have hts : (bs ((l.drop (skip l)).take n)).size = n := by rw [bs_size, List.length_take, List.length_drop]; omega
            simp only [Out.toks, List.cons_append, List.nil_append] at ih ⊢
            unfold sizes at ih ⊢
            rw [List.map_cons, List.sum_cons, hts]
            omega
theorem spelled_len (ts : List Token) : (spelled ts).length ≤ sizes ts + ts.length := by
  unfold spelled
  rw [List.length_drop]
  have : (ts.flatMap fun t => 32 :: t.text.data.toList).length = sizes ts + ts.length := by
    induction ts with
    | nil => rfl
    | cons t r ih =>
      have hl : t.text.data.toList.length = t.text.size := by rw [Array.length_toList]; rfl
      rw [List.flatMap_cons, List.length_append, ih, List.length_cons, hl]
      unfold sizes
      rw [List.map_cons, List.sum_cons, List.length_cons]
      omega
  omega
def erase (t : Token) : Token := ⟨t.kind, t.text, t.num, 0⟩
theorem spelled_cons (t : Token) (r : List Token) : spelled (t :: r) = if r = [] then t.text.data.toList else t.text.data.toList ++ 32 :: spelled r := by
  unfold spelled
  cases r with
  | nil => simp
  | cons u r => simp
/-- What is spelled of right tokens has the same tokens. -/
theorem all_spelled : ∀ (ts : List Token) (a : Nat), (∀ t ∈ ts, wrong t = false) → ∃ us, all a (spelled ts) = .ok us ∧ us.map erase = ts.map erase
  | [], a, _ => ⟨[], rfl, rfl⟩
  | t :: r, a, h => by
    obtain ⟨hf, h0⟩ := not_wrong (h t (List.mem_cons_self ..))
    have hne : t.text.data.toList ≠ [] := fun e => by have := first_len hf; rw [e] at this; simp at this
    have herase : erase ⟨t.kind, bs t.text.data.toList, (t.num.toNat : Nat), (a : Nat)⟩ = erase t := by
      unfold erase
      simp only [Token.mk.injEq, true_and, and_true]
      exact ⟨rfl, by omega⟩
    rw [spelled_cons]
    by_cases hr : r = []
    · subst hr
      rw [if_pos rfl, all_tok (first_skip hf) hne hf, List.drop_length, all_nil, List.take_length]
      exact ⟨_, rfl, by simp only [List.append_nil, List.map_cons, List.map_nil, herase]⟩
    · rw [if_neg hr]
      have hf2 : first (t.text.data.toList ++ 32 :: spelled r) = .tok t.kind t.text.data.toList.length t.num.toNat := by
        rw [first_append (by decide) (by decide) hne]; exact hf
      obtain ⟨us, h1, h2⟩ := all_spelled r (a + t.text.data.toList.length + 1) fun u hu => h u (List.mem_cons_of_mem _ hu)
      rw [all_tok (first_skip hf2) (by simp) hf2, List.drop_left, List.take_left, all_blank (by decide), h1]
      exact ⟨_, rfl, by rw [List.cons_append, List.nil_append, List.map_cons, List.map_cons, herase, h2]⟩
/-- Tokens in order within a text, from a place. -/
def Chain (full : List UInt8) : Nat → List Token → Prop
  | _, [] => True
  | e, t :: r => ∃ p : Nat, t.pos = p ∧ e ≤ p ∧ 0 < t.text.size ∧ p + t.text.size ≤ full.length ∧ bs ((full.drop p).take t.text.size) = t.text ∧ Chain full (p + t.text.size) r
theorem all_chain (full : List UInt8) : ∀ (m a e : Nat), full.length - a ≤ m → a ≤ full.length → e ≤ a → Chain full e (all a (full.drop a)).toks
  | m, a, e, hm, ha, he => by
    rw [all_eq]
    by_cases hd : (full.drop a).drop (skip (full.drop a)) = []
    · rw [if_pos hd]; trivial
    · rw [if_neg hd]
      cases hf : first ((full.drop a).drop (skip (full.drop a))) with
      | no e => trivial
      | tok k n v =>
        have hn := first_len hf
        have hsl := skip_le (full.drop a)
        rw [List.length_drop] at hsl
        rw [List.length_drop, List.length_drop] at hn
        cases m with
        | zero => omega
        | succ m =>
          have ih := all_chain full m (a + skip (full.drop a) + n) (a + skip (full.drop a) + n) (by omega) (by omega) (Nat.le_refl _)
          have hts : (bs ((full.drop (a + skip (full.drop a))).take n)).size = n := by rw [bs_size, List.length_take, List.length_drop]; omega
          rw [List.drop_drop]
          simp only
          rw [List.drop_drop]
          generalize all (a + skip (full.drop a) + n) (full.drop (a + skip (full.drop a) + n)) = o at *
          cases o with
          | no a' e' => trivial
          | ok us =>
            rw [pre_ok]
            simp only [Out.toks, List.cons_append, List.nil_append] at ih ⊢
            refine ⟨a + skip (full.drop a), rfl, by omega, by rw [hts]; omega, by rw [hts]; omega, by rw [hts], ?_⟩
            rw [hts]; exact ih
end Tk
