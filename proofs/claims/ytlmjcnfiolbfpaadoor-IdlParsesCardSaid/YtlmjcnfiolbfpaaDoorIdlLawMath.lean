/-
  Plain facts on what texts declare: blanks and remarks make no difference, nor does what stands behind a fault; declarations behind one another. No program. Conditions: those in the theorems.
-/
import Derived.Test.YtlmjcnfiolbfpaaDoorIdlMath
set_option linter.unusedSimpArgs false
set_option linter.unusedVariables false
namespace Tk
theorem all_remark {a : Nat} {l : List UInt8} (h : two 47 47 l = true) : all a l = all (a + line l) (l.drop (line l)) := by
  rw [all_skip a l, all_skip (a + line l), skip_remark h, List.drop_drop]
  congr 1; omega
/-- What the law puts behind each token. -/
def sep : List UInt8 := [10, 47, 47, 32, 120, 32, 123, 32, 59, 10, 9]
def spaced (ts : List Token) : List UInt8 := ts.flatMap fun t => t.text.data.toList ++ sep
theorem spaced_len (ts : List Token) : (spaced ts).length = sizes ts + 11 * ts.length := by
  induction ts with
  | nil => rfl
  | cons t r ih =>
    have hl : t.text.data.toList.length = t.text.size := by rw [Array.length_toList]; rfl
    have hc : spaced (t :: r) = (t.text.data.toList ++ sep) ++ spaced r := by unfold spaced; rw [List.flatMap_cons]
    rw [hc, List.length_append, List.length_append, ih, hl]
    unfold sizes
    rw [List.map_cons, List.sum_cons, List.length_cons]
    show t.text.size + 11 + _ = _
    omega
theorem all_sep (a : Nat) (r : List UInt8) : all a (sep ++ r) = all (a + 11) r := by
  show all a (10 :: 47 :: 47 :: 32 :: 120 :: 32 :: 123 :: 32 :: 59 :: 10 :: 9 :: r) = _
  rw [all_blank (by decide), all_remark (by rfl)]
  have hl : line (47 :: 47 :: 32 :: 120 :: 32 :: 123 :: 32 :: 59 :: 10 :: 9 :: r) = 8 := by simp [line, run, noLine]
  rw [hl]
  show all (a + 1 + 8) (10 :: 9 :: r) = _
  rw [all_blank (by decide), all_blank (by decide)]
theorem all_spaced : ∀ (ts : List Token) (a : Nat), (∀ t ∈ ts, wrong t = false) → ∃ us, all a (spaced ts) = .ok us ∧ us.map erase = ts.map erase
  | [], a, _ => ⟨[], rfl, rfl⟩
  | t :: r, a, h => by
    obtain ⟨hf, h0⟩ := not_wrong (h t (List.mem_cons_self ..))
    have hne : t.text.data.toList ≠ [] := fun e => by have := first_len hf; rw [e] at this; simp at this
    have herase : erase ⟨t.kind, bs t.text.data.toList, (t.num.toNat : Nat), (a : Nat)⟩ = erase t := by
      unfold erase
      simp only [Token.mk.injEq, true_and, and_true]
      exact ⟨rfl, by omega⟩
    have hc : spaced (t :: r) = t.text.data.toList ++ (sep ++ spaced r) := by unfold spaced; rw [List.flatMap_cons, List.append_assoc]
    have hf2 : first (t.text.data.toList ++ (sep ++ spaced r)) = .tok t.kind t.text.data.toList.length t.num.toNat := by
      show first (t.text.data.toList ++ 10 :: _) = _
      rw [first_append (by decide) (by decide) hne]; exact hf
    obtain ⟨us, h1, h2⟩ := all_spaced r (a + t.text.data.toList.length + 11) fun u hu => h u (List.mem_cons_of_mem _ hu)
    rw [hc, all_tok (first_skip hf2) (by simp [hne]) hf2, List.drop_left, List.take_left, all_sep, h1]
    exact ⟨_, rfl, by rw [List.cons_append, List.nil_append, List.map_cons, List.map_cons, herase, h2]⟩
/-- Which token stands at a place: how many there are, if none does. -/
def numAt (ts : List Token) (p : Int) : Nat := ts.findIdx fun t => t.pos == p
theorem chain_lo {full : List UInt8} : ∀ {ts : List Token} {e : Nat}, Chain full e ts → ∀ t ∈ ts, (e : Int) ≤ t.pos ∧ t.pos < (full.length : Nat)
  | [], _, _, t, ht => by cases ht
  | u :: r, e, ⟨p, h1, h2, h3, h4, h5, h6⟩, t, ht => by
    rcases List.mem_cons.1 ht with rfl | ht
    · rw [h1]; omega
    · have := chain_lo h6 t ht; omega
theorem chain_at {full : List UInt8} : ∀ {ts : List Token} {e : Nat}, Chain full e ts → ∀ k, (hk : k < ts.length) → numAt ts ts[k].pos = k
  | [], _, _, k, hk => absurd hk (Nat.not_lt_zero _)
  | u :: r, e, ⟨p, h1, h2, h3, h4, h5, h6⟩, k, hk => by
    unfold numAt
    rw [List.findIdx_cons]
    cases k with
    | zero => simp
    | succ k =>
      have hk' : k < r.length := by simpa using hk
      have hlo := chain_lo h6 r[k] (List.getElem_mem hk')
      have hne : (u.pos == (u :: r)[k + 1].pos) = false := by
        rw [beq_eq_false_iff_ne, List.getElem_cons_succ, h1]; omega
      have ih := chain_at h6 k hk'
      unfold numAt at ih
      rw [hne, List.getElem_cons_succ, ih]; rfl
theorem chain_end {full : List UInt8} {ts : List Token} {e : Nat} (h : Chain full e ts) : numAt ts (full.length : Nat) = ts.length := by
  unfold numAt
  rw [List.findIdx_eq_length]
  intro t ht
  have := chain_lo h t ht
  simp only [beq_eq_false_iff_ne]; omega
theorem chain_of {t : List UInt8} {ts : List Token} (h : all 0 t = .ok ts) : Chain t 0 ts := by
  have := all_chain t t.length 0 0 (by omega) (Nat.zero_le _) (Nat.le_refl _)
  rw [List.drop_zero, h] at this; exact this
end Tk
namespace Ip
open Tk (Token)
theorem declsF_left : ∀ (n : Nat) (s : Sch) (r : R), ∃ k, (declsF n s r).2.left = r.left.drop k
  | 0, s, r => ⟨0, rfl⟩
  | n + 1, s, r => by
    rw [declsF_t]
    split
    · exact ⟨0, rfl⟩
    · obtain ⟨a, ha⟩ := (nice_declare s).left r
      obtain ⟨b, hb⟩ := declsF_left n (declare s r).1 (declare s r).2
      exact ⟨a + b, by rw [hb, ha, List.drop_drop]⟩
theorem ends_erase (r : R) : ends r.erase = ends r := by obtain ⟨l, s⟩ := r; cases s <;> cases l <;> rfl
theorem declsF_erase : ∀ (n : Nat) (s : Sch) (r : R), declsF n s r.erase = ((declsF n s r).1, (declsF n s r).2.erase)
  | 0, s, r => rfl
  | n + 1, s, r => by
    rw [declsF_t, declsF_t, ends_erase]
    split
    · rfl
    · rw [(nice_declare s).erase]; exact declsF_erase n _ _
theorem declsF_ext : ∀ (n : Nat) (s : Sch) (r : R) (u : List Token), (declsF n s r).2.left ≠ [] → declsF n s (r.more u) = ((declsF n s r).1, (declsF n s r).2.more u)
  | 0, s, r, u, _ => rfl
  | n + 1, s, r, u, h => by
    rw [declsF_t] at h
    have hr : r.left ≠ [] := by
      intro e
      rw [ends_nil e, if_pos rfl] at h; exact h e
    have he : ends (r.more u) = ends r := by
      obtain ⟨l, st⟩ := r
      cases l with
      | nil => exact absurd rfl hr
      | cons t l => cases st <;> rfl
    rw [declsF_t, declsF_t, he]
    split
    · rfl
    · rename_i hh
      rw [if_neg hh] at h
      have hg : Good (declare s r).2 := .inr fun e => by
        obtain ⟨k, hk⟩ := declsF_left n (declare s r).1 (declare s r).2
        rw [hk, e] at h; exact h List.drop_nil
      rw [(nice_declare s).ext r u hg]
      exact declsF_ext n _ _ u h
/-- A text that is read goes on to be read. -/
theorem declsF_on : ∀ (n : Nat) (s : Sch) (r : R) (u : List Token), r.left.length < n → (declsF n s r).2 = ⟨[], false⟩ → declsF (n + u.length) s (r.more u) = decls (declsF n s r).1 ⟨u, false⟩
  | 0, s, r, u, h, _ => absurd h (Nat.not_lt_zero _)
  | n + 1, s, r, u, hn, h => by
    rw [declsF_t] at h ⊢
    by_cases hr : ends r = true
    · rw [if_pos hr] at h ⊢
      subst h
      rw [show R.more ⟨[], false⟩ u = ⟨u, false⟩ from rfl]
      exact declsF_more (n + 1 + u.length) (u.length + 1) s ⟨u, false⟩ (by show u.length < n + 1 + u.length; omega) (by show u.length < u.length + 1; omega)
    · rw [if_neg hr] at h ⊢
      have hr' : ends r = false := by simpa using hr
      have hst : (declare s r).2.stuck = false := by
        cases hd : (declare s r).2.stuck with
        | false => rfl
        | true => rw [declsF_end (ends_stuck hd)] at h; simp only at h; rw [h] at hd; cases hd
      have hlt : (declare s r).2.left.length < r.left.length := by
        rcases takes_declare s r (not_ends hr') with e | e
        · rw [hst] at e; cases e
        · exact e
      have he : ends (r.more u) = false := by
        obtain ⟨l, st⟩ := r
        cases l with
        | nil => rw [ends_nil rfl] at hr'; cases hr'
        | cons t l => rw [← hr']; cases st <;> rfl
      rw [show n + 1 + u.length = (n + u.length) + 1 by omega, declsF_t, he]
      simp only [Bool.false_eq_true, if_false]
      rw [(nice_declare s).ext r u (.inl hst)]
      exact declsF_on n _ _ u (by omega) h
def plus (s t : Sch) : Sch := ⟨s.name, s.records ++ t.records, s.services ++ t.services, s.sagas ++ t.sagas⟩
theorem declareW_plus (s t : Sch) (w : ByteArray) (r : R) : declareW (plus s t) w r = (plus s (declareW t w r).1, (declareW t w r).2) := by
  unfold declareW
  split
  · rw [bind_eq, bind_eq, ret_eq, ret_eq]; unfold plus; simp only [List.append_assoc]
  · split
    · rw [bind_eq, bind_eq, ret_eq, ret_eq]; unfold plus; simp only [List.append_assoc]
    · split
      · rw [bind_eq, bind_eq, ret_eq, ret_eq]; unfold plus; simp only [List.append_assoc]
      · split
        · rw [bind_eq, bind_eq, ret_eq, ret_eq]; unfold plus; simp only [List.append_assoc]
        · rfl
theorem declsF_plus : ∀ (n : Nat) (s t : Sch) (r : R), declsF n (plus s t) r = (plus s (declsF n t r).1, (declsF n t r).2)
  | 0, s, t, r => rfl
  | n + 1, s, t, r => by
    rw [declsF_t, declsF_t]
    split
    · rfl
    · have : declare (plus s t) r = (plus s (declare t r).1, (declare t r).2) := by
        unfold declare; rw [bind_eq, bind_eq, declareW_plus]
      rw [this]
      exact declsF_plus n s _ _
theorem plus_nil (s : Sch) (n : ByteArray) : plus s ⟨n, [], [], []⟩ = s := by
  obtain ⟨a, b, c, d⟩ := s
  unfold plus; simp

theorem schema_eq (r : R) : schema r = decls ⟨(head r).1, [], [], []⟩ (head r).2 := rfl
theorem decls_fuel (n : Nat) (s : Sch) (r : R) (h : r.left.length < n) : decls s r = declsF n s r := declsF_more _ _ _ _ (Nat.lt_succ_self _) h
theorem schema_left (r : R) : ∃ k, (schema r).2.left = r.left.drop k := by
  obtain ⟨a, ha⟩ := nice_head.left r
  obtain ⟨b, hb⟩ := declsF_left ((head r).2.left.length + 1) ⟨(head r).1, [], [], []⟩ (head r).2
  exact ⟨a + b, by rw [schema_eq]; show (declsF _ _ _).2.left = _; rw [hb, ha, List.drop_drop]⟩
theorem schema_erase (r : R) : schema r.erase = ((schema r).1, (schema r).2.erase) := by
  rw [schema_eq, schema_eq, nice_head.erase]
  show declsF _ _ _ = _
  rw [show ((head r).2.erase).left.length = (head r).2.left.length by simp [R.erase], declsF_erase]; rfl
theorem schema_ext (r : R) (u : List Token) (h : (schema r).2.left ≠ []) : schema (r.more u) = ((schema r).1, (schema r).2.more u) := by
  rw [schema_eq] at h
  have hd := decls_fuel ((head r).2.left.length + u.length + 1) ⟨(head r).1, [], [], []⟩ (head r).2 (by omega)
  rw [hd] at h
  have hg : Good (head r).2 := .inr fun e => by
    obtain ⟨k, hk⟩ := declsF_left ((head r).2.left.length + u.length + 1) ⟨(head r).1, [], [], []⟩ (head r).2
    rw [hk, e] at h; exact h List.drop_nil
  rw [schema_eq, schema_eq, nice_head.ext r u hg, decls_fuel ((head r).2.left.length + u.length + 1) _ ((head r).2.more u) (by simp [R.more]), declsF_ext _ _ _ u h, hd]
theorem schema_on (r : R) (u : List Token) (h : (schema r).2 = ⟨[], false⟩) : schema (r.more u) = decls (schema r).1 ⟨u, false⟩ := by
  rw [schema_eq] at h ⊢
  have hs : (head r).2.stuck = false := by
    cases hd : (head r).2.stuck with
    | false => rfl
    | true => unfold decls at h; rw [declsF_end (ends_stuck hd)] at h; simp only at h; rw [h] at hd; cases hd
  rw [nice_head.ext r u (.inl hs), decls_fuel ((head r).2.left.length + 1 + u.length) _ ((head r).2.more u) (by simp [R.more] <;> omega)]
  exact declsF_on _ _ _ u (Nat.lt_succ_self _) h
theorem whole_ok {α : Type} (f : M α) (z : α) {t : List UInt8} {ts : List Token} (h : Tk.all 0 t = .ok ts) : whole f z t = match (f ⟨ts, false⟩).2.left with
    | t :: _ => (z, t.pos, 120)
    | [] => if (f ⟨ts, false⟩).2.stuck then (z, (t.length : Nat), 120) else ((f ⟨ts, false⟩).1, 0, 0) := by unfold whole; simp only [h]; cases (f ⟨ts, false⟩).2.left <;> rfl
theorem whole_no {α : Type} (f : M α) (z : α) {t : List UInt8} {a e : Nat} (h : Tk.all 0 t = .no a e) : whole f z t = (z, ((a : Nat) : Int), e) := by unfold whole; simp only [h]
/-- The same tokens, apart from where they stand. -/
theorem parse_alike {x y : List UInt8} {l m : List Token} (hl : Tk.all 0 x = .ok l) (hm : Tk.all 0 y = .ok m) (he : m.map Tk.erase = l.map Tk.erase) :
    (parse x).1 = (parse y).1 ∧ (parse x).2.2 = (parse y).2.2 ∧ ((parse x).2.2 = 0 → (parse x).2.1 = 0 ∧ (parse y).2.1 = 0) ∧ ((parse x).2.2 ≠ 0 → Tk.numAt l (parse x).2.1 = Tk.numAt m (parse y).2.1) := by
  have hcx := Tk.chain_of hl
  have hcy := Tk.chain_of hm
  have hlen : m.length = l.length := by have := congrArg List.length he; simpa using this
  have h1 := schema_erase ⟨l, false⟩
  have h2 := schema_erase ⟨m, false⟩
  have hee : R.erase ⟨m, false⟩ = R.erase ⟨l, false⟩ := by unfold R.erase; simp only; rw [he]
  rw [hee, h1] at h2
  obtain ⟨kx, hkx⟩ := schema_left ⟨l, false⟩
  obtain ⟨ky, hky⟩ := schema_left ⟨m, false⟩
  simp only [Prod.mk.injEq] at h2
  obtain ⟨h3, h4⟩ := h2
  have h5 : (schema ⟨l, false⟩).2.stuck = (schema ⟨m, false⟩).2.stuck := by have := congrArg R.stuck h4; exact this
  have h6 : (schema ⟨l, false⟩).2.left.length = (schema ⟨m, false⟩).2.left.length := by
    have := congrArg (fun r : R => r.left.length) h4
    simpa [R.erase] using this
  unfold parse
  rw [whole_ok _ _ hl, whole_ok _ _ hm]
  simp only at hkx hky
  rw [hkx, hky] at h6
  rw [List.length_drop, List.length_drop] at h6
  rw [hkx, hky, ← h3, ← h5]
  by_cases hk : kx < l.length
  · have hk2 : ky < m.length := by omega
    have hkk : kx = ky := by omega
    subst hkk
    rw [List.drop_eq_getElem_cons hk, List.drop_eq_getElem_cons hk2]
    simp only
    refine ⟨(by first | trivial | rfl), (by first | trivial | rfl), fun h => by simp at h, fun _ => ?_⟩
    rw [Tk.chain_at hcx _ hk, Tk.chain_at hcy _ hk2]
  · rw [List.drop_of_length_le (by omega), List.drop_of_length_le (by omega)]
    simp only
    split
    · refine ⟨(by first | trivial | rfl), (by first | trivial | rfl), fun h => by simp at h, fun _ => ?_⟩
      rw [Tk.chain_end hcx, Tk.chain_end hcy, hlen]
    · exact ⟨(by first | trivial | rfl), (by first | trivial | rfl), fun _ => ⟨(by first | trivial | rfl), (by first | trivial | rfl)⟩, fun h => absurd (by first | trivial | rfl) h⟩
theorem parse_no {x : List UInt8} {a e : Nat} (h : Tk.all 0 x = .no a e) : parse x = (Sch.zero, ((a : Nat) : Int), e) := whole_no _ _ h
/-- What stands behind the token of a fault makes no difference. -/
theorem parse_ahead {x y : List UInt8} {l m : List Token} (hl : Tk.all 0 x = .ok l) (hm : Tk.all 0 y = .ok m) (he : (parse x).2.2 = 120) (ha : (parse x).2.1 ≠ (x.length : Nat)) :
    parse (x ++ 10 :: y) = (Sch.zero, (parse x).2.1, 120) := by
  have h2 := Tk.all_two x y
  rw [hl, hm] at h2
  simp only [Tk.Out.shift, Tk.pre_ok] at h2
  unfold parse at he ha ⊢
  rw [whole_ok _ _ hl] at he ha ⊢
  rw [whole_ok _ _ h2]
  cases hq : (schema ⟨l, false⟩).2.left with
  | nil =>
    rw [hq] at he ha
    simp only at he ha
    split at he
    · rename_i hst
      rw [if_pos hst] at ha; exact absurd rfl ha
    · cases he
  | cons t r =>
    have := schema_ext ⟨l, false⟩ (m.map (Tk.shiftT (x.length + 1))) (by rw [hq]; simp)
    rw [show R.more ⟨l, false⟩ (m.map (Tk.shiftT (x.length + 1))) = ⟨l ++ m.map (Tk.shiftT (x.length + 1)), false⟩ from rfl] at this
    rw [this]
    simp only [R.more, hq, List.cons_append]
def headM : List UInt8 := [109, 111, 100, 117, 108, 101, 32, 109, 59]
theorem all_headM : Tk.all 0 headM = .ok [⟨1, ⟨#[109, 111, 100, 117, 108, 101]⟩, 0, 0⟩, ⟨1, ⟨#[109]⟩, 0, 7⟩, ⟨3, ⟨#[59]⟩, 0, 8⟩] := by rfl
theorem head_headM (u : List Token) : head ⟨[⟨1, ⟨#[109, 111, 100, 117, 108, 101]⟩, 0, 0⟩, ⟨1, ⟨#[109]⟩, 0, 7⟩, ⟨3, ⟨#[59]⟩, 0, 8⟩] ++ u, false⟩ = (⟨#[109]⟩, ⟨u, false⟩) := by rfl
theorem erase_shift (q : Nat) (m : List Token) : (m.map (Tk.shiftT q)).map Tk.erase = m.map Tk.erase := by
  rw [List.map_map]; rfl
/-- The declarations of another text, put behind. -/
theorem parse_more {x y : List UInt8} (hx : (parse x).2.2 = 0) (hy : (parse (headM ++ 10 :: y)).2.2 = 0) :
    parse (x ++ 10 :: y) = (plus (parse x).1 (parse (headM ++ 10 :: y)).1, 0, 0) := by
  have ok0 : ∀ {z : List UInt8}, (parse z).2.2 = 0 → ∃ l, Tk.all 0 z = .ok l ∧ (schema ⟨l, false⟩).2 = ⟨[], false⟩ ∧ parse z = ((schema ⟨l, false⟩).1, 0, 0) := by
    intro z hz
    cases hq : Tk.all 0 z with
    | no a e =>
      rw [parse_no hq] at hz
      have := Tk.all_err hq
      simp only at hz; omega
    | ok l =>
      refine ⟨l, rfl, ?_⟩
      unfold parse at hz ⊢
      rw [whole_ok _ _ hq] at hz ⊢
      cases hw : (schema ⟨l, false⟩).2.left with
      | cons t r => rw [hw] at hz; simp only at hz; omega
      | nil =>
        rw [hw] at hz
        simp only at hz ⊢
        split at hz
        · simp only at hz; omega
        · rename_i hst
          rw [if_neg hst]
          have hst' : (schema ⟨l, false⟩).2.stuck = false := by simpa using hst
          refine ⟨?_, rfl⟩
          generalize (schema ⟨l, false⟩).2 = q at *
          obtain ⟨a, b⟩ := q
          simp only at hw hst'
          rw [hw, hst']
  obtain ⟨l, hl, hs, hp⟩ := ok0 hx
  obtain ⟨n, hn, hsn, hpn⟩ := ok0 hy
  rw [Tk.all_two, all_headM] at hn
  cases hm : Tk.all 0 y with
  | no a e => rw [hm] at hn; simp only [Tk.Out.shift, Tk.pre_no] at hn; cases hn
  | ok m =>
    rw [hm] at hn
    simp only [Tk.Out.shift, Tk.pre_ok] at hn
    have h2 := Tk.all_two x y
    rw [hl, hm] at h2
    simp only [Tk.Out.shift, Tk.pre_ok] at h2
    have hn := Tk.Out.ok.inj hn
    have hsc : schema ⟨n, false⟩ = decls ⟨⟨#[109]⟩, [], [], []⟩ ⟨m.map (Tk.shiftT (headM.length + 1)), false⟩ := by rw [← hn, schema_eq, head_headM]
    rw [hsc] at hsn hpn
    rw [hp, hpn]
    unfold parse
    rw [whole_ok _ _ h2, show (⟨l ++ m.map (Tk.shiftT (x.length + 1)), false⟩ : R) = R.more ⟨l, false⟩ (m.map (Tk.shiftT (x.length + 1))) from rfl, schema_on _ _ hs]
    simp only at hsn ⊢
    have hpl := declsF_plus ((m.map (Tk.shiftT (headM.length + 1))).length + 1) (schema ⟨l, false⟩).1 ⟨⟨#[109]⟩, [], [], []⟩ ⟨m.map (Tk.shiftT (headM.length + 1)), false⟩
    rw [plus_nil] at hpl
    have her : ∀ q s, decls s ⟨m.map (Tk.shiftT q), false⟩ = ((decls s (R.erase ⟨m, false⟩)).1, (decls s ⟨m.map (Tk.shiftT q), false⟩).2) ∧ (decls s ⟨m.map (Tk.shiftT q), false⟩).2.erase = (decls s (R.erase ⟨m, false⟩)).2 := by
      intro q s
      have h := declsF_erase (m.length + 1) s ⟨m.map (Tk.shiftT q), false⟩
      have e1 : R.erase ⟨m.map (Tk.shiftT q), false⟩ = R.erase ⟨m, false⟩ := by unfold R.erase; simp only; rw [erase_shift]
      rw [e1] at h
      have e2 : decls s (R.erase ⟨m, false⟩) = declsF (m.length + 1) s (R.erase ⟨m, false⟩) := decls_fuel _ _ _ (by simp [R.erase])
      have e3 : decls s ⟨m.map (Tk.shiftT q), false⟩ = declsF (m.length + 1) s ⟨m.map (Tk.shiftT q), false⟩ := decls_fuel _ _ _ (by simp)
      rw [e2, e3, h]
      exact ⟨rfl, rfl⟩
    have hd := hpl
    rw [show declsF ((m.map (Tk.shiftT (headM.length + 1))).length + 1) (schema ⟨l, false⟩).1 ⟨m.map (Tk.shiftT (headM.length + 1)), false⟩ = decls (schema ⟨l, false⟩).1 ⟨m.map (Tk.shiftT (headM.length + 1)), false⟩ from rfl,
      show declsF ((m.map (Tk.shiftT (headM.length + 1))).length + 1) ⟨⟨#[109]⟩, [], [], []⟩ ⟨m.map (Tk.shiftT (headM.length + 1)), false⟩ = decls ⟨⟨#[109]⟩, [], [], []⟩ ⟨m.map (Tk.shiftT (headM.length + 1)), false⟩ from rfl] at hd
    have k1 := her (x.length + 1) (schema ⟨l, false⟩).1
    have k2 := her (headM.length + 1) (schema ⟨l, false⟩).1
    have hend : (decls (schema ⟨l, false⟩).1 ⟨m.map (Tk.shiftT (x.length + 1)), false⟩).2 = ⟨[], false⟩ := by
      have h7 : (decls (schema ⟨l, false⟩).1 ⟨m.map (Tk.shiftT (x.length + 1)), false⟩).2.erase = ⟨[], false⟩ := by
        rw [k1.2, ← k2.2, hd]
        show R.erase (decls _ _).2 = _
        rw [hsn]; rfl
      generalize (decls (schema ⟨l, false⟩).1 ⟨m.map (Tk.shiftT (x.length + 1)), false⟩).2 = q at *
      obtain ⟨a, b⟩ := q
      unfold R.erase at h7
      simp only [R.mk.injEq, List.map_eq_nil_iff] at h7
      rw [h7.1, h7.2]
    have hval : (decls (schema ⟨l, false⟩).1 ⟨m.map (Tk.shiftT (x.length + 1)), false⟩).1 = plus (schema ⟨l, false⟩).1 (decls ⟨⟨#[109]⟩, [], [], []⟩ ⟨m.map (Tk.shiftT (headM.length + 1)), false⟩).1 := by
      have a1 := congrArg Prod.fst k1.1
      have a2 := congrArg Prod.fst k2.1
      simp only at a1 a2
      rw [a1, ← a2, hd]
    rw [hend]
    simp only [Bool.false_eq_true, if_false]
    rw [hval]
end Ip
