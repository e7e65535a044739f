/-
  Walks over package table: long, rises, whole, Build. Conditions: those in the theorems.
-/
import Derived.Test.YtgmaccfhgeocdaaTabText
import Derived.Test.YtgmaccfhgeocdaaTabNow
import Derived.Deep.QuietTactic
import Derived.BigQuiet
namespace Go.Proofs.Ytgmaccfhgeocdaa
open Go.RowKit Tb

/-- The call says whether P; what lay is as it was. -/
def Says (P : Prop) (w : World) (e : Ending) (w' : World) : Prop := ∃ b : Bool, e = .returned (.bool b) ∧ (b = true ↔ P) ∧ Below w.heap.size w w'
theorem says {P : Prop} {w w' : World} (b : Bool) (h : b = true ↔ P) (hb : Below w.heap.size w w') : Says P w (.returned (.bool b)) w' := ⟨b, rfl, h, hb⟩
def Short (e : En) : Prop := e.key.size ≤ 128 ∧ e.value.size ≤ 16384
def Fits (l : List En) : Prop := l.length ≤ 4096 ∧ (∀ e ∈ l, Short e) ∧ weight l ≤ 524288
def Rises (l : List En) : Prop := ∀ i (h : i < l.length), 0 < i → Mm.lt (l[i - 1]'(by omega)).key l[i].key = true
def WholeE (e : En) : Prop := 1 ≤ e.key.size ∧ (e.gone = true → e.value.size = 0)
theorem rises_iff (l : List En) : Rises l ↔ l.Pairwise fun a b => Mm.lt a.key b.key = true := by
  constructor
  · intro h
    rw [List.pairwise_iff_getElem]
    intro i j hi hj hij
    obtain ⟨d, rfl⟩ : ∃ d, j = i + 1 + d := ⟨j - i - 1, by omega⟩
    clear hij
    induction d with
    | zero => exact h (i + 1) hj (by omega)
    | succ d ih =>
      have h1 := ih (by omega)
      have h2 := h (i + 1 + (d + 1)) hj (by omega)
      exact Mm.lt_trans h1 h2
  · intro h i hi h0
    rw [List.pairwise_iff_getElem] at h
    exact h (i - 1) i (by omega) hi (by omega)
theorem right_iff (l : List En) : Right l ↔ Fits l ∧ Rises l ∧ ∀ e ∈ l, WholeE e := by
  constructor
  · intro h
    exact ⟨⟨h.few, fun e he => ⟨(h.ok e he).2.1, (h.ok e he).2.2.1⟩, h.light⟩, (rises_iff l).2 h.rise, fun e he => ⟨(h.ok e he).1, (h.ok e he).2.2.2⟩⟩
  · rintro ⟨⟨h1, h2, h3⟩, h4, h5⟩
    exact ⟨h1, fun e he => ⟨(h5 e he).1, (h2 e he).1, (h2 e he).2, (h5 e he).2⟩, h3, (rises_iff l).1 h4⟩
theorem weight_take (l : List En) {k : Nat} (h : k < l.length) : weight (l.take (k + 1)) = weight (l.take k) + (l[k].key.size + l[k].value.size) := by
  unfold weight
  rw [List.take_succ_eq_append_getElem h, List.map_append, List.sum_append]; simp
theorem weight_small (l : List En) (h : ∀ e ∈ l, Short e) : weight l ≤ 16512 * l.length := by
  induction l with
  | nil => simp [weight]
  | cons e r ih =>
    have h1 := h e List.mem_cons_self
    have h2 := ih fun x hx => h x (List.mem_cons_of_mem _ hx)
    unfold weight at *
    obtain ⟨h3, h4⟩ := h1
    rw [List.map_cons, List.sum_cons, List.length_cons]; omega

set_option maxRecDepth 100000 in
set_option maxHeartbeats 4000000 in
theorem long_any {w : World} {p : Option Addr} {cap : Nat} {l : List En} (hl : EntsAt w p l) :
    Calls Try.prog 23 #[.slice p l.length cap] w (Says (¬ Fits l) w) := by
  have HL := Lib.hid hl
  clear hl
  go_enter Try.func23, Try.ntmps23
  by_cases hb : 4096 < l.length
  · have i0 : (4096 : Int) < (l.length : Int) := by omega
    go_wp2_with fail
    go_ret
    exact says true (by simp only [Fits, true_iff]; omega) (Below.refl _ _)
  · have i0 : ¬ (4096 : Int) < (l.length : Int) := by omega
    go_wp2_with fail
    go_loopw [3, 11] (fun bv kv wr => ∃ k : Nat, k ≤ l.length ∧ kv = .int .i64 (k : Nat) ∧ bv = .int .i64 (weight (l.take k) : Nat) ∧ Hid ((∀ e ∈ l.take k, Short e) ∧ Below w.heap.size w wr)) (fun _ kv _ => l.length - (intOf kv).toNat)
    case atStart => exact ⟨0, Nat.zero_le _, rfl, rfl, Lib.hid ⟨fun e he => by simp at he, Below.refl _ _⟩⟩
    case round =>
      obtain ⟨k, hk, rfl, rfl, H⟩ := hrel
      by_cases hlt : k < l.length
      · have i1 : (k : Int) < (l.length : Int) := by omega
        have i2 : (0 : Int) ≤ (k : Int) := by omega
        obtain ⟨A, rfl, c0, c1, c2, hin⟩ := HL.out.at H.out.2 hlt
        have hwk := weight_small _ H.out.1
        have hkl : (l.take k).length ≤ k := by rw [List.length_take]; omega
        have hw2 : weight (l.take k) ≤ 70000000 := by
          have := Nat.mul_le_mul_left 16512 (Nat.le_trans hkl (show k ≤ 4096 by omega)); omega
        have HWT := Lib.hid (weight_take l hlt)
        have HTK := Lib.hid (List.take_succ_eq_append_getElem hlt)
        have HME := Lib.hid (List.getElem_mem hlt)
        clear hwk hkl
        generalize l[k] = x at *
        by_cases h1 : 128 < x.key.size
        · have i3 : (128 : Int) < (x.key.size : Int) := by omega
          go_wp2_with fail
          go_ret
          exact says true (by
            simp only [true_iff]
            intro h
            have := (h.2.1 x HME.out).1
            omega) (H.out.2.alloc H.out.2.size _)
        · have i3 : ¬ (128 : Int) < (x.key.size : Int) := by omega
          by_cases h2 : 16384 < x.value.size
          · have i4 : (16384 : Int) < (x.value.size : Int) := by omega
            go_wp2_with fail
            go_ret
            exact says true (by
              simp only [true_iff]
              intro h
              have := (h.2.1 x HME.out).2
              omega) (H.out.2.alloc H.out.2.size _)
          · have i4 : ¬ (16384 : Int) < (x.value.size : Int) := by omega
            have H2 := Lib.hid (And.intro (show ∀ e ∈ l.take (k + 1), Short e from by
              rw [HTK.out]
              intro e he
              rcases List.mem_append.1 he with he | he
              · exact H.out.1 e he
              · rw [List.mem_singleton.1 he]; exact ⟨by omega, by omega⟩) (H.out.2.alloc H.out.2.size (.cells #[.string x.key, .string x.value, .bool x.gone] 31)))
            go_wp2_with fail
            go_roundw
            case rel => exact ⟨k + 1, by omega, by go_num, by rw [HWT.out]; go_num, H2⟩
            case measure => simp [intOf]; omega
      · obtain rfl : k = l.length := by omega
        have i1 : ¬ (l.length : Int) < (l.length : Int) := by omega
        rw [List.take_length] at H ⊢
        have hw1 := weight_small _ H.out.1
        by_cases h1 : 524288 < weight l
        · have i3 : (524288 : Int) < (weight l : Int) := by omega
          go_wp2_with fail
          go_ret
          exact says true (by
            simp only [true_iff]
            intro h
            have := h.2.2
            omega) H.out.2
        · have i3 : ¬ (524288 : Int) < (weight l : Int) := by omega
          go_wp2_with fail
          go_ret
          exact says false (by
            simp only [Bool.false_eq_true, false_iff, Classical.not_not]
            exact ⟨by omega, H.out.1, by omega⟩) H.out.2

theorem lt_eqs {a b : ByteArray} : (Mm.lt a b = true → Op.bytesLess a.toList b.toList = true ∧ Op.bytesLess b.toList a.toList = false ∧ (a.toList == b.toList) = false ∧ (b.toList == a.toList) = false) ∧ (Mm.lt a b = false → Op.bytesLess a.toList b.toList = false) := by
  refine ⟨fun h => ⟨h, Mm.lt_asymm h, beq_eq_false_iff_ne.2 fun e => Mm.lt_ne h (Mm.toList_inj e), beq_eq_false_iff_ne.2 fun e => Mm.lt_ne h (Mm.toList_inj e.symm)⟩, fun h => h⟩
set_option maxRecDepth 100000 in
set_option maxHeartbeats 4000000 in
theorem rises_any {w : World} {p : Option Addr} {cap : Nat} {l : List En} (hl : EntsAt w p l) (hm : l.length ≤ maxLen) :
    Calls Try.prog 24 #[.slice p l.length cap] w (Says (Rises l) w) := by
  unfold maxLen at hm
  have HL := Lib.hid hl
  clear hl
  go_enter Try.func24, Try.ntmps24
  go_wp2_with fail
  go_loopw [6] (fun kv wr => ∃ k : Nat, k ≤ l.length ∧ kv = .int .i64 (k : Nat) ∧ Hid ((∀ i (h : i < l.length), i < k → 0 < i → Mm.lt (l[i - 1]'(by omega)).key l[i].key = true) ∧ Below w.heap.size w wr)) (fun kv _ => l.length - (intOf kv).toNat)
  case atStart => exact ⟨0, Nat.zero_le _, rfl, Lib.hid ⟨fun i _ h => by omega, Below.refl _ _⟩⟩
  case round =>
    obtain ⟨k, hk, rfl, H⟩ := hrel
    by_cases hlt : k < l.length
    · have i1 : (k : Int) < (l.length : Int) := by omega
      have i2 : (0 : Int) ≤ (k : Int) := by omega
      obtain ⟨A, rfl, c0, c1, c2, hin⟩ := HL.out.at H.out.2 hlt
      by_cases h0 : k = 0
      · have j0 : ¬ (0 : Int) < (k : Int) := by omega
        have HS : Hid ((∀ i (h : i < l.length), i < k + 1 → 0 < i → Mm.lt (l[i - 1]'(by omega)).key l[i].key = true) ∧ Below w.heap.size w wr) := Lib.hid ⟨fun i h h1 h2 => by omega, H.out.2⟩
        clear c0 c1 c2
        go_wp2_with fail
        go_quiet (fail)
        go_wp2_with fail
        have hk0 : k = 0 := by omega
        exact ⟨⟨k + 1, by omega, by rw [hk0]; rfl, Lib.hid ⟨HS.out.1, below_drewN HS.out.2 _⟩⟩, by rw [hk0]; simp [intOf]; omega⟩
      · have j0 : (0 : Int) < (k : Int) := by omega
        have j1 : (0 : Int) ≤ (k : Int) - 1 := by omega
        have j2 : (k : Int) - 1 < (l.length : Int) := by omega
        obtain ⟨A', eA, b0, b1, b2, hin2⟩ := HL.out.at H.out.2 (show k - 1 < l.length by omega)
        cases eA
        have j3 : ((k : Int) - 1).toNat = k - 1 := by omega
        have j4 : IntKind.i64.wrap ((k : Int) - 1) = (k : Int) - 1 := IntWalk.i64_in _ (by omega)
        have j5 : (1 : Int) ≤ (k : Int) := by omega
        have j6 : 0 < k := by omega
        have j7 : 1 ≤ k := by omega
        cases hcm : Mm.lt (l[k - 1]'(by omega)).key l[k].key with
        | true =>
          have HS : Hid ((∀ i (h : i < l.length), i < k + 1 → 0 < i → Mm.lt (l[i - 1]'(by omega)).key l[i].key = true) ∧ Below w.heap.size w wr) := Lib.hid ⟨fun i h h1 h2 => by
            by_cases e : i = k
            · subst e; exact hcm
            · exact H.out.1 i h (by omega) h2, H.out.2⟩
          obtain ⟨q1, q2, q3, q4⟩ := lt_eqs.1 hcm
          clear hcm
          generalize l[k] = x at *
          generalize (l[k - 1]'(by omega)) = y at *
          go_wp2_with fail
          go_quiet (fail)
          go_wp2_with fail
          exact ⟨⟨k + 1, by omega, by go_num, Lib.hid ⟨HS.out.1, below_drewN HS.out.2 _⟩⟩, by simp only [intOf]; omega⟩
        | false =>
          have HN : Hid (¬ Rises l) := Lib.hid fun h => by rw [h k hlt (by omega)] at hcm; cases hcm
          have q1 := lt_eqs.2 hcm
          clear hcm
          generalize l[k] = x at *
          generalize (l[k - 1]'(by omega)) = y at *
          go_wp2_with fail
          go_quiet (fail)
          go_wp2_with fail
          go_ret
          exact says false (by simp only [Bool.false_eq_true, false_iff]; exact HN.out) (below_drewN H.out.2 _)
    · obtain rfl : k = l.length := by omega
      have i1 : ¬ (l.length : Int) < (l.length : Int) := by omega
      go_wp2_with fail
      go_ret
      exact says true (by
        simp only [true_iff]
        exact fun i h h0 => H.out.1 i h h h0) H.out.2

set_option maxHeartbeats 4000000 in
theorem whole1_any (e : En) (w : World) (_he : EnIn e) : Calls Try.prog 34 #[enV e] w (Says (¬ WholeE e) w) := by
  obtain ⟨k, s, g⟩ := e
  unfold enV
  go_enter Try.func34, Try.ntmps34
  by_cases h1 : k.size = 0
  · have hk : k.toList = [] := by rw [Go.ByteArray.toList_eq]; exact List.eq_nil_of_length_eq_zero (by simpa using h1)
    go_wp2_with fail
    go_ret
    exact says true (by simp only [true_iff]; intro h; have := h.1; simp only at this; omega) (below_alloc _ _)
  · have hk : (k.toList == []) = false := by
      rw [beq_eq_false_iff_ne]; intro h; rw [Go.ByteArray.toList_eq] at h; exact h1 (by have := congrArg List.length h; simpa using this)
    have hk2 : ¬ k.toList = [] := by simpa using hk
    cases g with
    | false =>
      go_wp2_with fail
      go_ret
      exact says false (by simp only [Bool.false_eq_true, false_iff, Classical.not_not]; exact ⟨by simp only; omega, fun h => by cases h⟩) (below_alloc _ _)
    | true =>
      by_cases h2 : s.size = 0
      · have hs : s.toList = [] := by rw [Go.ByteArray.toList_eq]; exact List.eq_nil_of_length_eq_zero (by simpa using h2)
        go_wp2_with fail
        go_ret
        exact says false (by simp only [Bool.false_eq_true, false_iff, Classical.not_not]; exact ⟨by simp only; omega, fun _ => h2⟩) (below_alloc _ _)
      · have hs : (s.toList == []) = false := by
          rw [beq_eq_false_iff_ne]; intro h; rw [Go.ByteArray.toList_eq] at h; exact h2 (by have := congrArg List.length h; simpa using this)
        have hs2 : ¬ s.toList = [] := by simpa using hs
        go_wp2_with fail
        go_ret
        exact says true (by simp only [true_iff]; intro h; have := h.2 rfl; simp only at this; omega) (below_alloc _ _)

def Finds (P : Prop) (w : World) (e : Ending) (w' : World) : Prop := ∃ n : Int, e = .returned (.int .i64 n) ∧ (0 ≤ n ↔ P) ∧ Below w.heap.size w w'
set_option maxRecDepth 100000 in
set_option maxHeartbeats 4000000 in
theorem index_any {w : World} {p : Option Addr} {cap : Nat} {l : List En} (hl : EntsAt w p l) (hm : l.length ≤ maxLen) :
    Calls Try.prog 43 #[.slice p l.length cap, .func (.func 34) #[] #[]] w (Finds (∃ e ∈ l, ¬ WholeE e) w) := by
  unfold maxLen at hm
  have HL := Lib.hid hl
  clear hl
  go_enter Try.func43, Try.ntmps43
  go_wp2_with fail
  go_loopw [8] (fun kv wr => ∃ k : Nat, k ≤ l.length ∧ kv = .int .i64 (k : Nat) ∧ Hid ((∀ e ∈ l.take k, WholeE e) ∧ Below w.heap.size w wr)) (fun kv _ => l.length - (intOf kv).toNat)
  case atStart => exact ⟨0, Nat.zero_le _, rfl, Lib.hid ⟨fun e he => by simp at he, Below.refl _ _⟩⟩
  case round =>
    obtain ⟨k, hk, rfl, H⟩ := hrel
    by_cases hlt : k < l.length
    · have i1 : (k : Int) < (l.length : Int) := by omega
      have i2 : (0 : Int) ≤ (k : Int) := by omega
      obtain ⟨A, rfl, c0, c1, c2, hin⟩ := HL.out.at H.out.2 hlt
      have HTK := Lib.hid (List.take_succ_eq_append_getElem hlt)
      have HME := Lib.hid (List.getElem_mem hlt)
      generalize l[k] = x at *
      go_wp2_with fail
      refine (whole1_any x _ hin).mono ?_
      rintro e w2 ⟨b, rfl, hb, hb2⟩
      have HB := Lib.hid hb
      have HBE := Lib.hid (H.out.2.trans (hb2.mono H.out.2.size))
      clear hb hb2
      cases b with
      | true =>
        go_wp2_with fail
        go_ret
        exact ⟨_, rfl, by
          constructor
          · intro _; exact ⟨x, HME.out, HB.out.1 (by trivial)⟩
          · intro _; exact i2, HBE.out⟩
      | false =>
        have HW : Hid (WholeE x) := Lib.hid (Classical.not_not.1 fun h => by have := HB.out.2 h; cases this)
        go_wp2_with fail
        go_roundw
        case rel => exact ⟨k + 1, by omega, by go_num, Lib.hid ⟨by
          rw [HTK.out]
          intro e he
          rcases List.mem_append.1 he with he | he
          · exact H.out.1 e he
          · rw [List.mem_singleton.1 he]; exact HW.out, HBE.out⟩⟩
        case measure => simp [intOf]; omega
    · obtain rfl : k = l.length := by omega
      have i1 : ¬ (l.length : Int) < (l.length : Int) := by omega
      rw [List.take_length] at H
      go_wp2_with fail
      go_ret
      exact ⟨_, rfl, by
        constructor
        · intro h; omega
        · rintro ⟨e, he, hn⟩; exact absurd (H.out.1 e he) hn, H.out.2⟩
set_option maxHeartbeats 4000000 in
theorem contains_any {w : World} {p : Option Addr} {cap : Nat} {l : List En} (hl : EntsAt w p l) (hm : l.length ≤ maxLen) :
    Calls Try.prog 33 #[.slice p l.length cap, .func (.func 34) #[] #[]] w (Says (∃ e ∈ l, ¬ WholeE e) w) := by
  have HI := Lib.hid (index_any (cap := cap) hl hm)
  clear hl
  go_enter Try.func33, Try.ntmps33
  go_wp2_with fail
  refine HI.out.mono ?_
  rintro e w2 ⟨n, rfl, hn, hb⟩
  have HN := Lib.hid hn
  have HB := Lib.hid hb
  clear hn hb
  go_wp2_with fail
  go_ret
  exact ⟨decide (0 ≤ n), rfl, by rw [decide_eq_true_iff]; exact HN.out, HB.out⟩
set_option maxHeartbeats 4000000 in
theorem whole_any {w : World} {p : Option Addr} {cap : Nat} {l : List En} (hl : EntsAt w p l) (hm : l.length ≤ maxLen) :
    Calls Try.prog 25 #[.slice p l.length cap] w (Says (∀ e ∈ l, WholeE e) w) := by
  have HI := Lib.hid (contains_any (cap := cap) hl hm)
  clear hl
  go_enter Try.func25, Try.ntmps25
  go_wp2_with fail
  refine HI.out.mono ?_
  rintro e w2 ⟨b, rfl, hn, hb⟩
  have HN := Lib.hid hn
  have HB := Lib.hid hb
  clear hn hb
  cases b with
  | true =>
    go_wp2_with fail
    go_ret
    exact says false (by
      simp only [Bool.false_eq_true, false_iff]
      intro h
      obtain ⟨e, he, h2⟩ := HN.out.1 (by trivial)
      exact h2 (h e he)) HB.out
  | false =>
    go_wp2_with fail
    go_ret
    exact says true (by
      simp only [true_iff]
      intro e he
      exact Classical.not_not.1 fun h2 => by have := HN.out.2 ⟨e, he, h2⟩; cases this) HB.out
open Classical in
/-- What bars a list. -/
noncomputable def bars (l : List En) : Nat := if Fits l then (if Rises l ∧ ∀ e ∈ l, WholeE e then 0 else 1) else 3
theorem bars_right (l : List En) : bars l = 0 ↔ Right l := by
  rw [right_iff]; unfold bars
  by_cases h1 : Fits l
  · rw [if_pos h1]
    by_cases h2 : Rises l ∧ ∀ e ∈ l, WholeE e
    · rw [if_pos h2]; simp [h1, h2.1]; exact fun e he => h2.2 e he
    · rw [if_neg h2]; simp only [Nat.one_ne_zero, false_iff]; exact fun h => h2 h.2
  · rw [if_neg h1]; simp only [Nat.succ_ne_zero, false_iff]; exact fun h => h1 h.1
/-- What Build answers. -/
def Built (l : List En) (w : World) (e : Ending) (w' : World) : Prop :=
  ∃ (s : ByteArray) (n : Nat), e = .returned (.tuple #[.string s, .int .i64 (n : Int)]) ∧ n = bars l ∧ (Right l → s = ⟨(Tb.text l).toArray⟩) ∧ (¬ Right l → s = ⟨#[]⟩) ∧ Below w.heap.size w w'
set_option maxRecDepth 100000 in
set_option maxHeartbeats 4000000 in
theorem build_any {w : World} {p : Option Addr} {cap : Nat} {l : List En} (hl : EntsAt w p l) :
    Calls Try.prog 7 #[.slice p l.length cap] w (Built l w) := by
  have HL := Lib.hid hl
  clear hl
  go_enter Try.func7, Try.ntmps7
  go_wp2_with fail
  refine (long_any HL.out).mono ?_
  rintro e w1 ⟨b, rfl, hb, hb1⟩
  have HB := Lib.hid hb
  have HB1 := Lib.hid hb1
  clear hb hb1
  cases b with
  | true =>
    have hn : ¬ Fits l := HB.out.1 rfl
    have HN := Lib.hid hn
    clear hn
    go_wp2_with fail
    go_ret2
    exact ⟨⟨#[]⟩, 3, rfl, by unfold bars; rw [if_neg HN.out], fun h => absurd ((right_iff l).1 h).1 HN.out, fun _ => rfl, HB1.out⟩
  | false =>
    have hn : Fits l := Classical.not_not.1 fun h => by have := HB.out.2 h; cases this
    have HN := Lib.hid hn
    clear hn
    go_wp2_with fail
    refine (rises_any (HL.out.below HB1.out) (Nat.le_trans HN.out.1 (by decide))).mono ?_
    rintro e w2 ⟨b2, rfl, hb, hb2⟩
    have HR := Lib.hid hb
    have HB2 := Lib.hid (HB1.out.trans (hb2.mono HB1.out.size))
    clear hb hb2
    cases b2 with
    | false =>
      go_wp2_with fail
      go_ret2
      have hnr : ¬ Rises l := fun h => by have := HR.out.2 h; cases this
      exact ⟨⟨#[]⟩, 1, rfl, by unfold bars; rw [if_pos HN.out, if_neg fun h => hnr h.1], fun h => absurd ((right_iff l).1 h).2.1 hnr, fun _ => rfl, HB2.out⟩
    | true =>
      go_wp2_with fail
      refine (whole_any (HL.out.below HB2.out) (Nat.le_trans HN.out.1 (by decide))).mono ?_
      rintro e w3 ⟨b3, rfl, hb, hb3⟩
      have HW := Lib.hid hb
      have HB3 := Lib.hid (HB2.out.trans (hb3.mono HB2.out.size))
      clear hb hb3
      cases b3 with
      | false =>
        go_wp2_with fail
        go_ret2
        have hnr : ¬ ∀ e ∈ l, WholeE e := fun h => by have := HW.out.2 h; cases this
        exact ⟨⟨#[]⟩, 1, rfl, by unfold bars; rw [if_pos HN.out, if_neg fun h => hnr h.2], fun h => absurd ((right_iff l).1 h).2.2 hnr, fun _ => rfl, HB3.out⟩
      | true =>
        have hright : Right l := (right_iff l).2 ⟨HN.out, HR.out.1 (by trivial), HW.out.1 (by trivial)⟩
        have HRT := Lib.hid hright
        clear hright
        go_wp2_with fail
        refine (text_any (HL.out.below HB3.out) HRT.out).mono ?_
        rintro e w4 ⟨rfl, hb4⟩
        have HB4 := Lib.hid (HB3.out.trans (hb4.mono HB3.out.size))
        clear hb4
        go_wp2_with fail
        go_ret2
        exact ⟨_, 0, rfl, ((bars_right l).2 HRT.out).symm, fun _ => rfl, fun h => absurd HRT.out h, HB4.out⟩
end Go.Proofs.Ytgmaccfhgeocdaa
