/-
  Walks over package token: Spell; the library's ContainsFunc by wrong. Conditions: those in the theorems.
-/
import Derived.Test.YthbealndbfboiaaTokWrong
import Derived.Test.YthbealndbfboiaaTokSame
import Derived.Test.YthbealndbfboiaaTokBuilder
set_option linter.unusedSimpArgs false
set_option linter.unusedVariables false
namespace Tk
/-- The text that has these tokens. -/
def spelled (ts : List Token) : List UInt8 := (ts.flatMap fun t => 32 :: t.text.data.toList).drop 1
theorem spelled_snoc (l : List Token) (t : Token) : spelled (l ++ [t]) = if l.length = 0 then t.text.data.toList else spelled l ++ 32 :: t.text.data.toList := by
  unfold spelled
  rw [List.flatMap_append]
  cases l with
  | nil => simp
  | cons a r => simp
theorem spelled_le (l m : List Token) : (spelled l).length ≤ (spelled (l ++ m)).length := by
  unfold spelled
  rw [List.flatMap_append, List.length_drop, List.length_drop, List.length_append]; omega
end Tk
namespace Go.Proofs.Ythbealndbfboiaa
open Go.RowKit

/-- Is one of these wrong? -/
def anyWrong (ts : List Tk.Token) : Bool := ts.any Tk.wrong
set_option maxRecDepth 100000 in
set_option maxHeartbeats 4000000 in
theorem indexWrong_any {w : World} {p : Option Addr} {cap : Nat} {ts : List Tk.Token} (hp : ToksAt w p ts) (hl : ts.length ≤ 100000) :
    Calls Try.prog 34 #[.slice p ts.length cap, .func (.func 19) #[] #[]] w fun e w' => ∃ x : Int, e = .returned (.int .i64 x) ∧ decide (0 ≤ x) = anyWrong ts ∧ Below w.heap.size w w' := by
  have HP := Lib.hid hp
  have hw : ∀ k, (hk : k < ts.length) → (Tk.wrong ts[k] = true → anyWrong ts = true) := fun k hk h => List.any_eq_true.2 ⟨_, List.getElem_mem hk, h⟩
  have hn : (∀ i, (hi : i < ts.length) → Tk.wrong ts[i] = false) → anyWrong ts = false := fun h => by
    unfold anyWrong
    rw [List.any_eq_false]
    intro x hx
    obtain ⟨i, hi, rfl⟩ := List.getElem_of_mem hx
    rw [h i hi]; simp
  have HW := Lib.hid hw
  have HN := Lib.hid hn
  clear hp hw hn
  go_enter Try.func34, Try.ntmps34
  go_wp2_with fail
  go_loopw [5, 8] (fun _ kv wr => ∃ k : Nat, k ≤ ts.length ∧ kv = .int .i64 (k : Nat) ∧ Hid ((∀ i, i < k → ∀ (hi : i < ts.length), Tk.wrong ts[i] = false) ∧ Below w.heap.size w wr)) (fun _ kv _ => ts.length - (intOf kv).toNat)
  case atStart => exact ⟨0, Nat.zero_le _, rfl, Lib.hid ⟨fun i hi => absurd hi (Nat.not_lt_zero _), Below.refl _ _⟩⟩
  case round =>
    obtain ⟨k, hk, rfl, H⟩ := hrel
    by_cases hlt : k < ts.length
    · have i1 : (k : Int) < (ts.length : Int) := by omega
      have i2 : (0 : Int) ≤ (k : Int) := by omega
      obtain ⟨A, rfl, c0, c1, c2, c3, hin⟩ := HP.out.at H.out.2 hlt
      have q := fun W => wrong_any ts[k] W hin.2.1
      unfold tokV at q
      have HY := Lib.hid (HW.out k hlt)
      have HK2 : Hid (Tk.wrong ts[k] = false → ∀ i, i < k + 1 → ∀ (hi : i < ts.length), Tk.wrong ts[i] = false) := Lib.hid fun h i hi hi2 => by
        rcases Nat.lt_or_ge i k with h1 | h1
        · exact H.out.1 i h1 hi2
        · have : i = k := by omega
          subst this; exact h
      generalize ts[k] = t at *
      cases hb : Tk.wrong t with
      | true =>
        rw [hb] at q
        have HY2 := Lib.hid (HY.out hb)
        clear hb HK2 HY
        go_wp2_with (first | (go_at_call 19; refine (q _).mono ?_; rintro e w2 ⟨rfl, hb2⟩) | fail)
        go_ret
        exact ⟨_, rfl, by rw [HY2.out]; exact decide_eq_true i2, H.out.2.trans (hb2.mono H.out.2.size)⟩
      | false =>
        rw [hb] at q
        have HK3 := Lib.hid (HK2.out hb)
        clear hb HK2 HY
        go_wp2_with (first | (go_at_call 19; refine (q _).mono ?_; rintro e w2 ⟨rfl, hb2⟩) | fail)
        go_roundw
        case rel => exact ⟨k + 1, by omega, by go_num, Lib.hid ⟨HK3.out, H.out.2.trans (hb2.mono H.out.2.size)⟩⟩
        case measure => simp [intOf]; omega
    · have HA := Lib.hid (HN.out fun i hi => H.out.1 i (by omega) hi)
      have i1 : ¬ (k : Int) < (ts.length : Int) := by omega
      go_wp2_with fail
      go_ret
      exact ⟨_, rfl, by rw [HA.out]; rfl, H.out.2⟩
set_option maxHeartbeats 1000000 in
theorem containsWrong_any {w : World} {p : Option Addr} {cap : Nat} {ts : List Tk.Token} (hp : ToksAt w p ts) (hl : ts.length ≤ 100000) :
    Calls Try.prog 18 #[.slice p ts.length cap, .func (.func 19) #[] #[]] w fun e w' => e = .returned (.bool (anyWrong ts)) ∧ Below w.heap.size w w' := by
  have q := indexWrong_any (cap := cap) hp hl
  clear hp
  generalize ts.length = n at *
  generalize anyWrong ts = b at *
  go_enter Try.func18, Try.ntmps18
  go_wp2_with fail
  refine q.mono ?_
  rintro e w2 ⟨x, rfl, hx, hb2⟩
  have HX := Lib.hid hx
  clear hx
  cases b with
  | true =>
    have h0 : (0 : Int) ≤ x := of_decide_eq_true HX.out
    go_wp2_with fail
    go_ret
    exact ⟨rfl, hb2⟩
  | false =>
    go_wp2_with fail
    go_ret
    exact ⟨ret_bool' HX.out, hb2⟩
set_option maxRecDepth 100000 in
set_option maxHeartbeats 4000000 in
theorem Spell_bad {w : World} {p : Option Addr} {cap : Nat} {ts : List Tk.Token} (hp : ToksAt w p ts) (hl : ts.length ≤ 100000) (hb : anyWrong ts = true) :
    Calls Try.prog 11 #[.slice p ts.length cap] w fun e w' => e = .returned (.tuple #[.string ⟨#[]⟩, .int .i64 1]) ∧ Below w.heap.size w w' := by
  have q := containsWrong_any (cap := cap) hp hl
  rw [hb] at q
  clear hp
  go_enter Try.func11, Try.ntmps11
  go_wp2_with fail
  refine q.mono ?_
  rintro e w1 ⟨rfl, hb1⟩
  go_wp2_with fail
  go_ret2
  exact ⟨rfl, hb1⟩
set_option maxRecDepth 100000 in
set_option maxHeartbeats 8000000 in
theorem Spell_any {w : World} {p : Option Addr} {cap : Nat} {ts : List Tk.Token} (hp : ToksAt w p ts) (hl : ts.length ≤ 100000) (hb : anyWrong ts = false) (hs : (Tk.spelled ts).length ≤ 65536) :
    Calls Try.prog 11 #[.slice p ts.length cap] w fun e w' => e = .returned (.tuple #[.string (Tk.bs (Tk.spelled ts)), .int .i64 0]) ∧ Below w.heap.size w w' := by
  have q := containsWrong_any (cap := cap) hp hl
  rw [hb] at q
  have HP := Lib.hid hp
  have HSP : Hid (∀ k, (hk : k < ts.length) → Tk.spelled (ts.take (k + 1)) = (if k = 0 then ts[k].text.data.toList else Tk.spelled (ts.take k) ++ 32 :: ts[k].text.data.toList) ∧ (Tk.spelled (ts.take (k + 1))).length ≤ 65536 ∧ (Tk.spelled (ts.take k)).length ≤ 65536) := Lib.hid fun k hk => by
    refine ⟨?_, ?_, ?_⟩
    · rw [List.take_succ_eq_append_getElem hk, Tk.spelled_snoc, List.length_take, Nat.min_eq_left (by omega)]
    · have := Tk.spelled_le (ts.take (k + 1)) (ts.drop (k + 1))
      rw [List.take_append_drop] at this; omega
    · have := Tk.spelled_le (ts.take k) (ts.drop k)
      rw [List.take_append_drop] at this; omega
  clear hp hb
  go_enter Try.func11, Try.ntmps11
  go_wp2_with fail
  refine q.mono ?_
  rintro e w1 ⟨rfl, hb1⟩
  have HB1 := Lib.hid hb1
  clear hb1 q
  obtain ⟨bb, hbb⟩ : ∃ bb, bb = w1.heap.size := ⟨_, rfl⟩
  have HI : Hid (Lib.IsBuilderF 45 5 bb bb (Lib.byteCells []) (w1.alloc (.cells #[.pointer none, .slice none 0 0] 45)) ∧ Below w1.heap.size w1 (w1.alloc (.cells #[.pointer none, .slice none 0 0] 45)) ∧ bb < (w1.alloc (.cells #[.pointer none, .slice none 0 0] 45)).heap.size) :=
    Lib.hid ⟨Lib.IsBuilderF.of (.inl ⟨Nat.le_refl _, _, by rw [hbb]; exact heap_alloc_new _ _, World.ownsRow_nil _ _ _ _, by simp [Value.ownBlock]⟩), tk_alloc _ _, by rw [World.size_alloc]; omega⟩
  have HBB := Lib.hid hbb
  go_wp2_with fail
  rw [← hbb]
  clear hbb
  go_loopw [5, 6, 11] (fun _ _ kv wr => ∃ k : Nat, k ≤ ts.length ∧ kv = .int .i64 (k : Nat) ∧ Hid (Lib.IsBuilderF 45 5 bb bb (Lib.byteCells (Tk.spelled (ts.take k))) wr ∧ Below w1.heap.size w1 wr ∧ bb < wr.heap.size)) (fun _ _ kv _ => ts.length - (intOf kv).toNat)
  case atStart => exact ⟨0, Nat.zero_le _, rfl, HI⟩
  case round =>
    obtain ⟨k, hk, rfl, H⟩ := hrel
    by_cases hlt : k < ts.length
    · have i1 : (k : Int) < (ts.length : Int) := by omega
      have i2 : (0 : Int) ≤ (k : Int) := by omega
      obtain ⟨A, rfl, c0, c1, c2, c3, hin⟩ := HP.out.at (HB1.out.trans (H.out.2.1.mono HB1.out.size)) hlt
      have HS2 := Lib.hid (HSP.out k hlt)
      generalize ts[k] = t at *
      obtain ⟨tk, tx, tn, tp⟩ := t
      have HIN := Lib.hid hin
      simp only at c0 c1 c2 c3 HS2 HIN
      clear hin
      go_upto_region 7 with fail
      obtain ⟨W1, hW1⟩ : ∃ W1, W1 = wr.alloc (.cells #[.int .u8 (tk : Nat), .string tx, .int .i64 tn, .int .i64 tp] 30) := ⟨_, rfl⟩
      rw [← hW1]
      have hba : Below wr.heap.size wr W1 := by rw [hW1]; exact tk_alloc _ _
      have hbox : W1.heap[wr.heap.size]? = some (.cells #[.int .u8 (tk : Nat), .string tx, .int .i64 tn, .int .i64 tp] 30 (0, 0)) := by rw [hW1]; exact heap_alloc_new _ _
      have hI1 := builderF_below H.out.1 hba
      have HB2 : Hid (Below w1.heap.size w1 W1) := Lib.hid (H.out.2.1.trans (hba.mono H.out.2.1.size))
      have hz1 : bb ≤ W1.heap.size := by have := hba.size; have := H.out.2.2; omega
      have HZ1 : Hid (bb < wr.heap.size ∧ wr.heap.size < W1.heap.size) := Lib.hid ⟨H.out.2.2, (Array.getElem?_eq_some_iff.1 hbox).1⟩
      clear hW1 hba c0 c1 c2 c3
      obtain ⟨d0, d1, d2, d3⟩ := tok_cells hbox
      have HBX := Lib.hid hbox
      clear hbox d0 d2 d3
      by_cases hk0 : k = 0
      · have i3 : ¬ (0 : Int) < (k : Int) := by omega
        have HSP0 : Hid (Tk.spelled (ts.take k) = []) := Lib.hid (by rw [hk0]; rfl)
        have HSP1 : Hid (Tk.spelled (ts.take (k + 1)) = tx.data.toList) := Lib.hid (by rw [HS2.out.1, if_pos hk0])
        have HI1 := Lib.hid hI1
        have HK0 := Lib.hid hk0
        clear hI1 hk0
        go_wp2_with fail
        refine (tk_WriteString_k bb bb _ tx W1 HI1.out (by rw [Lib.byteCells_length]; have := HS2.out.2; have h9 := HSP1.out; have e2 := list_len tx; rw [h9, e2] at this; omega) hz1).mono ?_
        rintro e w3 ⟨rfl, h3, hb3, -⟩
        have HI3 : Hid (Lib.IsBuilderF 45 5 bb bb (Lib.byteCells (Tk.spelled (ts.take (k + 1)))) w3) := Lib.hid (by
          rw [HSP1.out]
          rw [HSP0.out] at h3
          exact .inr h3)
        have HB4 : Hid (Below w1.heap.size w1 w3 ∧ bb < w3.heap.size) := Lib.hid ⟨HB2.out.trans (by rw [HBB.out] at hb3; exact hb3), Nat.lt_of_lt_of_le (Nat.lt_trans HZ1.out.1 HZ1.out.2) hb3.size⟩
        clear h3 hb3
        go_wp2_with fail
        refine (tk_Len_k bb bb _ w3 HI3.out).mono ?_
        rintro e w4 ⟨rfl, hw4⟩
        obtain rfl := hw4
        rw [Lib.byteCells_length]
        have i9 : ¬ (65536 : Int) < ((Tk.spelled (ts.take (k + 1))).length : Int) := by have := HS2.out.2.1; omega
        generalize hLn : (Tk.spelled (ts.take (k + 1))).length = Ln at i9 ⊢
        clear hLn
        go_wp2_with fail
        go_roundw
        case rel => exact ⟨k + 1, by omega, by go_num, Lib.hid ⟨HI3.out, HB4.out.1, HB4.out.2⟩⟩
        case measure => simp [intOf]; omega
      · have i3 : (0 : Int) < (k : Int) := by omega
        have HSP1 : Hid (Tk.spelled (ts.take (k + 1)) = Tk.spelled (ts.take k) ++ 32 :: tx.data.toList) := Lib.hid (by rw [HS2.out.1, if_neg hk0])
        have HI1 := Lib.hid hI1
        clear hI1 hk0 d1
        go_wp2_with fail
        refine (tk_WriteByte_k bb bb _ 32 W1 HI1.out (by rw [Lib.byteCells_length]; have := HS2.out.2.2; omega) hz1).mono ?_
        rintro e w2 ⟨rfl, h2, hb2, hok⟩
        have hbox2 := hok wr.heap.size _ HBX.out (by intro h; have := Option.some.inj h; have := HZ1.out.1; omega) (by intro c fz h; cases h)
        obtain ⟨d0, d1, d2, d3⟩ := tok_cells hbox2
        have hz2 : bb ≤ w2.heap.size := Nat.le_trans hz1 hb2.size
        have HB3 : Hid (Below w1.heap.size w1 w2 ∧ wr.heap.size < w2.heap.size) := Lib.hid ⟨HB2.out.trans (by rw [HBB.out] at hb2; exact hb2), Nat.lt_of_lt_of_le HZ1.out.2 hb2.size⟩
        have HI2 := Lib.hid h2
        clear hbox2 hok hb2 h2 d0 d2 d3
        clear HB2
        have HB2 := Lib.hid HB3.out.1
        go_wp2_with fail
        refine (tk_WriteString_k bb bb _ tx w2 (.inr HI2.out) (by
          have h8 := HS2.out.2.1; have h9 := HSP1.out; have e2 := list_len tx
          rw [h9, List.length_append, List.length_cons, e2] at h8
          rw [List.length_append, Lib.byteCells_length, List.length_singleton]; omega) hz2).mono ?_
        rintro e w3 ⟨rfl, h3, hb3, -⟩
        have HI3 : Hid (Lib.IsBuilderF 45 5 bb bb (Lib.byteCells (Tk.spelled (ts.take (k + 1)))) w3) := Lib.hid (by
          rw [HSP1.out]
          have e1 : Lib.byteCells (Tk.spelled (ts.take k) ++ 32 :: tx.data.toList) = Lib.byteCells (Tk.spelled (ts.take k)) ++ [.int .u8 32] ++ Lib.strCells tx := by
            rw [Lib.strCells_eq]
            unfold Lib.byteCells
            rw [List.map_append, List.map_cons, List.append_assoc]; rfl
          rw [e1]; exact .inr h3)
        have HB4 : Hid (Below w1.heap.size w1 w3 ∧ bb < w3.heap.size) := Lib.hid ⟨HB2.out.trans (by rw [HBB.out] at hb3; exact hb3), Nat.lt_of_lt_of_le (Nat.lt_trans HZ1.out.1 HB3.out.2) hb3.size⟩
        clear h3 hb3
        go_wp2_with fail
        refine (tk_Len_k bb bb _ w3 HI3.out).mono ?_
        rintro e w4 ⟨rfl, hw4⟩
        obtain rfl := hw4
        rw [Lib.byteCells_length]
        have i9 : ¬ (65536 : Int) < ((Tk.spelled (ts.take (k + 1))).length : Int) := by have := HS2.out.2.1; omega
        generalize hLn : (Tk.spelled (ts.take (k + 1))).length = Ln at i9 ⊢
        clear hLn
        go_wp2_with fail
        go_roundw
        case rel => exact ⟨k + 1, by omega, by go_num, Lib.hid ⟨HI3.out, HB4.out.1, HB4.out.2⟩⟩
        case measure => simp [intOf]; omega
    · obtain rfl : k = ts.length := by omega
      have i1 : ¬ (ts.length : Int) < (ts.length : Int) := by omega
      rw [List.take_length] at H
      have hz2 : bb ≤ wr.heap.size := Nat.le_of_lt H.out.2.2
      go_wp2_with fail
      refine (tk_String_k bb bb (Tk.spelled ts) _ H.out.1 hz2).mono ?_
      rintro e w5 ⟨rfl, -, hb5⟩
      go_wp2_with fail
      go_ret2
      exact ⟨rfl, HB1.out.trans ((H.out.2.1.trans (by rw [HBB.out] at hb5; exact hb5)).mono HB1.out.size)⟩
end Go.Proofs.Ythbealndbfboiaa
