/-
  Walks over the document's answer for tokens: Spell. Conditions: those in the theorems.
-/
import Derived.Test.YthbealndbfboiaaTokSpell
import Derived.Test.YthbealndbfboiaaTokOneSign
import Derived.Test.YthbealndbfboiaaTokBackMath
import Derived.BigQuiet
import Derived.Deep.RegionHeld
set_option linter.unusedSimpArgs false
set_option linter.unusedVariables false
namespace Tk
theorem bs_app (l m : List UInt8) : bs (l ++ m) = bs l ++ bs m := by
  apply ByteArray.ext
  show (l ++ m).toArray = (bs l ++ bs m).data
  rw [ByteArray.data_append]
  simp [bs]
theorem bs_nil_app (x : ByteArray) : bs [] ++ x = x := by
  rw [← data_bs x, ← bs_app]; rfl
end Tk
namespace Go.Proofs.Ythbealndbfboiaa
open Go.RowKit

/-- The lengths of the texts of tokens, one more for each. -/
def lens (ts : List Tk.Token) : Nat := (ts.map fun t => t.text.size + 1).sum
theorem lens_snoc (l : List Tk.Token) (t : Tk.Token) : lens (l ++ [t]) = lens l + (t.text.size + 1) := by
  unfold lens; rw [List.map_append, List.sum_append]; simp
theorem lens_le : ∀ ts : List Tk.Token, (∀ t ∈ ts, t.text.size ≤ 300) → lens ts ≤ ts.length * 301
  | [], _ => Nat.le_refl _
  | t :: r, h => by
    have := lens_le r fun u hu => h u (List.mem_cons_of_mem _ hu)
    have h1 := h t (List.mem_cons_self ..)
    unfold lens at this ⊢
    rw [List.map_cons, List.sum_cons, List.length_cons]
    omega
theorem one_right {t : Tk.Token} (h : Tk.wrong t = false) (hm : t.text.size ≤ maxLen) (W : World) :
    Calls Try.prog 17 #[.string t.text, .int .i64 ((0 : Nat) : Int)] W fun e w' => e = .returned (.tuple #[.agg #[.int .u8 (t.kind : Nat), .string t.text, .int .i64 t.num, .int .i64 0], .int .i64 0]) ∧ Below W.heap.size W w' := by
  obtain ⟨hf, h0⟩ := Tk.not_wrong h
  have hn := Tk.first_len hf
  rw [list_len] at hn
  have q := One_any t.text 0 W (by omega) hm
  unfold Ones at q
  rw [List.drop_zero, hf] at q
  refine q.mono ?_
  rintro e w' ⟨t2, rfl, h2, hb⟩
  rw [h2 _ _ _ rfl]
  refine ⟨?_, hb⟩
  unfold tokV Tk.Res.err
  simp only [List.take_length, Int.toNat_of_nonneg h0]
  rfl
theorem one_wrong {t : Tk.Token} (h : Tk.wrong t = true) (h0 : 0 < t.text.size) (hm : t.text.size ≤ maxLen) (W : World) :
    Calls Try.prog 17 #[.string t.text, .int .i64 ((0 : Nat) : Int)] W fun e w' => ∃ (x : Tk.Token) (er : Nat), e = .returned (.tuple #[.agg #[.int .u8 (x.kind : Nat), .string x.text, .int .i64 x.num, .int .i64 x.pos], .int .i64 (er : Nat)]) ∧ (er = 0 → ¬ (x.kind = t.kind ∧ x.text = t.text ∧ x.num = t.num)) ∧ Below W.heap.size W w' := by
  have q := One_any t.text 0 W h0 hm
  unfold Ones at q
  rw [List.drop_zero] at q
  refine q.mono ?_
  rintro e w' ⟨t2, rfl, h2, hb⟩
  refine ⟨t2, _, rfl, ?_, hb⟩
  intro he
  unfold Tk.wrong at h
  cases hf : Tk.first t.text.data.toList with
  | no er =>
    rw [hf] at he
    have := Tk.first_err hf
    unfold Tk.Res.err at he
    simp only at he
    omega
  | tok k n v =>
    rw [hf] at h
    rw [h2 k n v hf]
    simp only at h ⊢
    rintro ⟨e1, e2, e3⟩
    rw [e1, e2] at h
    simp [e3] at h
theorem sizes_lens (ts : List Tk.Token) : Tk.sizes ts + ts.length = lens ts := by
  induction ts with
  | nil => rfl
  | cons t r ih =>
    unfold Tk.sizes lens at *
    rw [List.map_cons, List.sum_cons, List.map_cons, List.sum_cons, List.length_cons]
    omega
set_option maxRecDepth 100000 in
set_option maxHeartbeats 8000000 in
theorem RefSpell_bad {w : World} {p : Option Addr} {cap : Nat} {ts : List Tk.Token} (hp : ToksAt w p ts) (hl : ts.length ≤ 300) (hsz : ∀ t ∈ ts, t.text.size ≤ 300) (hbad : anyWrong ts = true) :
    Calls Try.prog 12 #[.slice p ts.length cap] w fun e w' => e = .returned (.tuple #[.string ⟨#[]⟩, .int .i64 1]) ∧ Below w.heap.size w w' := by
  have HP := Lib.hid hp
  have HW : Hid (∀ k, (hk : k < ts.length) → ts[k].text.size ≤ 300 ∧ lens (ts.take (k + 1)) = lens (ts.take k) + (ts[k].text.size + 1) ∧ lens (ts.take k) ≤ 100000) := Lib.hid fun k hk => by
    refine ⟨hsz _ (List.getElem_mem hk), by rw [List.take_succ_eq_append_getElem hk, lens_snoc], ?_⟩
    have := lens_le (ts.take k) fun t ht => hsz t (List.mem_of_mem_take ht)
    rw [List.length_take] at this; omega
  have hn : (∀ i, (hi : i < ts.length) → Tk.wrong ts[i] = false) → False := fun h => by
    unfold anyWrong at hbad
    obtain ⟨x, hx, hw⟩ := List.any_eq_true.1 hbad
    obtain ⟨i, hi, rfl⟩ := List.getElem_of_mem hx
    rw [h i hi] at hw; cases hw
  have HN := Lib.hid hn
  clear hp hn hsz hbad
  go_enter Try.func12, Try.ntmps12
  go_wp2_with fail
  go_loopw [4, 5, 6, 7] (fun nv kv _ _ wr => ∃ k : Nat, k ≤ ts.length ∧ kv = .int .i64 (k : Nat) ∧ nv = .int .i64 (lens (ts.take k) : Nat) ∧ Hid ((∀ i, i < k → ∀ (hi : i < ts.length), Tk.wrong ts[i] = false) ∧ Below w.heap.size w wr)) (fun _ kv _ _ _ => ts.length - (intOf kv).toNat)
  case atStart => exact ⟨0, Nat.zero_le _, rfl, rfl, Lib.hid ⟨fun i hi => absurd hi (Nat.not_lt_zero _), Below.refl _ _⟩⟩
  case round =>
    obtain ⟨k, hk, rfl, rfl, H⟩ := hrel
    by_cases hlt : k < ts.length
    · have i1 : (k : Int) < (ts.length : Int) := by omega
      have i2 : (0 : Int) ≤ (k : Int) := by omega
      obtain ⟨A, rfl, c0, c1, c2, c3, hin⟩ := HP.out.at H.out.2 hlt
      obtain ⟨hw2, hw3, hw4⟩ := HW.out k hlt
      have HK2 : Hid (Tk.wrong ts[k] = false → ∀ i, i < k + 1 → ∀ (hi : i < ts.length), Tk.wrong ts[i] = false) := Lib.hid fun h i hi hi2 => by
        rcases Nat.lt_or_ge i k with h1 | h1
        · exact H.out.1 i h1 hi2
        · have : i = k := by omega
          subst this; exact h
      have hblk : (A.add (k * 4)).block < wr.heap.size := tcell_block c0
      have hall : anyWrong ts = false → Tk.wrong ts[k] = false := fun h => by
        unfold anyWrong at h
        rw [List.any_eq_false] at h
        simpa using h _ (List.getElem_mem hlt)
      generalize ts[k] = t at *
      obtain ⟨tk, tx, tn, tp⟩ := t
      simp only at c0 c1 c2 c3 hw2 hw3
      have HL := Lib.hid hw3
      clear hw3
      have hm1 : tx.size ≤ 9223372036854775807 := by omega
      cases hwr : Tk.wrong ⟨tk, tx, tn, tp⟩ with
      | false =>
        have HK3 := Lib.hid (HK2.out hwr)
        have h0 : 0 < tx.size := by
          have h1 := Tk.first_len (Tk.not_wrong hwr).1
          have h2 := list_len tx
          simp only at h1
          omega
        have i3 : ((tx.size : Int) == 0) = false := beq_no (b := 0) (by omega)
        have q := fun W => one_right hwr hin.2.1 W
        simp only at q
        clear hwr HK2 hin hall
        go_upto_region 7 with fail
        go_wp2_with fail
        refine (q _).mono ?_
        rintro e w2 ⟨rfl, hb2⟩
        have hlt2 : wr.heap.size ≤ w2.heap.size := hb2.size
        have HB2 := Lib.hid hb2
        go_upto_region 8 with fail
        obtain ⟨W3, hW3⟩ : ∃ W3, W3 = w2.alloc (.cells #[.int .u8 (tk : Nat), .string tx, .int .i64 tn, .int .i64 0] 30) := ⟨_, rfl⟩
        rw [← hW3]
        have hb3 : Below wr.heap.size wr W3 := by rw [hW3]; exact HB2.out.alloc hlt2 _
        have hr3 : W3.heap[w2.heap.size]? = some (.cells #[.int .u8 (tk : Nat), .string tx, .int .i64 tn, .int .i64 0] 30 (0, 0)) := by rw [hW3]; exact heap_alloc_new _ _
        clear hb2 hW3
        have d0 := (hb3.cell (p := A.add (k * 4)) hblk).trans c0
        have d1 := (hb3.cell (p := ⟨(A.add (k * 4)).block, (A.add (k * 4)).off + 1, none⟩) hblk).trans c1
        have d2 := (hb3.cell (p := ⟨(A.add (k * 4)).block, (A.add (k * 4)).off + 2, none⟩) hblk).trans c2
        have d3 := (hb3.cell (p := ⟨(A.add (k * 4)).block, (A.add (k * 4)).off + 3, none⟩) hblk).trans c3
        obtain ⟨e0, e1, e2, e3⟩ := tok_cells hr3
        have f3 := frozen_of_row _ _ 3 _ _ hr3
        clear c0 c1 c2 c3
        go_upto_region 9 with fail
        obtain ⟨W4, hW4⟩ : ∃ W4, W4 = W3.setCell ⟨w2.heap.size, 3, none⟩ (.int .i64 tp) := ⟨_, rfl⟩
        rw [← hW4]
        have hb4 : Below wr.heap.size wr W4 := by rw [hW4]; exact hb3.setCell hlt2 _
        have hr4 := tk_set (i := 3) hr3 (.int .i64 tp)
        rw [← hW4] at hr4
        have HB4 := Lib.hid hb4
        have hne4 : (A.add (k * 4)).block ≠ w2.heap.size := by omega
        have far4 : ∀ a v, a.block = (A.add (k * 4)).block → W3.cell? a = some v → W4.cell? a = some v := fun a v h h2 => by
          rw [hW4, World.cell?_setCell_far _ _ _ _ (by rw [h]; exact Ne.symm hne4)]; exact h2
        have c0 := far4 _ _ (by rfl) d0
        have c1 := far4 _ _ (by rfl) d1
        have c2 := far4 _ _ (by rfl) d2
        have c3 := far4 _ _ (by rfl) d3
        obtain ⟨x0, x1, x2, x3⟩ := tok_cells hr4
        clear d0 d1 d2 d3 e0 e1 e2 e3 f3 hb3 hb4 hr3 hr4 far4 hW4 hne4

        have g1 : ((0 : Int) != 0) = false := rfl
        go_quiet (fail)
        go_wp2_with fail
        go_roundw
        case rel => exact ⟨k + 1, by omega, by go_num, int_eq' (by have := HL.out; omega), Lib.hid ⟨HK3.out, H.out.2.trans (below_dN (HB4.out.mono H.out.2.size) _)⟩⟩
        case measure => simp [intOf]; omega
      | true =>
        by_cases h0 : 0 < tx.size
        · have i3 : ((tx.size : Int) == 0) = false := beq_no (b := 0) (by omega)
          have q := fun W => one_wrong hwr h0 hin.2.1 W
          simp only at q
          clear hwr HK2 hin hall
          go_upto_region 7 with fail
          go_wp2_with fail
          refine (q _).mono ?_
          rintro e w2 ⟨⟨xk, xx, xn, xp⟩, er, rfl, hno, hb2⟩
          simp only at hno
          have HNO := Lib.hid hno
          clear hno
          have hlt2 : wr.heap.size ≤ w2.heap.size := hb2.size
          have HB2 := Lib.hid hb2
          go_upto_region 8 with fail
          obtain ⟨W3, hW3⟩ : ∃ W3, W3 = w2.alloc (.cells #[.int .u8 (xk : Nat), .string xx, .int .i64 xn, .int .i64 xp] 30) := ⟨_, rfl⟩
          rw [← hW3]
          have hb3 : Below wr.heap.size wr W3 := by rw [hW3]; exact HB2.out.alloc hlt2 _
          have hr3 : W3.heap[w2.heap.size]? = some (.cells #[.int .u8 (xk : Nat), .string xx, .int .i64 xn, .int .i64 xp] 30 (0, 0)) := by rw [hW3]; exact heap_alloc_new _ _
          clear hb2 hW3
          have d0 := (hb3.cell (p := A.add (k * 4)) hblk).trans c0
          have d1 := (hb3.cell (p := ⟨(A.add (k * 4)).block, (A.add (k * 4)).off + 1, none⟩) hblk).trans c1
          have d2 := (hb3.cell (p := ⟨(A.add (k * 4)).block, (A.add (k * 4)).off + 2, none⟩) hblk).trans c2
          have d3 := (hb3.cell (p := ⟨(A.add (k * 4)).block, (A.add (k * 4)).off + 3, none⟩) hblk).trans c3
          obtain ⟨e0, e1, e2, e3⟩ := tok_cells hr3
          have f3 := frozen_of_row _ _ 3 _ _ hr3
          clear c0 c1 c2 c3
          go_upto_region 9 with fail
          obtain ⟨W4, hW4⟩ : ∃ W4, W4 = W3.setCell ⟨w2.heap.size, 3, none⟩ (.int .i64 tp) := ⟨_, rfl⟩
          rw [← hW4]
          have hb4 : Below wr.heap.size wr W4 := by rw [hW4]; exact hb3.setCell hlt2 _
          have hr4 := tk_set (i := 3) hr3 (.int .i64 tp)
          rw [← hW4] at hr4
          have HB4 := Lib.hid hb4
          have hne4 : (A.add (k * 4)).block ≠ w2.heap.size := by omega
          have far4 : ∀ a v, a.block = (A.add (k * 4)).block → W3.cell? a = some v → W4.cell? a = some v := fun a v h h2 => by
            rw [hW4, World.cell?_setCell_far _ _ _ _ (by rw [h]; exact Ne.symm hne4)]; exact h2
          have c0 := far4 _ _ (by rfl) d0
          have c1 := far4 _ _ (by rfl) d1
          have c2 := far4 _ _ (by rfl) d2
          have c3 := far4 _ _ (by rfl) d3
          obtain ⟨x0, x1, x2, x3⟩ := tok_cells hr4
          clear d0 d1 d2 d3 e0 e1 e2 e3 f3 hb3 hb4 hr3 hr4 far4 hW4 hne4

          by_cases he : er = 0
          · subst he
            have HNE := Lib.hid (HNO.out rfl)
            have g1 : ((0 : Int) != 0) = false := rfl
            have g2 : (((0 : Nat) : Int) != 0) = false := rfl
            by_cases a1 : xk = tk
            · subst a1
              by_cases a2 : xx = tx
              · subst a2
                have n3 : ¬ xn = tn := fun h => HNE.out ⟨rfl, rfl, h⟩
                go_quiet (fail)
                go_wp2_with fail
                go_ret2
                exact ⟨rfl, H.out.2.trans (below_dN (HB4.out.mono H.out.2.size) _)⟩
              · have n2 : ¬ xx.toList = tx.toList := fun h => a2 (bytes_iff.2 h)
                clear a2
                go_quiet (fail)
                go_wp2_with fail
                go_ret2
                exact ⟨rfl, H.out.2.trans (below_dN (HB4.out.mono H.out.2.size) _)⟩
            · have n1 : ¬ ((xk : Int) = (tk : Int)) := by omega
              go_quiet (fail)
              go_wp2_with fail
              go_ret2
              exact ⟨rfl, H.out.2.trans (below_dN (HB4.out.mono H.out.2.size) _)⟩
          · have her : ((er : Int) != 0) = true := by rw [bne_iff_ne]; omega
            go_quiet (fail)
            go_wp2_with fail
            go_ret2
            exact ⟨rfl, H.out.2.trans (below_dN (HB4.out.mono H.out.2.size) _)⟩
        · have i3 : ((tx.size : Int) == 0) = true := beq_int (b := 0) (decide_eq_true (by omega))
          clear hwr HK2 hin hall
          go_wp2_with fail
          go_ret2
          exact ⟨rfl, H.out.2⟩
    · exact (HN.out fun i hi => H.out.1 i (by omega) hi).elim
set_option maxRecDepth 100000 in
set_option maxHeartbeats 8000000 in
theorem RefSpell_ok {w : World} {p : Option Addr} {cap : Nat} {ts : List Tk.Token} (hp : ToksAt w p ts) (hl : ts.length ≤ 300) (hsz : ∀ t ∈ ts, t.text.size ≤ 300) (hgood : anyWrong ts = false) (hs : lens ts ≤ 65537) :
    Calls Try.prog 12 #[.slice p ts.length cap] w fun e w' => e = .returned (.tuple #[.string (Tk.bs (Tk.spelled ts)), .int .i64 0]) ∧ Below w.heap.size w w' := by
  have HP := Lib.hid hp
  have HW : Hid (∀ k, (hk : k < ts.length) → ts[k].text.size ≤ 300 ∧ lens (ts.take (k + 1)) = lens (ts.take k) + (ts[k].text.size + 1) ∧ lens (ts.take k) ≤ 100000) := Lib.hid fun k hk => by
    refine ⟨hsz _ (List.getElem_mem hk), by rw [List.take_succ_eq_append_getElem hk, lens_snoc], ?_⟩
    have := lens_le (ts.take k) fun t ht => hsz t (List.mem_of_mem_take ht)
    rw [List.length_take] at this; omega
  have HSP : Hid (∀ k, (hk : k < ts.length) → Tk.bs (Tk.spelled (ts.take (k + 1))) = (if k = 0 then Tk.bs (Tk.spelled (ts.take k)) ++ ts[k].text else Tk.bs (Tk.spelled (ts.take k)) ++ ⟨#[32]⟩ ++ ts[k].text) ∧ (Tk.bs (Tk.spelled (ts.take k))).size ≤ 100000) := Lib.hid fun k hk => by
    refine ⟨?_, ?_⟩
    · rw [List.take_succ_eq_append_getElem hk, Tk.spelled_snoc, List.length_take, Nat.min_eq_left (by omega)]
      by_cases h0 : k = 0
      · subst h0
        rw [if_pos rfl, if_pos rfl]; exact (Tk.bs_nil_app _).symm
      · rw [if_neg h0, if_neg h0, show (⟨#[32]⟩ : ByteArray) = Tk.bs [32] from rfl, ← Tk.bs_app, ← Tk.data_bs ts[k].text, ← Tk.bs_app, List.append_assoc, Tk.data_bs]; rfl
    · rw [Tk.bs_size]
      have h1 := Tk.spelled_len (ts.take k)
      rw [sizes_lens] at h1
      have h2 := lens_le (ts.take k) fun t ht => hsz t (List.mem_of_mem_take ht)
      rw [List.length_take] at h2; omega
  have HG := Lib.hid hgood
  have hsn : lens ts ≤ 65537 := hs
  clear hp hsz hgood hs
  go_enter Try.func12, Try.ntmps12
  go_wp2_with fail
  go_loopw [4, 5, 6, 7] (fun nv kv _ _ wr => ∃ k : Nat, k ≤ ts.length ∧ kv = .int .i64 (k : Nat) ∧ nv = .int .i64 (lens (ts.take k) : Nat) ∧ Hid ((∀ i, i < k → ∀ (hi : i < ts.length), Tk.wrong ts[i] = false) ∧ Below w.heap.size w wr)) (fun _ kv _ _ _ => ts.length - (intOf kv).toNat)
  case atStart => exact ⟨0, Nat.zero_le _, rfl, rfl, Lib.hid ⟨fun i hi => absurd hi (Nat.not_lt_zero _), Below.refl _ _⟩⟩
  case round =>
    obtain ⟨k, hk, rfl, rfl, H⟩ := hrel
    by_cases hlt : k < ts.length
    · have i1 : (k : Int) < (ts.length : Int) := by omega
      have i2 : (0 : Int) ≤ (k : Int) := by omega
      obtain ⟨A, rfl, c0, c1, c2, c3, hin⟩ := HP.out.at H.out.2 hlt
      obtain ⟨hw2, hw3, hw4⟩ := HW.out k hlt
      have HK2 : Hid (Tk.wrong ts[k] = false → ∀ i, i < k + 1 → ∀ (hi : i < ts.length), Tk.wrong ts[i] = false) := Lib.hid fun h i hi hi2 => by
        rcases Nat.lt_or_ge i k with h1 | h1
        · exact H.out.1 i h1 hi2
        · have : i = k := by omega
          subst this; exact h
      have hblk : (A.add (k * 4)).block < wr.heap.size := tcell_block c0
      have hall : anyWrong ts = false → Tk.wrong ts[k] = false := fun h => by
        unfold anyWrong at h
        rw [List.any_eq_false] at h
        simpa using h _ (List.getElem_mem hlt)
      generalize ts[k] = t at *
      obtain ⟨tk, tx, tn, tp⟩ := t
      simp only at c0 c1 c2 c3 hw2 hw3
      have HL := Lib.hid hw3
      clear hw3
      have hm1 : tx.size ≤ 9223372036854775807 := by omega
      have hwr := hall HG.out
      have HK3 := Lib.hid (HK2.out hwr)
      have h0 : 0 < tx.size := by
        have h1 := Tk.first_len (Tk.not_wrong hwr).1
        have h2 := list_len tx
        simp only at h1
        omega
      have i3 : ((tx.size : Int) == 0) = false := beq_no (b := 0) (by omega)
      have q := fun W => one_right hwr hin.2.1 W
      simp only at q
      clear hwr HK2 hin hall
      go_upto_region 7 with fail
      go_wp2_with fail
      refine (q _).mono ?_
      rintro e w2 ⟨rfl, hb2⟩
      have hlt2 : wr.heap.size ≤ w2.heap.size := hb2.size
      have HB2 := Lib.hid hb2
      go_upto_region 8 with fail
      obtain ⟨W3, hW3⟩ : ∃ W3, W3 = w2.alloc (.cells #[.int .u8 (tk : Nat), .string tx, .int .i64 tn, .int .i64 0] 30) := ⟨_, rfl⟩
      rw [← hW3]
      have hb3 : Below wr.heap.size wr W3 := by rw [hW3]; exact HB2.out.alloc hlt2 _
      have hr3 : W3.heap[w2.heap.size]? = some (.cells #[.int .u8 (tk : Nat), .string tx, .int .i64 tn, .int .i64 0] 30 (0, 0)) := by rw [hW3]; exact heap_alloc_new _ _
      clear hb2 hW3
      have d0 := (hb3.cell (p := A.add (k * 4)) hblk).trans c0
      have d1 := (hb3.cell (p := ⟨(A.add (k * 4)).block, (A.add (k * 4)).off + 1, none⟩) hblk).trans c1
      have d2 := (hb3.cell (p := ⟨(A.add (k * 4)).block, (A.add (k * 4)).off + 2, none⟩) hblk).trans c2
      have d3 := (hb3.cell (p := ⟨(A.add (k * 4)).block, (A.add (k * 4)).off + 3, none⟩) hblk).trans c3
      obtain ⟨e0, e1, e2, e3⟩ := tok_cells hr3
      have f3 := frozen_of_row _ _ 3 _ _ hr3
      clear c0 c1 c2 c3
      go_upto_region 9 with fail
      obtain ⟨W4, hW4⟩ : ∃ W4, W4 = W3.setCell ⟨w2.heap.size, 3, none⟩ (.int .i64 tp) := ⟨_, rfl⟩
      rw [← hW4]
      have hb4 : Below wr.heap.size wr W4 := by rw [hW4]; exact hb3.setCell hlt2 _
      have hr4 := tk_set (i := 3) hr3 (.int .i64 tp)
      rw [← hW4] at hr4
      have HB4 := Lib.hid hb4
      have hne4 : (A.add (k * 4)).block ≠ w2.heap.size := by omega
      have far4 : ∀ a v, a.block = (A.add (k * 4)).block → W3.cell? a = some v → W4.cell? a = some v := fun a v h h2 => by
        rw [hW4, World.cell?_setCell_far _ _ _ _ (by rw [h]; exact Ne.symm hne4)]; exact h2
      have c0 := far4 _ _ (by rfl) d0
      have c1 := far4 _ _ (by rfl) d1
      have c2 := far4 _ _ (by rfl) d2
      have c3 := far4 _ _ (by rfl) d3
      obtain ⟨x0, x1, x2, x3⟩ := tok_cells hr4
      clear d0 d1 d2 d3 e0 e1 e2 e3 f3 hb3 hb4 hr3 hr4 far4 hW4 hne4

      have g1 : ((0 : Int) != 0) = false := rfl
      go_quiet (fail)
      go_wp2_with fail
      go_roundw
      case rel => exact ⟨k + 1, by omega, by go_num, int_eq' (by have := HL.out; omega), Lib.hid ⟨HK3.out, H.out.2.trans (below_dN (HB4.out.mono H.out.2.size) _)⟩⟩
      case measure => simp [intOf]; omega
    · have hkn : k = ts.length := by omega
      have i1 : ¬ (k : Int) < (ts.length : Int) := by omega
      have hle : lens (ts.take k) ≤ 65537 := by rw [hkn, List.take_length]; exact hsn
      have i4 : ¬ (65537 : Int) < (lens (ts.take k) : Int) := by omega
      have HBW := Lib.hid H.out.2
      clear hkn H
      go_wp2_with fail
      obtain ⟨W9, hW9⟩ : ∃ W9, W9 = wr := ⟨_, rfl⟩
      rw [← hW9] at HBW ⊢
      clear hW9
      go_loopw [8, 9] (fun sv iv wr2 => ∃ i : Nat, i ≤ ts.length ∧ iv = .int .i64 (i : Nat) ∧ sv = .string (Tk.bs (Tk.spelled (ts.take i))) ∧ Hid (Below w.heap.size w wr2)) (fun _ iv _ => ts.length - (intOf iv).toNat)
      case atStart => exact ⟨0, Nat.zero_le _, rfl, rfl, HBW⟩
      case round =>
        obtain ⟨i, hi, rfl, rfl, H2⟩ := hrel
        clear i1 i4 hle
        by_cases hlt2 : i < ts.length
        · have k1 : (i : Int) < (ts.length : Int) := by omega
          have k2 : (0 : Int) ≤ (i : Int) := by omega
          obtain ⟨A, rfl, c0, c1, c2, c3, hin⟩ := HP.out.at H2.out hlt2
          obtain ⟨hsp, hsb⟩ := HSP.out i hlt2
          have hw2 := (HW.out i hlt2).1
          generalize ts[i] = t at *
          obtain ⟨tk, tx, tn, tp⟩ := t
          simp only at c0 c1 c2 c3 hw2 hsp
          by_cases h0 : i = 0
          · have k3 : ¬ (0 : Int) < (i : Int) := by omega
            have HE := Lib.hid (hsp.trans (if_pos h0))
            clear h0 hsp hin
            go_wp2_with fail
            go_roundw
            case rel => exact ⟨i + 1, by omega, by go_num, by rw [HE.out], H2⟩
            case measure => simp [intOf]; omega
          · have k3 : (0 : Int) < (i : Int) := by omega
            have HE := Lib.hid (hsp.trans (if_neg h0))
            clear h0 hsp hin
            go_wp2_with fail
            go_roundw
            case rel => exact ⟨i + 1, by omega, by go_num, by rw [HE.out], H2⟩
            case measure => simp [intOf]; omega
        · have HIN : Hid (i = ts.length) := Lib.hid (by omega)
          have k1 : ¬ (i : Int) < (ts.length : Int) := by omega
          go_wp2_with fail
          go_ret2
          exact ⟨by rw [HIN.out, List.take_length]; rfl, H2.out⟩
end Go.Proofs.Ythbealndbfboiaa
