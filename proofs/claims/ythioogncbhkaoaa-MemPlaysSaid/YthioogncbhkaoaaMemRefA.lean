/-
  Walks over the document's answer for tables: Less, Get, Same, Set, Delete. Conditions: those in the theorems.
-/
import Derived.Test.YthioogncbhkaoaaMemPRow
import Derived.Test.YthioogncbhkaoaaMemRefMath
import Derived.Test.YthioogncbhkaoaaMemAwake
import Derived.Test.YthioogncbhkaoaaTextsAt
import Derived.Deep.QuietTactic
import Derived.BigQuiet
import Derived.Lib.AppendZeros
namespace Go.Proofs.Ythioogncbhkaoaa
open Go.RowKit

theorem below_dN {w0 w : World} (h : Below w0.heap.size w0 w) (n : Nat) : Below w0.heap.size w0 (w.drewN n) := ⟨h.os, h.tape, h.output, h.size, h.block⟩
/-! ### Less -/
theorem less_step {a b : List UInt8} (k : Nat) (ha : k < a.length) (hb : k < b.length) (h : a.take k = b.take k) : (a[k] = b[k] → a.take (k + 1) = b.take (k + 1)) ∧ (a[k] ≠ b[k] → Op.bytesLess a b = decide (a[k] < b[k])) := by
  induction k generalizing a b with
  | zero =>
    match a, b, ha, hb with
    | x :: l, y :: r, _, _ =>
      refine ⟨fun e => by simpa using e, fun e => ?_⟩
      simp only [List.getElem_cons_zero] at e ⊢
      simp only [Op.bytesLess]
      by_cases hxy : x < y
      · simp [hxy]
      · by_cases hyx : y < x
        · simp [hxy, e]
        · exact absurd (UInt8.le_antisymm (UInt8.not_lt.1 hyx) (UInt8.not_lt.1 hxy)) e
  | succ k ih =>
    match a, b, ha, hb with
    | x :: l, y :: r, ha, hb =>
      simp only [List.take_succ_cons, List.cons.injEq] at h
      obtain ⟨rfl, h⟩ := h
      have := ih (a := l) (b := r) (by simpa using ha) (by simpa using hb) h
      simp only [List.getElem_cons_succ, List.take_succ_cons]
      refine ⟨fun e => by rw [this.1 e], fun e => ?_⟩
      rw [← this.2 e]
      simp [Op.bytesLess, UInt8.lt_irrefl]
theorem less_end {a b : List UInt8} (k : Nat) (h : a.take k = b.take k) (hk : k = a.length ∨ k = b.length) (ha : k ≤ a.length) (hb : k ≤ b.length) : Op.bytesLess a b = decide (a.length < b.length) := by
  induction k generalizing a b with
  | zero =>
    match a, b with
    | [], [] => simp [Op.bytesLess]
    | [], y :: r => simp [Op.bytesLess]
    | x :: l, [] => simp [Op.bytesLess]
    | x :: l, y :: r => simp at hk
  | succ k ih =>
    match a, b, ha, hb with
    | x :: l, y :: r, ha, hb =>
      simp only [List.take_succ_cons, List.cons.injEq] at h
      obtain ⟨rfl, h⟩ := h
      have := ih (a := l) (b := r) h (by simpa using hk) (by simpa using ha) (by simpa using hb)
      simp [Op.bytesLess, UInt8.lt_irrefl, this]

theorem bytes_of (a : ByteArray) : a.toList = a.data.toList := ByteArray.toList_eq a
set_option maxRecDepth 100000 in
set_option maxHeartbeats 4000000 in
theorem refLess_any (a b : ByteArray) (ha : a.size ≤ 9223372036854775807) (_ : b.size ≤ 9223372036854775807) (w : World) :
    Calls Try.prog 40 #[.string a, .string b] w fun e w' => e = .returned (.bool (Mm.lt a b)) ∧ ∃ n, w' = w.drewN n := by
  have hla : a.toList.length = a.size := by rw [bytes_of]; simp
  have hlb : b.toList.length = b.size := by rw [bytes_of]; simp
  have HLA := Lib.hid hla
  have HLB := Lib.hid hlb
  clear hla hlb
  go_enter Try.func40, Try.ntmps40
  go_wp2_with fail
  go_loopw [5] (fun iv wr => ∃ k : Nat, k ≤ a.size ∧ k ≤ b.size ∧ iv = .int .i64 (k : Nat) ∧ (∃ n, wr = w.drewN n) ∧ Hid (a.toList.take k = b.toList.take k)) (fun iv _ => a.size - (intOf iv).toNat)
  case atStart => exact ⟨0, Nat.zero_le _, Nat.zero_le _, rfl, ⟨0, rfl⟩, Lib.hid rfl⟩
  case round =>
    obtain ⟨k, hka, hkb, rfl, ⟨n, rfl⟩, HT⟩ := hrel
    have i0 : (0 : Int) ≤ (k : Int) := by omega
    by_cases h1 : k < a.size
    · have i1 : (k : Int) < (a.size : Int) := by omega
      by_cases h2 : k < b.size
      · have i2 : (k : Int) < (b.size : Int) := by omega
        have hs := less_step (a := a.toList) (b := b.toList) k (by rw [HLA.out]; exact h1) (by rw [HLB.out]; exact h2) HT.out
        have ea : a.toList[k]'(by rw [HLA.out]; exact h1) = a[k] := by simp only [bytes_of]; rfl
        have eb : b.toList[k]'(by rw [HLB.out]; exact h2) = b[k] := by simp only [bytes_of]; rfl
        rw [ea, eb] at hs
        have HS := Lib.hid hs
        clear hs ea eb
        obtain ⟨x, hx⟩ : ∃ x, a[k] = x := ⟨_, rfl⟩
        obtain ⟨y, hy⟩ : ∃ y, b[k] = y := ⟨_, rfl⟩
        rw [hx, hy] at HS
        by_cases he : x = y
        · have HT2 := Lib.hid (HS.out.1 he)
          subst he
          go_wp2_with fail
          go_quiet (fail)
          go_wp2_with fail
          go_roundw
          case rel => exact ⟨k + 1, by omega, by omega, by go_num, ⟨_, rfl⟩, HT2⟩
          case measure => simp [intOf]; omega
        · have HR := Lib.hid (HS.out.2 he)
          have hne : ¬ x.toNat = y.toNat := fun e => he (UInt8.toNat_inj.1 e)
          have d1 : ((x.toNat : Int) == (y.toNat : Int)) = false := by rw [beq_eq_false_iff_ne]; omega
          have HD : Hid (Op.bytesLess a.toList b.toList = decide ((x.toNat : Int) < (y.toNat : Int))) := Lib.hid (by rw [HR.out]; simp [UInt8.lt_iff_toNat_lt])
          clear he hne HS
          go_wp2_with fail
          go_quiet (fail)
          go_wp2_with fail
          go_quiet (fail)
          go_wp2_with fail
          go_ret
          exact ⟨by unfold Mm.lt; rw [HD.out]; simp, _, by rw [World.drewN_drewN, World.drewN_drewN]⟩
      · have i2 : ¬ (k : Int) < (b.size : Int) := by omega
        have HR := Lib.hid (less_end k HT.out (by rw [HLA.out, HLB.out]; omega) (by rw [HLA.out]; exact hka) (by rw [HLB.out]; exact hkb))
        rw [HLA.out, HLB.out] at HR
        go_wp2_with fail
        go_ret
        exact ⟨by unfold Mm.lt; rw [HR.out]; simp, _, rfl⟩
    · have i1 : ¬ (k : Int) < (a.size : Int) := by omega
      have HR := Lib.hid (less_end k HT.out (by rw [HLA.out, HLB.out]; omega) (by rw [HLA.out]; exact hka) (by rw [HLB.out]; exact hkb))
      rw [HLA.out, HLB.out] at HR
      go_wp2_with fail
      go_ret
      exact ⟨by unfold Mm.lt; rw [HR.out]; simp, _, rfl⟩

set_option maxHeartbeats 4000000 in
theorem refSame_any (p q : Option Addr) (cap cap2 : Nat) (xs : List Pr) (hn : xs.length ≤ 1000000) (w : World) (hp : PairsAt w p xs) (hq : PairsAt w q xs) :
    Calls Try.prog 16 #[.slice p xs.length cap, .slice q xs.length cap2] w fun e w' => e = .returned (.bool true) ∧ Below w.heap.size w w' := by
  have HP := Lib.hid hp
  have HQ := Lib.hid hq
  clear hp hq
  go_enter Try.func16, Try.ntmps16
  go_wp2_with fail
  go_loopw [5] (fun i wr => ∃ k : Nat, k ≤ xs.length ∧ i = .int .i64 (k : Nat) ∧ Hid (Below w.heap.size w wr)) (fun i _ => xs.length - (intOf i).toNat)
  case atStart => exact ⟨0, Nat.zero_le _, rfl, Lib.hid (Below.refl _ _)⟩
  case round =>
    obtain ⟨k, hk, rfl, HB⟩ := hrel
    by_cases hlt : k < xs.length
    · obtain ⟨A, rfl, a0, a1, -⟩ := HP.out.at HB.out hlt
      obtain ⟨B, rfl, b0, b1, -⟩ := HQ.out.at HB.out hlt
      have i0 : (k : Int) < (xs.length : Int) := by omega
      have i1 : (0 : Int) ≤ (k : Int) := by omega
      generalize xs[k] = c at *
      go_wp2_with fail
      go_quiet (fail)
      go_wp2_with fail
      go_roundw
      case rel => exact ⟨k + 1, by omega, rfl, Lib.hid (below_dN HB.out _)⟩
      case measure => simp [intOf]; omega
    · obtain rfl : k = xs.length := by omega
      have i0 : ¬ (xs.length : Int) < (xs.length : Int) := by omega
      go_wp2_with fail
      go_ret
      exact ⟨rfl, HB.out⟩

/-- What Get tells. -/
def gotR (xs : List Pr) (k : ByteArray) : Value := match Mm.get (Rf.row xs) k with
  | some v => .tuple #[v, .bool true]
  | none => .tuple #[.string ⟨#[]⟩, .bool false]
theorem gotR_some {xs : List Pr} {k : ByteArray} {v : Value} (h : Mm.get (Rf.row xs) k = some v) : gotR xs k = .tuple #[v, .bool true] := by unfold gotR; rw [h]
theorem gotR_none {xs : List Pr} {k : ByteArray} (h : Mm.get (Rf.row xs) k = none) : gotR xs k = .tuple #[.string ⟨#[]⟩, .bool false] := by unfold gotR; rw [h]
theorem get_skip {xs : List Pr} {k : ByteArray} {i : Nat} (h : i < xs.length) (h1 : Rf.isIn (xs.take i) k = false) : (xs[i].1 = k → Mm.get (Rf.row xs) k = some (.string xs[i].2)) ∧ (¬ xs[i].1 = k → Rf.isIn (xs.take (i + 1)) k = false) := by
  constructor
  · intro e
    have e2 : Rf.row xs = Rf.row (xs.take i) ++ Rf.row (xs[i] :: xs.drop (i + 1)) := by rw [← Rf.row_append, ← List.drop_eq_getElem_cons h, List.take_append_drop]
    rw [e2, Rf.find_app]
    have h3 : Mm.get (Rf.row (xs.take i)) k = none := by
      have := Rf.isIn_get (xs := xs.take i) (k := k)
      rw [h1] at this
      cases e' : Mm.get (Rf.row (xs.take i)) k with
      | none => rfl
      | some v => rw [e'] at this; cases this
    rw [h3]
    have h4 : ∀ (x : Pr) (r : List Pr), x.1 = k → Mm.get (Rf.row (x :: r)) k = some (.string x.2) := fun x r ex => by
      show (List.find? _ ((x.1, Value.string x.2) :: Rf.row r)).map _ = _
      rw [List.find?_cons_of_pos (by simp [ex])]; rfl
    rw [h4 _ _ e]
    rfl
  · intro e
    rw [Rf.isIn_take h, h1]; simp [e]
set_option maxHeartbeats 4000000 in
theorem refGet_any (p : Option Addr) (cap : Nat) (xs : List Pr) (hn : xs.length ≤ 1000000) (key : ByteArray) (w : World) (hp : PairsAt w p xs) :
    Calls Try.prog 11 #[.slice p xs.length cap, .string key] w fun e w' => e = .returned (gotR xs key) ∧ w = w' := by
  have HP := Lib.hid hp
  clear hp
  go_enter Try.func11, Try.ntmps11
  go_wp2_with fail
  go_loop [6] (fun i => ∃ k : Nat, k ≤ xs.length ∧ i = .int .i64 (k : Nat) ∧ Hid (Rf.isIn (xs.take k) key = false)) (fun i => xs.length - (intOf i).toNat)
  case atStart => exact ⟨0, Nat.zero_le _, rfl, Lib.hid rfl⟩
  case round =>
    obtain ⟨k, hk, rfl, HI⟩ := hrel
    by_cases hlt : k < xs.length
    · obtain ⟨A, rfl, a0, a1, -⟩ := HP.out.at (Below.refl _ w) hlt
      have i0 : (k : Int) < (xs.length : Int) := by omega
      have i1 : (0 : Int) ≤ (k : Int) := by omega
      have HS := Lib.hid (get_skip hlt HI.out)
      generalize xs[k] = c at *
      by_cases he : c.1 = key
      · have HG := Lib.hid (HS.out.1 he)
        have d1 : (c.1.toList == key.toList) = true := by rw [he]; simp
        clear he HS
        go_wp2_with fail
        go_ret2
        exact ⟨by rw [gotR_some HG.out]; rfl, rfl⟩
      · have HI2 := Lib.hid (HS.out.2 he)
        have d1 : (c.1.toList == key.toList) = false := by
          rw [beq_eq_false_iff_ne]; exact fun e => he (Mm.toList_inj e)
        clear he HS
        go_wp2_with fail
        go_round
        case rel => exact ⟨k + 1, by omega, by go_num, HI2⟩
        case measure => simp [intOf]; omega
    · obtain rfl : k = xs.length := by omega
      have i0 : ¬ (xs.length : Int) < (xs.length : Int) := by omega
      have hi := HI.out
      rw [List.take_length] at hi
      have hg : Mm.get (Rf.row xs) key = none := by
        have := Rf.isIn_get (xs := xs) (k := key)
        rw [hi] at this
        cases e' : Mm.get (Rf.row xs) key with
        | none => rfl
        | some v => rw [e'] at this; cases this
      have HG := Lib.hid hg
      clear hi hg
      go_wp2_with fail
      go_ret2
      exact ⟨by rw [gotR_none HG.out]; rfl, rfl⟩
/-- A row of pairs that a call has made. -/
def MadeP (w w' : World) (v : Value) (xs : List Pr) : Prop := ∃ p cap, v = .slice p xs.length cap ∧ PairsAt w' p xs ∧ Below w.heap.size w w'
theorem eq_flag {a b : ByteArray} : (a = b → (a.toList == b.toList) = true) ∧ (¬ a = b → (a.toList == b.toList) = false) :=
  ⟨fun e => by rw [e]; simp, fun e => by rw [beq_eq_false_iff_ne]; exact fun h => e (Mm.toList_inj h)⟩
set_option maxRecDepth 100000 in
set_option maxHeartbeats 8000000 in
theorem refSet_any (p : Option Addr) (cap : Nat) (xs : List Pr) (hn : xs.length ≤ 1000) (key val : ByteArray) (hk : key.size ≤ maxLen) (hv : val.size ≤ maxLen) (w : World) (hp : PairsAt w p xs) :
    Calls Try.prog 9 #[.slice p xs.length cap, .string key, .string val] w fun e w' => ∃ v, e = .returned (.tuple #[v, .bool (!Rf.isIn xs key)]) ∧ MadeP w w' v (Rf.setR xs key val) := by
  obtain ⟨i00, hi0, hz0, hz1, hz2⟩ := info_parts infoP
  have HI := Lib.hid (And.intro hi0 (And.intro hz0 (And.intro hz1 hz2)))
  have HP := Lib.hid hp
  have hall : ∀ x ∈ xs, PrIn x := fun x hx => by
    obtain ⟨i, hi, rfl⟩ := List.getElem_of_mem hx
    exact (hp i hi).elim fun _ h => h.2.2.2
  have HA := Lib.hid hall
  have HK := Lib.hid (And.intro hk hv)
  clear hp hi0 hz0 hz1 hz2 hall hk hv
  go_enter Try.func9, Try.ntmps9
  go_wp2_with fail
  go_loopw [8, 9, 10] (fun mv sv iv wr => ∃ k : Nat, k ≤ xs.length ∧ iv = .int .i64 (k : Nat) ∧ sv = .bool (Rf.isIn (xs.take k) key) ∧ Hid (Below w.heap.size w wr ∧ OwnPairs wr w.heap.size mv ((xs.take k).map (Rf.rep key val)))) (fun _ _ iv _ => xs.length - (intOf iv).toNat)
  case atStart => exact ⟨0, Nat.zero_le _, rfl, rfl, Lib.hid ⟨Below.refl _ _, OwnPairs.nil _ _⟩⟩
  case round =>
    obtain ⟨k, hk, rfl, rfl, HR⟩ := hrel
    obtain ⟨pm, cm, hmv, -, -⟩ := HR.out.2.shape
    have hml : ((xs.take k).map (Rf.rep key val)).length = k := by rw [List.length_map, List.length_take]; omega
    rw [hml] at hmv
    subst hmv
    by_cases hlt : k < xs.length
    · obtain ⟨A, rfl, a0, a1, -⟩ := HP.out.at HR.out.1 hlt
      have i0 : (k : Int) < (xs.length : Int) := by omega
      have i1 : (0 : Int) ≤ (k : Int) := by omega
      have HT := Lib.hid (Rf.isIn_take (k := key) hlt)
      have HRT := Lib.hid (Rf.rep_take (k := key) (v := val) hlt)
      have hc := HA.out _ (List.getElem_mem hlt)
      have HC := Lib.hid hc
      clear hc
      generalize xs[k] = c at *
      have hbox : (wr.alloc (.cells #[.string c.1, .string c.2] 44)).heap[wr.heap.size]? = some (.cells #[.string c.1, .string c.2] 44 (0, 0)) := new_row _ _
      have hbw := below_alloc wr (.cells #[.string c.1, .string c.2] 44)
      have hbz := HR.out.1.size
      have k30 : k ≤ 1000 := by omega
      by_cases he : c.1 = key
      · have d1 := eq_flag.1 he
        have HRP : Hid (Rf.rep key val c = (c.1, val)) := Lib.hid (by unfold Rf.rep; rw [if_pos he])
        have HTE : Hid (Rf.isIn (xs.take (k + 1)) key = true) := Lib.hid (by rw [HT.out, decide_eq_true he, Bool.or_true])
        have hb2 : Below wr.heap.size wr ((wr.alloc (.cells #[.string c.1, .string c.2] 44)).setCell ⟨wr.heap.size, 1, none⟩ (.string val)) :=
          ⟨rfl, rfl, rfl, by simp [World.setCell], fun q hq => (Below.heap_setCell _ _ _ _ (by simp; omega)).trans (hbw.block q hq)⟩
        have hr2 : ((wr.alloc (.cells #[.string c.1, .string c.2] 44)).setCell ⟨wr.heap.size, 1, none⟩ (.string val)).heap[wr.heap.size]? = some (.cells #[.string c.1, .string val] 44 (0, 0)) := heap_setCell_same _ _ 1 _ _ _ hbox
        obtain ⟨b0, b1, bf⟩ := cells2 hbox
        have bf1 := bf 1
        obtain ⟨W2, hW2⟩ : ∃ W2, (wr.alloc (.cells #[.string c.1, .string c.2] 44)).setCell ⟨wr.heap.size, 1, none⟩ (.string val) = W2 := ⟨_, rfl⟩
        rw [hW2] at hb2 hr2
        obtain ⟨e0, e1, -⟩ := cells2 hr2
        have ho2 := (HR.out.2.below hb2).below (below_alloc W2 (.cells #[.string c.1, .string val] 44))
        obtain ⟨pv, cv, W3, hrun, ho3, hg3⟩ := pr_append ho2 ⟨W2.heap.size, 0, none⟩ [(c.1, val)] 1 1 rfl (by simpa [prsCells, prCells] using news_two W2 (.string c.1) (.string val) 44) (by rw [hml]; omega) (by have := hb2.size; simp; omega) (k + 1) (by rw [hml]) 30
        have hz2 : w.heap.size ≤ W2.heap.size := Nat.le_trans hbz hb2.size
        have hz3 : w.heap.size ≤ (W2.alloc (.cells #[.string c.1, .string val] 44)).heap.size := by simp; omega
        have hb3 : Below w.heap.size w (W2.alloc (.cells #[.string c.1, .string val] 44)) := (HR.out.1.trans (hb2.mono hbz)).trans ((below_alloc W2 _).mono hz2)
        have HB3 := Lib.hid (below_append hb3 ho2 hz3 hg3)
        have HO3 := Lib.hid ho3
        clear he hb2 hr2 hbox hbw bf ho2 hg3 ho3 hz2 hz3 hb3
        go_wp2_with (at_builtin; refine Lib.wpList_append_run _ rfl (.tmp 28) (.tmp 30) _ _ rfl _ _ rfl rfl _ _ hrun ?_)
        go_roundw
        case rel => exact ⟨k + 1, by omega, by go_num, by rw [HTE.out], Lib.hid ⟨HB3.out, by rw [HRT.out, HRP.out]; exact HO3.out⟩⟩
        case measure => simp [intOf]; omega
      · have d1 := eq_flag.2 he
        have HTE : Hid (Rf.isIn (xs.take (k + 1)) key = Rf.isIn (xs.take k) key) := Lib.hid (by rw [HT.out, decide_eq_false he, Bool.or_false])
        have HRP : Hid (Rf.rep key val c = (c.1, c.2)) := Lib.hid (by unfold Rf.rep; rw [if_neg he])
        obtain ⟨b0, b1, -⟩ := cells2 hbox
        obtain ⟨W2, hW2⟩ : ∃ W2, wr.alloc (.cells #[.string c.1, .string c.2] 44) = W2 := ⟨_, rfl⟩
        have hb2 := hbw
        rw [hW2] at hb2 b0 b1
        have ho2 := (HR.out.2.below hb2).below (below_alloc W2 (.cells #[.string c.1, .string c.2] 44))
        obtain ⟨pv, cv, W3, hrun, ho3, hg3⟩ := pr_append ho2 ⟨W2.heap.size, 0, none⟩ [(c.1, c.2)] 1 1 rfl (by simpa [prsCells, prCells] using news_two W2 (.string c.1) (.string c.2) 44) (by rw [hml]; omega) (by have := hb2.size; simp; omega) (k + 1) (by rw [hml]) 30
        have hz2 : w.heap.size ≤ W2.heap.size := Nat.le_trans hbz hb2.size
        have hz3 : w.heap.size ≤ (W2.alloc (.cells #[.string c.1, .string c.2] 44)).heap.size := by simp; omega
        have hb3 : Below w.heap.size w (W2.alloc (.cells #[.string c.1, .string c.2] 44)) := (HR.out.1.trans (hb2.mono hbz)).trans ((below_alloc W2 _).mono hz2)
        have HB3 := Lib.hid (below_append hb3 ho2 hz3 hg3)
        have HO3 := Lib.hid ho3
        clear he hb2 hbox hbw ho2 hg3 ho3 hz2 hz3 hb3
        go_wp2_with (at_builtin; refine Lib.wpList_append_run _ rfl (.tmp 28) (.tmp 30) _ _ rfl _ _ rfl rfl _ _ hrun ?_)
        go_roundw
        case rel => exact ⟨k + 1, by omega, by go_num, by rw [HTE.out], Lib.hid ⟨HB3.out, by rw [HRT.out, HRP.out]; exact HO3.out⟩⟩
        case measure => simp [intOf]; omega
    · obtain rfl : k = xs.length := by omega
      have i0 : ¬ (xs.length : Int) < (xs.length : Int) := by omega
      have hr := HR.out
      rw [List.take_length] at hr hml
      have hall : ∀ x ∈ Rf.setR xs key val, PrIn x := Rf.set_in HA.out ⟨HK.out.1, HK.out.2⟩
      have HAL := Lib.hid hall
      rw [List.take_length]
      cases hin : Rf.isIn xs key with
      | true =>
        have HS : Hid (Rf.setR xs key val = xs.map (Rf.rep key val)) := Lib.hid (by unfold Rf.setR; rw [if_pos hin])
        have HRR := Lib.hid hr
        have HIN := Lib.hid hin
        clear hr hall hin
        go_wp2_with fail
        go_ret2
        obtain ⟨p', c', e1, -, -, e4⟩ := HRR.out.2.pairs (by rw [← HS.out]; exact HAL.out)
        exact ⟨.slice pm xs.length cm, by rw [HIN.out]; rfl, p', c', by rw [HS.out]; exact e1, by rw [HS.out]; exact e4, HRR.out.1⟩
      | false =>
        have HS : Hid (Rf.setR xs key val = xs.map (Rf.rep key val) ++ [(key, val)]) := Lib.hid (by unfold Rf.setR; rw [if_neg (by rw [hin]; simp)])
        have HIN := Lib.hid hin
        have ho2 := hr.2.below (below_alloc wr (.cells #[.string key, .string val] 44))
        have hbz := hr.1.size
        obtain ⟨pv, cv, W3, hrun, ho3, hg3⟩ := pr_append ho2 ⟨wr.heap.size, 0, none⟩ [(key, val)] 1 1 rfl (by simpa [prsCells, prCells] using news_two wr (.string key) (.string val) 44) (by rw [hml]; omega) (by simp; omega) (xs.length + 1) (by rw [hml]) 30
        have hz3 : w.heap.size ≤ (wr.alloc (.cells #[.string key, .string val] 44)).heap.size := by simp; omega
        have hb3 : Below w.heap.size w (wr.alloc (.cells #[.string key, .string val] 44)) := hr.1.trans ((below_alloc wr _).mono hbz)
        have HB3 := Lib.hid (below_append hb3 ho2 hz3 hg3)
        have HO3 := Lib.hid ho3
        clear hr hall hin ho2 hg3 ho3 hz3 hb3 hbz
        go_wp2_with (at_builtin; refine Lib.wpList_append_run _ rfl (.tmp 34) (.tmp 38) _ _ rfl _ _ rfl rfl _ _ hrun ?_)
        go_ret2
        obtain ⟨p', c', e1, -, -, e4⟩ := HO3.out.pairs (by rw [← HS.out]; exact HAL.out)
        exact ⟨.slice pv (xs.length + 1) cv, by rw [HIN.out]; rfl, p', c', by rw [HS.out]; exact e1, by rw [HS.out]; exact e4, HB3.out⟩
end Go.Proofs.Ythioogncbhkaoaa
