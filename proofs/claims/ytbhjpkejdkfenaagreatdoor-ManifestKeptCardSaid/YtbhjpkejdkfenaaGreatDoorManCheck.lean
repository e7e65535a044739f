/-
  Walks over package manifest: within, isKey, isTable, meet, Check. Conditions: those in the theorems.
-/
import Derived.Test.YtbhjpkejdkfenaaGreatDoorManRow
import Derived.Deep.QuietTactic
import Derived.BigQuiet
import Derived.Shelf.SlSorted.Search
namespace Go.Proofs.YtbhjpkejdkfenaaGreatDoor
open Go.RowKit
open Mf (File)

/-- The call says whether P; what lay is as it was. -/
def Tells (P : Prop) (w : World) (e : Ending) (w' : World) : Prop := ∃ b : Bool, e = .returned (.bool b) ∧ (b = true ↔ P) ∧ Below w.heap.size w w'
theorem tells {P : Prop} {w w' : World} (b : Bool) (h : b = true ↔ P) (hb : Below w.heap.size w w') : Tells P w (.returned (.bool b)) w' := ⟨b, rfl, h, hb⟩
theorem mbelow_alloc (w : World) (o : Obj) : Below w.heap.size w (w.alloc o) := (Below.refl _ _).alloc (Nat.le_refl _) _
theorem mcells5 {W : World} {b : Nat} {x0 x1 x2 x3 x4 : Value} {T : TypeId} (h : W.heap[b]? = some (.cells #[x0, x1, x2, x3, x4] T (0, 0))) : W.cell? ⟨b, 0, none⟩ = some x0 ∧ W.cell? ⟨b, 1, none⟩ = some x1 ∧ W.cell? ⟨b, 2, none⟩ = some x2 ∧ W.cell? ⟨b, 3, none⟩ = some x3 ∧ W.cell? ⟨b, 4, none⟩ = some x4 := by
  refine ⟨?_, ?_, ?_, ?_, ?_⟩ <;> rw [cell_of_row W b _ _ _ _ h] <;> rfl
set_option maxHeartbeats 1000000 in
theorem within_is {n a b : Int} {w : World} (c : Bool) (h : c = decide (a ≤ n ∧ n ≤ b)) :
    Calls Tryz.prog 48 #[.int .i64 n, .int .i64 a, .int .i64 b] w fun e w' => e = .returned (.bool c) ∧ w' = w := by
  have HC := Lib.hid h
  clear h
  go_enter Tryz.func48, Tryz.ntmps48
  by_cases h1 : a ≤ n
  · by_cases h2 : n ≤ b
    · go_wp2_with fail
      go_ret
      exact ⟨by rw [HC.out, decide_eq_true (And.intro h1 h2)]; rfl, rfl⟩
    · go_wp2_with fail
      go_ret
      exact ⟨by rw [HC.out, decide_eq_false (by omega)]; rfl, rfl⟩
  · go_wp2_with fail
    go_ret
    exact ⟨by rw [HC.out, decide_eq_false (by omega)]; rfl, rfl⟩
set_option maxHeartbeats 1000000 in
theorem isKey_is {s : ByteArray} {w : World} (c : Bool) (h : c = decide (1 ≤ s.size ∧ s.size ≤ 128)) :
    Calls Tryz.prog 76 #[.string s] w fun e w' => e = .returned (.bool c) ∧ w' = w := by
  have HC : Hid (c = decide ((1 : Int) ≤ (s.size : Int) ∧ (s.size : Int) ≤ 128)) := Lib.hid (by rw [h]; congr 1; apply propext; constructor <;> intro h <;> omega)
  clear h
  go_enter Tryz.func76, Tryz.ntmps76
  go_wp2_with fail
  refine (within_is c HC.out).mono ?_
  rintro e w2 ⟨rfl, rfl⟩
  go_wp2_with fail
  go_ret
  exact ⟨rfl, rfl⟩
theorem le_key {a b : ByteArray} : (Op.bytesLess a.toList b.toList || a.toList == b.toList) = !Mm.lt b a := by
  unfold Mm.lt
  have h1 : ∀ x y : ByteArray, Op.bytesLess x.toList y.toList = Mm.lt x y := fun _ _ => rfl
  rw [h1, h1]
  cases e : Mm.lt b a with
  | true =>
    have := Mm.lt_asymm e
    have hn : (a.toList == b.toList) = false := beq_eq_false_iff_ne.2 fun q => by rw [Mm.toList_inj q, Mm.lt_irrefl] at e; cases e
    rw [this, hn]; rfl
  | false =>
    cases e2 : Mm.lt a b with
    | true => rfl
    | false =>
      rw [Mm.eq_of_not e2 e]; simp
theorem eq_key {a b : ByteArray} : (a.toList == b.toList) = decide (a = b) := by
  by_cases h : a = b
  · rw [h]; simp
  · rw [decide_eq_false h]; exact beq_eq_false_iff_ne.2 fun q => h (Mm.toList_inj q)

set_option maxRecDepth 100000 in
set_option maxHeartbeats 8000000 in
theorem isTable_any (f : File) (w : World) : Calls Tryz.prog 43 #[fiV f] w (Tells (Mf.IsFile f) w) := by
  obtain ⟨n, lv, ct, fi, la⟩ := f
  unfold fiV
  obtain ⟨b1, K1⟩ : ∃ b : Bool, Hid (b = decide (0 ≤ lv ∧ lv ≤ 3)) := ⟨_, Lib.hid rfl⟩
  obtain ⟨b2, K2⟩ : ∃ b : Bool, Hid (b = decide (1 ≤ ct ∧ ct ≤ 4096)) := ⟨_, Lib.hid rfl⟩
  obtain ⟨b3, K3⟩ : ∃ b : Bool, Hid (b = decide (1 ≤ fi.size ∧ fi.size ≤ 128)) := ⟨_, Lib.hid rfl⟩
  obtain ⟨b4, K4⟩ : ∃ b : Bool, Hid (b = decide (1 ≤ la.size ∧ la.size ≤ 128)) := ⟨_, Lib.hid rfl⟩
  obtain ⟨x, hx⟩ : ∃ b : Bool, Op.bytesLess fi.toList la.toList = b := ⟨_, rfl⟩
  obtain ⟨y, hy⟩ : ∃ b : Bool, (fi.toList == la.toList) = b := ⟨_, rfl⟩
  have q1 : (x || y) = !Mm.lt la fi := by rw [← hx, ← hy]; exact le_key
  have q2 : y = decide (fi = la) := by rw [← hy]; exact eq_key
  have key : Mf.IsFile ⟨n, lv, ct, fi, la⟩ ↔ (b1 = true ∧ b2 = true ∧ b3 = true ∧ b4 = true ∧ (x || y) = true ∧ (y = true ↔ ct = 1)) := by
    rw [K1.out, K2.out, K3.out, K4.out, q1, q2, decide_eq_true_iff, decide_eq_true_iff, decide_eq_true_iff, decide_eq_true_iff, decide_eq_true_iff]
    unfold Mf.IsFile
    simp only [and_assoc, Bool.not_eq_true']
  have HK := Lib.hid key
  clear q1 q2 key
  have i7 : ct = 1 ∨ ¬ ct = 1 := Classical.em _
  go_enter Tryz.func43, Tryz.ntmps43
  go_wp2_with fail
  refine (within_is b1 K1.out).mono ?_
  rintro e w2 ⟨rfl, rfl⟩
  cases b1 with
  | false =>
    go_wp2_with fail
    go_ret
    exact tells false (by rw [HK.out]; simp) (mbelow_alloc _ _)
  | true =>
  go_wp2_with fail
  refine (within_is b2 K2.out).mono ?_
  rintro e w2 ⟨rfl, rfl⟩
  cases b2 with
  | false =>
    go_wp2_with fail
    go_ret
    exact tells false (by rw [HK.out]; simp) (mbelow_alloc _ _)
  | true =>
  go_wp2_with fail
  refine (isKey_is b3 K3.out).mono ?_
  rintro e w2 ⟨rfl, rfl⟩
  cases b3 with
  | false =>
    go_wp2_with fail
    go_ret
    exact tells false (by rw [HK.out]; simp) (mbelow_alloc _ _)
  | true =>
  go_wp2_with fail
  refine (isKey_is b4 K4.out).mono ?_
  rintro e w2 ⟨rfl, rfl⟩
  cases b4 with
  | false =>
    go_wp2_with fail
    go_ret
    exact tells false (by rw [HK.out]; simp) (mbelow_alloc _ _)
  | true =>
  have hxy : (x = true ∧ y = true) ∨ (x = true ∧ y = false) ∨ (x = false ∧ y = true) ∨ (x = false ∧ y = false) := by cases x <;> cases y <;> simp
  rcases i7 with h7 | h7
  · subst h7
    rcases hxy with ⟨rfl, rfl⟩ | ⟨rfl, rfl⟩ | ⟨rfl, rfl⟩ | ⟨rfl, rfl⟩
    · go_wp2_with fail
      go_ret
      exact tells true (by rw [HK.out]; simp) (mbelow_alloc _ _)
    · go_wp2_with fail
      go_ret
      exact tells false (by rw [HK.out]; simp) (mbelow_alloc _ _)
    · go_wp2_with fail
      go_ret
      exact tells true (by rw [HK.out]; simp) (mbelow_alloc _ _)
    · go_wp2_with fail
      go_ret
      exact tells false (by rw [HK.out]; simp) (mbelow_alloc _ _)
  · have e7 : (ct == 1) = false := by simpa using h7
    have H7 := Lib.hid h7
    rcases hxy with ⟨rfl, rfl⟩ | ⟨rfl, rfl⟩ | ⟨rfl, rfl⟩ | ⟨rfl, rfl⟩
    · go_wp2_with fail
      go_ret
      exact tells false (by rw [HK.out]; simp [H7.out]) (mbelow_alloc _ _)
    · go_wp2_with fail
      go_ret
      exact tells true (by rw [HK.out]; simp [H7.out]) (mbelow_alloc _ _)
    · go_wp2_with fail
      go_ret
      exact tells false (by rw [HK.out]; simp [H7.out]) (mbelow_alloc _ _)
    · go_wp2_with fail
      go_ret
      exact tells false (by rw [HK.out]; simp [H7.out]) (mbelow_alloc _ _)

set_option maxRecDepth 100000 in
set_option maxHeartbeats 8000000 in
theorem meet_any (f g : File) (w : World) : Calls Tryz.prog 47 #[fiV f, fiV g] w (Tells (Mf.Meet f g) w) := by
  obtain ⟨n, lv, ct, fi, la⟩ := f
  obtain ⟨n', lv', ct', fi', la'⟩ := g
  unfold fiV
  have q1 : (Op.bytesLess fi.toList la'.toList || fi.toList == la'.toList) = !Mm.lt la' fi := le_key
  have q2 : (Op.bytesLess fi'.toList la.toList || fi'.toList == la.toList) = !Mm.lt la fi' := le_key
  have HB : Hid (∀ o o' : Obj, Below w.heap.size w ((w.alloc o).alloc o')) := Lib.hid fun o o' => (mbelow_alloc _ _).alloc (by simp) _
  obtain ⟨b3, h3⟩ : ∃ b : Bool, b = Mm.lt la' fi := ⟨_, rfl⟩
  obtain ⟨b4, h4⟩ : ∃ b : Bool, b = Mm.lt la fi' := ⟨_, rfl⟩
  have key : Mf.Meet ⟨n, lv, ct, fi, la⟩ ⟨n', lv', ct', fi', la'⟩ ↔ (lv = lv' ∧ 0 < lv ∧ b3 = false ∧ b4 = false) := by rw [h3, h4]; rfl
  have HK := Lib.hid key
  rw [← h3] at q1
  rw [← h4] at q2
  clear h3 h4 key
  by_cases h1 : lv = lv'
  case neg =>
    have H1 := Lib.hid h1
    have e1 : (lv == lv') = false := by simpa using h1
    go_enter Tryz.func47, Tryz.ntmps47
    go_wp2_with fail
    go_ret
    exact tells false (by rw [HK.out]; simp only [Bool.false_eq_true, false_iff]; exact fun h => H1.out h.1) (HB.out _ _)
  subst h1
  by_cases h2 : 0 < lv
  case neg =>
    have H2 := Lib.hid h2
    go_enter Tryz.func47, Tryz.ntmps47
    go_wp2_with fail
    go_ret
    exact tells false (by rw [HK.out]; simp only [Bool.false_eq_true, false_iff]; exact fun h => by have h1 := H2.out; have h2 := h.2.1; omega) (HB.out _ _)
  have H2 := Lib.hid h2
  go_enter Tryz.func47, Tryz.ntmps47
  cases b3 with
  | true =>
    simp only [Bool.not_true] at q1
    go_wp2_with fail
    go_ret
    exact tells false (by rw [HK.out]; simp) (HB.out _ _)
  | false =>
    simp only [Bool.not_false] at q1
    cases b4 with
    | true =>
      simp only [Bool.not_true] at q2
      go_wp2_with fail
      go_ret
      exact tells false (by rw [HK.out]; simp) (HB.out _ _)
    | false =>
      simp only [Bool.not_false] at q2
      go_wp2_with fail
      go_ret
      exact tells true (by rw [HK.out]; simp [H2.out]) (HB.out _ _)
end Go.Proofs.YtbhjpkejdkfenaaGreatDoor
