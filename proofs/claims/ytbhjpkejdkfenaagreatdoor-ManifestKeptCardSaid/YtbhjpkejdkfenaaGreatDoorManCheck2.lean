/-
  Walks over package manifest: the library's IndexFunc at rows of tables; Check. Conditions: those in the theorems.
-/
import Derived.Test.YtbhjpkejdkfenaaGreatDoorManCheck
set_option linter.unusedSimpArgs false
set_option linter.unusedVariables false
namespace Go.Proofs.YtbhjpkejdkfenaaGreatDoor
open Go.RowKit
open Mf (File)

/-- The call tells the first place of a table of which P holds, or -1. -/
def Places (P : File → Prop) (l : List File) (w : World) (e : Ending) (w' : World) : Prop :=
  ∃ n : Int, e = .returned (.int .i64 n) ∧ ((n = -1 ∧ ∀ f ∈ l, ¬ P f) ∨ ∃ k, ∃ h : k < l.length, n = (k : Nat) ∧ P l[k] ∧ ∀ f ∈ l.take k, ¬ P f) ∧ Below w.heap.size w w'
theorem mbelow_drew {B : Nat} {a w : World} (h : Below B a w) (q : Nat) : Below B a (w.drewN q) := h.trans ⟨rfl, rfl, rfl, Nat.le_refl _, fun _ _ => rfl⟩
theorem mbelow_drewN {w : World} (q : Nat) : Below w.heap.size w (w.drewN q) := ⟨rfl, rfl, rfl, Nat.le_refl _, fun _ _ => rfl⟩
/-- A state's block. -/
def stO (nx lg : Int) (p : Option Addr) (n cap : Nat) : Obj := .cells #[.int .i64 nx, .int .i64 lg, .slice p n cap] 24 (0, 0)
def stV (nx lg : Int) (p : Option Addr) (n cap : Nat) : Value := .agg #[.int .i64 nx, .int .i64 lg, .slice p n cap]
theorem st_cells {W : World} {a : Nat} {nx lg : Int} {p : Option Addr} {n cap : Nat} (h : W.heap[a]? = some (stO nx lg p n cap)) : W.cell? ⟨a, 0, none⟩ = some (.int .i64 nx) ∧ W.cell? ⟨a, 1, none⟩ = some (.int .i64 lg) ∧ W.cell? ⟨a, 2, none⟩ = some (.slice p n cap) := by
  unfold stO at h
  refine ⟨?_, ?_, ?_⟩ <;> rw [cell_of_row W a _ _ _ _ h] <;> rfl

set_option maxRecDepth 100000 in
set_option maxHeartbeats 4000000 in
theorem indexMet {w : World} {p : Option Addr} {cap : Nat} {l : List File} {P : File → Prop} {a b : Nat} (hl : FilesAt w p l) (hm : l.length ≤ maxLen)
    (hp : ∀ f ∈ l, ∀ W, Below w.heap.size w W → Calls Tryz.prog 46 #[fiV f, .pointer (some ⟨a, 0, none⟩), .pointer (some ⟨b, 0, none⟩)] W (Tells (P f) W)) :
    Calls Tryz.prog 68 #[.slice p l.length cap, .func (.func 46) #[] #[.pointer (some ⟨a, 0, none⟩), .pointer (some ⟨b, 0, none⟩)]] w (Places P l w) := by
  unfold maxLen at hm
  have HL := Lib.hid hl
  have HP := Lib.hid hp
  clear hl hp
  go_enter Tryz.func68, Tryz.ntmps68
  go_wp2_with fail
  go_loopw [8] (fun kv wr => ∃ k : Nat, k ≤ l.length ∧ kv = .int .i64 (k : Nat) ∧ Hid ((∀ e ∈ l.take k, ¬ P e) ∧ Below w.heap.size w wr)) (fun kv _ => l.length - (intOf kv).toNat)
  case atStart => exact ⟨0, Nat.zero_le _, rfl, Lib.hid ⟨fun e he => by simp at he, Below.refl _ _⟩⟩
  case round =>
    obtain ⟨k, hk, rfl, H⟩ := hrel
    by_cases hlt : k < l.length
    · have i1 : (k : Int) < (l.length : Int) := by omega
      have i2 : (0 : Int) ≤ (k : Int) := by omega
      obtain ⟨A, rfl, c0, c1, c2, c3, c4, hin⟩ := HL.out.at H.out.2 hlt
      have HTK := Lib.hid (List.take_succ_eq_append_getElem hlt)
      have HME := Lib.hid (List.getElem_mem hlt)
      have HAT : Hid (∀ Q : Prop, (P l[k] → (∀ e ∈ l.take k, ¬ P e) → (∃ h : k < l.length, P l[k] ∧ ∀ e ∈ l.take k, ¬ P e) → Q) → P l[k] → (∀ e ∈ l.take k, ¬ P e) → Q) := Lib.hid fun Q hq h1 h2 => hq h1 h2 ⟨hlt, h1, h2⟩
      have HX : Hid (∃ x, x = l[k]) := Lib.hid ⟨_, rfl⟩
      obtain ⟨x, hx⟩ := HX.out
      have HXE := Lib.hid hx
      rw [← hx] at c0 c1 c2 c3 c4
      clear hx HX
      go_wp2_with fail
      refine (HP.out x (by rw [HXE.out]; exact HME.out) _ H.out.2).mono ?_
      rintro e w2 ⟨b, rfl, hb, hb2⟩
      have HB := Lib.hid hb
      have HBE := Lib.hid (H.out.2.trans (hb2.mono H.out.2.size))
      clear hb hb2
      cases b with
      | true =>
        go_wp2_with fail
        go_ret
        exact ⟨_, rfl, .inr ⟨k, hlt, rfl, by rw [← HXE.out]; exact HB.out.1 (by trivial), H.out.1⟩, HBE.out⟩
      | false =>
        have HW : Hid (¬ P x) := Lib.hid fun h => by have := HB.out.2 h; cases this
        go_wp2_with fail
        go_roundw
        case rel => exact ⟨k + 1, by omega, by go_num, Lib.hid ⟨by
          rw [HTK.out]
          intro e he
          rcases List.mem_append.1 he with he | he
          · exact H.out.1 e he
          · rw [List.mem_singleton.1 he, ← HXE.out]; exact HW.out, HBE.out⟩⟩
        case measure => simp [intOf]; omega
    · obtain rfl : k = l.length := by omega
      have i1 : ¬ (l.length : Int) < (l.length : Int) := by omega
      rw [List.take_length] at H
      go_wp2_with fail
      go_ret
      exact ⟨_, rfl, .inl ⟨rfl, H.out.1⟩, H.out.2⟩

set_option maxRecDepth 100000 in
set_option maxHeartbeats 4000000 in
theorem indexNum {w : World} {p : Option Addr} {cap : Nat} {l : List File} {P : File → Prop} {b : Nat} (hl : FilesAt w p l) (hm : l.length ≤ maxLen)
    (hp : ∀ f ∈ l, ∀ W, Below w.heap.size w W → Calls Tryz.prog 69 #[fiV f, .pointer (some ⟨b, 0, none⟩)] W (Tells (P f) W)) :
    Calls Tryz.prog 68 #[.slice p l.length cap, .func (.func 69) #[] #[.pointer (some ⟨b, 0, none⟩)]] w (Places P l w) := by
  unfold maxLen at hm
  have HL := Lib.hid hl
  have HP := Lib.hid hp
  clear hl hp
  go_enter Tryz.func68, Tryz.ntmps68
  go_wp2_with fail
  go_loopw [8] (fun kv wr => ∃ k : Nat, k ≤ l.length ∧ kv = .int .i64 (k : Nat) ∧ Hid ((∀ e ∈ l.take k, ¬ P e) ∧ Below w.heap.size w wr)) (fun kv _ => l.length - (intOf kv).toNat)
  case atStart => exact ⟨0, Nat.zero_le _, rfl, Lib.hid ⟨fun e he => by simp at he, Below.refl _ _⟩⟩
  case round =>
    obtain ⟨k, hk, rfl, H⟩ := hrel
    by_cases hlt : k < l.length
    · have i1 : (k : Int) < (l.length : Int) := by omega
      have i2 : (0 : Int) ≤ (k : Int) := by omega
      obtain ⟨A, rfl, c0, c1, c2, c3, c4, hin⟩ := HL.out.at H.out.2 hlt
      have HTK := Lib.hid (List.take_succ_eq_append_getElem hlt)
      have HME := Lib.hid (List.getElem_mem hlt)
      have HAT : Hid (∀ Q : Prop, (P l[k] → (∀ e ∈ l.take k, ¬ P e) → (∃ h : k < l.length, P l[k] ∧ ∀ e ∈ l.take k, ¬ P e) → Q) → P l[k] → (∀ e ∈ l.take k, ¬ P e) → Q) := Lib.hid fun Q hq h1 h2 => hq h1 h2 ⟨hlt, h1, h2⟩
      have HX : Hid (∃ x, x = l[k]) := Lib.hid ⟨_, rfl⟩
      obtain ⟨x, hx⟩ := HX.out
      have HXE := Lib.hid hx
      rw [← hx] at c0 c1 c2 c3 c4
      clear hx HX
      go_wp2_with fail
      refine (HP.out x (by rw [HXE.out]; exact HME.out) _ H.out.2).mono ?_
      rintro e w2 ⟨b, rfl, hb, hb2⟩
      have HB := Lib.hid hb
      have HBE := Lib.hid (H.out.2.trans (hb2.mono H.out.2.size))
      clear hb hb2
      cases b with
      | true =>
        go_wp2_with fail
        go_ret
        exact ⟨_, rfl, .inr ⟨k, hlt, rfl, by rw [← HXE.out]; exact HB.out.1 (by trivial), H.out.1⟩, HBE.out⟩
      | false =>
        have HW : Hid (¬ P x) := Lib.hid fun h => by have := HB.out.2 h; cases this
        go_wp2_with fail
        go_roundw
        case rel => exact ⟨k + 1, by omega, by go_num, Lib.hid ⟨by
          rw [HTK.out]
          intro e he
          rcases List.mem_append.1 he with he | he
          · exact H.out.1 e he
          · rw [List.mem_singleton.1 he, ← HXE.out]; exact HW.out, HBE.out⟩⟩
        case measure => simp [intOf]; omega
    · obtain rfl : k = l.length := by omega
      have i1 : ¬ (l.length : Int) < (l.length : Int) := by omega
      rw [List.take_length] at H
      go_wp2_with fail
      go_ret
      exact ⟨_, rfl, .inl ⟨rfl, H.out.1⟩, H.out.2⟩

set_option maxRecDepth 100000 in
set_option maxHeartbeats 4000000 in
theorem all2 {w : World} {p : Option Addr} {cap : Nat} {l : List File} {P : Nat → Prop} {a : Nat} {nx lg : Int} (hm : l.length ≤ maxLen) (ha : w.heap[a]? = some (stO nx lg p l.length cap))
    (hp : ∀ i < l.length, ∀ W, Below w.heap.size w W → Calls Tryz.prog 41 #[.int .i64 (i : Nat), .pointer (some ⟨a, 0, none⟩)] W (Tells (P i) W)) :
    Calls Tryz.prog 40 #[.func (.func 41) #[] #[.pointer (some ⟨a, 0, none⟩)], .pointer (some ⟨a, 0, none⟩)] w (Tells (∀ i < l.length, P i) w) := by
  unfold maxLen at hm
  have HP := Lib.hid hp
  clear hp
  obtain ⟨c0, c1, c2⟩ := st_cells ha
  clear ha
  go_enter Tryz.func40, Tryz.ntmps40
  go_wp2_with fail
  clear c0 c1 c2
  go_loopw [8] (fun kv wr => ∃ k : Nat, k ≤ l.length ∧ kv = .int .i64 (k : Nat) ∧ Hid ((∀ i < k, P i) ∧ Below w.heap.size w wr)) (fun kv _ => l.length - (intOf kv).toNat)
  case atStart => exact ⟨0, Nat.zero_le _, rfl, Lib.hid ⟨fun e he => by omega, Below.refl _ _⟩⟩
  case round =>
    obtain ⟨k, hk, rfl, H⟩ := hrel
    by_cases hlt : k < l.length
    · have i1 : (k : Int) < (l.length : Int) := by omega
      have i2 : (0 : Int) ≤ (k : Int) := by omega
      go_wp2_with fail
      refine (HP.out k hlt _ H.out.2).mono ?_
      rintro e w2 ⟨b, rfl, hb, hb2⟩
      have HB := Lib.hid hb
      have HBE := Lib.hid (H.out.2.trans (hb2.mono H.out.2.size))
      clear hb hb2
      cases b with
      | false =>
        go_wp2_with fail
        go_ret
        exact tells false (by simp only [Bool.false_eq_true, false_iff]; intro h; have := HB.out.2 (h k hlt); cases this) HBE.out
      | true =>
        go_wp2_with fail
        go_roundw
        case rel => exact ⟨k + 1, by omega, by go_num, Lib.hid ⟨fun i hi => by
          by_cases e : i = k
          · rw [e]; exact HB.out.1 (by trivial)
          · exact H.out.1 i (by omega), HBE.out⟩⟩
        case measure => simp [intOf]; omega
    · obtain rfl : k = l.length := by omega
      have i1 : ¬ (l.length : Int) < (l.length : Int) := by omega
      go_wp2_with fail
      go_ret
      exact tells true (by simp only [true_iff]; exact H.out.1) H.out.2

set_option maxRecDepth 100000 in
set_option maxHeartbeats 4000000 in
theorem all3 {w : World} {p : Option Addr} {cap : Nat} {l : List File} {P : Nat → Prop} {a : Nat} {nx lg : Int} (hm : l.length ≤ maxLen) (ha : w.heap[a]? = some (stO nx lg p l.length cap))
    (hp : ∀ i < l.length, ∀ W, Below w.heap.size w W → Calls Tryz.prog 42 #[.int .i64 (i : Nat), .pointer (some ⟨a, 0, none⟩)] W (Tells (P i) W)) :
    Calls Tryz.prog 40 #[.func (.func 42) #[] #[.pointer (some ⟨a, 0, none⟩)], .pointer (some ⟨a, 0, none⟩)] w (Tells (∀ i < l.length, P i) w) := by
  unfold maxLen at hm
  have HP := Lib.hid hp
  clear hp
  obtain ⟨c0, c1, c2⟩ := st_cells ha
  clear ha
  go_enter Tryz.func40, Tryz.ntmps40
  go_wp2_with fail
  clear c0 c1 c2
  go_loopw [8] (fun kv wr => ∃ k : Nat, k ≤ l.length ∧ kv = .int .i64 (k : Nat) ∧ Hid ((∀ i < k, P i) ∧ Below w.heap.size w wr)) (fun kv _ => l.length - (intOf kv).toNat)
  case atStart => exact ⟨0, Nat.zero_le _, rfl, Lib.hid ⟨fun e he => by omega, Below.refl _ _⟩⟩
  case round =>
    obtain ⟨k, hk, rfl, H⟩ := hrel
    by_cases hlt : k < l.length
    · have i1 : (k : Int) < (l.length : Int) := by omega
      have i2 : (0 : Int) ≤ (k : Int) := by omega
      go_wp2_with fail
      refine (HP.out k hlt _ H.out.2).mono ?_
      rintro e w2 ⟨b, rfl, hb, hb2⟩
      have HB := Lib.hid hb
      have HBE := Lib.hid (H.out.2.trans (hb2.mono H.out.2.size))
      clear hb hb2
      cases b with
      | false =>
        go_wp2_with fail
        go_ret
        exact tells false (by simp only [Bool.false_eq_true, false_iff]; intro h; have := HB.out.2 (h k hlt); cases this) HBE.out
      | true =>
        go_wp2_with fail
        go_roundw
        case rel => exact ⟨k + 1, by omega, by go_num, Lib.hid ⟨fun i hi => by
          by_cases e : i = k
          · rw [e]; exact HB.out.1 (by trivial)
          · exact H.out.1 i (by omega), HBE.out⟩⟩
        case measure => simp [intOf]; omega
    · obtain rfl : k = l.length := by omega
      have i1 : ¬ (l.length : Int) < (l.length : Int) := by omega
      go_wp2_with fail
      go_ret
      exact tells true (by simp only [true_iff]; exact H.out.1) H.out.2

set_option maxRecDepth 100000 in
set_option maxHeartbeats 4000000 in
theorem all4 {w : World} {p : Option Addr} {cap : Nat} {l : List File} {P : Nat → Prop} {a : Nat} {nx lg : Int} (hm : l.length ≤ maxLen) (ha : w.heap[a]? = some (stO nx lg p l.length cap))
    (hp : ∀ i < l.length, ∀ W, Below w.heap.size w W → Calls Tryz.prog 44 #[.int .i64 (i : Nat), .pointer (some ⟨a, 0, none⟩)] W (Tells (P i) W)) :
    Calls Tryz.prog 40 #[.func (.func 44) #[] #[.pointer (some ⟨a, 0, none⟩)], .pointer (some ⟨a, 0, none⟩)] w (Tells (∀ i < l.length, P i) w) := by
  unfold maxLen at hm
  have HP := Lib.hid hp
  clear hp
  obtain ⟨c0, c1, c2⟩ := st_cells ha
  clear ha
  go_enter Tryz.func40, Tryz.ntmps40
  go_wp2_with fail
  clear c0 c1 c2
  go_loopw [8] (fun kv wr => ∃ k : Nat, k ≤ l.length ∧ kv = .int .i64 (k : Nat) ∧ Hid ((∀ i < k, P i) ∧ Below w.heap.size w wr)) (fun kv _ => l.length - (intOf kv).toNat)
  case atStart => exact ⟨0, Nat.zero_le _, rfl, Lib.hid ⟨fun e he => by omega, Below.refl _ _⟩⟩
  case round =>
    obtain ⟨k, hk, rfl, H⟩ := hrel
    by_cases hlt : k < l.length
    · have i1 : (k : Int) < (l.length : Int) := by omega
      have i2 : (0 : Int) ≤ (k : Int) := by omega
      go_wp2_with fail
      refine (HP.out k hlt _ H.out.2).mono ?_
      rintro e w2 ⟨b, rfl, hb, hb2⟩
      have HB := Lib.hid hb
      have HBE := Lib.hid (H.out.2.trans (hb2.mono H.out.2.size))
      clear hb hb2
      cases b with
      | false =>
        go_wp2_with fail
        go_ret
        exact tells false (by simp only [Bool.false_eq_true, false_iff]; intro h; have := HB.out.2 (h k hlt); cases this) HBE.out
      | true =>
        go_wp2_with fail
        go_roundw
        case rel => exact ⟨k + 1, by omega, by go_num, Lib.hid ⟨fun i hi => by
          by_cases e : i = k
          · rw [e]; exact HB.out.1 (by trivial)
          · exact H.out.1 i (by omega), HBE.out⟩⟩
        case measure => simp [intOf]; omega
    · obtain rfl : k = l.length := by omega
      have i1 : ¬ (l.length : Int) < (l.length : Int) := by omega
      go_wp2_with fail
      go_ret
      exact tells true (by simp only [true_iff]; exact H.out.1) H.out.2

/-- The number at a place is right. -/
def NumM (nx : Int) (l : List File) (i : Nat) : Prop := ∃ h : i < l.length, (0 < i → (l[i - 1]'(by omega)).n < l[i].n) ∧ (i = 0 → 0 < l[i].n) ∧ l[i].n < nx
def MadeM (l : List File) (i : Nat) : Prop := ∃ h : i < l.length, Mf.IsFile l[i]
def ApartM (l : List File) (i : Nat) : Prop := ∃ h : i < l.length, ∀ f ∈ l.take i, ¬ Mf.Meet f l[i]
theorem num_all (nx : Int) (l : List File) : (∀ i < l.length, NumM nx l i) ↔ Mf.Numbered nx l := by
  constructor
  · intro h
    have hp : l.Pairwise fun a b => a.n < b.n := by
      rw [List.pairwise_iff_getElem]
      intro i j hi hj hij
      obtain ⟨d, rfl⟩ : ∃ d, j = i + 1 + d := ⟨j - i - 1, by omega⟩
      clear hij
      induction d with
      | zero => obtain ⟨_, h1, _⟩ := h (i + 1) hj; exact h1 (by omega)
      | succ d ih =>
        have h1 := ih (by omega)
        obtain ⟨_, h2, _⟩ := h (i + 1 + (d + 1)) hj
        exact Int.lt_trans h1 (h2 (by omega))
    refine ⟨fun f hf => ?_, hp⟩
    obtain ⟨i, hi, rfl⟩ := List.getElem_of_mem hf
    obtain ⟨_, _, _, h3⟩ := h i hi
    refine ⟨?_, h3⟩
    obtain ⟨_, _, h0, _⟩ := h 0 (by omega)
    have h0 := h0 rfl
    rcases Nat.eq_zero_or_pos i with e | e
    · subst e; omega
    · rw [List.pairwise_iff_getElem] at hp
      have := hp 0 i (by omega) hi e
      omega
  · rintro ⟨h1, h2⟩ i hi
    rw [List.pairwise_iff_getElem] at h2
    have h3 := h1 _ (List.getElem_mem hi)
    exact ⟨hi, fun h0 => h2 (i - 1) i (by omega) hi (by omega), fun _ => by omega, h3.2⟩
theorem made_all (l : List File) : (∀ i < l.length, MadeM l i) ↔ ∀ f ∈ l, Mf.IsFile f := by
  constructor
  · intro h f hf
    obtain ⟨i, hi, rfl⟩ := List.getElem_of_mem hf
    exact (h i hi).2
  · intro h i hi
    exact ⟨hi, h _ (List.getElem_mem hi)⟩
theorem apart_all (l : List File) : (∀ i < l.length, ApartM l i) ↔ l.Pairwise fun a b => ¬ Mf.Meet a b := by
  constructor
  · intro h
    rw [List.pairwise_iff_getElem]
    intro i j hi hj hij
    obtain ⟨_, h1⟩ := h j hj
    refine h1 _ ?_
    rw [List.mem_take_iff_getElem]
    exact ⟨i, by omega, rfl⟩
  · intro h i hi
    refine ⟨hi, fun f hf => ?_⟩
    rw [List.mem_take_iff_getElem] at hf
    obtain ⟨j, hj, rfl⟩ := hf
    rw [List.pairwise_iff_getElem] at h
    exact h j i (by omega) hi (by omega)
theorem right_iff_m (nx lg : Int) (l : List File) : Mf.Right ⟨nx, lg, l⟩ ↔ (1 ≤ nx ∧ nx ≤ 1099511627776) ∧ (0 ≤ lg ∧ lg ≤ 1099511627776) ∧ l.length ≤ 200 ∧ (∀ i < l.length, NumM nx l i) ∧ (∀ i < l.length, MadeM l i) ∧ ∀ i < l.length, ApartM l i := by
  rw [num_all, made_all, apart_all]
  exact ⟨fun h => ⟨h.next, h.log, h.few, h.numbered, h.files, h.apart⟩, fun ⟨h1, h2, h3, h4, h5, h6⟩ => ⟨h1, h2, h3, h4, h5, h6⟩⟩

set_option maxRecDepth 100000 in
set_option maxHeartbeats 4000000 in
theorem numbered_any {w : World} {p : Option Addr} {cap : Nat} {l : List File} {a : Nat} {nx lg : Int} (hm : l.length ≤ maxLen) (hl : FilesAt w p l) (ha : w.heap[a]? = some (stO nx lg p l.length cap)) (i : Nat) (hi : i < l.length) (W : World) (hW : Below w.heap.size w W) :
    Calls Tryz.prog 41 #[.int .i64 (i : Nat), .pointer (some ⟨a, 0, none⟩)] W (Tells (NumM nx l i) W) := by
  unfold maxLen at hm
  have haW : W.heap[a]? = some (stO nx lg p l.length cap) := (hW.block a (Array.getElem?_eq_some_iff.1 ha).1).trans ha
  obtain ⟨s0, s1, s2⟩ := st_cells haW
  obtain ⟨A, rfl, c0, c1, c2, c3, c4, hin⟩ := hl.at hW hi
  have i1 : (i : Int) < (l.length : Int) := by omega
  have i2 : (0 : Int) ≤ (i : Int) := by omega
  clear c1 c2 c3 c4 hin
  by_cases h0 : i = 0
  · have j0 : ¬ (0 : Int) < (i : Int) := by omega
    have key : NumM nx l i ↔ (0 < l[i].n ∧ l[i].n < nx) := ⟨fun ⟨_, _, h2, h3⟩ => ⟨h2 h0, h3⟩, fun ⟨h2, h3⟩ => ⟨hi, fun h => by omega, fun _ => h2, h3⟩⟩
    have HK := Lib.hid key
    clear key hl ha haW hW h0
    generalize l[i].n = m at *
    go_enter Tryz.func41, Tryz.ntmps41
    by_cases h1 : 0 < m
    · by_cases h2 : m < nx
      · go_wp2_with fail
        go_quiet (fail)
        go_wp2_with fail
        go_ret
        exact tells true (by rw [HK.out]; simp [h1, h2]) (mbelow_drewN _)
      · have e2 : decide (m < nx) = false := decide_eq_false h2
        go_wp2_with fail
        go_quiet (fail)
        go_wp2_with fail
        go_ret
        exact tells false (by rw [HK.out]; simp only [Bool.false_eq_true, false_iff]; intro h; have := h.2; omega) (mbelow_drewN _)
    · have e1 : decide (0 < m) = false := decide_eq_false h1
      go_wp2_with fail
      go_quiet (fail)
      go_wp2_with fail
      go_ret
      exact tells false (by rw [HK.out]; simp only [Bool.false_eq_true, false_iff]; intro h; have := h.1; omega) (mbelow_drewN _)
  · have j0 : (0 : Int) < (i : Int) := by omega
    have j1 : (0 : Int) ≤ (i : Int) - 1 := by omega
    have j2 : (i : Int) - 1 < (l.length : Int) := by omega
    have hi1 : i - 1 < l.length := by omega
    obtain ⟨A', eA, b0, b1, b2, b3, b4, hin2⟩ := hl.at hW hi1
    cases eA
    clear b1 b2 b3 b4 hin2
    have j3 : ((i : Int) - 1).toNat = i - 1 := by omega
    have j4 : IntKind.i64.wrap ((i : Int) - 1) = (i : Int) - 1 := IntWalk.i64_in _ (by omega)
    have j5 : (1 : Int) ≤ (i : Int) := by omega
    have j6 : 0 < i := by omega
    have j7 : 1 ≤ i := by omega
    have key : NumM nx l i ↔ (l[i - 1].n < l[i].n ∧ l[i].n < nx) := ⟨fun ⟨_, h1, _, h3⟩ => ⟨h1 j6, h3⟩, fun ⟨h2, h3⟩ => ⟨hi, fun _ => h2, fun h => by omega, h3⟩⟩
    have HK := Lib.hid key
    clear key hl ha haW hW
    generalize l[i].n = m at *
    generalize l[i - 1].n = m0 at *
    go_enter Tryz.func41, Tryz.ntmps41
    by_cases h1 : m0 < m
    · by_cases h2 : m < nx
      · go_wp2_with fail
        go_quiet (fail)
        go_wp2_with fail
        go_ret
        exact tells true (by rw [HK.out]; simp [h1, h2]) (mbelow_drewN _)
      · have e2 : decide (m < nx) = false := decide_eq_false h2
        go_wp2_with fail
        go_quiet (fail)
        go_wp2_with fail
        go_ret
        exact tells false (by rw [HK.out]; simp only [Bool.false_eq_true, false_iff]; intro h; have := h.2; omega) (mbelow_drewN _)
    · have e1 : decide (m0 < m) = false := decide_eq_false h1
      go_wp2_with fail
      go_quiet (fail)
      go_wp2_with fail
      go_ret
      exact tells false (by rw [HK.out]; simp only [Bool.false_eq_true, false_iff]; intro h; have := h.1; omega) (mbelow_drewN _)
set_option maxRecDepth 100000 in
set_option maxHeartbeats 4000000 in
theorem made_any {w : World} {p : Option Addr} {cap : Nat} {l : List File} {a : Nat} {nx lg : Int} (hm : l.length ≤ maxLen) (hl : FilesAt w p l) (ha : w.heap[a]? = some (stO nx lg p l.length cap)) (i : Nat) (hi : i < l.length) (W : World) (hW : Below w.heap.size w W) :
    Calls Tryz.prog 42 #[.int .i64 (i : Nat), .pointer (some ⟨a, 0, none⟩)] W (Tells (MadeM l i) W) := by
  unfold maxLen at hm
  have haW : W.heap[a]? = some (stO nx lg p l.length cap) := (hW.block a (Array.getElem?_eq_some_iff.1 ha).1).trans ha
  obtain ⟨s0, s1, s2⟩ := st_cells haW
  obtain ⟨A, rfl, c0, c1, c2, c3, c4, hin⟩ := hl.at hW hi
  have i1 : (i : Int) < (l.length : Int) := by omega
  have i2 : (0 : Int) ≤ (i : Int) := by omega
  have key : MadeM l i ↔ Mf.IsFile l[i] := ⟨fun h => h.2, fun h => ⟨hi, h⟩⟩
  have HK := Lib.hid key
  clear key hl ha haW hW hin
  generalize l[i] = x at *
  go_enter Tryz.func42, Tryz.ntmps42
  go_wp2_with fail
  refine (isTable_any x _).mono ?_
  rintro e w2 ⟨b, rfl, hb, hb2⟩
  go_wp2_with fail
  go_ret
  exact ⟨b, rfl, hb.trans HK.out.symm, hb2⟩
set_option maxRecDepth 100000 in
set_option maxHeartbeats 4000000 in
theorem met_any {w : World} {p : Option Addr} {cap : Nat} {l : List File} {a b : Nat} {nx lg : Int} (hm : l.length ≤ maxLen) (hl : FilesAt w p l) (ha : w.heap[a]? = some (stO nx lg p l.length cap)) (i : Nat) (hi : i < l.length)
    (hb : w.heap[b]? = some (.cells #[.int .i64 (i : Nat)] 3 (0, 0))) (f : File) (W : World) (hW : Below w.heap.size w W) :
    Calls Tryz.prog 46 #[fiV f, .pointer (some ⟨a, 0, none⟩), .pointer (some ⟨b, 0, none⟩)] W (Tells (Mf.Meet f l[i]) W) := by
  unfold maxLen at hm
  obtain ⟨W1, hW1⟩ : ∃ W1, W1 = W.alloc (.cells #[.int .i64 f.n, .int .i64 f.level, .int .i64 f.count, .string f.first, .string f.last] 29) := ⟨_, rfl⟩
  have hb1 : Below W.heap.size W W1 := by rw [hW1]; exact mbelow_alloc _ _
  have hwb : Below w.heap.size w W1 := hW.trans (hb1.mono hW.size)
  have haW : W1.heap[a]? = some (stO nx lg p l.length cap) := (hwb.block a (Array.getElem?_eq_some_iff.1 ha).1).trans ha
  have hbW : W1.heap[b]? = some (.cells #[.int .i64 (i : Nat)] 3 (0, 0)) := (hwb.block b (Array.getElem?_eq_some_iff.1 hb).1).trans hb
  have hn : W1.heap[W.heap.size]? = some (.cells #[.int .i64 f.n, .int .i64 f.level, .int .i64 f.count, .string f.first, .string f.last] 29 (0, 0)) := by rw [hW1]; exact heap_alloc_new _ _
  obtain ⟨d0, d1, d2, d3, d4⟩ := mcells5 hn
  obtain ⟨s0, s1, s2⟩ := st_cells haW
  have s3 : W1.cell? ⟨b, 0, none⟩ = some (.int .i64 (i : Nat)) := by rw [cell_of_row W1 b _ _ _ _ hbW]; rfl
  obtain ⟨A, rfl, c0, c1, c2, c3, c4, hin⟩ := hl.at hwb hi
  have i1 : (i : Int) < (l.length : Int) := by omega
  have i2 : (0 : Int) ≤ (i : Int) := by omega
  clear hl ha haW hb hbW hwb hW hn hin
  have HB := Lib.hid hb1
  clear hb1
  generalize l[i] = x at *
  unfold fiV
  go_enter Tryz.func46, Tryz.ntmps46
  go_wp2_with fail
  rw [← hW1]
  clear hW1
  go_region_with (go_at_call 47; refine (meet_any f x _).mono ?_; rintro e w2 ⟨b2, rfl, hb2, hb3⟩)
  all_goals
    go_wp2_with fail
    go_ret
    exact ⟨b2, rfl, hb2, (mbelow_drew HB.out _).trans (hb3.mono HB.out.size)⟩
end Go.Proofs.YtbhjpkejdkfenaaGreatDoor
