/-
  Walks over the document's answer for tables: Floor. Conditions: those in the theorem.
-/
import Derived.Test.YthioogncbhkaoaaMemRefB
namespace Go.Proofs.Ythioogncbhkaoaa
open Go.RowKit

/-- What Floor tells: the best of those that are not above key. -/
def BestR (xs : List Pr) (key : ByteArray) (i : Nat) : Option Nat → Prop
  | none => ∀ j (h : j < xs.length), j < i → Mm.lt key xs[j].1 = true
  | some b => b < i ∧ ∃ hb : b < xs.length, Mm.lt key xs[b].1 = false ∧ ∀ j (h : j < xs.length), j < i → Mm.lt key xs[j].1 = false → Mm.lt xs[b].1 xs[j].1 = false
theorem best_skip {xs : List Pr} {key : ByteArray} {i : Nat} {o : Option Nat} (hb : BestR xs key i o) (h : i < xs.length) (hk : Mm.lt key xs[i].1 = true) : BestR xs key (i + 1) o := by
  cases o with
  | none =>
    intro j hj hji
    by_cases e : j = i
    · subst e; exact hk
    · exact hb j hj (by omega)
  | some b =>
    obtain ⟨h1, h2, h3, h4⟩ := hb
    refine ⟨by omega, h2, h3, fun j hj hji hl => ?_⟩
    by_cases e : j = i
    · subst e; rw [hk] at hl; cases hl
    · exact h4 j hj (by omega) hl
theorem best_first {xs : List Pr} {key : ByteArray} {i : Nat} (hb : BestR xs key i none) (h : i < xs.length) (hk : Mm.lt key xs[i].1 = false) : BestR xs key (i + 1) (some i) :=
  ⟨by omega, h, hk, fun j hj hji hl => by
      by_cases e : j = i
      · subst e; exact Mm.lt_irrefl _
      · rw [hb j hj (by omega)] at hl; cases hl⟩
theorem best_more {xs : List Pr} {key : ByteArray} {i b : Nat} (hb : BestR xs key i (some b)) (h : i < xs.length) (hk : Mm.lt key xs[i].1 = false) (hbl : b < xs.length) : (Mm.lt xs[b].1 xs[i].1 = true → BestR xs key (i + 1) (some i)) ∧ (Mm.lt xs[b].1 xs[i].1 = false → BestR xs key (i + 1) (some b)) := by
  obtain ⟨h1, h2, h3, h4⟩ := hb
  constructor
  · intro hl
    refine ⟨by omega, h, hk, fun j hj hji hjl => ?_⟩
    by_cases e : j = i
    · subst e; exact Mm.lt_irrefl _
    · have := h4 j hj (by omega) hjl
      cases e2 : Mm.lt xs[i].1 xs[j].1 with
      | false => rfl
      | true => rw [Mm.lt_trans hl e2] at this; cases this
  · intro hl
    refine ⟨by omega, h2, h3, fun j hj hji hjl => ?_⟩
    by_cases e : j = i
    · subst e; exact hl
    · exact h4 j hj (by omega) hjl
def bestInt : Option Nat → Int
  | none => -1
  | some b => (b : Int)
/-- The pair that Floor tells. -/
def floorP (xs : List Pr) : Option Nat → Pr
  | none => (⟨#[]⟩, ⟨#[]⟩)
  | some b => xs.getD b (⟨#[]⟩, ⟨#[]⟩)
theorem below_set {w X : World} (hb : Below w.heap.size w X) {b : Nat} (h : w.heap.size ≤ b) (i : Nat) (v : Value) : Below w.heap.size w (X.setCell ⟨b, i, none⟩ v) :=
  ⟨hb.os, hb.tape, hb.output, by simpa [World.setCell] using hb.size, fun k hk => (Below.heap_setCell _ _ _ _ (show k ≠ b by omega)).trans (hb.block k hk)⟩
set_option maxRecDepth 100000 in
set_option maxHeartbeats 8000000 in
theorem refFloor_any (p : Option Addr) (cap : Nat) (xs : List Pr) (hn : xs.length ≤ 1000) (key : ByteArray) (hk : key.size ≤ maxLen) (w : World) (hp : PairsAt w p xs) :
    Calls Try.prog 15 #[.slice p xs.length cap, .string key] w fun e w' => ∃ o, e = .returned (.tuple #[.agg #[.string (floorP xs o).1, .string (floorP xs o).2], .bool o.isSome]) ∧ BestR xs key xs.length o ∧ Below w.heap.size w w' := by
  have HP := Lib.hid hp
  have hall : ∀ x ∈ xs, PrIn x := fun x hx => by
    obtain ⟨i, hi, rfl⟩ := List.getElem_of_mem hx
    exact (hp i hi).elim fun _ h => h.2.2.2
  have HA := Lib.hid hall
  have HK := Lib.hid hk
  clear hp hall hk
  go_enter Try.func15, Try.ntmps15
  go_wp2_with fail
  obtain ⟨b0, hb0⟩ : ∃ b0, b0 = w.heap.size := ⟨_, rfl⟩
  have hbox := new_row w (.cells #[.string ⟨#[]⟩, .string ⟨#[]⟩] 44)
  have hbw := below_alloc w (.cells #[.string ⟨#[]⟩, .string ⟨#[]⟩] 44)
  obtain ⟨W, hW⟩ : ∃ W, w.alloc (.cells #[.string ⟨#[]⟩, .string ⟨#[]⟩] 44) = W := ⟨_, rfl⟩
  rw [hW] at hbox hbw ⊢
  rw [← hb0] at hbox ⊢
  have HB := Lib.hid hbw
  have HX := Lib.hid hbox
  have HB0 := Lib.hid hb0
  clear hbw hbox hW hb0
  go_wp2_with fail
  go_loopw [6, 7] (fun bv iv wr => ∃ (i : Nat) (o : Option Nat), i ≤ xs.length ∧ iv = .int .i64 (i : Nat) ∧ bv = .int .i64 (bestInt o) ∧ (∃ n, wr = W.drewN n) ∧ Hid (BestR xs key i o)) (fun _ iv _ => xs.length - (intOf iv).toNat)
  case atStart => exact ⟨0, none, Nat.zero_le _, rfl, rfl, ⟨0, rfl⟩, Lib.hid fun j h hj => by omega⟩
  case round =>
    obtain ⟨i, o, hi, rfl, rfl, ⟨q, rfl⟩, HR⟩ := hrel
    have hbq : Below w.heap.size w (W.drewN q) := below_dN HB.out _
    by_cases hlt : i < xs.length
    · obtain ⟨A, rfl, a0, a1, -⟩ := HP.out.at HB.out hlt
      have i0 : (i : Int) < (xs.length : Int) := by omega
      have i1 : (0 : Int) ≤ (i : Int) := by omega
      have hc := HA.out _ (List.getElem_mem hlt)
      have hcz := hc.1
      have HQ := Lib.hid (fun n => quietLess key xs[i].1 HK.out hcz (W.drewN q) n)
      have HQb := Lib.hid (fun n => quietLess2 key xs[i].1 HK.out hcz W q n)
      have HS1 : Hid (Mm.lt key xs[i].1 = true → BestR xs key (i + 1) o) := Lib.hid fun h => best_skip HR.out hlt h
      cases o with
      | none =>
        have HS2 : Hid (Mm.lt key xs[i].1 = false → BestR xs key (i + 1) (some i)) := Lib.hid fun h => best_first HR.out hlt h
        clear hc hcz
        generalize xs[i] = c at *
        obtain ⟨bl, hbl⟩ : ∃ bl, Mm.lt key c.1 = bl := ⟨_, rfl⟩
        rw [hbl] at HQ HQb HS1 HS2
        clear hbl
        unfold bestInt
        cases bl with
        | true =>
          go_wp2_with fail
          go_quiet ((go_at_call 40; first | (with_reducible exact HQ.out _) | (with_reducible exact HQb.out _)))
          go_wp2_with fail
          go_roundw
          case rel => exact ⟨i + 1, none, by omega, by go_num, rfl, ⟨_, rfl⟩, Lib.hid (HS1.out (by simp))⟩
          case measure => simp [intOf]; omega
        | false =>
          go_wp2_with fail
          go_quiet ((go_at_call 40; first | (with_reducible exact HQ.out _) | (with_reducible exact HQb.out _)))
          go_wp2_with fail
          go_roundw
          case rel => exact ⟨i + 1, some i, by omega, by go_num, rfl, ⟨_, rfl⟩, Lib.hid (HS2.out (by simp))⟩
          case measure => simp [intOf]; omega
      | some b =>
        obtain ⟨hbi, hbl, -, -⟩ := HR.out
        obtain ⟨b0', b1'⟩ := HP.out.cells HB.out hbl
        have hbz := (HA.out _ (List.getElem_mem hbl)).1
        have HQ2 := Lib.hid (fun n => quietLess xs[b].1 xs[i].1 hbz hcz (W.drewN q) n)
        have HQ2b := Lib.hid (fun n => quietLess2 xs[b].1 xs[i].1 hbz hcz W q n)
        have HS2 : Hid (Mm.lt key xs[i].1 = false → (Mm.lt xs[b].1 xs[i].1 = true → BestR xs key (i + 1) (some i)) ∧ (Mm.lt xs[b].1 xs[i].1 = false → BestR xs key (i + 1) (some b))) := Lib.hid fun h => best_more HR.out hlt h hbl
        have j0 : (b : Int) < (xs.length : Int) := by omega
        have j1 : (0 : Int) ≤ (b : Int) := by omega
        have j2 : ¬ (b : Int) < 0 := by omega
        clear hc hcz hbz
        generalize xs[i] = c at *
        generalize xs[b] = d at *
        obtain ⟨bl, hbl2⟩ : ∃ bl, Mm.lt key c.1 = bl := ⟨_, rfl⟩
        obtain ⟨bm, hbm⟩ : ∃ bm, Mm.lt d.1 c.1 = bm := ⟨_, rfl⟩
        rw [hbl2] at HQ HQb HS1 HS2
        rw [hbm] at HQ2 HQ2b HS2
        clear hbl2 hbm
        simp only [bestInt]
        cases bl with
        | true =>
          go_wp2_with fail
          go_quiet ((go_at_call 40; first | (with_reducible exact HQ.out _) | (with_reducible exact HQ2.out _) | (with_reducible exact HQb.out _) | (with_reducible exact HQ2b.out _)))
          go_wp2_with fail
          go_roundw
          case rel => exact ⟨i + 1, some b, by omega, by go_num, rfl, ⟨_, rfl⟩, Lib.hid (HS1.out (by simp))⟩
          case measure => simp [intOf]; omega
        | false =>
          cases bm with
          | true =>
            go_wp2_with fail
            go_quiet ((go_at_call 40; first | (with_reducible exact HQ.out _) | (with_reducible exact HQ2.out _) | (with_reducible exact HQb.out _) | (with_reducible exact HQ2b.out _)))
            go_wp2_with fail
            go_roundw
            case rel => exact ⟨i + 1, some i, by omega, by go_num, rfl, ⟨_, rfl⟩, Lib.hid ((HS2.out (by simp)).1 (by simp))⟩
            case measure => simp [intOf]; omega
          | false =>
            go_wp2_with fail
            go_quiet ((go_at_call 40; first | (with_reducible exact HQ.out _) | (with_reducible exact HQ2.out _) | (with_reducible exact HQb.out _) | (with_reducible exact HQ2b.out _)))
            go_wp2_with fail
            go_roundw
            case rel => exact ⟨i + 1, some b, by omega, by go_num, rfl, ⟨_, rfl⟩, Lib.hid ((HS2.out (by simp)).2 (by simp))⟩
            case measure => simp [intOf]; omega
    · obtain rfl : i = xs.length := by omega
      have i0 : ¬ (xs.length : Int) < (xs.length : Int) := by omega
      obtain ⟨c0, c1, cf⟩ := cells2 HX.out
      have cf0 := cf 0
      have cf1 := cf 1
      have hsame : ∀ n k, (W.drewN n).cell? k = W.cell? k := fun _ _ => rfl
      have hb0 : w.heap.size ≤ b0 := Nat.le_of_eq HB0.out.symm
      cases o with
      | none =>
        simp only [bestInt]
        go_wp2_with fail
        refine bodyPost_ret (v := .tuple #[.agg #[.string ⟨#[]⟩, .string ⟨#[]⟩], .bool false]) (by simp [results, Try.results15, go_sem, c0, c1]) rfl ⟨none, rfl, HR.out, below_set (below_set hbq (by omega) 0 _) (by omega) 1 _⟩
      | some b =>
        obtain ⟨hbi, hbl, -, -⟩ := HR.out
        obtain ⟨A, rfl⟩ := HP.out.some hbl
        obtain ⟨d0, d1⟩ := HP.out.cells HB.out hbl
        have HF : Hid (floorP xs (some b) = xs[b]) := Lib.hid (by show xs.getD b _ = _; rw [List.getD_eq_getElem?_getD, List.getElem?_eq_getElem hbl]; rfl)
        have j0 : (b : Int) < (xs.length : Int) := by omega
        have j1 : (0 : Int) ≤ (b : Int) := by omega
        have j2 : ¬ (b : Int) < 0 := by omega
        simp only [bestInt]
        go_wp2_with fail
        refine bodyPost_ret (v := .tuple #[.agg #[.string xs[b].1, .string xs[b].2], .bool true]) (by simp [results, Try.results15, go_sem, c0, c1]) rfl ⟨some b, by rw [HF.out]; rfl, HR.out, below_set (below_set hbq (by omega) 0 _) (by omega) 1 _⟩
end Go.Proofs.Ythioogncbhkaoaa
