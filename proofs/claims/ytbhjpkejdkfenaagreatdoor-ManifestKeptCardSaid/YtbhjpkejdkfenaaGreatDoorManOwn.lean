/-
  Walks over package manifest: own. Conditions: those in the theorems.
-/
import Derived.Test.YtbhjpkejdkfenaaGreatDoorManWith
import Derived.Test.YtbhjpkejdkfenaaGreatDoorSumShelf
namespace Go.Proofs.YtbhjpkejdkfenaaGreatDoor
open Go.RowKit Go.Shelf Go.Sort
open Mf (File)

/-- A cell is written with what it holds: nothing turns. -/
theorem setCell_same {w : World} {b i : Nat} {v : Value} (h : w.cell? ⟨b, i, none⟩ = some v) : w.setCell ⟨b, i, none⟩ v = w := by
  unfold World.cell? at h
  cases hq : w.heap[b]? with
  | none => simp [hq] at h
  | some o =>
    have hlt := (Array.getElem?_eq_some_iff.1 hq).1
    rw [setCell_eq]
    unfold mapBlock
    have e : w.heap.modify b (onCells (·.setIfInBounds i v)) = w.heap := by
      apply Array.ext_getElem?
      intro k
      rw [Array.getElem?_modify]
      by_cases hk : b = k
      · subst hk
        rw [if_pos rfl, hq, Option.map_some]
        simp only [hq] at h
        cases o with
        | cells cs T fr =>
          simp only [onCells]
          have hi : cs[i]? = some v := by simpa using h
          have hi2 := (Array.getElem?_eq_some_iff.1 hi)
          congr 2
          apply Array.ext_getElem?
          intro j
          rw [Array.getElem?_setIfInBounds]
          by_cases hj : i = j
          · subst hj; rw [if_pos rfl, if_pos hi2.1, hi]
          · rw [if_neg hj]
        | _ => rfl
      · rw [if_neg hk]
    rw [e]
theorem mframe {w W : World} (h : Below w.heap.size w W) {b i : Nat} (hb : b < w.heap.size) {f : Bool} (hf : w.frozen? ⟨b, i, none⟩ = f) : W.frozen? ⟨b, i, none⟩ = f := by
  rw [← hf]; unfold World.frozen?; rw [h.block b hb]
set_option maxRecDepth 100000 in
set_option maxHeartbeats 8000000 in
theorem own_any {w : World} {base : Nat} {v : Value} {x : List File} (h : OwnFis w base v x) (hin : ∀ f ∈ x, FiIn f) (hsm : ∀ f ∈ x, f.first.size ≤ 128 ∧ f.last.size ≤ 128) :
    Calls Tryz.prog 39 #[v] w fun e w' => e = .returned (.tuple #[]) ∧ Below w.heap.size w w' := by
  obtain ⟨p, cap, e, hxc, hcm, hfx⟩ := h.files hin
  have HFZ : Hid (∀ A, p = some A → ∀ i, w.frozen? ⟨A.block, i, none⟩ = false) := Lib.hid fun A hA i => by
    rcases h.2 with ⟨h1, -⟩ | ⟨g, cap', cur, h1, -, h2, -⟩
    · rw [h1] at e
      obtain ⟨e1, -, -⟩ := Value.slice.inj e
      rw [← e1] at hA; cases hA
    · rw [h1] at e
      obtain ⟨e1, -, -⟩ := Value.slice.inj e
      rw [← e1] at hA; cases hA; exact frozen_of_row w g _ _ _ h2
  subst e
  have HFX := Lib.hid hfx
  have hxm : x.length ≤ 9223372036854775807 := by unfold maxLen at hcm; omega
  have HSM := Lib.hid hsm
  clear h hfx hxc hcm hsm
  go_enter Tryz.func39, Tryz.ntmps39
  go_wp2_with fail
  go_loopw [6] (fun kv wr => ∃ k : Nat, k ≤ x.length ∧ kv = .int .i64 (k : Nat) ∧ Hid (Below w.heap.size w wr)) (fun kv _ => x.length - (intOf kv).toNat)
  case atStart => exact ⟨0, Nat.zero_le _, rfl, Lib.hid (Below.refl _ _)⟩
  case round =>
    obtain ⟨k, hk, rfl, H⟩ := hrel
    by_cases hlt : k < x.length
    · have i1 : (k : Int) < (x.length : Int) := by omega
      have i2 : (0 : Int) ≤ (k : Int) := by omega
      obtain ⟨A, rfl, c0, c1, c2, c3, c4, -⟩ := HFX.out.at H.out hlt
      have hblk : (A.add (k * 5)).block < w.heap.size := by
        obtain ⟨A', e1, h2, -, -⟩ := HFX.out k hlt
        cases e1; rw [madd_block]; exact h2
      have f3 := mframe H.out hblk (i := (A.add (k * 5)).off + 3) (f := false) (by rw [madd_block]; exact HFZ.out A rfl _)
      have f4 := mframe H.out hblk (i := (A.add (k * 5)).off + 4) (f := false) (by rw [madd_block]; exact HFZ.out A rfl _)
      have HSZ : Hid (x[k].first.size ≤ 281474976710656 ∧ x[k].last.size ≤ 281474976710656) := Lib.hid (by have := HSM.out _ (List.getElem_mem hlt); omega)
      obtain ⟨wb, hwb⟩ : ∃ wb, wb = wr.alloc (.cells #[.int .i64 x[k].n, .int .i64 x[k].level, .int .i64 x[k].count, .string x[k].first, .string x[k].last] 29) := ⟨_, rfl⟩
      have hrow : wb.heap[wr.heap.size]? = some (.cells #[.int .i64 x[k].n, .int .i64 x[k].level, .int .i64 x[k].count, .string x[k].first, .string x[k].last] 29 (0, 0)) := by rw [hwb]; exact heap_alloc_new _ _
      obtain ⟨-, -, -, d3, d4⟩ := mcells5 hrow
      have hbb : Below wr.heap.size wr wb := by rw [hwb]; exact mbelow_alloc _ _
      have hblk2 : (A.add (k * 5)).block < wr.heap.size := Nat.lt_of_lt_of_le hblk H.out.size
      have e3 := (hbb.cell (show (⟨(A.add (k * 5)).block, (A.add (k * 5)).off + 3, none⟩ : Addr).block < wr.heap.size from hblk2)).trans c3
      have e4 := (hbb.cell (show (⟨(A.add (k * 5)).block, (A.add (k * 5)).off + 4, none⟩ : Addr).block < wr.heap.size from hblk2)).trans c4
      have g3 := mframe hbb hblk2 f3
      have g4 := mframe hbb hblk2 f4
      have HBB := Lib.hid (H.out.trans (hbb.mono H.out.size))
      clear f3 f4 hrow hbb
      generalize x[k] = y at *
      obtain ⟨ny, ly, cy, fy, ty⟩ := y
      simp only at *
      have hK : ∀ W W2, (W.cell? ⟨wr.heap.size, 3, none⟩ = some (.string fy) ∧ W.cell? ⟨wr.heap.size, 4, none⟩ = some (.string ty) ∧ W.cell? ⟨(A.add (k * 5)).block, (A.add (k * 5)).off + 3, none⟩ = some (.string fy) ∧ W.cell? ⟨(A.add (k * 5)).block, (A.add (k * 5)).off + 4, none⟩ = some (.string ty) ∧
          W.frozen? ⟨(A.add (k * 5)).block, (A.add (k * 5)).off + 3, none⟩ = false ∧ W.frozen? ⟨(A.add (k * 5)).block, (A.add (k * 5)).off + 4, none⟩ = false ∧ Below w.heap.size w W) → Below W.heap.size W W2 →
          (W2.cell? ⟨wr.heap.size, 3, none⟩ = some (.string fy) ∧ W2.cell? ⟨wr.heap.size, 4, none⟩ = some (.string ty) ∧ W2.cell? ⟨(A.add (k * 5)).block, (A.add (k * 5)).off + 3, none⟩ = some (.string fy) ∧ W2.cell? ⟨(A.add (k * 5)).block, (A.add (k * 5)).off + 4, none⟩ = some (.string ty) ∧
          W2.frozen? ⟨(A.add (k * 5)).block, (A.add (k * 5)).off + 3, none⟩ = false ∧ W2.frozen? ⟨(A.add (k * 5)).block, (A.add (k * 5)).off + 4, none⟩ = false ∧ Below w.heap.size w W2) := fun W W2 ⟨k1, k2, k3, k4, k5, k6, k7⟩ hb =>
        ⟨(hb.cell (mcell_block k1)).trans k1, (hb.cell (mcell_block k2)).trans k2, (hb.cell (mcell_block k3)).trans k3, (hb.cell (mcell_block k4)).trans k4, mframe hb (mcell_block k3) k5, mframe hb (mcell_block k4) k6, k7.trans (hb.mono k7.size)⟩
      have HK := Lib.hid hK
      have HS3 : Hid (∀ W, (W.cell? ⟨wr.heap.size, 3, none⟩ = some (.string fy) ∧ W.cell? ⟨wr.heap.size, 4, none⟩ = some (.string ty) ∧ W.cell? ⟨(A.add (k * 5)).block, (A.add (k * 5)).off + 3, none⟩ = some (.string fy) ∧ W.cell? ⟨(A.add (k * 5)).block, (A.add (k * 5)).off + 4, none⟩ = some (.string ty) ∧
          W.frozen? ⟨(A.add (k * 5)).block, (A.add (k * 5)).off + 3, none⟩ = false ∧ W.frozen? ⟨(A.add (k * 5)).block, (A.add (k * 5)).off + 4, none⟩ = false ∧ Below w.heap.size w W) → ((W.setCell ⟨(A.add (k * 5)).block, (A.add (k * 5)).off + 3, none⟩ (.string fy)).cell? ⟨wr.heap.size, 3, none⟩ = some (.string fy) ∧ (W.setCell ⟨(A.add (k * 5)).block, (A.add (k * 5)).off + 3, none⟩ (.string fy)).cell? ⟨wr.heap.size, 4, none⟩ = some (.string ty) ∧ (W.setCell ⟨(A.add (k * 5)).block, (A.add (k * 5)).off + 3, none⟩ (.string fy)).cell? ⟨(A.add (k * 5)).block, (A.add (k * 5)).off + 3, none⟩ = some (.string fy) ∧ (W.setCell ⟨(A.add (k * 5)).block, (A.add (k * 5)).off + 3, none⟩ (.string fy)).cell? ⟨(A.add (k * 5)).block, (A.add (k * 5)).off + 4, none⟩ = some (.string ty) ∧
          (W.setCell ⟨(A.add (k * 5)).block, (A.add (k * 5)).off + 3, none⟩ (.string fy)).frozen? ⟨(A.add (k * 5)).block, (A.add (k * 5)).off + 3, none⟩ = false ∧ (W.setCell ⟨(A.add (k * 5)).block, (A.add (k * 5)).off + 3, none⟩ (.string fy)).frozen? ⟨(A.add (k * 5)).block, (A.add (k * 5)).off + 4, none⟩ = false ∧ Below w.heap.size w (W.setCell ⟨(A.add (k * 5)).block, (A.add (k * 5)).off + 3, none⟩ (.string fy)))) := Lib.hid fun W h => by rw [setCell_same h.2.2.1]; exact h
      have HS4 : Hid (∀ W, (W.cell? ⟨wr.heap.size, 3, none⟩ = some (.string fy) ∧ W.cell? ⟨wr.heap.size, 4, none⟩ = some (.string ty) ∧ W.cell? ⟨(A.add (k * 5)).block, (A.add (k * 5)).off + 3, none⟩ = some (.string fy) ∧ W.cell? ⟨(A.add (k * 5)).block, (A.add (k * 5)).off + 4, none⟩ = some (.string ty) ∧
          W.frozen? ⟨(A.add (k * 5)).block, (A.add (k * 5)).off + 3, none⟩ = false ∧ W.frozen? ⟨(A.add (k * 5)).block, (A.add (k * 5)).off + 4, none⟩ = false ∧ Below w.heap.size w W) → ((W.setCell ⟨(A.add (k * 5)).block, (A.add (k * 5)).off + 4, none⟩ (.string ty)).cell? ⟨wr.heap.size, 3, none⟩ = some (.string fy) ∧ (W.setCell ⟨(A.add (k * 5)).block, (A.add (k * 5)).off + 4, none⟩ (.string ty)).cell? ⟨wr.heap.size, 4, none⟩ = some (.string ty) ∧ (W.setCell ⟨(A.add (k * 5)).block, (A.add (k * 5)).off + 4, none⟩ (.string ty)).cell? ⟨(A.add (k * 5)).block, (A.add (k * 5)).off + 3, none⟩ = some (.string fy) ∧ (W.setCell ⟨(A.add (k * 5)).block, (A.add (k * 5)).off + 4, none⟩ (.string ty)).cell? ⟨(A.add (k * 5)).block, (A.add (k * 5)).off + 4, none⟩ = some (.string ty) ∧
          (W.setCell ⟨(A.add (k * 5)).block, (A.add (k * 5)).off + 4, none⟩ (.string ty)).frozen? ⟨(A.add (k * 5)).block, (A.add (k * 5)).off + 3, none⟩ = false ∧ (W.setCell ⟨(A.add (k * 5)).block, (A.add (k * 5)).off + 4, none⟩ (.string ty)).frozen? ⟨(A.add (k * 5)).block, (A.add (k * 5)).off + 4, none⟩ = false ∧ Below w.heap.size w (W.setCell ⟨(A.add (k * 5)).block, (A.add (k * 5)).off + 4, none⟩ (.string ty)))) := Lib.hid fun W h => by rw [setCell_same h.2.2.2.1]; exact h
      have hS : Hid (wb.drew.cell? ⟨wr.heap.size, 3, none⟩ = some (.string fy) ∧ wb.drew.cell? ⟨wr.heap.size, 4, none⟩ = some (.string ty) ∧ wb.drew.cell? ⟨(A.add (k * 5)).block, (A.add (k * 5)).off + 3, none⟩ = some (.string fy) ∧ wb.drew.cell? ⟨(A.add (k * 5)).block, (A.add (k * 5)).off + 4, none⟩ = some (.string ty) ∧
          wb.drew.frozen? ⟨(A.add (k * 5)).block, (A.add (k * 5)).off + 3, none⟩ = false ∧ wb.drew.frozen? ⟨(A.add (k * 5)).block, (A.add (k * 5)).off + 4, none⟩ = false ∧ Below w.heap.size w wb.drew) := Lib.hid ⟨d3, d4, e3, e4, g3, g4, HBB.out.drew⟩
      clear hK d3 d4 e3 e4 g3 g4
      subst hwb
      go_wp2_with fail
      go_region_held3 (fun W => W.cell? ⟨wr.heap.size, 3, none⟩ = some (.string fy) ∧ W.cell? ⟨wr.heap.size, 4, none⟩ = some (.string ty) ∧ W.cell? ⟨(A.add (k * 5)).block, (A.add (k * 5)).off + 3, none⟩ = some (.string fy) ∧ W.cell? ⟨(A.add (k * 5)).block, (A.add (k * 5)).off + 4, none⟩ = some (.string ty) ∧
          W.frozen? ⟨(A.add (k * 5)).block, (A.add (k * 5)).off + 3, none⟩ = false ∧ W.frozen? ⟨(A.add (k * 5)).block, (A.add (k * 5)).off + 4, none⟩ = false ∧ Below w.heap.size w W)
        (first
          | exact hS.out | (refine HK.out _ _ ?_ hb3; assumption) | (refine HS3.out _ ?_; assumption) | (refine HS4.out _ ?_; assumption))
        (first
          | (go_at_call 75; (with_reducible refine (clone_any fy _ HSZ.out.1).mono ?_); rintro e w3 ⟨rfl, hb3⟩)
          | (go_at_call 75; (with_reducible refine (clone_any ty _ HSZ.out.2).mono ?_); rintro e w3 ⟨rfl, hb3⟩)
          | fail)
      all_goals
        go_wp2_with fail
        go_roundw
        case rel =>
          refine ⟨k + 1, by omega, by go_num, Lib.hid ?_⟩
          rename_i hh
          exact hh.2.2.2.2.2.2
        case measure => simp [intOf]; omega
    · obtain rfl : k = x.length := by omega
      have i1 : ¬ (x.length : Int) < (x.length : Int) := by omega
      go_wp2_with fail
      go_end0
      exact ⟨rfl, H.out⟩
end Go.Proofs.YtbhjpkejdkfenaaGreatDoor
