/-
  Walks over the laws of package disk: Great. No condition.
-/
import Derived.Test.YteolagmlghalgaaActs
import Derived.Test.YteolagmlghalgaaDiskLaw
namespace Go.Proofs.Yteolagmlghalgaa
open Go.RowKit Go.Maps Go.Sort Go.Shelf

/-- What Great tells. -/
def GreatSays (xs : List ActV) (w : World) (e : Ending) (w' : World) : Prop := ∃ b, e = .returned (.bool b) ∧ Below w.heap.size w w' ∧ (b = false → xs.length ≤ 80 ∧ ∀ x ∈ xs, x.data.size ≤ 20000 ∧ x.ks.length ≤ 20000)

set_option maxRecDepth 100000 in
set_option maxHeartbeats 4000000 in
theorem great_any (p : Option Addr) (cap : Nat) (xs : List ActV) (w : World) (hxs : Acts w p xs) :
    Calls Try.prog 27 #[.slice p xs.length cap] w fun e w' => GreatSays xs w e w' := by
  have HX := Lib.hid hxs
  clear hxs
  go_enter Try.func27, Try.ntmps27
  go_wp2_with fail
  go_loopw [3, 4] (fun nv iv wr => ∃ k s : Nat, k ≤ xs.length ∧ k ≤ 81 ∧ iv = .int .i64 (k : Nat) ∧ nv = .int .i64 (s : Nat) ∧ Hid (Below w.heap.size w wr ∧ s ≤ k * 60000 ∧ (s ≤ 20000 → ∀ x ∈ xs.take k, x.data.size ≤ 20000 ∧ x.ks.length ≤ 20000))) (fun _ iv _ => 81 - (intOf iv).toNat)
  case atStart => exact ⟨0, 0, Nat.zero_le _, Nat.zero_le _, rfl, rfl, Lib.hid ⟨Below.refl _ w, Nat.zero_le _, fun _ x hx => nomatch hx⟩⟩
  case round =>
    obtain ⟨k, s, hk, hk81, rfl, rfl, HB⟩ := hrel
    have hs60 := HB.out.2.1
    by_cases hlt : k < xs.length
    · have i1 : (k : Int) < (xs.length : Int) := by omega
      have i2 : (0 : Int) ≤ (k : Int) := by omega
      by_cases hle : k ≤ 80
      · have i3 : (k : Int) ≤ 80 := by omega
        obtain ⟨A, rfl, hA, hcells, hok⟩ := HX.out k hlt
        have hA' : A.block < wr.heap.size := Nat.lt_of_lt_of_le hA HB.out.1.size
        have cell : ∀ j, j < 6 → wr.cell? ((A.add (k * 6)).add j) = xs[k].cells[j]? := fun j hj => by
          rw [add_add]; exact (HB.out.1.cell (by rw [add_blk]; exact hA)).trans (hcells j hj)
        have c3 : wr.cell? ⟨(A.add (k * 6)).block, (A.add (k * 6)).off + 3, none⟩ = some (.string xs[k].data) := cell 3 (by omega)
        have c5 : wr.cell? ⟨(A.add (k * 6)).block, (A.add (k * 6)).off + 5, none⟩ = some (.slice xs[k].kp xs[k].ks.length xs[k].kcap) := cell 5 (by omega)
        have hd := hok.data
        have hkl := hok.keep
        have HT := Lib.hid (List.take_succ_eq_append_getElem hlt)
        clear hcells hok cell
        generalize xs[k] = x at *
        go_wp2_with fail
        go_quiet (fail)
        go_wp2_with fail
        go_roundw
        case rel =>
          refine ⟨k + 1, s + min x.data.size 30000 + min x.ks.length 30000, by omega, by omega, rfl, by congr 1; omega, Lib.hid ⟨below_drewN HB.out.1 _, by omega, fun hs y hy => ?_⟩⟩
          rw [HT.out] at hy
          rcases List.mem_append.1 hy with hy | hy
          · exact HB.out.2.2 (by omega) y hy
          · obtain rfl := List.mem_singleton.1 hy
            omega
        case measure => simp [intOf]; omega
      · obtain rfl : k = 81 := by omega
        have i4 : decide ((xs.length : Int) ≤ 80) = false := decide_eq_false (by omega)
        have i5 : decide ((80 : Int) < (xs.length : Int)) = true := decide_eq_true (by omega)
        have hb := HB.out.1
        go_wp2
        go_ret
        exact ⟨true, rfl, hb, fun h => Bool.noConfusion h⟩
    · obtain rfl : k = xs.length := by omega
      have i1 : ¬ (xs.length : Int) < (xs.length : Int) := by omega
      have hb := HB.out.1
      by_cases h80 : 80 < xs.length
      · have i5 : decide ((80 : Int) < (xs.length : Int)) = true := decide_eq_true (by omega)
        go_wp2
        go_ret
        exact ⟨true, rfl, hb, fun h => Bool.noConfusion h⟩
      · have i5 : decide ((80 : Int) < (xs.length : Int)) = false := decide_eq_false (by omega)
        by_cases hs : 20000 < s
        · have i6 : decide ((20000 : Int) < (s : Int)) = true := decide_eq_true (by omega)
          go_wp2
          go_ret
          exact ⟨true, rfl, hb, fun h => Bool.noConfusion h⟩
        · have i6 : decide ((20000 : Int) < (s : Int)) = false := decide_eq_false (by omega)
          have HF := HB.out.2.2 (by omega)
          rw [List.take_length] at HF
          go_wp2
          go_ret
          exact ⟨false, rfl, hb, fun _ => ⟨by omega, HF⟩⟩
end Go.Proofs.Yteolagmlghalgaa
