/-
  Walks over the laws of package net: Great. No condition.
-/
import Derived.Test.YtcfhfamdcdkgjaaNetAside
namespace Go.Proofs.Ytcfhfamdcdkgjaa
open Go.RowKit Go.Maps

/-- What Great tells. -/
def NGreatSays (xs : List NAct) (w : World) (e : Ending) (w' : World) : Prop := ∃ b, e = .returned (.bool b) ∧ Below w.heap.size w w' ∧ (b = false → xs.length ≤ 200)

set_option maxRecDepth 100000 in
set_option maxHeartbeats 4000000 in
theorem ngreat_any (p : Option Addr) (cap : Nat) (xs : List NAct) (w : World) (hxs : NActs w p xs) :
    Calls Try.prog 19 #[.slice p xs.length cap] w fun e w' => NGreatSays xs w e w' := by
  have HX := Lib.hid hxs
  clear hxs
  go_enter Try.func19, Try.ntmps19
  go_wp2_with fail
  go_loopw [3, 4] (fun nv iv wr => ∃ k s : Nat, k ≤ xs.length ∧ k ≤ 201 ∧ iv = .int .i64 (k : Nat) ∧ nv = .int .i64 (s : Nat) ∧ Hid (Below w.heap.size w wr ∧ s ≤ k * 60001)) (fun _ iv _ => 201 - (intOf iv).toNat)
  case atStart => exact ⟨0, 0, Nat.zero_le _, Nat.zero_le _, rfl, rfl, Lib.hid ⟨Below.refl _ w, Nat.zero_le _⟩⟩
  case round =>
    obtain ⟨k, s, hk, hk81, rfl, rfl, HB⟩ := hrel
    have hs60 := HB.out.2
    by_cases hlt : k < xs.length
    · have i1 : (k : Int) < (xs.length : Int) := by omega
      have i2 : (0 : Int) ≤ (k : Int) := by omega
      by_cases hle : k ≤ 200
      · have i3 : (k : Int) ≤ 200 := by omega
        obtain ⟨A, rfl, -, -, -, c3, -, -, hok⟩ := HX.out.at HB.out.1 hlt
        have hd := hok.p.d
        clear hok
        have c3' : wr.cell? ⟨(A.add (k * 6)).block, (A.add (k * 6)).off + 1 + 2, none⟩ = some (.string xs[k].p.d) := c3
        generalize xs[k] = x at *
        go_wp2_with fail
        go_roundw
        case rel => exact ⟨k + 1, s + min x.p.d.size 60001, by omega, by omega, rfl, by congr 1; omega, Lib.hid ⟨HB.out.1, by omega⟩⟩
        case measure => simp [intOf]; omega
      · obtain rfl : k = 201 := by omega
        have i4 : decide ((xs.length : Int) ≤ 200) = false := decide_eq_false (by omega)
        have i5 : decide ((200 : Int) < (xs.length : Int)) = true := decide_eq_true (by omega)
        have hb := HB.out.1
        go_wp2
        go_ret
        exact ⟨true, rfl, hb, fun h => Bool.noConfusion h⟩
    · obtain rfl : k = xs.length := by omega
      have i1 : ¬ (xs.length : Int) < (xs.length : Int) := by omega
      have hb := HB.out.1
      by_cases h80 : 200 < xs.length
      · have i5 : decide ((200 : Int) < (xs.length : Int)) = true := decide_eq_true (by omega)
        go_wp2
        go_ret
        exact ⟨true, rfl, hb, fun h => Bool.noConfusion h⟩
      · have i5 : decide ((200 : Int) < (xs.length : Int)) = false := decide_eq_false (by omega)
        by_cases hs : 60000 < s
        · have i6 : decide ((60000 : Int) < (s : Int)) = true := decide_eq_true (by omega)
          go_wp2
          go_ret
          exact ⟨true, rfl, hb, fun h => Bool.noConfusion h⟩
        · have i6 : decide ((60000 : Int) < (s : Int)) = false := decide_eq_false (by omega)
          go_wp2
          go_ret
          exact ⟨false, rfl, hb, fun _ => by omega⟩
end Go.Proofs.Ytcfhfamdcdkgjaa
