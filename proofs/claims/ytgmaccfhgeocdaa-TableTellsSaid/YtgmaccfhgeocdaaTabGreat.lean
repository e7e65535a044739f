/-
  Walks over the laws of package table: Great. Conditions: those in the theorems.
-/
import Derived.Test.YtgmaccfhgeocdaaTabAwake
namespace Go.Proofs.Ytgmaccfhgeocdaa
open Go.RowKit Tb

/-- Great says no of few entries alone. -/
def GreatS (l : List En) (most : Nat) (w : World) (e : Ending) (w' : World) : Prop := ∃ b : Bool, e = .returned (.bool b) ∧ (b = false → l.length ≤ most) ∧ Below w.heap.size w w'
set_option maxRecDepth 100000 in
set_option maxHeartbeats 4000000 in
theorem great_any {w : World} {p : Option Addr} {cap : Nat} {l : List En} (hl : EntsAt w p l) (most : Nat) (hmo : most ≤ 5000) {mi : Int} (em : mi = (most : Nat)) :
    Calls Try.prog 15 #[.slice p l.length cap, .int .i64 mi] w (GreatS l most w) := by
  subst em
  have HL := Lib.hid hl
  clear hl
  go_enter Try.func15, Try.ntmps15
  go_wp2_with fail
  go_loopw [5, 6] (fun nv kv wr => ∃ k q : Nat, k ≤ l.length ∧ k ≤ most + 1 ∧ kv = .int .i64 (k : Nat) ∧ nv = .int .i64 (q : Nat) ∧ Hid (q ≤ 2097154 * k ∧ Below w.heap.size w wr)) (fun _ kv _ => l.length - (intOf kv).toNat)
  case atStart => exact ⟨0, 0, Nat.zero_le _, Nat.zero_le _, rfl, rfl, Lib.hid ⟨Nat.zero_le _, Below.refl _ _⟩⟩
  case round =>
    obtain ⟨k, q, hk, hkm, rfl, rfl, H⟩ := hrel
    have hq : q ≤ 20000000000 := by have := H.out.1; omega
    by_cases hlt : k < l.length
    · have i1 : (k : Int) < (l.length : Int) := by omega
      have i2 : (0 : Int) ≤ (k : Int) := by omega
      by_cases hle : k ≤ most
      · have i3 : (k : Int) ≤ (most : Int) := by omega
        obtain ⟨A, rfl, c0, c1, c2, hin⟩ := HL.out.at H.out.2 hlt
        generalize l[k] = x at *
        obtain ⟨m1, hm1⟩ : ∃ m1, m1 = min x.key.size 1048577 := ⟨_, rfl⟩
        obtain ⟨m2, hm2⟩ : ∃ m2, m2 = min x.value.size 1048577 := ⟨_, rfl⟩
        have e1 : min (x.key.size : Int) 1048577 = (m1 : Int) := by omega
        have e2 : min (x.value.size : Int) 1048577 = (m2 : Int) := by omega
        have b1 : m1 ≤ 1048577 := by omega
        have b2 : m2 ≤ 1048577 := by omega
        have w1 : IntKind.i64.wrap ((q : Int) + (m1 : Int)) = (q : Int) + (m1 : Int) := IntWalk.i64_in _ (by omega)
        have w2 : IntKind.i64.wrap ((q : Int) + (m1 : Int) + (m2 : Int)) = (q : Int) + (m1 : Int) + (m2 : Int) := IntWalk.i64_in _ (by omega)
        clear hm1 hm2
        go_wp2_with fail
        go_quiet (fail)
        go_wp2_with fail
        exact ⟨⟨k + 1, q + m1 + m2, by omega, by omega, by go_num, by go_num, Lib.hid ⟨by have := H.out.1; omega, below_drewN H.out.2 _⟩⟩, by simp only [intOf]; omega⟩
      · have i3 : ¬ (k : Int) ≤ (most : Int) := by omega
        have i4 : (most : Int) < (l.length : Int) := by omega
        go_wp2_with fail
        go_ret
        exact ⟨true, rfl, (fun h => by cases h), H.out.2⟩
    · obtain rfl : k = l.length := by omega
      have i1 : ¬ (l.length : Int) < (l.length : Int) := by omega
      by_cases hle : l.length ≤ most
      · have i4 : ¬ (most : Int) < (l.length : Int) := by omega
        go_wp2_with fail
        go_ret
        exact ⟨_, rfl, fun _ => hle, H.out.2⟩
      · have i4 : (most : Int) < (l.length : Int) := by omega
        go_wp2_with fail
        go_ret
        exact ⟨true, rfl, (fun h => by cases h), H.out.2⟩
end Go.Proofs.Ytgmaccfhgeocdaa
