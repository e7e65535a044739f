/-
  Walks over the laws' own functions for tokens: Same of equal rows, wakes. Conditions: those in the theorems.
-/
import Derived.Test.YthbealndbfboiaaTokAll
import Derived.Deep.QuietTactic
import Derived.BigQuiet
set_option linter.unusedSimpArgs false
set_option linter.unusedVariables false
namespace Go.Proofs.Ythbealndbfboiaa
open Go.RowKit

theorem below_dN {B : Nat} {w W : World} (h : Below B w W) (n : Nat) : Below B w (W.drewN n) := ⟨h.os, h.tape, h.output, h.size, h.block⟩
set_option maxRecDepth 100000 in
set_option maxHeartbeats 4000000 in
theorem Same_any {w : World} {p q : Option Addr} {cap cap2 : Nat} {ts : List Tk.Token} (hp : ToksAt w p ts) (hq : ToksAt w q ts) (hl : ts.length ≤ 1000000) :
    Calls Try.prog 9 #[.slice p ts.length cap, .slice q ts.length cap2] w fun e w' => e = .returned (.bool true) ∧ Below w.heap.size w w' := by
  have HP := Lib.hid hp
  have HQ := Lib.hid hq
  clear hp hq
  go_enter Try.func9, Try.ntmps9
  go_wp2_with fail
  go_loopw [5] (fun kv wr => ∃ k : Nat, k ≤ ts.length ∧ kv = .int .i64 (k : Nat) ∧ Hid (Below w.heap.size w wr)) (fun kv _ => ts.length - (intOf kv).toNat)
  case atStart => exact ⟨0, Nat.zero_le _, rfl, Lib.hid (Below.refl _ _)⟩
  case round =>
    obtain ⟨k, hk, rfl, H⟩ := hrel
    by_cases hlt : k < ts.length
    · have i1 : (k : Int) < (ts.length : Int) := by omega
      have i2 : (0 : Int) ≤ (k : Int) := by omega
      obtain ⟨A, rfl, c0, c1, c2, c3, -⟩ := HP.out.at H.out hlt
      obtain ⟨B, rfl, d0, d1, d2, d3, -⟩ := HQ.out.at H.out hlt
      generalize ts[k] = t at *
      obtain ⟨tk, tx, tn, tp⟩ := t
      simp only at c0 c1 c2 c3 d0 d1 d2 d3
      go_wp2_with fail
      go_quiet (fail)
      go_wp2_with fail
      go_roundw
      case rel => exact ⟨k + 1, by omega, by go_num, Lib.hid (below_dN H.out _)⟩
      case measure => simp [intOf]; omega
    · obtain rfl : k = ts.length := by omega
      have i1 : ¬ (ts.length : Int) < (ts.length : Int) := by omega
      go_wp2_with fail
      go_ret
      exact ⟨rfl, H.out⟩

theorem OwnTok.opens {W : World} {base : Nat} {v : Value} {xs : List Tk.Token} (h : OwnTok W base v xs) (hp : ∀ x ∈ xs, TokIn x) (hn : xs.length ≠ 0) : ∃ g cap, v = .slice (some ⟨g, 0, none⟩) xs.length cap ∧ xs.length ≤ cap ∧ cap ≤ maxLen ∧ base ≤ g ∧ ToksAt W (some ⟨g, 0, none⟩) xs := by
  obtain ⟨p, cap, e, h1, h2, h3⟩ := h.toks hp
  rcases h.2 with ⟨rfl, hz⟩ | ⟨g, cap', cur, rfl, hg, -⟩
  · exact absurd hz hn
  · cases e; exact ⟨g, cap, rfl, h1, h2, hg, h3⟩
def wakeT : List Tk.Token := [⟨1, ⟨#[97]⟩, 0, 0⟩, ⟨3, ⟨#[45, 62]⟩, 0, 1⟩, ⟨1, ⟨#[98]⟩, 0, 3⟩, ⟨3, ⟨#[46]⟩, 0, 4⟩, ⟨1, ⟨#[99]⟩, 0, 5⟩, ⟨2, ⟨#[49, 48]⟩, 10, 7⟩]
theorem wake_all : Tk.all 0 [97, 45, 62, 98, 46, 99, 32, 49, 48] = .ok wakeT := by rfl
theorem wake_in : ∀ t ∈ wakeT, TokIn t := by
  intro t ht
  unfold wakeT at ht
  simp only [List.mem_cons, List.not_mem_nil, or_false] at ht
  rcases ht with rfl | rfl | rfl | rfl | rfl | rfl <;> exact ⟨by decide, by decide, ⟨by decide, by decide⟩, ⟨by decide, by decide⟩⟩
set_option maxRecDepth 100000 in
set_option maxHeartbeats 4000000 in
theorem wakes_any (w : World) : Calls Try.prog 10 #[] w fun e w' => e = .returned (.bool true) ∧ Below w.heap.size w w' := by
  have q := All_any ⟨#[97, 45, 62, 98, 46, 99, 32, 49, 48]⟩ w (by decide)
  rw [show (⟨#[97, 45, 62, 98, 46, 99, 32, 49, 48]⟩ : ByteArray).data.toList = [97, 45, 62, 98, 46, 99, 32, 49, 48] from rfl, wake_all] at q
  unfold Alls Tk.Out.at_ Tk.Out.err Tk.Out.toks at q
  go_enter Try.func10, Try.ntmps10
  go_wp2_with fail
  refine Calls.mono q ?_
  rintro e w' ⟨v, rfl, ho, hb⟩
  obtain ⟨g, cap, rfl, -, -, -, ht⟩ := ho.opens wake_in (by decide)
  obtain ⟨A, e1, c0, c1, c2, c3, -⟩ := ht.at (Below.refl _ _) (i := 1) (by decide)
  obtain ⟨B, e2, d0, d1, d2, d3, -⟩ := ht.at (Below.refl _ _) (i := 5) (by decide)
  cases e1; cases e2
  have a1 : (⟨g, 0, none⟩ : Addr).add (1 * 4) = ⟨g, 4, none⟩ := rfl
  have a5 : (⟨g, 0, none⟩ : Addr).add (5 * 4) = ⟨g, 20, none⟩ := rfl
  rw [a1] at c0 c1 c2 c3
  rw [a5] at d0 d1 d2 d3
  have w1 : wakeT.length = 6 := rfl
  have x1 : wakeT[1] = ⟨3, ⟨#[45, 62]⟩, 0, 1⟩ := rfl
  have x5 : wakeT[5] = ⟨2, ⟨#[49, 48]⟩, 10, 7⟩ := rfl
  simp only [x1, x5] at c0 c1 c2 c3 d0 d1 d2 d3
  rw [w1]
  have HB := Lib.hid hb
  clear ho ht q w1 x1 x5 hb a1 a5
  go_wp2_with fail
  go_ret
  exact ⟨rfl, HB.out⟩
end Go.Proofs.Ythbealndbfboiaa
