/-
  Walks over the laws' own functions for declarations: wakes, number. Conditions: those in the theorems (the keywords' variable holds what the row lists).
-/
import Derived.Test.YtlmjcnfiolbfpaaDoorIdlSame
set_option linter.unusedSimpArgs false
set_option linter.unusedVariables false
namespace Ip
def wakeL1 : List UInt8 := [109, 111, 100, 117, 108, 101, 32, 109, 59, 32, 114, 101, 99, 111, 114, 100, 32, 82, 32, 123, 32, 97, 58, 32, 108, 105, 115, 116, 32, 111, 112, 116, 32, 105, 110, 116, 59, 32, 125, 32, 115, 101, 114, 118, 105, 99, 101, 32, 83, 32, 123, 32]
def wakeL2 : List UInt8 := [116, 97, 107, 101, 32, 116, 40, 82, 41, 32, 45, 62, 32, 105, 110, 116, 32, 117, 110, 100, 111, 32, 117, 59, 32, 125, 32, 115, 97, 103, 97, 32, 103, 40, 82, 41, 32, 123, 32, 100, 111, 32, 83, 46, 116, 32, 97, 116, 32, 50, 59, 32, 125]
def wakeS : Sch := ⟨⟨#[109]⟩, [⟨⟨#[82]⟩, false, [⟨⟨#[97]⟩, [⟨5, ⟨#[]⟩⟩, ⟨6, ⟨#[]⟩⟩, ⟨3, ⟨#[]⟩⟩]⟩]⟩], [⟨⟨#[83]⟩, [⟨⟨#[116]⟩, ⟨#[82]⟩, 3, ⟨#[116, 97, 107, 101]⟩, ⟨#[117]⟩⟩]⟩], [⟨⟨#[103]⟩, ⟨#[82]⟩, [⟨⟨#[83]⟩, ⟨#[116]⟩, 2⟩]⟩]⟩
theorem wake_parse : parse (wakeL1 ++ wakeL2) = (wakeS, 0, 0) := by kernel_rfl
end Ip
namespace Go.Proofs.YtlmjcnfiolbfpaaDoor
open Go.RowKit
set_option maxRecDepth 100000 in
set_option maxHeartbeats 8000000 in
theorem wakes_any (w : World) (hk : KwIs w) : Calls Tryd.prog 11 #[] w fun e w' => e = .returned (.bool true) ∧ Below w.heap.size w w' := by
  have q := Parse_any ⟨(Ip.wakeL1.append Ip.wakeL2).toArray⟩ w (by decide) hk
  rw [show (⟨(Ip.wakeL1.append Ip.wakeL2).toArray⟩ : ByteArray).data.toList = Ip.wakeL1 ++ Ip.wakeL2 from rfl, Ip.wake_parse] at q
  unfold Ip.wakeL1 Ip.wakeL2 at q
  have HQ := Lib.hid q
  clear q hk
  go_enter Tryd.func11, Tryd.ntmps11
  go_wp2_with fail
  refine Calls.mono HQ.out ?_
  rintro e w1 ⟨v, rfl, hV, hb⟩
  obtain ⟨vr, vs, vg, rfl, r1, s1, g1⟩ := hV
  obtain ⟨p2, k2, rfl, -, -⟩ := s1.shape
  obtain ⟨A, c3, t3, e3, hA, sub3, a0, a1⟩ := row_at okRcd r1 (i := 0) (by decide)
  obtain ⟨B, c4, t4, e4, hB, sub4, b0, b1⟩ := row_at okSga g1 (i := 0) (by decide)
  subst e3 e4
  obtain ⟨C, c5, t5, e5, hC, sub5, f0, f1⟩ := row_at okFld (show RowIs kFld w1 w.heap.size t3 Ip.wakeS.records[0].fields from sub3) (i := 0) (by decide)
  obtain ⟨D, c6, t6, e6, hD, sub6, d0, d1⟩ := row_at okStp (show RowIs kStp w1 w.heap.size t4 Ip.wakeS.sagas[0].steps from sub4) (i := 0) (by decide)
  subst e5 e6
  obtain ⟨p7, k7, rfl, -, -⟩ := RowIs.shape (show RowIs kSo w1 w.heap.size t5 Ip.wakeS.records[0].fields[0].type from sub5)
  have x2 := a1 2 _ (by decide) rfl
  have y2 := b1 2 _ (by decide) rfl
  have z1 := f1 1 _ (by decide) rfl
  have u2 := d1 2 _ (by decide) rfl
  simp only [Nat.zero_mul] at x2 y2 z1 u2
  have aA : A.add 0 = A := rfl
  have aB : B.add 0 = B := rfl
  have aC : C.add 0 = C := rfl
  have aD : D.add 0 = D := rfl
  rw [aA] at x2
  rw [aB] at y2
  rw [aC] at z1
  rw [aD] at u2
  simp only [Ip.wakeS, List.getElem_cons_zero, List.length_cons, List.length_nil] at x2 y2 z1 u2 ⊢
  have HB := Lib.hid hb
  clear a0 a1 b0 b1 f0 f1 d0 d1 sub3 sub4 sub5 sub6 r1 s1 g1 hb aA aB aC aD
  go_wp2_with fail
  go_ret
  exact ⟨rfl, HB.out.alloc HB.out.size _⟩
set_option maxRecDepth 100000 in
set_option maxHeartbeats 4000000 in
theorem number_law {w : World} {p : Option Addr} {cap : Nat} {ts : List Tk.Token} (at_ : Int) (hp : ToksAt w p ts) (hl : ts.length ≤ 1000000) :
    Calls Tryd.prog 16 #[.slice p ts.length cap, .int .i64 at_] w fun e w' => e = .returned (.int .i64 (Tk.numAt ts at_ : Nat)) ∧ w = w' := by
  have HP := Lib.hid hp
  have HN : Hid (∀ k, (hk : k < ts.length) → (∀ j, j < k → (hj : j < ts.length) → ts[j].pos ≠ at_) → ts[k].pos = at_ → Tk.numAt ts at_ = k) := Lib.hid fun k hk h1 h2 => by
    unfold Tk.numAt
    rw [List.findIdx_eq hk]
    exact ⟨by rw [h2]; exact beq_self_eq_true _, fun j hj => by have := h1 j hj (by omega); simpa using this⟩
  have HE : Hid ((∀ j, (hj : j < ts.length) → ts[j].pos ≠ at_) → Tk.numAt ts at_ = ts.length) := Lib.hid fun h => by
    unfold Tk.numAt
    rw [List.findIdx_eq_length]
    intro t ht
    obtain ⟨j, hj, rfl⟩ := List.getElem_of_mem ht
    simpa using h j hj
  clear hp
  go_enter Tryd.func16, Tryd.ntmps16
  go_wp2_with fail
  go_loop [5] (fun kv => ∃ k : Nat, k ≤ ts.length ∧ kv = .int .i64 (k : Nat) ∧ Hid (∀ j, j < k → (hj : j < ts.length) → ts[j].pos ≠ at_)) (fun kv => ts.length - (intOf kv).toNat)
  case atStart => exact ⟨0, Nat.zero_le _, rfl, Lib.hid fun j hj => absurd hj (Nat.not_lt_zero _)⟩
  case round =>
    obtain ⟨k, hk, rfl, H⟩ := hrel
    by_cases hlt : k < ts.length
    · have i1 : (k : Int) < (ts.length : Int) := by omega
      have i2 : (0 : Int) ≤ (k : Int) := by omega
      obtain ⟨A, rfl, c0, c1, c2, c3, -⟩ := HP.out.at (Below.refl _ _) hlt
      by_cases he : ts[k].pos = at_
      · have HX := Lib.hid (HN.out k hlt H.out he)
        rw [he] at c3
        clear he c0 c1 c2
        go_wp2_with fail
        go_ret
        exact ⟨by rw [HX.out]; rfl, rfl⟩
      · have HX : Hid (∀ j, j < k + 1 → (hj : j < ts.length) → ts[j].pos ≠ at_) := Lib.hid fun j hj hj2 => by
          rcases Nat.lt_or_ge j k with h1 | h1
          · exact H.out j h1 hj2
          · have : j = k := by omega
            subst this; exact he
        generalize ts[k] = t at *
        have hb : (t.pos == at_) = false := by rw [beq_eq_false_iff_ne]; exact he
        clear he c0 c1 c2
        go_wp2_with fail
        go_round
        case rel => exact ⟨k + 1, by omega, by go_num, HX⟩
        case measure => simp [intOf]; omega
    · obtain rfl : k = ts.length := by omega
      have i1 : ¬ (ts.length : Int) < (ts.length : Int) := by omega
      have HX := Lib.hid (HE.out fun j hj => H.out j hj hj)
      go_wp2_with fail
      go_ret
      exact ⟨by rw [HX.out]; rfl, rfl⟩
end Go.Proofs.YtlmjcnfiolbfpaaDoor
