/-
  Walks over the document's answer for declarations: place, Type. Conditions: those in the theorems.
-/
import Derived.Test.YtnkdhmoocomjfaaGreatDoorBIdlRefB
import Derived.Test.YtnkdhmoocomjfaaGreatDoorBTokRefAll
import Derived.Test.YtnkdhmoocomjfaaGreatDoorIdlBase
import Derived.Deep.QuietTactic
import Derived.BigQuiet
set_option linter.unusedSimpArgs false
set_option linter.unusedVariables false
namespace Ip
open Tk (Token)
/-- Where a fault stands: at the token that is left, or behind the text. -/
def placeOf (t : ByteArray) : List Token → Int
  | x :: _ => x.pos
  | [] => (t.size : Nat)
theorem at_stuck {l : List Token} {r : R} {i : Int} (h : AtR l r i) (hs : r.stuck = true) : ∃ k : Nat, k ≤ l.length ∧ r = ⟨l.drop k, true⟩ ∧ i = -1 - (k : Int) := by
  obtain ⟨k, h1, h2, e⟩ := h
  rw [hs] at e
  obtain ⟨a, b⟩ := r
  cases hs
  exact ⟨k, h1, by rw [← h2], e⟩
theorem whole_stuck {α : Type} {f : M α} {z : α} {t : ByteArray} {ts : List Token} {k : Nat} {y : α} (h : Tk.all 0 t.data.toList = .ok ts) (hf : f ⟨ts, false⟩ = (y, ⟨ts.drop k, true⟩)) : whole f z t.data.toList = (z, placeOf t (ts.drop k), 120) := by
  rw [whole_ok f z h, hf]
  cases ts.drop k with
  | nil =>
    show (if true then (z, ((t.data.toList.length : Nat) : Int), 120) else (y, 0, 0)) = (z, ((t.size : Nat) : Int), 120)
    rw [if_pos rfl]; rfl
  | cons x l => rfl
theorem whole_left {α : Type} {f : M α} {z : α} {t : ByteArray} {ts : List Token} {k : Nat} {y : α} (h : Tk.all 0 t.data.toList = .ok ts) (hf : f ⟨ts, false⟩ = (y, ⟨ts.drop k, false⟩)) (hk : k < ts.length) : whole f z t.data.toList = (z, ts[k].pos, 120) := by
  rw [whole_ok f z h, hf, List.drop_eq_getElem_cons hk]
theorem whole_done {α : Type} {f : M α} {z : α} {t : ByteArray} {ts : List Token} {k : Nat} {y : α} (h : Tk.all 0 t.data.toList = .ok ts) (hf : f ⟨ts, false⟩ = (y, ⟨ts.drop k, false⟩)) (hk : ts.length ≤ k) : whole f z t.data.toList = (y, 0, 0) := by
  rw [whole_ok f z h, hf, List.drop_of_length_le hk]
  rfl
end Ip
namespace Go.Proofs.YtnkdhmoocomjfaaGreatDoor
open Go.RowKit

set_option maxRecDepth 100000 in
set_option maxHeartbeats 4000000 in
theorem refPlace_any {w : World} {p : Option Addr} {cap : Nat} {l : List Tk.Token} {k : Nat} (t : ByteArray) (h : Toks w p l) (hk : k ≤ l.length) (hm : t.size ≤ 65536) :
    Calls Tryz.prog 110 #[.string t, .slice p l.length cap, .int .i64 (k : Nat)] w fun e w' => e = .returned (.int .i64 (Ip.placeOf t (l.drop k))) ∧ w = w' := by
  have hfew := h.few
  by_cases hlt : k < l.length
  · have i1 : ¬ (l.length : Int) ≤ (k : Int) := by omega
    have i2 : (0 : Int) ≤ (k : Int) := by omega
    obtain ⟨A, rfl, c0, c1, c2, c3, -⟩ := h.at_.at (Below.refl _ _) hlt
    rw [List.drop_eq_getElem_cons hlt]
    generalize l[k] = tk at *
    clear h c0 c1 c2
    go_enter Tryz.func110, Tryz.ntmps110
    go_wp2_with fail
    go_ret
    exact ⟨rfl, rfl⟩
  · have i1 : (l.length : Int) ≤ (k : Int) := by omega
    rw [List.drop_of_length_le (by omega)]
    clear h
    go_enter Tryz.func110, Tryz.ntmps110
    go_wp2_with fail
    go_ret
    exact ⟨rfl, rfl⟩
end Go.Proofs.YtnkdhmoocomjfaaGreatDoor
