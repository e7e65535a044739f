/-
  Walks over the document's answer for declarations: place, Type. Conditions: those in the theorems.
-/
import Derived.Test.YtlmjcnfiolbfpaaDoorIdlRefB
import Derived.Test.YtlmjcnfiolbfpaaDoorTokRefAll
import Derived.Test.YtlmjcnfiolbfpaaDoorIdlWhole
import Derived.Deep.QuietTactic
import Derived.BigQuiet
set_option linter.unusedSimpArgs false
set_option linter.unusedVariables false
namespace Ip
open Tk (Token)
/-- Where a fault stands: at the token that is left, or behind the text. -/
def placeOf (t : ByteArray) : List Token → Int
  | x :: _ => x.pos
  | [] => (t.size : Nat)
theorem at_stuck {l : List Token} {r : R} {i : Int} (h : AtR l r i) (hs : r.stuck = true) : ∃ k : Nat, k ≤ l.length ∧ r = ⟨l.drop k, true⟩ ∧ i = -1 - (k : Int) := by
  obtain ⟨k, h1, h2, e⟩ := h
  rw [hs] at e
  obtain ⟨a, b⟩ := r
  cases hs
  exact ⟨k, h1, by rw [← h2], e⟩
theorem whole_stuck {α : Type} {f : M α} {z : α} {t : ByteArray} {ts : List Token} {k : Nat} {y : α} (h : Tk.all 0 t.data.toList = .ok ts) (hf : f ⟨ts, false⟩ = (y, ⟨ts.drop k, true⟩)) : whole f z t.data.toList = (z, placeOf t (ts.drop k), 120) := by
  rw [whole_ok f z h, hf]
  cases ts.drop k with
  | nil =>
    show (if true then (z, ((t.data.toList.length : Nat) : Int), 120) else (y, 0, 0)) = (z, ((t.size : Nat) : Int), 120)
    rw [if_pos rfl]; rfl
  | cons x l => rfl
theorem whole_left {α : Type} {f : M α} {z : α} {t : ByteArray} {ts : List Token} {k : Nat} {y : α} (h : Tk.all 0 t.data.toList = .ok ts) (hf : f ⟨ts, false⟩ = (y, ⟨ts.drop k, false⟩)) (hk : k < ts.length) : whole f z t.data.toList = (z, ts[k].pos, 120) := by
  rw [whole_ok f z h, hf, List.drop_eq_getElem_cons hk]
theorem whole_done {α : Type} {f : M α} {z : α} {t : ByteArray} {ts : List Token} {k : Nat} {y : α} (h : Tk.all 0 t.data.toList = .ok ts) (hf : f ⟨ts, false⟩ = (y, ⟨ts.drop k, false⟩)) (hk : ts.length ≤ k) : whole f z t.data.toList = (y, 0, 0) := by
  rw [whole_ok f z h, hf, List.drop_of_length_le hk]
  rfl
end Ip
namespace Go.Proofs.YtlmjcnfiolbfpaaDoor
open Go.RowKit

set_option maxRecDepth 100000 in
set_option maxHeartbeats 4000000 in
theorem refPlace_any {w : World} {p : Option Addr} {cap : Nat} {l : List Tk.Token} {k : Nat} (t : ByteArray) (h : Toks w p l) (hk : k ≤ l.length) (hm : t.size ≤ 65536) :
    Calls Tryd.prog 21 #[.string t, .slice p l.length cap, .int .i64 (k : Nat)] w fun e w' => e = .returned (.int .i64 (Ip.placeOf t (l.drop k))) ∧ w = w' := by
  have hfew := h.few
  by_cases hlt : k < l.length
  · have i1 : ¬ (l.length : Int) ≤ (k : Int) := by omega
    have i2 : (0 : Int) ≤ (k : Int) := by omega
    obtain ⟨A, rfl, c0, c1, c2, c3, -⟩ := h.at_.at (Below.refl _ _) hlt
    rw [List.drop_eq_getElem_cons hlt]
    generalize l[k] = tk at *
    clear h c0 c1 c2
    go_enter Tryd.func21, Tryd.ntmps21
    go_wp2_with fail
    go_ret
    exact ⟨rfl, rfl⟩
  · have i1 : (l.length : Int) ≤ (k : Int) := by omega
    rw [List.drop_of_length_le (by omega)]
    clear h
    go_enter Tryd.func21, Tryd.ntmps21
    go_wp2_with fail
    go_ret
    exact ⟨rfl, rfl⟩
set_option maxRecDepth 100000 in
set_option maxHeartbeats 8000000 in
theorem RefType_any (t : ByteArray) (w : World) (hm : t.size ≤ 65536) : Calls Tryd.prog 13 #[.string t] w (Typed (Ip.type t.data.toList) w) := by
  have QA := fun W => RefAll_any t W hm
  have hin := all_in t hm
  have hct := all_count t hm
  have hri := Tk.all_right _ 0 t.data.toList (Nat.le_refl _)
  obtain ⟨o, ho⟩ : ∃ o, Tk.all 0 t.data.toList = o := ⟨_, rfl⟩
  rw [ho] at QA hin hct hri
  cases o with
  | no a er =>
    have HE : Hid (Ip.type t.data.toList = ([], ((a : Nat) : Int), er)) := Lib.hid (Ip.whole_no _ _ ho)
    have her : (((er : Nat) : Int) != 0) = true := by rw [bne_iff_ne]; have := Tk.all_err ho; omega
    unfold Alls Tk.Out.at_ Tk.Out.err Tk.Out.toks at QA
    clear ho hin hct hri
    go_enter Tryd.func13, Tryd.ntmps13
    go_wp2_with fail
    refine Calls.mono (QA _) ?_
    rintro e w1 ⟨v, rfl, hv, hb1⟩
    obtain ⟨pv, cv, rfl, -, -⟩ := hv.shape
    have HB := Lib.hid hb1
    clear hv hb1 QA
    go_wp2_with fail
    go_ret3
    unfold Typed
    rw [HE.out]
    exact ⟨_, rfl, RowIs.nil _ _ _, HB.out⟩
  | ok ts =>
    unfold Alls Tk.Out.at_ Tk.Out.err Tk.Out.toks at QA
    simp only [Tk.Out.toks] at hin hct hri
    obtain ⟨⟨S, r'⟩, hx⟩ : ∃ y, Ip.sorts ⟨ts, false⟩ = y := ⟨_, rfl⟩
    have QS := fun (W : World) (p : Option Addr) (c : Nat) (h : Toks W p ts) => refSorts_any (cap := c) h (Ip.at_start ts)
    rw [hx] at QS
    have HQS := Lib.hid QS
    have HIN := Lib.hid hin
    have HRI := Lib.hid hri
    have HHO := Lib.hid ho
    have HXX := Lib.hid hx
    have hne : (((0 : Nat) : Int) != 0) = false := rfl
    clear ho hin hri QS hx
    go_enter Tryd.func13, Tryd.ntmps13
    go_wp2_with fail
    refine Calls.mono (QA _) ?_
    rintro e w1 ⟨v, rfl, hv, hb1⟩
    obtain ⟨p, c, rfl, -, -, ht⟩ := hv.toks HIN.out
    have HT := Lib.hid (Toks.mk ht HRI.out hct)
    have HB1 := Lib.hid hb1
    clear hv ht hb1 QA
    go_wp2_with fail
    refine (HQS.out _ _ _ HT.out).mono ?_
    rintro e w2 ⟨v2, i', X, rfl, hV2, hu, ha, hb2⟩
    obtain ⟨p1, k1, rfl, -, -⟩ := hV2.shape
    have HB := Lib.hid (HB1.out.trans (hb2.mono HB1.out.size))
    have HV := Lib.hid (hV2.mono okSo HB1.out.size)
    have HT2 := Lib.hid (HT.out.below hb2)
    clear hV2 hb2
    cases hs : r'.stuck with
    | true =>
      obtain ⟨k, hk, rfl, rfl⟩ := Ip.at_stuck ha hs
      have HEE : Hid (Ip.type t.data.toList = ([], Ip.placeOf t (ts.drop k), 120)) := Lib.hid (Ip.whole_stuck HHO.out HXX.out)
      have HP := Lib.hid (refPlace_any (cap := c) t HT2.out hk hm)
      have i1 : (-1 : Int) - (k : Int) < 0 := by omega
      have i2 : (-1 : Int) - (-1 - (k : Int)) = (k : Int) := by omega
      have i3 : (k : Int) ≤ 65536 := by omega
      have i4 : (0 : Int) ≤ (k : Int) := by omega
      clear ha hu hs
      go_wp2_with fail
      try rw [i2]
      refine HP.out.mono ?_
      rintro e w' ⟨rfl, hw⟩
      obtain rfl := hw
      go_wp2_with fail
      go_ret3
      unfold Typed
      rw [HEE.out]
      exact ⟨_, rfl, RowIs.nil _ _ _, HB.out⟩
    | false =>
      obtain ⟨k, hk, rfl, rfl⟩ := Ip.at_go ha hs
      obtain rfl := hu hs
      have i1 : ¬ (k : Int) < 0 := by omega
      have i2 : (0 : Int) ≤ (k : Int) := by omega
      clear ha hu hs
      by_cases hlt : k < ts.length
      · have i3 : (k : Int) < (ts.length : Int) := by omega
        have HEE : Hid (Ip.type t.data.toList = ([], ts[k].pos, 120)) := Lib.hid (Ip.whole_left HHO.out HXX.out hlt)
        obtain ⟨A, e1, c0, c1, c2, c3, -⟩ := HT2.out.at_.at (Below.refl _ _) hlt
        obtain ⟨A1, e2⟩ := HT2.out.at_.some hlt
        cases e1
        cases e2
        generalize ts[k] = tk at *
        clear c0 c1 c2
        go_wp2_with fail
        go_quiet (fail)
        go_wp2_with fail
        go_ret3
        unfold Typed
        rw [HEE.out]
        exact ⟨_, rfl, RowIs.nil _ _ _, ⟨HB.out.os, HB.out.tape, HB.out.output, HB.out.size, HB.out.block⟩⟩
      · have i3 : ¬ (k : Int) < (ts.length : Int) := by omega
        have HEE : Hid (Ip.type t.data.toList = (X, 0, 0)) := Lib.hid (Ip.whole_done HHO.out HXX.out (by omega))
        go_wp2_with fail
        go_ret3
        unfold Typed
        rw [HEE.out]
        exact ⟨_, rfl, HV.out, HB.out⟩
end Go.Proofs.YtlmjcnfiolbfpaaDoor
