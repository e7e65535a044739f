/-
  Walks over the document's answer for declarations: Text, step, name, bracket. Conditions: those in the theorems.
-/
import Derived.Test.YtnkdhmoocomjfaaGreatDoorIdlBase
import Derived.Test.YtnkdhmoocomjfaaGreatDoorTokBase
import Derived.Deep.Cut
set_option linter.unusedSimpArgs false
set_option linter.unusedVariables false
namespace Go.Proofs.YtnkdhmoocomjfaaGreatDoor
open Go.RowKit

/-- Tokens that the document's answer goes over. -/
structure Toks (w : World) (p : Option Addr) (l : List Tk.Token) : Prop where
  at_ : ToksAt w p l
  right : ∀ t ∈ l, Tk.wrong t = false
  few : l.length ≤ 65536
theorem Toks.below {w W : World} {p : Option Addr} {l : List Tk.Token} (h : Toks w p l) (hb : Below w.heap.size w W) : Toks W p l := ⟨h.at_.below hb, h.right, h.few⟩
set_option maxRecDepth 100000 in
set_option maxHeartbeats 4000000 in
theorem refText_any {w : World} {p : Option Addr} {cap : Nat} {l : List Tk.Token} {r : Ip.R} {i : Int} (h : Toks w p l) (ha : Ip.AtR l r i) :
    Calls Tryz.prog 146 #[.slice p l.length cap, .int .i64 i] w fun e w' => ∃ x, e = .returned (.string x) ∧ Ip.TextAt r x ∧ w = w' := by
  have hfew := h.few
  cases hs : r.stuck with
  | true =>
    have hi := Ip.at_neg ha hs
    have HT : Hid (Ip.TextAt r ⟨#[]⟩) := Lib.hid (Ip.text_none (by unfold Ip.ahead; rw [if_pos hs]))
    clear h ha hs
    go_enter Tryz.func146, Tryz.ntmps146
    go_wp2_with fail
    go_ret
    exact ⟨_, rfl, HT.out, rfl⟩
  | false =>
    obtain ⟨k, hk, rfl, rfl⟩ := Ip.at_go ha hs
    clear hs ha
    have i0 : ¬ (k : Int) < 0 := by omega
    by_cases hlt : k < l.length
    · have i1 : (k : Int) < (l.length : Int) := by omega
      have i2 : (0 : Int) ≤ (k : Int) := by omega
      have hr := h.right _ (List.getElem_mem hlt)
      obtain ⟨A, rfl, c0, c1, c2, c3, -⟩ := h.at_.at (Below.refl _ _) hlt
      rw [List.drop_eq_getElem_cons hlt]
      generalize l[k] = t at *
      by_cases h2 : t.kind = 2
      · have HT := Lib.hid (Ip.text_num (l := l.drop (k + 1)) hr h2)
        have g2 : (((t.kind : Nat) : Int) == 2) = true := by rw [beq_iff_eq]; omega
        clear h h2 hr c1 c2 c3
        go_enter Tryz.func146, Tryz.ntmps146
        go_wp2_with fail
        go_ret
        exact ⟨_, rfl, HT.out, rfl⟩
      · have g2 : (((t.kind : Nat) : Int) == 2) = false := by rw [beq_eq_false_iff_ne]; omega
        clear h h2 hr c2 c3
        go_enter Tryz.func146, Tryz.ntmps146
        go_wp2_with fail
        go_ret
        exact ⟨_, rfl, fun kw _ => rfl, rfl⟩
    · have i1 : ¬ (k : Int) < (l.length : Int) := by omega
      have HT : Hid (Ip.TextAt ⟨l.drop k, false⟩ ⟨#[]⟩) := Lib.hid (Ip.text_none (by rw [List.drop_of_length_le (by omega)]; rfl))
      clear h
      go_enter Tryz.func146, Tryz.ntmps146
      go_wp2_with fail
      go_ret
      exact ⟨_, rfl, HT.out, rfl⟩
set_option maxRecDepth 100000 in
set_option maxHeartbeats 4000000 in
theorem refStep_any {w : World} {p : Option Addr} {cap : Nat} {l : List Tk.Token} {r : Ip.R} {i : Int} (kw : ByteArray) (hp : Ip.Plain kw) (h : Toks w p l) (ha : Ip.AtR l r i) :
    Calls Tryz.prog 144 #[.slice p l.length cap, .int .i64 i, .string kw] w fun e w' => ∃ i', e = .returned (.int .i64 i') ∧ Ip.AtR l (Ip.one [kw] r).2 i' ∧ w = w' := by
  have hfew := h.few
  cases hs : r.stuck with
  | true =>
    have hi := Ip.at_neg ha hs
    have HT : Hid (Ip.AtR l (Ip.one [kw] r).2 i) := Lib.hid (by rw [Ip.one_stuck hs]; exact ha)
    clear h ha hs
    go_enter Tryz.func144, Tryz.ntmps144
    go_wp2_with fail
    go_ret
    exact ⟨_, rfl, HT.out, rfl⟩
  | false =>
    have Q := refText_any (cap := cap) h ha
    obtain ⟨k, hk, rfl, rfl⟩ := Ip.at_go ha hs
    have i0 : ¬ (k : Int) < 0 := by omega
    have i1 : (k : Int) ≤ 65536 := by omega
    have i2 : (0 : Int) ≤ (k : Int) := by omega
    cases he : Ip.eqB (Ip.ahead ⟨l.drop k, false⟩) kw with
    | true =>
      obtain ⟨h1, h2⟩ := Ip.one_yes hk hp he
      have HT : Hid (Ip.AtR l (Ip.one [kw] ⟨l.drop k, false⟩).2 ((k : Int) + 1)) := Lib.hid (by rw [h2]; exact Ip.at_place (k := k + 1) (by omega))
      have HQ := Lib.hid Q
      have HP := Lib.hid hp
      have HE := Lib.hid he
      clear h ha hs h1 h2 he Q hp hk
      go_enter Tryz.func144, Tryz.ntmps144
      go_wp2_with fail
      refine HQ.out.mono ?_
      rintro e w' ⟨x, rfl, hx, rfl⟩
      have hx2 : (x.toList == kw.toList) = true := by rw [eqB_list, hx kw HP.out]; exact HE.out
      clear hx
      go_wp2_with fail
      go_ret
      exact ⟨_, rfl, HT.out, rfl⟩
    | false =>
      have h2 := Ip.one_no (r := ⟨l.drop k, false⟩) rfl he
      have HT : Hid (Ip.AtR l (Ip.one [kw] ⟨l.drop k, false⟩).2 (-1 - (k : Int))) := Lib.hid (by rw [h2]; exact Ip.at_stop hk)
      have HQ := Lib.hid Q
      have HP := Lib.hid hp
      have HE := Lib.hid he
      clear h ha hs h2 he Q hp hk
      go_enter Tryz.func144, Tryz.ntmps144
      go_wp2_with fail
      refine HQ.out.mono ?_
      rintro e w' ⟨x, rfl, hx, rfl⟩
      have hx2 : (x.toList == kw.toList) = false := by rw [eqB_list, hx kw HP.out]; exact HE.out
      clear hx
      go_wp2_with fail
      go_ret
      exact ⟨_, rfl, HT.out, rfl⟩
set_option maxRecDepth 100000 in
set_option maxHeartbeats 4000000 in
theorem refName_any {w : World} {p : Option Addr} {cap : Nat} {l : List Tk.Token} {r : Ip.R} {i : Int} (h : Toks w p l) (ha : Ip.AtR l r i) :
    Calls Tryz.prog 145 #[.slice p l.length cap, .int .i64 i] w fun e w' => ∃ i', e = .returned (.tuple #[.string (Ip.name r).1, .int .i64 i']) ∧ Ip.AtR l (Ip.name r).2 i' ∧ w = w' := by
  have hfew := h.few
  cases hs : r.stuck with
  | true =>
    have hi := Ip.at_neg ha hs
    have HA := Lib.hid ha
    rw [Ip.name_stuck hs]
    clear h ha hs
    go_enter Tryz.func145, Tryz.ntmps145
    go_wp2_with fail
    go_ret2
    exact ⟨_, rfl, HA.out, rfl⟩
  | false =>
    obtain ⟨k, hk, rfl, rfl⟩ := Ip.at_go ha hs
    have i0 : ¬ (k : Int) < 0 := by omega
    have i3 : (k : Int) ≤ 65536 := by omega
    have i2 : (0 : Int) ≤ (k : Int) := by omega
    have HS := Lib.hid (Ip.at_stop hk)
    by_cases hlt : k < l.length
    · have i1 : (k : Int) < (l.length : Int) := by omega
      have hr := h.right _ (List.getElem_mem hlt)
      have HN := Lib.hid (Ip.at_place (l := l) (k := k + 1) (by omega))
      obtain ⟨A, rfl, c0, c1, c2, c3, hin⟩ := h.at_.at (Below.refl _ _) hlt
      rw [Ip.name_at hlt]
      have QN := RefName_any l[k].text w hin.2.1
      generalize l[k] = t at *
      by_cases h1 : t.kind = 1
      · have g1 : (((t.kind : Nat) : Int) != 1) = false := by rw [bne_eq_false_iff_eq]; omega
        cases hn : Tk.name t.text with
        | true =>
          rw [hn] at QN
          rw [if_pos rfl]
          clear h h1 hr hin hn c2 c3 ha hs hk
          go_enter Tryz.func145, Tryz.ntmps145
          go_wp2_with fail
          refine QN.mono ?_
          rintro e w' ⟨rfl, hw⟩
          obtain rfl := hw
          go_wp2_with fail
          go_ret2
          exact ⟨_, rfl, HN.out, rfl⟩
        | false =>
          rw [hn] at QN
          rw [if_neg (by simp)]
          clear h h1 hr hin hn c2 c3 ha hs hk
          go_enter Tryz.func145, Tryz.ntmps145
          go_wp2_with fail
          refine QN.mono ?_
          rintro e w' ⟨rfl, hw⟩
          obtain rfl := hw
          go_wp2_with fail
          go_ret2
          exact ⟨_, rfl, HS.out, rfl⟩
      · have g1 : (((t.kind : Nat) : Int) != 1) = true := by rw [bne_iff_ne]; omega
        rw [Ip.right_name hr h1, if_neg (by simp)]
        clear h h1 hr hin c2 c3 ha hs hk QN
        go_enter Tryz.func145, Tryz.ntmps145
        go_wp2_with fail
        go_ret2
        exact ⟨_, rfl, HS.out, rfl⟩
    · have i1 : ¬ (k : Int) < (l.length : Int) := by omega
      rw [Ip.name_end (by omega)]
      clear h ha hs hk
      go_enter Tryz.func145, Tryz.ntmps145
      go_wp2_with fail
      go_ret2
      exact ⟨_, rfl, HS.out, rfl⟩
set_option maxRecDepth 100000 in
set_option maxHeartbeats 4000000 in
theorem refBracket_any {w : World} {p : Option Addr} {cap : Nat} {l : List Tk.Token} {r : Ip.R} {i : Int} (h : Toks w p l) (ha : Ip.AtR l r i) :
    Calls Tryz.prog 149 #[.slice p l.length cap, .int .i64 i] w fun e w' => ∃ i', e = .returned (.tuple #[.string (Ip.argument r).1, .int .i64 i']) ∧ Ip.AtR l (Ip.argument r).2 i' ∧ w = w' := by
  obtain ⟨⟨n1, r1⟩, e1⟩ : ∃ y, Ip.one [Ip.sIn] r = y := ⟨_, rfl⟩
  have Q1 := refStep_any (cap := cap) Ip.sIn Ip.pIn h ha
  rw [e1] at Q1
  obtain ⟨⟨n2, r2⟩, e2⟩ : ∃ y, Ip.name r1 = y := ⟨_, rfl⟩
  have Q2 := fun i (ha : Ip.AtR l r1 i) => refName_any (cap := cap) h ha
  rw [e2] at Q2
  obtain ⟨⟨n3, r3⟩, e3⟩ : ∃ y, Ip.one [Ip.sOut] r2 = y := ⟨_, rfl⟩
  have Q3 := fun i (ha : Ip.AtR l r2 i) => refStep_any (cap := cap) Ip.sOut Ip.pOut h ha
  rw [e3] at Q3
  have HE : Hid (Ip.argument r = (n2, r3)) := Lib.hid (by unfold Ip.argument; simp only [Ip.bind_eq, Ip.ret_eq, e1, e2, e3])
  unfold Ip.sIn at Q1
  unfold Ip.sOut at Q3
  have H1 := Lib.hid Q1
  have H2 := Lib.hid Q2
  have H3 := Lib.hid Q3
  clear Q1 Q2 Q3 e1 e2 e3 h ha
  go_enter Tryz.func149, Tryz.ntmps149
  go_wp2_with fail
  refine H1.out.mono ?_
  rintro e w' ⟨i1, rfl, ha1, rfl⟩
  have HA1 := Lib.hid ha1
  clear ha1
  go_wp2_with fail
  refine (H2.out _ HA1.out).mono ?_
  rintro e w' ⟨i2, rfl, ha2, rfl⟩
  have HA2 := Lib.hid ha2
  clear ha2
  go_wp2_with fail
  refine (H3.out _ HA2.out).mono ?_
  rintro e w' ⟨i3, rfl, ha3, rfl⟩
  have HA3 := Lib.hid ha3
  clear ha3
  go_wp2_with fail
  go_ret2
  rw [HE.out]
  exact ⟨_, rfl, HA3.out, rfl⟩
end Go.Proofs.YtnkdhmoocomjfaaGreatDoor
