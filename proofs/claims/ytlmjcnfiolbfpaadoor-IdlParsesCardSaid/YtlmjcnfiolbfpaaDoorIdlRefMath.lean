/-
  Plain facts on a reader of tokens and a place among them: what the document's answer goes over. No program. Conditions: those in the theorems.
-/
import Derived.Test.YtlmjcnfiolbfpaaDoorIdlLawMath
set_option linter.unusedSimpArgs false
set_option linter.unusedVariables false
namespace Ip
open Tk (Token)
/-- What the reader has left begins at this place; a place below nought is that of a fault. -/
def AtR (l : List Token) (r : R) (i : Int) : Prop := ∃ k : Nat, k ≤ l.length ∧ r.left = l.drop k ∧ i = if r.stuck then -1 - (k : Int) else (k : Int)
theorem at_start (l : List Token) : AtR l ⟨l, false⟩ 0 := ⟨0, Nat.zero_le _, rfl, rfl⟩
theorem at_stop {l : List Token} {k : Nat} (hk : k ≤ l.length) : AtR l ⟨l.drop k, true⟩ (-1 - (k : Int)) := ⟨k, hk, rfl, rfl⟩
theorem at_place {l : List Token} {k : Nat} (hk : k ≤ l.length) : AtR l ⟨l.drop k, false⟩ (k : Int) := ⟨k, hk, rfl, rfl⟩
theorem at_neg {l : List Token} {r : R} {i : Int} (h : AtR l r i) (hs : r.stuck = true) : i < 0 := by
  obtain ⟨k, _, _, e⟩ := h
  rw [hs] at e; simp only [if_true] at e; omega
theorem at_go {l : List Token} {r : R} {i : Int} (h : AtR l r i) (hs : r.stuck = false) : ∃ k : Nat, k ≤ l.length ∧ r = ⟨l.drop k, false⟩ ∧ i = (k : Int) := by
  obtain ⟨k, h1, h2, e⟩ := h
  rw [hs] at e
  obtain ⟨a, b⟩ := r
  cases hs
  exact ⟨k, h1, by rw [← h2], e⟩
theorem at_lo {l : List Token} {r : R} {i : Int} (h : AtR l r i) : -1 - (l.length : Int) ≤ i ∧ i ≤ (l.length : Int) := by
  obtain ⟨k, h1, _, e⟩ := h
  split at e <;> omega
theorem at_stuck_iff {l : List Token} {r : R} {i : Int} (h : AtR l r i) : r.stuck = decide (i < 0) := by
  cases hs : r.stuck with
  | true => rw [decide_eq_true (at_neg h hs)]
  | false =>
    obtain ⟨k, _, _, e⟩ := at_go h hs
    rw [decide_eq_false (by omega)]
/-- A text whose first byte is no digit. -/
def Plain (s : ByteArray) : Prop := ∃ c t, s.data.toList = c :: t ∧ Tk.digit c = false
theorem right_two {t : Token} (h : Tk.wrong t = false) (hk : t.kind = 2) : ∃ c r, t.text.data.toList = c :: r ∧ Tk.digit c = true := by
  obtain ⟨hf, -⟩ := Tk.not_wrong h
  rw [hk] at hf
  unfold Tk.first at hf
  split at hf
  · split at hf <;> cases hf
  · split at hf
    · rename_i hn
      cases hd : t.text.data.toList with
      | nil => rw [hd] at hn; simp [Tk.number, Tk.run] at hn
      | cons c r =>
        refine ⟨c, r, rfl, ?_⟩
        by_cases hc : Tk.digit c = true
        · exact hc
        · rw [hd] at hn; unfold Tk.number at hn; rw [Tk.run_t, if_neg hc] at hn; omega
    · split at hf <;> cases hf
theorem right_name {t : Token} (h : Tk.wrong t = false) (hk : t.kind ≠ 1) : Tk.name t.text = false := by
  obtain ⟨hf, -⟩ := Tk.not_wrong h
  unfold Tk.first at hf
  by_cases hw : 0 < Tk.word t.text.data.toList
  · rw [if_pos hw] at hf
    split at hf
    · cases hf
    · exact absurd (Tk.Res.tok.inj hf).1.symm hk
  · unfold Tk.name
    rw [decide_eq_false hw]; rfl
theorem right_text {t : Token} (h : Tk.wrong t = false) : t.text ≠ ⟨#[]⟩ := fun e => by
  obtain ⟨hf, -⟩ := Tk.not_wrong h
  have := Tk.first_len hf
  rw [e] at this
  exact absurd this.1 (by show ¬ 1 ≤ 0; omega)
/-- A text that says the same of each plain word as the next token. -/
def TextAt (r : R) (x : ByteArray) : Prop := ∀ kw, Plain kw → eqB x kw = eqB (ahead r) kw
theorem text_none {r : R} (h : ahead r = ⟨#[]⟩) : TextAt r ⟨#[]⟩ := fun kw _ => by rw [h]
theorem plain_ne {kw : ByteArray} (h : Plain kw) : kw ≠ ⟨#[]⟩ := fun e => by
  obtain ⟨c, t, h1, -⟩ := h
  rw [e] at h1; cases h1
theorem text_num {t : Token} {l : List Token} (h : Tk.wrong t = false) (hk : t.kind = 2) : TextAt ⟨t :: l, false⟩ ⟨#[]⟩ := fun kw hp => by
  rw [eqB_no (fun e => plain_ne hp e.symm)]
  obtain ⟨c, r, h1, h2⟩ := right_two h hk
  obtain ⟨d, s, h3, h4⟩ := hp
  refine (eqB_no fun e => ?_).symm
  have e : t.text = kw := e
  rw [e, h3] at h1
  cases h1
  rw [h2] at h4; cases h4
/-- What one word comes to, by whether it stands there. -/
theorem one_yes {l : List Token} {k : Nat} {kw : ByteArray} (hk : k ≤ l.length) (hp : Plain kw) (he : eqB (ahead ⟨l.drop k, false⟩) kw = true) : k < l.length ∧ one [kw] ⟨l.drop k, false⟩ = (kw, ⟨l.drop (k + 1), false⟩) := by
  by_cases h : k < l.length
  · refine ⟨h, ?_⟩
    rw [List.drop_eq_getElem_cons h] at he ⊢
    have ht : l[k].text = kw := eqB_iff.1 he
    unfold one bind ret take
    simp [ht, among, eqB_self]
  · exfalso
    have hd : l.drop k = [] := List.drop_of_length_le (by omega)
    rw [hd] at he
    exact plain_ne hp (eqB_iff.1 he).symm
theorem among_one {kw s : ByteArray} : among [kw] s = eqB kw s := by unfold among; simp
theorem eqB_comm (a b : ByteArray) : eqB a b = eqB b a := by
  rw [Bool.eq_iff_iff, eqB_iff, eqB_iff]; exact ⟨fun h => h.symm, fun h => h.symm⟩
theorem one_no {r : R} {kw : ByteArray} (hr : r.stuck = false) (he : eqB (ahead r) kw = false) : one [kw] r = (⟨#[]⟩, ⟨r.left, true⟩) := by
  obtain ⟨l, s⟩ := r
  cases hr
  unfold one bind ret take
  cases l with
  | nil => rfl
  | cons t l =>
    have h : eqB t.text kw = false := he
    simp [among_one, eqB_comm kw, h]
theorem one_stuck {r : R} {of : List ByteArray} (hr : r.stuck = true) : one of r = (⟨#[]⟩, r) := by
  unfold one bind ret take
  simp [hr]
theorem name_stuck {r : R} (hr : r.stuck = true) : name r = (⟨#[]⟩, r) := by
  unfold name bind ret take
  simp [hr]
theorem name_end {l : List Token} {k : Nat} (hk : l.length ≤ k) : name ⟨l.drop k, false⟩ = (⟨#[]⟩, ⟨l.drop k, true⟩) := by
  rw [List.drop_of_length_le hk]; rfl
theorem name_at {l : List Token} {k : Nat} (hk : k < l.length) : name ⟨l.drop k, false⟩ = if Tk.name l[k].text then (l[k].text, ⟨l.drop (k + 1), false⟩) else (⟨#[]⟩, ⟨l.drop k, true⟩) := by
  rw [List.drop_eq_getElem_cons hk]
  unfold name bind ret take
  simp only [Bool.false_eq_true, if_false]
  split <;> rfl
theorem number_stuck {r : R} (hr : r.stuck = true) : number r = (0, r) := by
  unfold number bind ret take
  simp [hr]
theorem number_end {l : List Token} {k : Nat} (hk : l.length ≤ k) : number ⟨l.drop k, false⟩ = (0, ⟨l.drop k, true⟩) := by
  rw [List.drop_of_length_le hk]; rfl
theorem number_at {l : List Token} {k : Nat} (hk : k < l.length) : number ⟨l.drop k, false⟩ = if decide (l[k].kind = 2) then (l[k].num, ⟨l.drop (k + 1), false⟩) else (0, ⟨l.drop k, true⟩) := by
  rw [List.drop_eq_getElem_cons hk]
  unfold number bind ret take
  simp only [Bool.false_eq_true, if_false]
  split <;> rfl
theorem plain_of {c : UInt8} {t : List UInt8} (h : Tk.digit c = false) : Plain (Tk.bs (c :: t)) := ⟨c, t, Tk.bs_data _, h⟩
theorem pModule : Plain kModule := plain_of (by decide)
theorem pRecord : Plain kRecord := plain_of (by decide)
theorem pChoice : Plain kChoice := plain_of (by decide)
theorem pService : Plain kService := plain_of (by decide)
theorem pSaga : Plain kSaga := plain_of (by decide)
theorem pDo : Plain kDo := plain_of (by decide)
theorem pAt : Plain kAt := plain_of (by decide)
theorem pUndo : Plain kUndo := plain_of (by decide)
theorem pGive : Plain kGive := plain_of (by decide)
theorem pTake : Plain kTake := plain_of (by decide)
theorem pNote : Plain kNote := plain_of (by decide)
theorem pNone : Plain kNone := plain_of (by decide)
theorem pBool : Plain kBool := plain_of (by decide)
theorem pInt : Plain kInt := plain_of (by decide)
theorem pText : Plain kText := plain_of (by decide)
theorem pList : Plain kList := plain_of (by decide)
theorem pOpt : Plain kOpt := plain_of (by decide)
theorem pOpen : Plain sOpen := plain_of (by decide)
theorem pShut : Plain sShut := plain_of (by decide)
theorem pIn : Plain sIn := plain_of (by decide)
theorem pOut : Plain sOut := plain_of (by decide)
theorem pSemi : Plain sSemi := plain_of (by decide)
theorem pColon : Plain sColon := plain_of (by decide)
theorem pDot : Plain sDot := plain_of (by decide)
theorem pArrow : Plain sArrow := plain_of (by decide)
end Ip
