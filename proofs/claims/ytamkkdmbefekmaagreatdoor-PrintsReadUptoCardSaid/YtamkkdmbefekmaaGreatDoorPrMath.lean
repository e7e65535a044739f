/-
  Plain facts on the text that a schema is printed as: its tokens, put one behind the other with a blank between two. No program. Conditions: those in the theorems.
-/
import Derived.Test.YtamkkdmbefekmaaGreatDoorCkMath
set_option linter.unusedSimpArgs false
set_option linter.unusedVariables false
namespace Pp
open Ip
def put1 (l : List UInt8) (t : ByteArray) : List UInt8 := (if l = [] then [] else l ++ [32]) ++ t.data.toList
def puts (l : List UInt8) (ts : List ByteArray) : List UInt8 := ts.foldl put1 l
def cost (ts : List ByteArray) : Nat := ts.foldr (fun t n => t.size + 1 + n) 0
theorem puts_nil (l : List UInt8) : puts l [] = l := rfl
theorem puts_cons (l : List UInt8) (t : ByteArray) (ts : List ByteArray) : puts l (t :: ts) = puts (put1 l t) ts := rfl
theorem puts_append (l : List UInt8) (a b : List ByteArray) : puts l (a ++ b) = puts (puts l a) b := List.foldl_append
theorem cost_cons (t : ByteArray) (ts : List ByteArray) : cost (t :: ts) = t.size + 1 + cost ts := rfl
theorem cost_nil : cost [] = 0 := rfl
theorem cost_append : ∀ a b : List ByteArray, cost (a ++ b) = cost a + cost b
  | [], b => by simp [cost]
  | t :: a, b => by rw [List.cons_append, cost_cons, cost_cons, cost_append a b]; omega
theorem data_len (t : ByteArray) : t.data.toList.length = t.size := by rw [Array.length_toList]; rfl
theorem put1_len (l : List UInt8) (t : ByteArray) : (put1 l t).length ≤ l.length + (t.size + 1) := by
  unfold put1
  rw [List.length_append, data_len]
  split
  · simp; omega
  · simp; omega
theorem puts_len : ∀ (ts : List ByteArray) (l : List UInt8), (puts l ts).length ≤ l.length + cost ts
  | [], l => by rw [puts_nil]; omega
  | t :: ts, l => by
    have h1 := put1_len l t
    have h2 := puts_len ts (put1 l t)
    rw [puts_cons, cost_cons]; omega
theorem room {l : List UInt8} {a b : List ByteArray} {n : Nat} (h : l.length + cost (a ++ b) ≤ n) : l.length + cost a ≤ n ∧ (puts l a).length + cost b ≤ n := by
  have h1 := puts_len a l
  rw [cost_append] at h
  omega
section
variable {α : Type} (f : α → List ByteArray)
/-- The parts one behind the other, as far as a loop has come. -/
theorem puts_step (l : List UInt8) (L : List α) {i : Nat} (hi : i < L.length) : puts l ((L.take (i + 1)).flatMap f) = puts (puts l ((L.take i).flatMap f)) (f L[i]) := by
  rw [List.take_succ_eq_append_getElem hi, List.flatMap_append, puts_append]
  simp
theorem cost_step (L : List α) {i : Nat} (hi : i < L.length) : cost ((L.take i).flatMap f) + cost (f L[i]) ≤ cost (L.flatMap f) := by
  have h : cost (L.flatMap f) = cost (((L.take i) ++ L.drop i).flatMap f) := by rw [List.take_append_drop]
  rw [h, List.drop_eq_getElem_cons hi, List.flatMap_append, cost_append, List.flatMap_cons, cost_append]; omega
theorem step_len (l : List UInt8) (L : List α) {i : Nat} (hi : i < L.length) : (puts l ((L.take i).flatMap f)).length + cost (f L[i]) ≤ l.length + cost (L.flatMap f) := by
  have h1 := puts_len ((L.take i).flatMap f) l
  have h2 := cost_step f L hi
  omega
theorem cost_flat {k : Nat} : ∀ {L : List α}, (∀ x ∈ L, cost (f x) ≤ k) → cost (L.flatMap f) ≤ L.length * k
  | [], _ => by simp [cost]
  | x :: L, h => by
    have h1 := h x List.mem_cons_self
    have h2 := cost_flat (L := L) fun y hy => h y (List.mem_cons_of_mem _ hy)
    rw [List.flatMap_cons, cost_append, List.length_cons, Nat.add_mul]; omega
end
/-! ### the tokens of a schema -/
def kw (k : Nat) : ByteArray := if k = 1 then kNone else if k = 2 then kBool else if k = 3 then kInt else if k = 4 then kText else if k = 5 then kList else if k = 6 then kOpt else ⟨#[]⟩
def soW (x : So) : ByteArray := if x.kind = 7 then x.name else kw x.kind
def soT (x : So) : List ByteArray := [soW x]
def fldT (f : Fld) : List ByteArray := [f.name, sColon] ++ f.type.flatMap soT ++ [sSemi]
def rcdK (r : Rcd) : ByteArray := if r.choice then kChoice else kRecord
def rcdT (r : Rcd) : List ByteArray := [rcdK r] ++ [r.name, sOpen] ++ r.fields.flatMap fldT ++ [sShut]
def undoT (u : ByteArray) : List ByteArray := if u = ⟨#[]⟩ then [] else [kUndo, u]
def mthT (m : Mth) : List ByteArray := [m.effect, m.name, sIn, m.arg, sOut, sArrow, kw m.result] ++ undoT m.undo ++ [sSemi]
def srvT (v : Srv) : List ByteArray := [kService, v.name, sOpen] ++ v.methods.flatMap mthT ++ [sShut]
def stpT (p : Stp) : List ByteArray := [kDo, p.service, sDot, p.method, kAt, Ck.num p.at_.toNat, sSemi]
def sgaT (g : Sga) : List ByteArray := [kSaga, g.name, sIn, g.arg, sOut, sOpen] ++ g.steps.flatMap stpT ++ [sShut]
def schT (s : Sch) : List ByteArray := [kModule, s.name, sSemi] ++ s.records.flatMap rcdT ++ s.services.flatMap srvT ++ s.sagas.flatMap sgaT
def line (s : Sch) : List UInt8 := puts [] (schT s)
/-- A schema's text, or the fault's number. -/
def text (s : Sch) : ByteArray × Nat := if (Ck.check s).2 ≠ 0 then (⟨#[]⟩, (Ck.check s).2) else if 65536 < (line s).length then (⟨#[]⟩, 3) else (Tk.bs (line s), 0)
/-- A type's part of the text, as the program puts it down. -/
def sortsL (t : List So) : List UInt8 := puts [] (t.flatMap soT)
/-- In a right schema a step stands at 0 to 3. -/
theorem ok_at {s : Sch} (h : Ck.Ok s) : ∀ g ∈ s.sagas, ∀ p ∈ g.steps, 0 ≤ p.at_ ∧ p.at_ ≤ 3 := fun g hg p hp => by
  obtain ⟨k, hk, rfl⟩ := List.getElem_of_mem hp
  have h9 := Ck.none_mem (show Ck.steps9 s = none from h (241, Ck.steps9) (by simp [Ck.rules])) hg
  have hz : (g.steps[k], k) ∈ g.steps.zipIdx := by
    rw [List.mem_zipIdx_iff_getElem?]; simp [hk]
  have a9 := Ck.none_mem h9 hz
  simp only at a9
  have b9 : Ck.stepOk s g g.steps[k] = true := by
    cases hb : Ck.stepOk s g g.steps[k] with
    | true => rfl
    | false => rw [hb] at a9; simp at a9
  unfold Ck.stepOk at b9
  cases hm : Ck.method s g.steps[k].service g.steps[k].method with
  | none => rw [hm] at b9; cases b9
  | some m =>
    rw [hm] at b9
    simp only [Bool.and_eq_true, decide_eq_true_eq] at b9
    exact ⟨b9.1.2, b9.2⟩
end Pp
