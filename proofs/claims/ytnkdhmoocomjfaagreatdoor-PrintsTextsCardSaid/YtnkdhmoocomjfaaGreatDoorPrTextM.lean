/-
  Plain facts on the text that a schema is printed as: its tokens, put one behind the other with a blank between two. No program. Conditions: those in the theorems.
  The parts of SumMath, SumWalkA, SumLong that a seat without their package has. Conditions: those in the theorems.
  Walks over the library's strings.Builder where it lies in a struct of the program's (prints.line): Len, WriteByte, WriteString, String. Conditions: those in the theorems.
  Walks over package prints: a line that tokens are put into; a type's sorts, records and choices. Conditions: those in the theorems.
  Walks over package prints: records and choices, services, sagas, and a schema put into a line. Conditions: those in the theorems.
  Walks over package prints: records and choices, services, sagas, and a schema put into a line. Conditions: those in the theorems.
  Walks over package prints: records and choices, services, sagas, and a schema put into a line. Conditions: those in the theorems.
  Walks over package prints: records and choices, services, sagas, and a schema put into a line. Conditions: those in the theorems.
  Walks over package prints: a schema's text and its fingerprint; the laws' schema. Conditions: those in the theorems (the keywords' variable holds what the row lists).
-/
import Derived.Test.YtnkdhmoocomjfaaGreatDoorCkMath
import Derived.Laws.BitsAllLaws
import Derived.Test.YtnkdhmoocomjfaaGreatDoorRows
import Derived.WalkKit
import Derived.WalkSpells
import Derived.WalkLawsBesides
import Derived.Handy
import Derived.Lib.Hide
import Derived.Deep.QuietTactic
import Derived.BigQuiet
import Derived.Lib.SlBytesRow
import Derived.Lib.FrozenHead2
import Derived.Lib.OthersKept
import Derived.Lib.UnsafeStr
import Derived.Shelf.Strings.BuilderK
import Derived.Test.YtnkdhmoocomjfaaGreatDoorIdlBase
import Derived.Test.YtnkdhmoocomjfaaGreatDoorCkKp
import Derived.Test.YtnkdhmoocomjfaaGreatDoorCkUndone
import Derived.Deep.RegionHeldLaw
import Derived.Test.YtnkdhmoocomjfaaGreatDoorCkWakes
set_option linter.unusedSimpArgs false
set_option linter.unusedVariables false
namespace Pp
open Ip
def put1 (l : List UInt8) (t : ByteArray) : List UInt8 := (if l = [] then [] else l ++ [32]) ++ t.data.toList
def puts (l : List UInt8) (ts : List ByteArray) : List UInt8 := ts.foldl put1 l
def cost (ts : List ByteArray) : Nat := ts.foldr (fun t n => t.size + 1 + n) 0
theorem puts_nil (l : List UInt8) : puts l [] = l := rfl
theorem puts_cons (l : List UInt8) (t : ByteArray) (ts : List ByteArray) : puts l (t :: ts) = puts (put1 l t) ts := rfl
theorem puts_append (l : List UInt8) (a b : List ByteArray) : puts l (a ++ b) = puts (puts l a) b := List.foldl_append
theorem cost_cons (t : ByteArray) (ts : List ByteArray) : cost (t :: ts) = t.size + 1 + cost ts := rfl
theorem cost_nil : cost [] = 0 := rfl
theorem cost_append : ∀ a b : List ByteArray, cost (a ++ b) = cost a + cost b
  | [], b => by simp [cost]
  | t :: a, b => by rw [List.cons_append, cost_cons, cost_cons, cost_append a b]; omega
theorem data_len (t : ByteArray) : t.data.toList.length = t.size := by rw [Array.length_toList]; rfl
theorem put1_len (l : List UInt8) (t : ByteArray) : (put1 l t).length ≤ l.length + (t.size + 1) := by
  unfold put1
  rw [List.length_append, data_len]
  split
  · simp; omega
  · simp; omega
theorem puts_len : ∀ (ts : List ByteArray) (l : List UInt8), (puts l ts).length ≤ l.length + cost ts
  | [], l => by rw [puts_nil]; omega
  | t :: ts, l => by
    have h1 := put1_len l t
    have h2 := puts_len ts (put1 l t)
    rw [puts_cons, cost_cons]; omega
theorem room {l : List UInt8} {a b : List ByteArray} {n : Nat} (h : l.length + cost (a ++ b) ≤ n) : l.length + cost a ≤ n ∧ (puts l a).length + cost b ≤ n := by
  have h1 := puts_len a l
  rw [cost_append] at h
  omega
section
variable {α : Type} (f : α → List ByteArray)
/-- The parts one behind the other, as far as a loop has come. -/
theorem puts_step (l : List UInt8) (L : List α) {i : Nat} (hi : i < L.length) : puts l ((L.take (i + 1)).flatMap f) = puts (puts l ((L.take i).flatMap f)) (f L[i]) := by
  rw [List.take_succ_eq_append_getElem hi, List.flatMap_append, puts_append]
  simp
theorem cost_step (L : List α) {i : Nat} (hi : i < L.length) : cost ((L.take i).flatMap f) + cost (f L[i]) ≤ cost (L.flatMap f) := by
  have h : cost (L.flatMap f) = cost (((L.take i) ++ L.drop i).flatMap f) := by rw [List.take_append_drop]
  rw [h, List.drop_eq_getElem_cons hi, List.flatMap_append, cost_append, List.flatMap_cons, cost_append]; omega
theorem step_len (l : List UInt8) (L : List α) {i : Nat} (hi : i < L.length) : (puts l ((L.take i).flatMap f)).length + cost (f L[i]) ≤ l.length + cost (L.flatMap f) := by
  have h1 := puts_len ((L.take i).flatMap f) l
  have h2 := cost_step f L hi
  omega
theorem cost_flat {k : Nat} : ∀ {L : List α}, (∀ x ∈ L, cost (f x) ≤ k) → cost (L.flatMap f) ≤ L.length * k
  | [], _ => by simp [cost]
  | x :: L, h => by
    have h1 := h x List.mem_cons_self
    have h2 := cost_flat (L := L) fun y hy => h y (List.mem_cons_of_mem _ hy)
    rw [List.flatMap_cons, cost_append, List.length_cons, Nat.add_mul]; omega
end
/-! ### the tokens of a schema -/
def kw (k : Nat) : ByteArray := if k = 1 then kNone else if k = 2 then kBool else if k = 3 then kInt else if k = 4 then kText else if k = 5 then kList else if k = 6 then kOpt else ⟨#[]⟩
def soW (x : So) : ByteArray := if x.kind = 7 then x.name else kw x.kind
def soT (x : So) : List ByteArray := [soW x]
def fldT (f : Fld) : List ByteArray := [f.name, sColon] ++ f.type.flatMap soT ++ [sSemi]
def rcdK (r : Rcd) : ByteArray := if r.choice then kChoice else kRecord
def rcdT (r : Rcd) : List ByteArray := [rcdK r] ++ [r.name, sOpen] ++ r.fields.flatMap fldT ++ [sShut]
def undoT (u : ByteArray) : List ByteArray := if u = ⟨#[]⟩ then [] else [kUndo, u]
def mthT (m : Mth) : List ByteArray := [m.effect, m.name, sIn, m.arg, sOut, sArrow, kw m.result] ++ undoT m.undo ++ [sSemi]
def srvT (v : Srv) : List ByteArray := [kService, v.name, sOpen] ++ v.methods.flatMap mthT ++ [sShut]
def stpT (p : Stp) : List ByteArray := [kDo, p.service, sDot, p.method, kAt, Ck.num p.at_.toNat, sSemi]
def sgaT (g : Sga) : List ByteArray := [kSaga, g.name, sIn, g.arg, sOut, sOpen] ++ g.steps.flatMap stpT ++ [sShut]
def schT (s : Sch) : List ByteArray := [kModule, s.name, sSemi] ++ s.records.flatMap rcdT ++ s.services.flatMap srvT ++ s.sagas.flatMap sgaT
def line (s : Sch) : List UInt8 := puts [] (schT s)
/-- A schema's text, or the fault's number. -/
def text (s : Sch) : ByteArray × Nat := if (Ck.check s).2 ≠ 0 then (⟨#[]⟩, (Ck.check s).2) else if 65536 < (line s).length then (⟨#[]⟩, 3) else (Tk.bs (line s), 0)
/-- A type's part of the text, as the program puts it down. -/
def sortsL (t : List So) : List UInt8 := puts [] (t.flatMap soT)
/-- In a right schema a step stands at 0 to 3. -/
theorem ok_at {s : Sch} (h : Ck.Ok s) : ∀ g ∈ s.sagas, ∀ p ∈ g.steps, 0 ≤ p.at_ ∧ p.at_ ≤ 3 := fun g hg p hp => by
  obtain ⟨k, hk, rfl⟩ := List.getElem_of_mem hp
  have h9 := Ck.none_mem (show Ck.steps9 s = none from h (241, Ck.steps9) (by simp [Ck.rules])) hg
  have hz : (g.steps[k], k) ∈ g.steps.zipIdx := by
    rw [List.mem_zipIdx_iff_getElem?]; simp [hk]
  have a9 := Ck.none_mem h9 hz
  simp only at a9
  have b9 : Ck.stepOk s g g.steps[k] = true := by
    cases hb : Ck.stepOk s g g.steps[k] with
    | true => rfl
    | false => rw [hb] at a9; simp at a9
  unfold Ck.stepOk at b9
  cases hm : Ck.method s g.steps[k].service g.steps[k].method with
  | none => rw [hm] at b9; cases b9
  | some m =>
    rw [hm] at b9
    simp only [Bool.and_eq_true, decide_eq_true_eq] at b9
    exact ⟨b9.1.2, b9.2⟩
end Pp
set_option linter.unusedSimpArgs false
set_option linter.unusedVariables false
namespace Go.Proofs.YtnkdhmoocomjfaaGreatDoor.Sm
def P : Nat := 2197175160

/-- One step by one bit. -/
def bit (c : Nat) : Nat := if c % 2 = 1 then (c / 2) ^^^ P else c / 2
def tab (r : Nat) : Nat := bit (bit (bit (bit r)))
def half (c : Nat) : Nat := (c / 16) ^^^ tab (c % 16)
def upd (c b : Nat) : Nat := half (half (c ^^^ b))
def crcs (c : Nat) (l : List UInt8) : Nat := l.foldl (fun c x => upd c x.toNat) c
def more (c : Nat) (l : List UInt8) : Nat := 4294967295 - crcs (4294967295 - c) l
def crc (l : List UInt8) : Nat := more 0 l

/-- The print. -/
def fnvs (h : Nat) (l : List UInt8) : Nat := l.foldl (fun h x => (h ^^^ x.toNat) * 1099511628211 % 18446744073709551616) h
def fnv (l : List UInt8) : Nat := fnvs 14695981039346656037 l
theorem fnvs_snoc (c : Nat) (l : List UInt8) (x : UInt8) : fnvs c (l ++ [x]) = (fnvs c l ^^^ x.toNat) * 1099511628211 % 18446744073709551616 := by
  unfold fnvs; rw [List.foldl_append, List.foldl_cons, List.foldl_nil]
theorem fnvs_lt (l : List UInt8) : ∀ {c : Nat}, c < 18446744073709551616 → fnvs c l < 18446744073709551616 := by
  induction l with
  | nil => intro c h; exact h
  | cons x r ih => intro c h; exact ih (Nat.mod_lt _ (by omega))
end Go.Proofs.YtnkdhmoocomjfaaGreatDoor.Sm
namespace Go.Proofs.YtnkdhmoocomjfaaGreatDoor.Sm
/-- The number of four bytes that a text begins with. -/
def num (l : List UInt8) : Nat := (l.getD 0 0).toNat + (l.getD 1 0).toNat * 256 + (l.getD 2 0).toNat * 65536 + (l.getD 3 0).toNat * 16777216
/-- A number of four bytes. -/
def four (n : Nat) : List UInt8 := [UInt8.ofNat n, UInt8.ofNat (n / 256), UInt8.ofNat (n / 65536), UInt8.ofNat (n / 16777216)]
def frame (b : List UInt8) : List UInt8 := four b.length ++ four (more (crc (four b.length)) b) ++ b

/-- The place behind the frame that stands at a place, if one does. -/
def behindAt (l : List UInt8) (a : Nat) : Option Nat :=
  if a + 8 ≤ l.length then
    if num (l.drop a) ≤ 65536 ∧ a + 8 + num (l.drop a) ≤ l.length ∧ more (crc ((l.drop a).take 4)) ((l.drop (a + 8)).take (num (l.drop a))) = num (l.drop (a + 4)) then
      some (a + 8 + num (l.drop a))
    else none
  else none
def behind (l : List UInt8) (at_ : Int) : Option Nat := if at_ < 0 then none else behindAt l at_.toNat

end Go.Proofs.YtnkdhmoocomjfaaGreatDoor.Sm
namespace Go.Proofs.YtnkdhmoocomjfaaGreatDoor.Sm
/-- The places behind the frames that stand one behind the other from a place on. -/
inductive Chain (l : List UInt8) : Nat → List Nat → Prop
  | stop {a : Nat} (h : behindAt l a = none) : Chain l a []
  | go {a e : Nat} {es : List Nat} (h : behindAt l a = some e) (r : Chain l e es) : Chain l a (e :: es)

/-- Where the next frame would have to stand, i of them over. -/
def at_ (a : Nat) (es : List Nat) (i : Nat) : Nat := (a :: es).getD i 0
theorem Chain.step {l : List UInt8} {a : Nat} {es : List Nat} (h : Chain l a es) : ∀ i (hi : i < es.length), behindAt l (at_ a es i) = some es[i] := by
  induction h with
  | stop _ => intro i hi; simp at hi
  | @go a e es hb r ih =>
    intro i hi
    cases i with
    | zero => exact hb
    | succ i =>
      have hi' : i < es.length := by simpa using hi
      have h2 := ih i hi'
      have e1 : at_ a (e :: es) (i + 1) = at_ e es i := by unfold at_; rw [List.getD_cons_succ]
      rw [e1, h2]; rfl
theorem Chain.done {l : List UInt8} {a : Nat} {es : List Nat} (h : Chain l a es) : behindAt l (at_ a es es.length) = none := by
  induction h with
  | stop hb => exact hb
  | @go a e es hb r ih =>
    have e1 : at_ a (e :: es) ((e :: es).length) = at_ e es es.length := by unfold at_; rw [List.length_cons, List.getD_cons_succ]
    rw [e1]; exact ih
end Go.Proofs.YtnkdhmoocomjfaaGreatDoor.Sm
namespace Go.Proofs.YtnkdhmoocomjfaaGreatDoor.Sm
/-- Frames one behind the other. -/
def frames : List (List UInt8) → List UInt8
  | [] => []
  | b :: bs => frame b ++ frames bs
end Go.Proofs.YtnkdhmoocomjfaaGreatDoor.Sm
namespace Go.Proofs.YtnkdhmoocomjfaaGreatDoor
open Go.RowKit
theorem take_snoc (s : ByteArray) (k : Nat) (h : k < s.size) : s.data.toList.take (k + 1) = s.data.toList.take k ++ [s[k]] := by
  rw [List.take_succ_eq_append_getElem (by simpa using h)]; rfl
theorem ret_int {k : IntKind} {a b : Int} (h : a = b) : Ending.returned (.int k a) = .returned (.int k b) := by rw [h]
theorem int_eq {k : IntKind} {a b : Int} (h : a = b) : Value.int k a = .int k b := by rw [h]
theorem wrap_u64_byte (b : UInt8) : IntKind.u64.wrap (b.toNat : Int) = (b.toNat : Int) := by
  have := b.toNat_lt; rw [IntKind.wrap_u64]; omega
/-- j steps by one bit. -/
def steps : Nat → Nat → Nat
  | 0, c => c
  | j + 1, c => Sm.bit (steps j c)
end Go.Proofs.YtnkdhmoocomjfaaGreatDoor
namespace Go.Proofs.YtnkdhmoocomjfaaGreatDoor
open Go.RowKit
theorem fnv_step (s : ByteArray) (k : Nat) (h : k < s.size) :
    IntKind.u64.wrap (bits BinOp.xor IntKind.u64 (Sm.fnv (s.data.toList.take k) : Nat) (IntKind.u64.wrap (s[k].toNat : Int)) * 1099511628211) = ((Sm.fnv (s.data.toList.take (k + 1)) : Nat) : Int) := by
  have hb : Sm.fnv (s.data.toList.take k) < 18446744073709551616 := Sm.fnvs_lt _ (by omega)
  have hx := s[k].toNat_lt
  rw [take_snoc s k h, wrap_u64_byte, bits_xor_u64_nat _ _ hb (by omega), IntKind.wrap_u64]
  unfold Sm.fnv
  rw [Sm.fnvs_snoc]
  omega

set_option maxHeartbeats 400000 in
theorem long_any (s : ByteArray) (w : World) (hs : s.size ≤ maxLen) :
    Calls Tryz.prog 63 #[.string s] w fun e w' => e = .returned (.int .u64 (Sm.fnv s.data.toList : Nat)) ∧ w = w' := by
  unfold maxLen at hs
  go_enter Tryz.func63, Tryz.ntmps63
  go_wp2
  go_loop [3, 7] (fun h i => ∃ k : Nat, k ≤ s.size ∧ i = .int .i64 k ∧ h = .int .u64 (Sm.fnv (s.data.toList.take k) : Nat)) (fun _ i => s.size - (intOf i).toNat)
  case atStart => exact ⟨0, Nat.zero_le _, rfl, rfl⟩
  case round =>
    obtain ⟨k, hk, rfl, rfl⟩ := hrel
    have hb : Sm.fnv (s.data.toList.take k) < 18446744073709551616 := Sm.fnvs_lt _ (by omega)
    by_cases hlt : k < s.size
    · have HS := Lib.hid (fnv_step s k hlt)
      go_wp2
      go_round
      case rel => exact ⟨k + 1, by omega, by go_num, int_eq HS.out⟩
      case measure => simp [intOf]; omega
    · go_wp2
      go_ret
      exact ⟨ret_int (by rw [List.take_of_length_le (by simp; omega)]), rfl⟩
end Go.Proofs.YtnkdhmoocomjfaaGreatDoor
set_option linter.unusedSimpArgs false
set_option linter.unusedVariables false
namespace Go.Proofs.YtnkdhmoocomjfaaGreatDoor
open Go.RowKit
/-- A line at block b that holds l; one that holds nothing was never written. -/
structure LnIs (B b : Nat) (l : List UInt8) (w : World) : Prop where
  is : Lib.IsBuilderF 92 5 B b (Lib.byteCells l) w
  nil : l = [] → w.cell? ⟨b, 1, none⟩ = some (.slice none 0 0)
/-- What a call leaves that writes into a line: all below B, and all boxes that are no row of bytes. -/
structure LnK (B b : Nat) (w w' : World) : Prop where
  below : Below B w w'
  kept : Lib.OthersKept 5 (some b) w w'
section
variable {B b : Nat} {w w' w'' : World} {l : List UInt8}
theorem LnK.refl (B b : Nat) (w : World) : LnK B b w w := ⟨Below.refl _ _, Lib.OthersKept.refl _ _ _⟩
theorem LnK.trans (h : LnK B b w w') (k : LnK B b w' w'') : LnK B b w w'' := ⟨h.below.trans k.below, h.kept.trans k.kept⟩
theorem LnK.alloc (h : LnK B b w w') (hB : B ≤ w'.heap.size) (o : Obj) : LnK B b w (w'.alloc o) := ⟨h.below.trans ((tk_alloc w' o).mono hB), h.kept.alloc o⟩
theorem LnK.drew (h : LnK B b w w') : LnK B b w w'.drew := ⟨h.below.drew, h.kept.drew⟩
theorem LnK.size (h : LnK B b w w') : w.heap.size ≤ w'.heap.size := h.below.size
theorem LnK.box {k : Nat} {c : Array Value} {T : TypeId} {fz : Nat × Nat} (h : LnK B b w w') (hk : w.heap[k]? = some (.cells c T fz)) (hb : k ≠ b) (hT : T ≠ 5) : w'.heap[k]? = some (.cells c T fz) :=
  h.kept k _ hk (by simpa using hb) (fun c' fz' e => by cases e; exact hT rfl)
theorem LnIs.lt (h : LnIs B b l w) : b < w.heap.size := by
  rcases h.is with h | h
  · exact h.lt
  · exact h.lt
theorem LnIs.base (h : LnIs B b l w) : B ≤ b := by
  rcases h.is with h | h
  · exact h.1
  · exact h.1
theorem LnIs.size (h : LnIs B b l w) : B ≤ w.heap.size := Nat.le_of_lt (Nat.lt_of_le_of_lt h.base h.lt)
theorem LnIs.below (h : LnIs B b l w) (hb : Below w.heap.size w w') : LnIs B b l w' := by
  have key : ∀ p, Lib.BuilderAtF 92 5 B b p (Lib.byteCells l) w → Lib.BuilderAtF 92 5 B b p (Lib.byteCells l) w' := fun p ⟨h1, v, h2, h3, h4⟩ => by
    refine ⟨h1, v, (hb.block b (Array.getElem?_eq_some_iff.1 h2).1).trans h2, ⟨h3.1, ?_⟩, h4⟩
    rcases h3.2 with hn | ⟨g, cap, cur, fz, k0, k1, k2, k3⟩
    · exact .inl hn
    · exact .inr ⟨g, cap, cur, fz, k0, k1, (hb.block g (Array.getElem?_eq_some_iff.1 k2).1).trans k2, k3⟩
  exact ⟨h.is.imp (key _) (key _), fun e => (hb.cell h.lt).trans (h.nil e)⟩
theorem LnIs.alloc (h : LnIs B b l w) (o : Obj) : LnIs B b l (w.alloc o) := h.below (tk_alloc w o)
theorem LnIs.drew (h : LnIs B b l w) : LnIs B b l w.drew := h.below (Below.refl _ _).drew
theorem LnIs.new (w : World) : LnIs w.heap.size w.heap.size [] (w.alloc (.cells #[.pointer none, .slice none 0 0] 92)) :=
  ⟨Lib.IsBuilderF.of (.inl ⟨Nat.le_refl _, _, heap_alloc_new _ _, World.ownsRow_nil _ _ _ _, by simp [Value.ownBlock]⟩), fun _ => by rw [Lib.cell_of_heap (heap_alloc_new _ _)]; rfl⟩
end
theorem ln_line : (Tryz.prog.info? 90).map (·.size) = some 2 := by kernel_rfl
theorem ln_lies : liesAt Tryz.prog Tryz.prog.depth 92 (2 / Tryz.prog.cellsOf 92) 0 90 1 = true := by kernel_rfl
theorem ln_byte : (Tryz.prog.info? 5).map (fun i => (i.zero, i.size, i.bytes)) = some (some (.int .u8 0), 1, 1) := by kernel_rfl
set_option maxRecDepth 100000 in
set_option maxHeartbeats 2000000 in
theorem ln_check {B b : Nat} {bs : List Value} {w : World} (h : Lib.IsBuilderF 92 5 B b bs w) :
    Calls Tryz.prog 180 #[.pointer (some ⟨b, 0, none⟩)] w fun e w' => e = .returned (.tuple #[]) ∧ Lib.BuilderAtF 92 5 B b (.pointer (some ⟨b, 0, none⟩)) bs w' ∧ LnK B b w w' ∧ w'.cell? ⟨b, 1, none⟩ = w.cell? ⟨b, 1, none⟩ := by
  rcases h with h | h
  · have h0 := h.cell0
    have hsh := h.shape
    have hfz := h.frozen0
    obtain ⟨j, hj, hjs⟩ := Option.map_eq_some_iff.1 ln_line
    have HU := Lib.hid (h.used (.pointer (some ⟨b, 0, none⟩)))
    have HK : Hid (LnK B b w (w.setCell ⟨b, 0, none⟩ (.pointer (some ⟨b, 0, none⟩)))) := Lib.hid ⟨(Below.refl B w).setCell (p := ⟨b, 0, none⟩) h.1 _, (Lib.OthersKept.refl _ _ w).setCell ⟨b, 0, none⟩ rfl _⟩
    have HC : Hid ((w.setCell ⟨b, 0, none⟩ (.pointer (some ⟨b, 0, none⟩))).cell? ⟨b, 1, none⟩ = w.cell? ⟨b, 1, none⟩) := Lib.hid (by
      obtain ⟨-, v, hb, -⟩ := h
      simp [World.cell?, World.setCell, Array.getElem?_modify, hb])
    have T1 := Lib.run_to_unsafe (P := Tryz.prog) (w := w) ⟨b, 0, none⟩ Tryz.underlying87 Tryz.underlying247 hj (by rw [hjs]; decide) hsh (Nat.zero_lt_succ 1)
    have T2 := Lib.run_from_unsafe (P := Tryz.prog) (w := w) ⟨b, 0, none⟩ Tryz.underlying247 Tryz.underlying87 hj hsh ln_lies
    clear h hsh
    go_enter Tryz.func180, Tryz.ntmps180
    go_wp2
    rw [run_callFunc_extern Tryz.func191 (by kernel_rfl) (by kernel_rfl) (by kernel_rfl) (e := Extern.AbiNoEscape.same) (by kernel_rfl)]
    rw [Lib.run_noEscape]
    simp only [Result.andThen]
    rw [Oper.upon_value]
    go_wp2
    go_end0
    exact ⟨rfl, HU.out, HK.out, HC.out⟩
  · have h0 := h.cell0
    obtain ⟨j, hj, hjs⟩ := Option.map_eq_some_iff.1 ln_line
    have T3 := Lib.run_neq_ptr_same (P := Tryz.prog) (w := w) ⟨b, 0, none⟩ Tryz.underlying87 hj
    have HU := Lib.hid h
    clear h
    go_enter Tryz.func180, Tryz.ntmps180
    go_wp2
    go_end0
    exact ⟨rfl, HU.out, LnK.refl _ _ _, rfl⟩
set_option maxRecDepth 100000 in
set_option maxHeartbeats 2000000 in
theorem ln_len {B b : Nat} {l : List UInt8} {w : World} (h : LnIs B b l w) :
    Calls Tryz.prog 151 #[.pointer (some ⟨b, 0, none⟩)] w fun e w' => e = .returned (.int .i64 (l.length : Nat)) ∧ w' = w := by
  obtain ⟨p, hB, v, hbk, hown, hne⟩ : ∃ p, Lib.BuilderAtF 92 5 B b p (Lib.byteCells l) w := by
    rcases h.is with h | h
    · exact ⟨_, h⟩
    · exact ⟨_, h⟩
  rw [Lib.byteCells_length] at hown
  obtain ⟨ao, cap, rfl⟩ : ∃ ao cap, v = .slice ao l.length cap := by
    rcases hown.2 with ⟨hv, h0⟩ | ⟨g, cap, cur, fz, hv, _⟩
    · exact ⟨none, 0, by rw [hv, h0]⟩
    · exact ⟨_, _, hv⟩
  have c1 : w.cell? ⟨b, 1, none⟩ = some (.slice ao l.length cap) := by rw [Lib.cell_of_heap hbk]; rfl
  go_enter Tryz.func151, Tryz.ntmps151
  go_wp2
  go_ret
  exact ⟨rfl, rfl⟩
set_option maxRecDepth 100000 in
set_option maxHeartbeats 2000000 in
theorem ln_byte_any {B b : Nat} {l : List UInt8} {w : World} (h : LnIs B b l w) (hlen : l.length + 1 ≤ 140737488355328) :
    Calls Tryz.prog 152 #[.pointer (some ⟨b, 0, none⟩), .int .u8 32] w fun e w' => e = .returned .nilIface ∧ LnIs B b (l ++ [32]) w' ∧ LnK B b w w' := by
  obtain ⟨i0, hi, hz0, hz1, hz2⟩ := info_parts ln_byte
  have q := ln_check h.is
  have hBw := h.size
  clear h
  go_enter Tryz.func152, Tryz.ntmps152
  go_wp2_with fail
  refine q.mono ?_
  rintro e w1 ⟨rfl, h1, hk1, hc1⟩
  have HC1 := Lib.hid hc1
  clear hc1
  obtain ⟨hB, v, hbk, hown, hne⟩ := h1
  rw [Lib.byteCells_length] at hown
  have c0 : w1.cell? ⟨b, 0, none⟩ = some (.pointer (some ⟨b, 0, none⟩)) := by rw [Lib.cell_of_heap hbk]; rfl
  have c1 : w1.cell? ⟨b, 1, none⟩ = some v := by rw [Lib.cell_of_heap hbk]; rfl
  have hs1 := hk1.size
  go_wp2_with (at_builtin; refine wpList_append_ownF _ rfl _ _ 88 rfl B 5 i0 (.int .u8 0) 1 1 Tryz.underlying88 hi hz0 hz1 hz2 rfl (by decide) _ _ _ rfl (hown.alloc _) ⟨w1.heap.size, 0, none⟩ 1 1 [.int .u8 32] rfl rfl ?c1 ?c2 ?c3 ?c4 ?c5 ?_)
  case c1 =>
    intro j u hj
    match j, hj with
    | 0, hj => simp at hj; subst hj; simp [Addr.add]
  case c2 => intro u hu; simp at hu; subst hu; rfl
  case c3 => unfold maxLen; omega
  case c4 => omega
  case c5 => rw [World.size_alloc]; omega
  intro v' w2 hown' hgrow _
  have hlt : b < w1.heap.size := (Array.getElem?_eq_some_iff.1 hbk).1
  have hb2 : w2.heap[b]? = some (.cells #[.pointer (some ⟨b, 0, none⟩), v] 92 (0, 0)) := by
    rw [hgrow.block b (by rw [World.size_alloc]; omega) (fun e => hne e.symm), Lib.alloc_old w1 _ b hlt]
    exact hbk
  have d0 : w2.cell? ⟨b, 0, none⟩ = some (.pointer (some ⟨b, 0, none⟩)) := by rw [Lib.cell_of_heap hb2]; rfl
  have d1 : w2.cell? ⟨b, 1, none⟩ = some v := by rw [Lib.cell_of_heap hb2]; rfl
  have f1 : w2.frozen? ⟨b, 1, none⟩ = false := Lib.frozen_of_heap hb2 1
  obtain ⟨g, cap, rfl⟩ : ∃ g cap, v' = .slice (some ⟨g, 0, none⟩) (l.length + 1) cap := by
    rcases hown'.2 with ⟨_, h0⟩ | ⟨g, cap, cur, fz, hv, _⟩
    · omega
    · exact ⟨g, cap, hv⟩
  go_wp2_with fail
  go_ret
  refine ⟨rfl, ⟨.inr ?_, fun e => absurd e (by simp)⟩, ?_, ?_⟩
  · rw [Lib.byteCells_append]
    exact Lib.BuilderAtF.put (T := 92) (e := 5) hB hb2 (bs' := Lib.byteCells l ++ [.int .u8 32]) (by simpa [Lib.byteCells_length] using hown') (by decide)
  · exact ((hk1.below.alloc (by omega) _).grown hgrow (by rw [World.size_alloc]; omega) (fun k hk => (hown.lt k hk).1)).setCell (p := ⟨b, 1, none⟩) hB _
  · exact ((hk1.kept.alloc _).grown hgrow (Lib.ownsRowF_kind (hown.alloc _))).setCell ⟨b, 1, none⟩ rfl _
set_option maxRecDepth 100000 in
set_option maxHeartbeats 2000000 in
theorem ln_string_any {B b : Nat} {l : List UInt8} {w : World} (h : LnIs B b l w) (s : ByteArray) (hlen : l.length + s.size ≤ 140737488355328) :
    Calls Tryz.prog 153 #[.pointer (some ⟨b, 0, none⟩), .string s] w fun e w' => e = .returned (.tuple #[.int .i64 (s.size : Nat), .nilIface]) ∧ LnIs B b (l ++ s.data.toList) w' ∧ LnK B b w w' := by
  obtain ⟨i0, hi, hz0, hz1, hz2⟩ := info_parts ln_byte
  have q := ln_check h.is
  have hBw := h.size
  have hN := h.nil
  have hL := h.lt
  clear h
  go_enter Tryz.func153, Tryz.ntmps153
  go_wp2_with fail
  refine q.mono ?_
  rintro e w1 ⟨rfl, h1, hk1, hc1⟩
  have HC1 := Lib.hid hc1
  clear hc1
  obtain ⟨hB, v, hbk, hown, hne⟩ := h1
  rw [Lib.byteCells_length] at hown
  have c0 : w1.cell? ⟨b, 0, none⟩ = some (.pointer (some ⟨b, 0, none⟩)) := by rw [Lib.cell_of_heap hbk]; rfl
  have c1 : w1.cell? ⟨b, 1, none⟩ = some v := by rw [Lib.cell_of_heap hbk]; rfl
  have hs1 := hk1.size
  go_wp2_with (at_builtin; refine Lib.wpList_append_own_stringF _ rfl _ _ 88 9 rfl B 5 i0 Tryz.underlying88 Tryz.underlying9 hi hz0 hz1 hz2 _ _ _ rfl hown s rfl ?c3 ?c4 ?c5 ?_)
  case c3 => unfold maxLen; omega
  case c4 => omega
  case c5 => omega
  intro v' w2 hown' hgrow hnil
  have HNL := Lib.hid hnil
  clear hnil
  have hlt : b < w1.heap.size := (Array.getElem?_eq_some_iff.1 hbk).1
  have hb2 : w2.heap[b]? = some (.cells #[.pointer (some ⟨b, 0, none⟩), v] 92 (0, 0)) := by
    rw [hgrow.block b hlt (fun e => hne e.symm)]
    exact hbk
  have d0 : w2.cell? ⟨b, 0, none⟩ = some (.pointer (some ⟨b, 0, none⟩)) := by rw [Lib.cell_of_heap hb2]; rfl
  have d1 : w2.cell? ⟨b, 1, none⟩ = some v := by rw [Lib.cell_of_heap hb2]; rfl
  have f1 : w2.frozen? ⟨b, 1, none⟩ = false := Lib.frozen_of_heap hb2 1
  obtain ⟨ao, n', cap, rfl⟩ : ∃ ao n' cap, v' = .slice ao n' cap := by
    rcases hown'.2 with ⟨hv, _⟩ | ⟨g, cap, cur, fz, hv, _⟩
    · exact ⟨_, _, _, hv⟩
    · exact ⟨_, _, _, hv⟩
  go_wp2_with fail
  go_ret2
  refine ⟨rfl, ⟨.inr ?_, fun e => ?_⟩, ?_, ?_⟩
  · rw [Lib.byteCells_append, ← Lib.strCells_eq]
    exact Lib.BuilderAtF.put (T := 92) (e := 5) hB hb2 (bs' := Lib.byteCells l ++ Lib.strCells s) (by simpa [Lib.byteCells_length, Lib.strCells_length] using hown') (by decide)
  · obtain ⟨e1, e2⟩ := List.append_eq_nil_iff.1 e
    have e3 : s.size = 0 := by have := congrArg List.length e2; rw [Array.length_toList] at this; exact this
    have e4 : v = .slice none 0 0 := by
      rcases hown.2 with ⟨hv, _⟩ | ⟨g, cap', cur, fz, hv, k1, k2, k3⟩
      · exact hv
      · have e5 := hN e1
        rw [← HC1.out, c1] at e5
        exact Option.some.inj e5
    have e6 := HNL.out.2 ⟨e4, by first | exact e3 | exact ByteArray.size_eq_zero_iff.1 e3⟩
    rw [e6]
    simp [World.cell?, World.setCell, Array.getElem?_modify, hb2]
  · exact (hk1.below.grown hgrow (by omega) (fun k hk => (hown.lt k hk).1)).setCell (p := ⟨b, 1, none⟩) hB _
  · exact (hk1.kept.grown hgrow (Lib.ownsRowF_kind hown)).setCell ⟨b, 1, none⟩ rfl _
theorem ln_ptr : Tryz.prog.cellsOf 5 = 1 := by kernel_rfl
set_option maxRecDepth 100000 in
set_option maxHeartbeats 4000000 in
theorem ln_text {B b : Nat} {l : List UInt8} {w : World} (h : LnIs B b l w) :
    Calls Tryz.prog 59 #[.pointer (some ⟨b, 0, none⟩)] w fun e w' => e = .returned (.string (Tk.bs l)) ∧ Below B w w' := by
  by_cases hl : l = []
  · have c1 : w.drew.cell? ⟨b, 1, none⟩ = some (.slice none 0 0) := h.nil hl
    have hSD := Lib.run_unsafeSliceData_nil (P := Tryz.prog) (w := w.drew) #[88] 156 0 0
    have hUS := Lib.run_unsafeString_none (P := Tryz.prog) (w := w.drew) 156 3 9 none
    subst hl
    clear h
    have mixed : Tryz.prog.follows Departure.mixedOrders = true := by kernel_rfl
    go_enter Tryz.func59, Tryz.ntmps59
    go_wp2
    go_region_o
    all_goals (go_wp2; go_ret; exact ⟨rfl, Below.drew (Below.refl B w)⟩)
  · obtain ⟨p, hB, v, hbk, hown, hne⟩ : ∃ p, Lib.BuilderAtF 92 5 B b p (Lib.byteCells l) w := by
      rcases h.is with h | h
      · exact ⟨_, h⟩
      · exact ⟨_, h⟩
    have hl0 : l.length ≠ 0 := by simpa using hl
    rw [Lib.byteCells_length] at hown
    obtain ⟨g, cap, cur, fz, rfl, hbg, hg, hfz, hnc, hcm, hcs, htake⟩ : ∃ g cap cur fz, v = .slice (some ⟨g, 0, none⟩) l.length cap ∧ B ≤ g ∧ w.heap[g]? = some (.cells cur 5 fz) ∧ fz.2 ≤ l.length * 1 ∧ l.length ≤ cap ∧ cap ≤ maxLen ∧ cur.size = cap * 1 ∧ cur.toList.take (l.length * 1) = Lib.byteCells l := by
      rcases hown.2 with ⟨_, hz⟩ | ⟨g, cap, cur, fz, hv, r⟩
      · exact absurd hz hl0
      · exact ⟨g, cap, cur, fz, hv, r⟩
    have c1 : w.drew.cell? ⟨b, 1, none⟩ = some (.slice (some ⟨g, 0, none⟩) l.length cap) := by
      have : w.drew.heap[b]? = some (.cells #[p, .slice (some ⟨g, 0, none⟩) l.length cap] 92 (0, 0)) := hbk
      rw [Lib.cell_of_heap this]; rfl
    have hSD := Lib.run_unsafeSliceData_row (P := Tryz.prog) (w := w.drew) #[88] 156 ⟨g, 0, none⟩ l.length cap (by omega)
    have hUS := Lib.run_unsafeString_row (P := Tryz.prog) (w := w.drew) 156 3 9 5 Tryz.underlying156 ln_ptr g cur.size (by have hg' : w.drew.heap[g]? = some (.cells cur 5 fz) := hg; simp [World.shape?, hg']) l hl (by omega) (by unfold maxLen at hcm; omega)
      (fun j x hx => hown.cells (g := g) rfl j (.int .u8 x.toNat) (by simp [Lib.byteCells, hx]))
    have HE : Hid (Below B w (w.drew.freeze ⟨g, 0, none⟩ l.length)) := Lib.hid (Lib.below_freeze (Below.drew (Below.refl B w)) (p := ⟨g, 0, none⟩) hbg _)
    clear h hown hbk hg htake
    have mixed : Tryz.prog.follows Departure.mixedOrders = true := by kernel_rfl
    go_enter Tryz.func59, Tryz.ntmps59
    go_wp2
    go_region_o
    all_goals (go_wp2; go_ret; exact ⟨rfl, HE.out⟩)
end Go.Proofs.YtnkdhmoocomjfaaGreatDoor
set_option linter.unusedSimpArgs false
set_option linter.unusedVariables false
namespace Go.Proofs.YtnkdhmoocomjfaaGreatDoor
open Go.RowKit
theorem row_cells {W : World} {g : Nat} {ts : List ByteArray} {T : TypeId} {fz : Nat × Nat} (hg : W.heap[g]? = some (.cells (ts.map Value.string).toArray T fz)) {i : Nat} (hi : i < ts.length) : W.cell? ((⟨g, 0, none⟩ : Addr).add i) = some (.string ts[i]) := by
  have e : (⟨g, 0, none⟩ : Addr).add i = ⟨g, i, none⟩ := by unfold Addr.add; split <;> simp_all
  rw [e, Lib.cell_of_heap hg]; simp [hi]
set_option maxRecDepth 100000 in
set_option maxHeartbeats 4000000 in
theorem put_any {w : World} {B b : Nat} {l : List UInt8} {A : Addr} {ts : List ByteArray} {c : Nat} (h : LnIs B b l w) (hc : ∀ W, LnK B b w W → ∀ i (hi : i < ts.length), W.cell? (A.add i) = some (.string ts[i])) (hlen : l.length + Pp.cost ts ≤ 140737488355328) (hn : ts.length ≤ 1000) :
    Calls Tryz.prog 111 #[.pointer (some ⟨b, 0, none⟩), .slice (some A) ts.length c] w fun e w' => e = .returned (.tuple #[]) ∧ LnIs B b (Pp.puts l ts) w' ∧ LnK B b w w' := by
  have HC := Lib.hid hc
  have H0 := Lib.hid h
  have HL : Hid (∀ k, (hk : k < ts.length) → Pp.puts l (ts.take (k + 1)) = Pp.put1 (Pp.puts l (ts.take k)) ts[k] ∧ (Pp.puts l (ts.take k)).length + (ts[k].size + 1) ≤ 140737488355328) := Lib.hid fun k hk => by
    refine ⟨by rw [List.take_succ_eq_append_getElem hk, Pp.puts_append]; rfl, ?_⟩
    have h1 := Pp.puts_len (ts.take k) l
    have h2 : Pp.cost ts = Pp.cost (ts.take k ++ ts.drop k) := by rw [List.take_append_drop]
    rw [List.drop_eq_getElem_cons hk, Pp.cost_append, Pp.cost_cons] at h2
    omega
  clear hc h hlen
  go_enter Tryz.func111, Tryz.ntmps111
  go_wp2_with fail
  go_loopw [5, 8] (fun _ kv wr => ∃ k : Nat, k ≤ ts.length ∧ kv = .int .i64 (k : Nat) ∧ Hid (LnIs B b (Pp.puts l (ts.take k)) wr ∧ LnK B b w wr)) (fun _ kv _ => ts.length - (intOf kv).toNat)
  case atStart => exact ⟨0, Nat.zero_le _, rfl, Lib.hid ⟨H0.out, LnK.refl _ _ _⟩⟩
  case round =>
    obtain ⟨k, hk, rfl, H⟩ := hrel
    by_cases hlt : k < ts.length
    · have i1 : (k : Int) < (ts.length : Int) := by omega
      have i2 : (0 : Int) ≤ (k : Int) := by omega
      have c0 := HC.out wr H.out.2 k hlt
      have HP := Lib.hid (HL.out k hlt).1
      have HZ := Lib.hid (HL.out k hlt).2
      generalize ts[k] = t at *
      generalize Pp.puts l (ts.take k) = m at *
      go_wp2_with fail
      refine (ln_len H.out.1).mono ?_
      rintro e w1 ⟨rfl, hw1⟩
      obtain rfl := hw1
      by_cases hm : m = []
      · have HM := Lib.hid hm
        have i3 : ¬ (0 : Int) < ((m.length : Nat) : Int) := by rw [hm]; decide
        clear hm
        go_wp2_with fail
        refine (ln_string_any H.out.1 t (by have := HZ.out; omega)).mono ?_
        rintro e w2 ⟨rfl, h2, k2⟩
        have H2 := Lib.hid h2
        have K2 := Lib.hid (H.out.2.trans k2)
        clear h2 k2
        go_wp2_with fail
        go_roundw
        case rel => exact ⟨k + 1, by omega, by go_num, Lib.hid ⟨by rw [HP.out]; have := H2.out; rw [HM.out] at this ⊢; exact this, K2.out⟩⟩
        case measure => simp [intOf]; omega
      · have HM := Lib.hid hm
        have i3 : (0 : Int) < ((m.length : Nat) : Int) := by have : m.length ≠ 0 := fun e => hm (List.eq_nil_of_length_eq_zero e); omega
        clear hm
        go_wp2_with fail
        refine (ln_byte_any H.out.1 (by have := HZ.out; omega)).mono ?_
        rintro e w2 ⟨rfl, h2, k2⟩
        have H2 := Lib.hid h2
        have K2 := Lib.hid (H.out.2.trans k2)
        clear h2 k2
        go_wp2_with fail
        refine (ln_string_any H2.out t (by have := HZ.out; simp only [List.length_append, List.length_cons, List.length_nil]; omega)).mono ?_
        rintro e w3 ⟨rfl, h3, k3⟩
        have H3 := Lib.hid h3
        have K3 := Lib.hid (K2.out.trans k3)
        clear h3 k3
        go_wp2_with fail
        go_roundw
        case rel => exact ⟨k + 1, by omega, by go_num, Lib.hid ⟨by rw [HP.out]; unfold Pp.put1; rw [if_neg HM.out]; exact H3.out, K3.out⟩⟩
        case measure => simp [intOf]; omega
    · obtain rfl : k = ts.length := by omega
      have i1 : ¬ (ts.length : Int) < (ts.length : Int) := by omega
      have H9 := Lib.hid H.out
      rw [List.take_length] at H9
      go_wp2_with fail
      go_end0
      exact ⟨rfl, H9.out.1, H9.out.2⟩
/-- put, with the tokens that a call builds for it. -/
theorem put_row {W : World} {B b : Nat} {l : List UInt8} (ts : List ByteArray) (h : LnIs B b l W) (hlen : l.length + Pp.cost ts ≤ 140737488355328) (hn : ts.length ≤ 1000) :
    Calls Tryz.prog 111 #[.pointer (some ⟨b, 0, none⟩), .slice (some ⟨W.heap.size, 0, none⟩) ts.length ts.length] (W.alloc (.cells (ts.map Value.string).toArray 9)) fun e w' => e = .returned (.tuple #[]) ∧ LnIs B b (Pp.puts l ts) w' ∧ LnK B b W w' := by
  have hb : W.heap.size ≠ b := by have := h.lt; omega
  refine (put_any (h.alloc _) (fun X hX i hi => row_cells (hX.box (heap_alloc_new W _) hb (by decide)) hi) hlen hn).mono ?_
  rintro e w' ⟨rfl, h1, h2⟩
  exact ⟨rfl, h1, ((LnK.refl B b W).alloc h.size _).trans h2⟩
set_option maxRecDepth 100000 in
set_option maxHeartbeats 4000000 in
theorem keyword_any (k : Nat) (w : World) : Calls Tryz.prog 155 #[.int .u8 (k : Nat)] w fun e w' => e = .returned (.string (Pp.kw k)) ∧ w' = w := by
  go_enter Tryz.func155, Tryz.ntmps155
  by_cases h1 : k = 1
  · subst h1; go_wp2_with fail; go_ret; exact ⟨rfl, rfl⟩
  by_cases h2 : k = 2
  · subst h2; go_wp2_with fail; go_ret; exact ⟨rfl, rfl⟩
  by_cases h3 : k = 3
  · subst h3; go_wp2_with fail; go_ret; exact ⟨rfl, rfl⟩
  by_cases h4 : k = 4
  · subst h4; go_wp2_with fail; go_ret; exact ⟨rfl, rfl⟩
  by_cases h5 : k = 5
  · subst h5; go_wp2_with fail; go_ret; exact ⟨rfl, rfl⟩
  by_cases h6 : k = 6
  · subst h6; go_wp2_with fail; go_ret; exact ⟨rfl, rfl⟩
  have e1 : (((k : Nat) : Int) == 1) = false := by rw [beq_eq_false_iff_ne]; omega
  have e2 : (((k : Nat) : Int) == 2) = false := by rw [beq_eq_false_iff_ne]; omega
  have e3 : (((k : Nat) : Int) == 3) = false := by rw [beq_eq_false_iff_ne]; omega
  have e4 : (((k : Nat) : Int) == 4) = false := by rw [beq_eq_false_iff_ne]; omega
  have e5 : (((k : Nat) : Int) == 5) = false := by rw [beq_eq_false_iff_ne]; omega
  have e6 : (((k : Nat) : Int) == 6) = false := by rw [beq_eq_false_iff_ne]; omega
  have HK : Hid (Pp.kw k = ⟨#[]⟩) := Lib.hid (by unfold Pp.kw; rw [if_neg h1, if_neg h2, if_neg h3, if_neg h4, if_neg h5, if_neg h6])
  clear h1 h2 h3 h4 h5 h6
  go_wp2_with fail
  go_ret
  exact ⟨by rw [HK.out]; rfl, rfl⟩
set_option maxRecDepth 100000 in
set_option maxHeartbeats 8000000 in
theorem lnSorts_any {u w : World} {B b : Nat} {l : List UInt8} {p : Option Addr} {t : List Ip.So} {c : Nat} (h : LnIs B b l w) (hp : RoSo u (.slice p t.length c) t) (hu : Kp u w) (hB : u.heap.size ≤ B) (hlen : l.length + Pp.cost (t.flatMap Pp.soT) ≤ 140737488355328) :
    Calls Tryz.prog 154 #[.pointer (some ⟨b, 0, none⟩), .slice p t.length c] w fun e w' => e = .returned (.tuple #[]) ∧ LnIs B b (Pp.puts l (t.flatMap Pp.soT)) w' ∧ LnK B b w w' := by
  obtain ⟨_, _, e9, hsl⟩ := ro_len hp
  cases e9
  have HP := Lib.hid hp
  have HU := Lib.hid hu
  have HB := Lib.hid hB
  have H0 := Lib.hid h
  have HL : Hid (∀ k, (hk : k < t.length) → Pp.puts l ((t.take (k + 1)).flatMap Pp.soT) = Pp.puts (Pp.puts l ((t.take k).flatMap Pp.soT)) [Pp.soW t[k]] ∧ (Pp.puts l ((t.take k).flatMap Pp.soT)).length + Pp.cost [Pp.soW t[k]] ≤ 140737488355328) := Lib.hid fun k hk =>
    ⟨Pp.puts_step Pp.soT l t hk, Nat.le_trans (Pp.step_len Pp.soT l t hk) hlen⟩
  clear hp hu hB h hlen
  go_enter Tryz.func154, Tryz.ntmps154
  go_wp2_with fail
  go_loopw [5, 8] (fun _ kv wr => ∃ k : Nat, k ≤ t.length ∧ kv = .int .i64 (k : Nat) ∧ Hid (LnIs B b (Pp.puts l ((t.take k).flatMap Pp.soT)) wr ∧ LnK B b w wr)) (fun _ kv _ => t.length - (intOf kv).toNat)
  case atStart => exact ⟨0, Nat.zero_le _, rfl, Lib.hid ⟨H0.out, LnK.refl _ _ _⟩⟩
  case round =>
    obtain ⟨k, hk, rfl, H⟩ := hrel
    by_cases hlt : k < t.length
    · have i1 : (k : Int) < (t.length : Int) := by omega
      have i2 : (0 : Int) ≤ (k : Int) := by omega
      obtain ⟨A, cc, e3, hA, d0, d1, hin⟩ := so_at HP.out hlt
      cases e3
      have HK := HU.out.go HB.out H.out.2.below
      replace d0 := (HK.cell (tcell_block d0)).trans d0
      replace d1 := (HK.cell (tcell_block d1)).trans d1
      have HS := Lib.hid (HL.out k hlt).1
      have HZ := Lib.hid (HL.out k hlt).2
      generalize t[k] = x at *
      generalize Pp.puts l ((t.take k).flatMap Pp.soT) = m at *
      obtain ⟨W1, hW1⟩ : ∃ W1, W1 = wr.alloc (.cells #[.int .u8 (x.kind : Nat), .string x.name] 41) := ⟨_, rfl⟩
      have hn1 : W1.heap[wr.heap.size]? = some (.cells #[.int .u8 (x.kind : Nat), .string x.name] 41 (0, 0)) := by rw [hW1]; exact heap_alloc_new wr _
      obtain ⟨y0, y1⟩ := cells2 hn1
      have H1 : Hid (LnIs B b m W1) := Lib.hid (by rw [hW1]; exact H.out.1.alloc _)
      have K1 : Hid (LnK B b w W1) := Lib.hid (by rw [hW1]; exact H.out.2.alloc H.out.1.size _)
      clear hn1 hA hin HK H
      go_upto_region 3 with fail
      rw [← hW1]
      clear hW1 d0 d1
      generalize wr.heap.size = g at *
      by_cases hx : x.kind = 7
      · have j1 : (((x.kind : Nat) : Int) == 7) = true := by rw [beq_iff_eq]; omega
        have HX : Hid (Pp.soW x = x.name) := Lib.hid (by unfold Pp.soW; rw [if_pos hx])
        clear hx
        rw [HX.out] at HS HZ
        go_wp2_with fail
        refine (put_row [x.name] H1.out HZ.out (by simp)).mono ?_
        rintro e w2 ⟨rfl, h2, k2⟩
        have H2 := Lib.hid h2
        have K2 := Lib.hid (K1.out.trans k2)
        clear h2 k2
        go_wp2_with fail
        go_roundw
        case rel => exact ⟨k + 1, by omega, by go_num, Lib.hid ⟨by rw [HS.out]; exact H2.out, K2.out⟩⟩
        case measure => simp [intOf]; omega
      · have j1 : (((x.kind : Nat) : Int) == 7) = false := by rw [beq_eq_false_iff_ne]; omega
        have HX : Hid (Pp.soW x = Pp.kw x.kind) := Lib.hid (by unfold Pp.soW; rw [if_neg hx])
        clear hx
        rw [HX.out] at HS HZ
        go_wp2_with fail
        refine (keyword_any x.kind W1).mono ?_
        rintro e w2 ⟨rfl, hw2⟩
        obtain rfl := hw2
        go_wp2_with fail
        refine (put_row [Pp.kw x.kind] H1.out HZ.out (by simp)).mono ?_
        rintro e w2 ⟨rfl, h2, k2⟩
        have H2 := Lib.hid h2
        have K2 := Lib.hid (K1.out.trans k2)
        clear h2 k2
        go_wp2_with fail
        go_roundw
        case rel => exact ⟨k + 1, by omega, by go_num, Lib.hid ⟨by rw [HS.out]; exact H2.out, K2.out⟩⟩
        case measure => simp [intOf]; omega
    · obtain rfl : k = t.length := by omega
      have i1 : ¬ (t.length : Int) < (t.length : Int) := by omega
      have H9 := Lib.hid H.out
      rw [List.take_length] at H9
      go_wp2_with fail
      go_end0
      exact ⟨rfl, H9.out.1, H9.out.2⟩
end Go.Proofs.YtnkdhmoocomjfaaGreatDoor
set_option linter.unusedSimpArgs false
set_option linter.unusedVariables false
namespace Go.Proofs.YtnkdhmoocomjfaaGreatDoor
open Go.RowKit
theorem ln_box {w W : World} {B b : Nat} {l : List UInt8} {c : Array Value} {T : TypeId} (h : LnIs B b l w) (hW : W = w.alloc (.cells c T)) (hT : T ≠ 5) : LnIs B b l W ∧ LnK B b w W ∧ ∀ X, LnK B b W X → X.heap[w.heap.size]? = some (.cells c T (0, 0)) := by
  subst hW
  exact ⟨h.alloc _, (LnK.refl _ _ _).alloc h.size _, fun X hX => hX.box (heap_alloc_new w _) (by have := h.lt; omega) hT⟩
set_option maxRecDepth 100000 in
set_option maxHeartbeats 16000000 in
theorem lnRecord_any {u w : World} {B b : Nat} {l : List UInt8} {x : Ip.Rcd} {p : Option Addr} {c : Nat} (h : LnIs B b l w) (hp : RoFld u (.slice p x.fields.length c) x.fields) (hu : Kp u w) (hB : u.heap.size ≤ B) (hlen : l.length + Pp.cost (Pp.rcdT x) ≤ 140737488355328) :
    Calls Tryz.prog 112 #[.pointer (some ⟨b, 0, none⟩), .agg #[.string x.name, .bool x.choice, .slice p x.fields.length c]] w fun e w' => e = .returned (.tuple #[]) ∧ LnIs B b (Pp.puts l (Pp.rcdT x)) w' ∧ LnK B b w w' := by
  obtain ⟨_, _, e9, hsl⟩ := ro_len hp
  cases e9
  have HP := Lib.hid hp
  have HU := Lib.hid hu
  have HB := Lib.hid hB
  unfold Pp.rcdT at hlen
  obtain ⟨z', z3⟩ := Pp.room hlen
  obtain ⟨z'', z2⟩ := Pp.room z'
  obtain ⟨z0, z1⟩ := Pp.room z''
  have HE : Hid (Pp.puts l (Pp.rcdT x) = Pp.puts (Pp.puts (Pp.puts (Pp.puts l [Pp.rcdK x]) [x.name, Ip.sOpen]) (x.fields.flatMap Pp.fldT)) [Ip.sShut]) := Lib.hid (by unfold Pp.rcdT; rw [Pp.puts_append, Pp.puts_append, Pp.puts_append])
  simp only [Pp.puts_append] at z2 z3
  clear hlen z' z'' hp hu hB
  obtain ⟨W1, hW1⟩ : ∃ W1, W1 = w.alloc (.cells #[.string x.name, .bool x.choice, .slice p x.fields.length c] 34) := ⟨_, rfl⟩
  obtain ⟨h1, k1, hX⟩ := ln_box h hW1 (by decide)
  have H1 := Lib.hid h1
  have K1 := Lib.hid k1
  have HX := Lib.hid hX
  obtain ⟨y0, y1, y2⟩ := cells3 (hX W1 (LnK.refl _ _ _))
  clear h h1 k1 hX
  cases hc : x.choice with
  | true =>
    have e0 : Pp.rcdK x = Ip.kChoice := by unfold Pp.rcdK; rw [hc]; rfl
    rw [e0] at z0 z1 z2 z3 HE
    rw [hc] at hW1 y1 HX
    have Z0 := Lib.hid z0
    have Z1 := Lib.hid z1
    have Z2 := Lib.hid z2
    have Z3 := Lib.hid z3
    clear z0 z1 z2 z3 e0 hc
    go_enter Tryz.func112, Tryz.ntmps112
    go_upto_region 1 with fail
    rw [← hW1]
    clear hW1
    generalize w.heap.size = g at *
    go_wp2_with fail
    clear y0 y1 y2
    refine (put_row [Ip.kChoice] H1.out Z0.out (by simp)).mono ?_
    rintro e w2 ⟨rfl, h2, k2⟩
    have H2 := Lib.hid h2
    obtain ⟨y0, y1, y2⟩ := cells3 (HX.out _ k2)
    have K2 := Lib.hid k2
    clear h2 k2
    go_wp2_with fail
    clear y0 y1 y2
    refine (put_row [x.name, Ip.sOpen] H2.out Z1.out (by simp)).mono ?_
    rintro e w3 ⟨rfl, h3, k3⟩
    have H3 := Lib.hid h3
    have K3 := Lib.hid (K2.out.trans k3)
    obtain ⟨y0, y1, y2⟩ := cells3 (HX.out _ K3.out)
    clear h3 k3
    generalize Pp.puts (Pp.puts l [Ip.kChoice]) [x.name, Ip.sOpen] = m2 at *
    have HL : Hid (∀ k, (hk : k < x.fields.length) → Pp.puts m2 ((x.fields.take (k + 1)).flatMap Pp.fldT) = Pp.puts (Pp.puts m2 ((x.fields.take k).flatMap Pp.fldT)) (Pp.fldT x.fields[k]) ∧ (Pp.puts m2 ((x.fields.take k).flatMap Pp.fldT)).length + Pp.cost (Pp.fldT x.fields[k]) ≤ 140737488355328) := Lib.hid fun k hk =>
      ⟨Pp.puts_step Pp.fldT m2 x.fields hk, Nat.le_trans (Pp.step_len Pp.fldT m2 x.fields hk) Z2.out⟩
    go_wp2_with fail
    clear y0 y1 y2
    go_loopw [5, 22] (fun _ kv wr => ∃ k : Nat, k ≤ x.fields.length ∧ kv = .int .i64 (k : Nat) ∧ Hid (LnIs B b (Pp.puts m2 ((x.fields.take k).flatMap Pp.fldT)) wr ∧ LnK B b W1 wr)) (fun _ kv _ => x.fields.length - (intOf kv).toNat)
    case atStart => exact ⟨0, Nat.zero_le _, rfl, Lib.hid ⟨H3.out, K3.out⟩⟩
    case round =>
      obtain ⟨k, hk, rfl, H⟩ := hrel
      by_cases hlt : k < x.fields.length
      · have i1 : (k : Int) < (x.fields.length : Int) := by omega
        have i2 : (0 : Int) ≤ (k : Int) := by omega
        obtain ⟨A, cc, q, kq, e3, hA, d0, d1, hin, hso, hso2⟩ := fld_at HP.out hlt
        cases e3
        have HK := HU.out.go HB.out (K1.out.trans H.out.2).below
        replace d0 := (HK.cell (tcell_block d0)).trans d0
        replace d1 := (HK.cell (tcell_block d1)).trans d1
        have HS := Lib.hid (HL.out k hlt).1
        have hz := (HL.out k hlt).2
        have HSO := Lib.hid hso
        generalize x.fields[k] = f at *
        generalize Pp.puts m2 ((x.fields.take k).flatMap Pp.fldT) = m at *
        unfold Pp.fldT at hz
        obtain ⟨z', z6⟩ := Pp.room hz
        obtain ⟨z4, z5⟩ := Pp.room z'
        simp only [Pp.puts_append] at z5 z6
        have Z4 := Lib.hid z4
        have Z5 := Lib.hid z5
        have Z6 := Lib.hid z6
        have HF : Hid (Pp.puts m (Pp.fldT f) = Pp.puts (Pp.puts (Pp.puts m [f.name, Ip.sColon]) (f.type.flatMap Pp.soT)) [Ip.sSemi]) := Lib.hid (by unfold Pp.fldT; rw [Pp.puts_append, Pp.puts_append])
        obtain ⟨W4, hW4⟩ : ∃ W4, W4 = wr.alloc (.cells #[.string f.name, .slice q f.type.length kq] 39) := ⟨_, rfl⟩
        obtain ⟨h4, k4, hX4⟩ := ln_box H.out.1 hW4 (by decide)
        have H4 := Lib.hid h4
        have K4 := Lib.hid (H.out.2.trans k4)
        have HX4 := Lib.hid hX4
        have HKU := Lib.hid HK
        obtain ⟨y0, y1⟩ := cells2 (hX4 W4 (LnK.refl _ _ _))
        clear h4 k4 hX4 z4 z5 z6 z' hz hA hin hso HK H
        go_upto_region 8 with fail
        rw [← hW4]
        clear hW4 d0 d1
        generalize wr.heap.size = g4 at *
        go_wp2_with fail
        clear y0 y1
        refine (put_row [f.name, Ip.sColon] H4.out Z4.out (by simp)).mono ?_
        rintro e w5 ⟨rfl, h5, k5⟩
        have H5 := Lib.hid h5
        obtain ⟨y0, y1⟩ := cells2 (HX4.out _ k5)
        have K5 := Lib.hid (K4.out.trans k5)
        clear h5 k5
        go_wp2_with fail
        clear y0 y1
        refine (lnSorts_any H5.out HSO.out (HU.out.go HB.out (K1.out.trans K5.out).below) HB.out Z5.out).mono ?_
        rintro e w6 ⟨rfl, h6, k6⟩
        have H6 := Lib.hid h6
        have K6 := Lib.hid (K5.out.trans k6)
        clear h6 k6
        go_wp2_with fail
        refine (put_row [Ip.sSemi] H6.out Z6.out (by simp)).mono ?_
        rintro e w7 ⟨rfl, h7, k7⟩
        have H7 := Lib.hid h7
        have K7 := Lib.hid (K6.out.trans k7)
        clear h7 k7
        go_wp2_with fail
        go_roundw
        case rel => exact ⟨k + 1, by omega, by go_num, Lib.hid ⟨by rw [HS.out, HF.out]; exact H7.out, K7.out⟩⟩
        case measure => simp [intOf]; omega
      · obtain rfl : k = x.fields.length := by omega
        have i1 : ¬ (x.fields.length : Int) < (x.fields.length : Int) := by omega
        have H9 := Lib.hid H.out
        rw [List.take_length] at H9
        go_wp2_with fail
        refine (put_row [Ip.sShut] H9.out.1 Z3.out (by simp)).mono ?_
        rintro e w8 ⟨rfl, h8, k8⟩
        have H8 := Lib.hid h8
        have K8 := Lib.hid (K1.out.trans (H9.out.2.trans k8))
        clear h8 k8
        go_wp2_with fail
        go_end0
        exact ⟨rfl, by rw [HE.out]; exact H8.out, K8.out⟩
  | false =>
    have e0 : Pp.rcdK x = Ip.kRecord := by unfold Pp.rcdK; rw [hc]; rfl
    rw [e0] at z0 z1 z2 z3 HE
    rw [hc] at hW1 y1 HX
    have Z0 := Lib.hid z0
    have Z1 := Lib.hid z1
    have Z2 := Lib.hid z2
    have Z3 := Lib.hid z3
    clear z0 z1 z2 z3 e0 hc
    go_enter Tryz.func112, Tryz.ntmps112
    go_upto_region 1 with fail
    rw [← hW1]
    clear hW1
    generalize w.heap.size = g at *
    go_wp2_with fail
    clear y0 y1 y2
    refine (put_row [Ip.kRecord] H1.out Z0.out (by simp)).mono ?_
    rintro e w2 ⟨rfl, h2, k2⟩
    have H2 := Lib.hid h2
    obtain ⟨y0, y1, y2⟩ := cells3 (HX.out _ k2)
    have K2 := Lib.hid k2
    clear h2 k2
    go_wp2_with fail
    clear y0 y1 y2
    refine (put_row [x.name, Ip.sOpen] H2.out Z1.out (by simp)).mono ?_
    rintro e w3 ⟨rfl, h3, k3⟩
    have H3 := Lib.hid h3
    have K3 := Lib.hid (K2.out.trans k3)
    obtain ⟨y0, y1, y2⟩ := cells3 (HX.out _ K3.out)
    clear h3 k3
    generalize Pp.puts (Pp.puts l [Ip.kRecord]) [x.name, Ip.sOpen] = m2 at *
    have HL : Hid (∀ k, (hk : k < x.fields.length) → Pp.puts m2 ((x.fields.take (k + 1)).flatMap Pp.fldT) = Pp.puts (Pp.puts m2 ((x.fields.take k).flatMap Pp.fldT)) (Pp.fldT x.fields[k]) ∧ (Pp.puts m2 ((x.fields.take k).flatMap Pp.fldT)).length + Pp.cost (Pp.fldT x.fields[k]) ≤ 140737488355328) := Lib.hid fun k hk =>
      ⟨Pp.puts_step Pp.fldT m2 x.fields hk, Nat.le_trans (Pp.step_len Pp.fldT m2 x.fields hk) Z2.out⟩
    go_wp2_with fail
    clear y0 y1 y2
    go_loopw [5, 22] (fun _ kv wr => ∃ k : Nat, k ≤ x.fields.length ∧ kv = .int .i64 (k : Nat) ∧ Hid (LnIs B b (Pp.puts m2 ((x.fields.take k).flatMap Pp.fldT)) wr ∧ LnK B b W1 wr)) (fun _ kv _ => x.fields.length - (intOf kv).toNat)
    case atStart => exact ⟨0, Nat.zero_le _, rfl, Lib.hid ⟨H3.out, K3.out⟩⟩
    case round =>
      obtain ⟨k, hk, rfl, H⟩ := hrel
      by_cases hlt : k < x.fields.length
      · have i1 : (k : Int) < (x.fields.length : Int) := by omega
        have i2 : (0 : Int) ≤ (k : Int) := by omega
        obtain ⟨A, cc, q, kq, e3, hA, d0, d1, hin, hso, hso2⟩ := fld_at HP.out hlt
        cases e3
        have HK := HU.out.go HB.out (K1.out.trans H.out.2).below
        replace d0 := (HK.cell (tcell_block d0)).trans d0
        replace d1 := (HK.cell (tcell_block d1)).trans d1
        have HS := Lib.hid (HL.out k hlt).1
        have hz := (HL.out k hlt).2
        have HSO := Lib.hid hso
        generalize x.fields[k] = f at *
        generalize Pp.puts m2 ((x.fields.take k).flatMap Pp.fldT) = m at *
        unfold Pp.fldT at hz
        obtain ⟨z', z6⟩ := Pp.room hz
        obtain ⟨z4, z5⟩ := Pp.room z'
        simp only [Pp.puts_append] at z5 z6
        have Z4 := Lib.hid z4
        have Z5 := Lib.hid z5
        have Z6 := Lib.hid z6
        have HF : Hid (Pp.puts m (Pp.fldT f) = Pp.puts (Pp.puts (Pp.puts m [f.name, Ip.sColon]) (f.type.flatMap Pp.soT)) [Ip.sSemi]) := Lib.hid (by unfold Pp.fldT; rw [Pp.puts_append, Pp.puts_append])
        obtain ⟨W4, hW4⟩ : ∃ W4, W4 = wr.alloc (.cells #[.string f.name, .slice q f.type.length kq] 39) := ⟨_, rfl⟩
        obtain ⟨h4, k4, hX4⟩ := ln_box H.out.1 hW4 (by decide)
        have H4 := Lib.hid h4
        have K4 := Lib.hid (H.out.2.trans k4)
        have HX4 := Lib.hid hX4
        have HKU := Lib.hid HK
        obtain ⟨y0, y1⟩ := cells2 (hX4 W4 (LnK.refl _ _ _))
        clear h4 k4 hX4 z4 z5 z6 z' hz hA hin hso HK H
        go_upto_region 8 with fail
        rw [← hW4]
        clear hW4 d0 d1
        generalize wr.heap.size = g4 at *
        go_wp2_with fail
        clear y0 y1
        refine (put_row [f.name, Ip.sColon] H4.out Z4.out (by simp)).mono ?_
        rintro e w5 ⟨rfl, h5, k5⟩
        have H5 := Lib.hid h5
        obtain ⟨y0, y1⟩ := cells2 (HX4.out _ k5)
        have K5 := Lib.hid (K4.out.trans k5)
        clear h5 k5
        go_wp2_with fail
        clear y0 y1
        refine (lnSorts_any H5.out HSO.out (HU.out.go HB.out (K1.out.trans K5.out).below) HB.out Z5.out).mono ?_
        rintro e w6 ⟨rfl, h6, k6⟩
        have H6 := Lib.hid h6
        have K6 := Lib.hid (K5.out.trans k6)
        clear h6 k6
        go_wp2_with fail
        refine (put_row [Ip.sSemi] H6.out Z6.out (by simp)).mono ?_
        rintro e w7 ⟨rfl, h7, k7⟩
        have H7 := Lib.hid h7
        have K7 := Lib.hid (K6.out.trans k7)
        clear h7 k7
        go_wp2_with fail
        go_roundw
        case rel => exact ⟨k + 1, by omega, by go_num, Lib.hid ⟨by rw [HS.out, HF.out]; exact H7.out, K7.out⟩⟩
        case measure => simp [intOf]; omega
      · obtain rfl : k = x.fields.length := by omega
        have i1 : ¬ (x.fields.length : Int) < (x.fields.length : Int) := by omega
        have H9 := Lib.hid H.out
        rw [List.take_length] at H9
        go_wp2_with fail
        refine (put_row [Ip.sShut] H9.out.1 Z3.out (by simp)).mono ?_
        rintro e w8 ⟨rfl, h8, k8⟩
        have H8 := Lib.hid h8
        have K8 := Lib.hid (K1.out.trans (H9.out.2.trans k8))
        clear h8 k8
        go_wp2_with fail
        go_end0
        exact ⟨rfl, by rw [HE.out]; exact H8.out, K8.out⟩
end Go.Proofs.YtnkdhmoocomjfaaGreatDoor
set_option linter.unusedSimpArgs false
set_option linter.unusedVariables false
namespace Go.Proofs.YtnkdhmoocomjfaaGreatDoor
open Go.RowKit
set_option maxRecDepth 100000 in
set_option maxHeartbeats 16000000 in
theorem lnService_any {u w : World} {B b : Nat} {l : List UInt8} {x : Ip.Srv} {p : Option Addr} {c : Nat} (h : LnIs B b l w) (hp : RoMth u (.slice p x.methods.length c) x.methods) (hu : Kp u w) (hB : u.heap.size ≤ B) (hlen : l.length + Pp.cost (Pp.srvT x) ≤ 140737488355328) :
    Calls Tryz.prog 113 #[.pointer (some ⟨b, 0, none⟩), .agg #[.string x.name, .slice p x.methods.length c]] w fun e w' => e = .returned (.tuple #[]) ∧ LnIs B b (Pp.puts l (Pp.srvT x)) w' ∧ LnK B b w w' := by
  obtain ⟨_, _, e9, hsl⟩ := ro_len hp
  cases e9
  have HP := Lib.hid hp
  have HU := Lib.hid hu
  have HB := Lib.hid hB
  unfold Pp.srvT at hlen
  obtain ⟨z', z3⟩ := Pp.room hlen
  obtain ⟨z1, z2⟩ := Pp.room z'
  have HE : Hid (Pp.puts l (Pp.srvT x) = Pp.puts (Pp.puts (Pp.puts l [Ip.kService, x.name, Ip.sOpen]) (x.methods.flatMap Pp.mthT)) [Ip.sShut]) := Lib.hid (by unfold Pp.srvT; rw [Pp.puts_append, Pp.puts_append])
  simp only [Pp.puts_append] at z3
  have Z1 := Lib.hid z1
  have Z2 := Lib.hid z2
  have Z3 := Lib.hid z3
  clear hlen z' hp hu hB z1 z2 z3
  obtain ⟨W1, hW1⟩ : ∃ W1, W1 = w.alloc (.cells #[.string x.name, .slice p x.methods.length c] 98) := ⟨_, rfl⟩
  obtain ⟨h1, k1, hX⟩ := ln_box h hW1 (by decide)
  have H1 := Lib.hid h1
  have K1 := Lib.hid k1
  have HX := Lib.hid hX
  obtain ⟨y0, y1⟩ := cells2 (hX W1 (LnK.refl _ _ _))
  clear h h1 k1 hX
  go_enter Tryz.func113, Tryz.ntmps113
  go_upto_region 1 with fail
  rw [← hW1]
  clear hW1
  generalize w.heap.size = g at *
  go_wp2_with fail
  clear y0 y1
  refine (put_row [Ip.kService, x.name, Ip.sOpen] H1.out Z1.out (by simp)).mono ?_
  rintro e w3 ⟨rfl, h3, k3⟩
  have H3 := Lib.hid h3
  have K3 := Lib.hid k3
  obtain ⟨y0, y1⟩ := cells2 (HX.out _ k3)
  clear h3 k3
  generalize Pp.puts l [Ip.kService, x.name, Ip.sOpen] = m2 at *
  have HL : Hid (∀ k, (hk : k < x.methods.length) → Pp.puts m2 ((x.methods.take (k + 1)).flatMap Pp.mthT) = Pp.puts (Pp.puts m2 ((x.methods.take k).flatMap Pp.mthT)) (Pp.mthT x.methods[k]) ∧ (Pp.puts m2 ((x.methods.take k).flatMap Pp.mthT)).length + Pp.cost (Pp.mthT x.methods[k]) ≤ 140737488355328) := Lib.hid fun k hk =>
    ⟨Pp.puts_step Pp.mthT m2 x.methods hk, Nat.le_trans (Pp.step_len Pp.mthT m2 x.methods hk) Z2.out⟩
  go_wp2_with fail
  clear y0 y1
  go_loopw [5, 14] (fun _ kv wr => ∃ k : Nat, k ≤ x.methods.length ∧ kv = .int .i64 (k : Nat) ∧ Hid (LnIs B b (Pp.puts m2 ((x.methods.take k).flatMap Pp.mthT)) wr ∧ LnK B b W1 wr)) (fun _ kv _ => x.methods.length - (intOf kv).toNat)
  case atStart => exact ⟨0, Nat.zero_le _, rfl, Lib.hid ⟨H3.out, K3.out⟩⟩
  case round =>
    obtain ⟨k, hk, rfl, H⟩ := hrel
    by_cases hlt : k < x.methods.length
    · have i1 : (k : Int) < (x.methods.length : Int) := by omega
      have i2 : (0 : Int) ≤ (k : Int) := by omega
      obtain ⟨A, cc, e3, hA, d0, d1, d2, d3, d4, hin⟩ := mth_at HP.out hlt
      cases e3
      have HK := HU.out.go HB.out (K1.out.trans H.out.2).below
      replace d0 := (HK.cell (tcell_block d0)).trans d0
      replace d1 := (HK.cell (tcell_block d1)).trans d1
      replace d2 := (HK.cell (tcell_block d2)).trans d2
      replace d3 := (HK.cell (tcell_block d3)).trans d3
      replace d4 := (HK.cell (tcell_block d4)).trans d4
      have HS := Lib.hid (HL.out k hlt).1
      have hz := (HL.out k hlt).2
      generalize x.methods[k] = f at *
      generalize Pp.puts m2 ((x.methods.take k).flatMap Pp.mthT) = m at *
      unfold Pp.mthT at hz
      obtain ⟨z', z6⟩ := Pp.room hz
      obtain ⟨z4, z5⟩ := Pp.room z'
      simp only [Pp.puts_append] at z6
      have Z4 := Lib.hid z4
      have Z5 := Lib.hid z5
      have Z6 := Lib.hid z6
      have HF : Hid (Pp.puts m (Pp.mthT f) = Pp.puts (Pp.puts (Pp.puts m [f.effect, f.name, Ip.sIn, f.arg, Ip.sOut, Ip.sArrow, Pp.kw f.result]) (Pp.undoT f.undo)) [Ip.sSemi]) := Lib.hid (by unfold Pp.mthT; rw [Pp.puts_append, Pp.puts_append])
      obtain ⟨W4, hW4⟩ : ∃ W4, W4 = wr.alloc (.cells #[.string f.name, .string f.arg, .int .u8 (f.result : Nat), .string f.effect, .string f.undo] 100) := ⟨_, rfl⟩
      obtain ⟨h4, k4, hX4⟩ := ln_box H.out.1 hW4 (by decide)
      have H4 := Lib.hid h4
      have K4 := Lib.hid (H.out.2.trans k4)
      generalize hg4 : wr.heap.size = g4 at *
      have HX4 := Lib.hid hX4
      have HC4 : Hid (∀ X, LnK B b W4 X → X.cell? ⟨g4, 0, none⟩ = some (.string f.name) ∧ X.cell? ⟨g4, 1, none⟩ = some (.string f.arg) ∧ X.cell? ⟨g4, 2, none⟩ = some (.int .u8 (f.result : Nat)) ∧ X.cell? ⟨g4, 3, none⟩ = some (.string f.effect) ∧ LnK B b W4 X) := Lib.hid fun X hX => by
        obtain ⟨a0, a1, a2, a3, a4⟩ := cells5 (HX4.out X hX)
        exact ⟨a0, a1, a2, a3, hX⟩
      clear h4 k4 hX4 z4 z5 z6 z' hz hA hin HK H
      go_upto_region 5 with fail
      rw [← hW4]
      clear hW4 hg4 d0 d1 d2 d3 d4
      have HD := Lib.hid H4.out.drew
      have HR := Lib.hid (LnK.refl B b W4).drew
      have HA : Hid (∀ o, LnK B b W4 (W4.drew.alloc o)) := Lib.hid fun o => HR.out.alloc HD.out.size o
      go_cut [] from 18 to 29 (fun wx => Hid (LnIs B b (Pp.puts m [f.effect, f.name, Ip.sIn, f.arg, Ip.sOut, Ip.sArrow, Pp.kw f.result]) wx ∧ LnK B b W4 wx))
      case first =>
        go_region_held_law (fun X => X.cell? ⟨g4, 0, none⟩ = some (.string f.name) ∧ X.cell? ⟨g4, 1, none⟩ = some (.string f.arg) ∧ X.cell? ⟨g4, 2, none⟩ = some (.int .u8 (f.result : Nat)) ∧ X.cell? ⟨g4, 3, none⟩ = some (.string f.effect) ∧ LnK B b W4 X)
          (first | exact HC4.out _ HR.out | exact HC4.out _ (HA.out _) | exact HC4.out _ (HR.out.trans k5))
          (first
            | (go_at_call 155; refine (keyword_any f.result _).mono ?_; rintro e w5 ⟨rfl, hw5⟩; obtain rfl := hw5)
            | (go_at_call 111; refine (put_row [f.effect, f.name, Ip.sIn, f.arg, Ip.sOut, Ip.sArrow, Pp.kw f.result] HD.out Z4.out (by simp)).mono ?_; rintro e w5 ⟨rfl, h5, k5⟩)
            | fail)
        all_goals
          go_wp2_with fail
          go_meet
          exact Lib.hid ⟨h5, HR.out.trans k5⟩
      case rest =>
      obtain ⟨h5, k5⟩ := hcut.out
      have H5 := Lib.hid h5
      have K5 := Lib.hid k5
      obtain ⟨y0, y1, y2, y3, y4⟩ := cells5 (HX4.out _ k5)
      clear h5 k5 hcut
      by_cases hu : f.undo = ⟨#[]⟩
      · have HU0 : Hid (Pp.undoT f.undo = []) := Lib.hid (by unfold Pp.undoT; rw [if_pos hu])
        rw [HU0.out] at HF Z5 Z6
        rw [hu] at y4
        clear hu
        go_wp2_with fail
        clear y0 y1 y2 y3 y4
        refine (put_row [Ip.sSemi] H5.out Z6.out (by simp)).mono ?_
        rintro e w7 ⟨rfl, h7, k7⟩
        have H7 := Lib.hid h7
        have K7 := Lib.hid (K4.out.trans (K5.out.trans k7))
        clear h7 k7
        go_wp2_with fail
        go_roundw
        case rel => exact ⟨k + 1, by omega, by go_num, Lib.hid ⟨by rw [HS.out, HF.out]; exact H7.out, K7.out⟩⟩
        case measure => simp [intOf]; omega
      · have HU0 : Hid (Pp.undoT f.undo = [Ip.kUndo, f.undo]) := Lib.hid (by unfold Pp.undoT; rw [if_neg hu])
        have ju : f.undo.toList.isEmpty = false := by
          rw [Go.Lib.toList_data, List.isEmpty_eq_false_iff]; intro e; exact hu (Ip.eqB_iff.1 (by unfold Ip.eqB; rw [e]; rfl))
        rw [HU0.out] at HF Z5 Z6
        clear hu
        go_wp2_with fail
        clear y0 y1 y2 y3 y4
        refine (put_row [Ip.kUndo, f.undo] H5.out Z5.out (by simp)).mono ?_
        rintro e w6 ⟨rfl, h6, k6⟩
        have H6 := Lib.hid h6
        have K6 := Lib.hid (K5.out.trans k6)
        clear h6 k6
        go_wp2_with fail
        refine (put_row [Ip.sSemi] H6.out Z6.out (by simp)).mono ?_
        rintro e w7 ⟨rfl, h7, k7⟩
        have H7 := Lib.hid h7
        have K7 := Lib.hid (K4.out.trans (K6.out.trans k7))
        clear h7 k7
        go_wp2_with fail
        go_roundw
        case rel => exact ⟨k + 1, by omega, by go_num, Lib.hid ⟨by rw [HS.out, HF.out]; exact H7.out, K7.out⟩⟩
        case measure => simp [intOf]; omega
    · obtain rfl : k = x.methods.length := by omega
      have i1 : ¬ (x.methods.length : Int) < (x.methods.length : Int) := by omega
      have H9 := Lib.hid H.out
      rw [List.take_length] at H9
      go_wp2_with fail
      refine (put_row [Ip.sShut] H9.out.1 Z3.out (by simp)).mono ?_
      rintro e w8 ⟨rfl, h8, k8⟩
      have H8 := Lib.hid h8
      have K8 := Lib.hid (K1.out.trans (H9.out.2.trans k8))
      clear h8 k8
      go_wp2_with fail
      go_end0
      exact ⟨rfl, by rw [HE.out]; exact H8.out, K8.out⟩
end Go.Proofs.YtnkdhmoocomjfaaGreatDoor
set_option linter.unusedSimpArgs false
set_option linter.unusedVariables false
namespace Go.Proofs.YtnkdhmoocomjfaaGreatDoor
open Go.RowKit
set_option maxRecDepth 100000 in
set_option maxHeartbeats 16000000 in
theorem lnSaga_any {u w : World} {B b : Nat} {l : List UInt8} {x : Ip.Sga} {p : Option Addr} {c : Nat} (h : LnIs B b l w) (hp : RoStp u (.slice p x.steps.length c) x.steps) (hu : Kp u w) (hB : u.heap.size ≤ B) (hat : ∀ s ∈ x.steps, 0 ≤ s.at_ ∧ s.at_ ≤ 3) (hlen : l.length + Pp.cost (Pp.sgaT x) ≤ 140737488355328) :
    Calls Tryz.prog 114 #[.pointer (some ⟨b, 0, none⟩), .agg #[.string x.name, .string x.arg, .slice p x.steps.length c]] w fun e w' => e = .returned (.tuple #[]) ∧ LnIs B b (Pp.puts l (Pp.sgaT x)) w' ∧ LnK B b w w' := by
  obtain ⟨_, _, e9, hsl⟩ := ro_len hp
  cases e9
  have HP := Lib.hid hp
  have HU := Lib.hid hu
  have HB := Lib.hid hB
  have HAT := Lib.hid hat
  unfold Pp.sgaT at hlen
  obtain ⟨z', z3⟩ := Pp.room hlen
  obtain ⟨z1, z2⟩ := Pp.room z'
  have HE : Hid (Pp.puts l (Pp.sgaT x) = Pp.puts (Pp.puts (Pp.puts l [Ip.kSaga, x.name, Ip.sIn, x.arg, Ip.sOut, Ip.sOpen]) (x.steps.flatMap Pp.stpT)) [Ip.sShut]) := Lib.hid (by unfold Pp.sgaT; rw [Pp.puts_append, Pp.puts_append])
  simp only [Pp.puts_append] at z3
  have Z1 := Lib.hid z1
  have Z2 := Lib.hid z2
  have Z3 := Lib.hid z3
  clear hlen z' hp hu hB z1 z2 z3 hat
  obtain ⟨W1, hW1⟩ : ∃ W1, W1 = w.alloc (.cells #[.string x.name, .string x.arg, .slice p x.steps.length c] 44) := ⟨_, rfl⟩
  obtain ⟨h1, k1, hX⟩ := ln_box h hW1 (by decide)
  have H1 := Lib.hid h1
  have K1 := Lib.hid k1
  have HX := Lib.hid hX
  obtain ⟨y0, y1, y2⟩ := cells3 (hX W1 (LnK.refl _ _ _))
  clear h h1 k1 hX
  go_enter Tryz.func114, Tryz.ntmps114
  go_upto_region 1 with fail
  rw [← hW1]
  clear hW1
  generalize w.heap.size = g at *
  go_wp2_with fail
  clear y0 y1 y2
  refine (put_row [Ip.kSaga, x.name, Ip.sIn, x.arg, Ip.sOut, Ip.sOpen] H1.out Z1.out (by simp)).mono ?_
  rintro e w3 ⟨rfl, h3, k3⟩
  have H3 := Lib.hid h3
  have K3 := Lib.hid k3
  obtain ⟨y0, y1, y2⟩ := cells3 (HX.out _ k3)
  clear h3 k3
  generalize Pp.puts l [Ip.kSaga, x.name, Ip.sIn, x.arg, Ip.sOut, Ip.sOpen] = m2 at *
  have HL : Hid (∀ k, (hk : k < x.steps.length) → Pp.puts m2 ((x.steps.take (k + 1)).flatMap Pp.stpT) = Pp.puts (Pp.puts m2 ((x.steps.take k).flatMap Pp.stpT)) (Pp.stpT x.steps[k]) ∧ (Pp.puts m2 ((x.steps.take k).flatMap Pp.stpT)).length + Pp.cost (Pp.stpT x.steps[k]) ≤ 140737488355328) := Lib.hid fun k hk =>
    ⟨Pp.puts_step Pp.stpT m2 x.steps hk, Nat.le_trans (Pp.step_len Pp.stpT m2 x.steps hk) Z2.out⟩
  go_wp2_with fail
  clear y0 y1 y2
  go_loopw [5, 16] (fun _ kv wr => ∃ k : Nat, k ≤ x.steps.length ∧ kv = .int .i64 (k : Nat) ∧ Hid (LnIs B b (Pp.puts m2 ((x.steps.take k).flatMap Pp.stpT)) wr ∧ LnK B b W1 wr)) (fun _ kv _ => x.steps.length - (intOf kv).toNat)
  case atStart => exact ⟨0, Nat.zero_le _, rfl, Lib.hid ⟨H3.out, K3.out⟩⟩
  case round =>
    obtain ⟨k, hk, rfl, H⟩ := hrel
    by_cases hlt : k < x.steps.length
    · have i1 : (k : Int) < (x.steps.length : Int) := by omega
      have i2 : (0 : Int) ≤ (k : Int) := by omega
      obtain ⟨A, cc, e3, hA, d0, d1, d2, hin⟩ := stp_at HP.out hlt
      cases e3
      have HK := HU.out.go HB.out (K1.out.trans H.out.2).below
      replace d0 := (HK.cell (tcell_block d0)).trans d0
      replace d1 := (HK.cell (tcell_block d1)).trans d1
      replace d2 := (HK.cell (tcell_block d2)).trans d2
      have HS := Lib.hid (HL.out k hlt).1
      have hz := (HL.out k hlt).2
      have hk3 := HAT.out _ (List.getElem_mem hlt)
      generalize x.steps[k] = f at *
      obtain ⟨j, hj⟩ : ∃ j : Nat, f.at_ = (j : Nat) := ⟨f.at_.toNat, by omega⟩
      have hj2 : Pp.stpT f = [Ip.kDo, f.service, Ip.sDot, f.method, Ip.kAt, Ck.num j, Ip.sSemi] := by unfold Pp.stpT; rw [hj]; rfl
      have hj3 : j < 10 := by omega
      rw [hj] at d2
      rw [hj2] at hz HS
      generalize Pp.puts m2 ((x.steps.take k).flatMap Pp.stpT) = m at *
      have Z4 := Lib.hid hz
      obtain ⟨W4, hW4⟩ : ∃ W4, W4 = wr.alloc (.cells #[.string f.service, .string f.method, .int .i64 (j : Nat)] 48) := ⟨_, rfl⟩
      obtain ⟨h4, k4, hX4⟩ := ln_box H.out.1 hW4 (by decide)
      have H4 := Lib.hid h4
      have K4 := Lib.hid (H.out.2.trans k4)
      generalize hg4 : wr.heap.size = g4 at *
      have HX4 := Lib.hid hX4
      have HC4 : Hid (∀ X, LnK B b W4 X → X.cell? ⟨g4, 0, none⟩ = some (.string f.service) ∧ X.cell? ⟨g4, 1, none⟩ = some (.string f.method) ∧ X.cell? ⟨g4, 2, none⟩ = some (.int .i64 (j : Nat)) ∧ LnK B b W4 X) := Lib.hid fun X hX => by
        obtain ⟨a0, a1, a2⟩ := cells3 (HX4.out X hX)
        exact ⟨a0, a1, a2, hX⟩
      have QI := fun W => itoa_any hj3 W
      clear h4 k4 hX4 hz hA hin HK H hj hj2 hk3
      go_upto_region 5 with fail
      rw [← hW4]
      clear hW4 hg4 d0 d1 d2
      have HD := Lib.hid H4.out.drew
      have HR := Lib.hid (LnK.refl B b W4).drew
      have HA : Hid (∀ o, LnK B b W4 (W4.drew.alloc o)) := Lib.hid fun o => HR.out.alloc HD.out.size o
      go_region_held_law (fun X => X.cell? ⟨g4, 0, none⟩ = some (.string f.service) ∧ X.cell? ⟨g4, 1, none⟩ = some (.string f.method) ∧ X.cell? ⟨g4, 2, none⟩ = some (.int .i64 (j : Nat)) ∧ LnK B b W4 X)
        (first | exact HC4.out _ HR.out | exact HC4.out _ (HA.out _) | exact HC4.out _ (HR.out.trans k5))
        (first
          | (go_at_call 135; refine (QI _).mono ?_; rintro e w5 ⟨rfl, hw5⟩; obtain rfl := hw5)
          | (go_at_call 111; refine (put_row [Ip.kDo, f.service, Ip.sDot, f.method, Ip.kAt, Ck.num j, Ip.sSemi] HD.out Z4.out (by simp)).mono ?_; rintro e w5 ⟨rfl, h5, k5⟩)
          | fail)
      all_goals
        have H7 := Lib.hid h5
        have K7 := Lib.hid (K4.out.trans (HR.out.trans k5))
        clear h5 k5
        go_wp2_with fail
        go_roundw
        case rel => exact ⟨k + 1, by omega, by go_num, Lib.hid ⟨by rw [HS.out]; exact H7.out, K7.out⟩⟩
        case measure => simp [intOf]; omega
    · obtain rfl : k = x.steps.length := by omega
      have i1 : ¬ (x.steps.length : Int) < (x.steps.length : Int) := by omega
      have H9 := Lib.hid H.out
      rw [List.take_length] at H9
      go_wp2_with fail
      refine (put_row [Ip.sShut] H9.out.1 Z3.out (by simp)).mono ?_
      rintro e w8 ⟨rfl, h8, k8⟩
      have H8 := Lib.hid h8
      have K8 := Lib.hid (K1.out.trans (H9.out.2.trans k8))
      clear h8 k8
      go_wp2_with fail
      go_end0
      exact ⟨rfl, by rw [HE.out]; exact H8.out, K8.out⟩
end Go.Proofs.YtnkdhmoocomjfaaGreatDoor
set_option linter.unusedSimpArgs false
set_option linter.unusedVariables false
namespace Go.Proofs.YtnkdhmoocomjfaaGreatDoor
open Go.RowKit
set_option maxRecDepth 100000 in
set_option maxHeartbeats 16000000 in
theorem lnSchema_any {u w : World} {sv : Value} {B b : Nat} {l : List UInt8} {s : Ip.Sch} (h : LnIs B b l w) (hs : RoSch u sv s) (hu : Kp u w) (hB : u.heap.size ≤ B) (hat : ∀ g ∈ s.sagas, ∀ s ∈ g.steps, 0 ≤ s.at_ ∧ s.at_ ≤ 3) (hlen : l.length + Pp.cost (Pp.schT s) ≤ 140737488355328) :
    Calls Tryz.prog 58 #[.pointer (some ⟨b, 0, none⟩), sv] w fun e w' => e = .returned (.tuple #[]) ∧ LnIs B b (Pp.puts l (Pp.schT s)) w' ∧ LnK B b w w' := by
  obtain ⟨p1, c1, p2, c2, p3, c3, rfl, hsn, hr, hv, hg, l1, l2, l3⟩ := sch_parts hs
  have HRR := Lib.hid hr
  have HVV := Lib.hid hv
  have HGG := Lib.hid hg
  have HU := Lib.hid hu
  have HB := Lib.hid hB
  have HAT := Lib.hid hat
  unfold Pp.schT at hlen
  obtain ⟨z', z3⟩ := Pp.room hlen
  obtain ⟨z'', z2⟩ := Pp.room z'
  obtain ⟨z0, z1⟩ := Pp.room z''
  have HE : Hid (Pp.puts l (Pp.schT s) = Pp.puts (Pp.puts (Pp.puts (Pp.puts l [Ip.kModule, s.name, Ip.sSemi]) (s.records.flatMap Pp.rcdT)) (s.services.flatMap Pp.srvT)) (s.sagas.flatMap Pp.sgaT)) := Lib.hid (by unfold Pp.schT; rw [Pp.puts_append, Pp.puts_append, Pp.puts_append])
  simp only [Pp.puts_append] at z2 z3
  have Z0 := Lib.hid z0
  have Z1 := Lib.hid z1
  have Z2 := Lib.hid z2
  have Z3 := Lib.hid z3
  clear hs hsn hr hv hg hu hB hat hlen z0 z1 z2 z3 z' z''
  obtain ⟨W1, hW1⟩ : ∃ W1, W1 = w.alloc (.cells #[.string s.name, .slice p1 s.records.length c1, .slice p2 s.services.length c2, .slice p3 s.sagas.length c3] 26) := ⟨_, rfl⟩
  obtain ⟨h1, k1, hX⟩ := ln_box h hW1 (by decide)
  have H1 := Lib.hid h1
  have K1 := Lib.hid k1
  have HX := Lib.hid hX
  obtain ⟨y0, y1, y2, y3⟩ := cells4' (hX W1 (LnK.refl _ _ _))
  clear h h1 k1 hX
  go_enter Tryz.func58, Tryz.ntmps58
  go_upto_region 1 with fail
  rw [← hW1]
  clear hW1
  generalize w.heap.size = g at *
  go_wp2_with fail
  clear y0 y1 y2 y3
  refine (put_row [Ip.kModule, s.name, Ip.sSemi] H1.out Z0.out (by simp)).mono ?_
  rintro e w3 ⟨rfl, h3, k3⟩
  have H3 := Lib.hid h3
  have K3 := Lib.hid k3
  obtain ⟨y0, y1, y2, y3⟩ := cells4' (HX.out _ k3)
  clear h3 k3
  generalize Pp.puts l [Ip.kModule, s.name, Ip.sSemi] = m0 at *
  have HL : Hid (∀ k, (hk : k < s.records.length) → Pp.puts m0 ((s.records.take (k + 1)).flatMap Pp.rcdT) = Pp.puts (Pp.puts m0 ((s.records.take k).flatMap Pp.rcdT)) (Pp.rcdT s.records[k]) ∧ (Pp.puts m0 ((s.records.take k).flatMap Pp.rcdT)).length + Pp.cost (Pp.rcdT s.records[k]) ≤ 140737488355328) := Lib.hid fun k hk =>
    ⟨Pp.puts_step Pp.rcdT m0 s.records hk, Nat.le_trans (Pp.step_len Pp.rcdT m0 s.records hk) Z1.out⟩
  go_wp2_with fail
  clear y0 y1 y2 y3
  go_loopw [5, 18] (fun _ kv wr => ∃ k : Nat, k ≤ s.records.length ∧ kv = .int .i64 (k : Nat) ∧ Hid (LnIs B b (Pp.puts m0 ((s.records.take k).flatMap Pp.rcdT)) wr ∧ LnK B b W1 wr)) (fun _ kv _ => s.records.length - (intOf kv).toNat)
  case atStart => exact ⟨0, Nat.zero_le _, rfl, Lib.hid ⟨H3.out, K3.out⟩⟩
  case round =>
    obtain ⟨k, hk, rfl, H⟩ := hrel
    by_cases hlt : k < s.records.length
    · have i1 : (k : Int) < (s.records.length : Int) := by omega
      have i2 : (0 : Int) ≤ (k : Int) := by omega
      obtain ⟨A, cc, q, kq, e3, hA, d0, d1, d2, hin, hso, hso2⟩ := rcd_at HRR.out hlt
      cases e3
      have HK := HU.out.go HB.out (K1.out.trans H.out.2).below
      replace d0 := (HK.cell (tcell_block d0)).trans d0
      replace d1 := (HK.cell (tcell_block d1)).trans d1
      replace d2 := (HK.cell (tcell_block d2)).trans d2
      have HS := Lib.hid (HL.out k hlt).1
      have Z4 := Lib.hid (HL.out k hlt).2
      have HSO := Lib.hid hso
      generalize s.records[k] = f at *
      generalize Pp.puts m0 ((s.records.take k).flatMap Pp.rcdT) = m at *
      obtain ⟨W4, hW4⟩ : ∃ W4, W4 = wr.alloc (.cells #[.string f.name, .bool f.choice, .slice q f.fields.length kq] 34) := ⟨_, rfl⟩
      obtain ⟨h4, k4, hX4⟩ := ln_box H.out.1 hW4 (by decide)
      have H4 := Lib.hid h4
      have K4 := Lib.hid (H.out.2.trans k4)
      obtain ⟨x0, x1, x2⟩ := cells3 (hX4 W4 (LnK.refl _ _ _))
      clear h4 k4 hX4 hA hin hso HK H
      go_upto_region 5 with fail
      rw [← hW4]
      clear hW4 d0 d1 d2
      generalize wr.heap.size = g4 at *
      go_wp2_with fail
      refine (lnRecord_any H4.out HSO.out (HU.out.go HB.out (K1.out.trans K4.out).below) HB.out Z4.out).mono ?_
      rintro e w5 ⟨rfl, h5, k5⟩
      have H5 := Lib.hid h5
      have K5 := Lib.hid (K4.out.trans k5)
      clear h5 k5
      go_wp2_with fail
      go_roundw
      case rel => exact ⟨k + 1, by omega, by go_num, Lib.hid ⟨by rw [HS.out]; exact H5.out, K5.out⟩⟩
      case measure => simp [intOf]; omega
    · obtain rfl : k = s.records.length := by omega
      have i1 : ¬ (s.records.length : Int) < (s.records.length : Int) := by omega
      have H3_ := Lib.hid H.out.1
      have K3_ := Lib.hid H.out.2
      rw [List.take_length] at H3_
      clear H H3 K3 HL
      have H3 := H3_
      have K3 := K3_
      clear H3_ K3_
      obtain ⟨y0, y1, y2, y3⟩ := cells4' (HX.out _ K3.out)
      generalize Pp.puts m0 (s.records.flatMap Pp.rcdT) = m1 at *
      have HL : Hid (∀ k, (hk : k < s.services.length) → Pp.puts m1 ((s.services.take (k + 1)).flatMap Pp.srvT) = Pp.puts (Pp.puts m1 ((s.services.take k).flatMap Pp.srvT)) (Pp.srvT s.services[k]) ∧ (Pp.puts m1 ((s.services.take k).flatMap Pp.srvT)).length + Pp.cost (Pp.srvT s.services[k]) ≤ 140737488355328) := Lib.hid fun k hk =>
        ⟨Pp.puts_step Pp.srvT m1 s.services hk, Nat.le_trans (Pp.step_len Pp.srvT m1 s.services hk) Z2.out⟩
      go_wp2_with fail
      clear y0 y1 y2 y3
      go_loopw [7, 29] (fun _ kv wr => ∃ k : Nat, k ≤ s.services.length ∧ kv = .int .i64 (k : Nat) ∧ Hid (LnIs B b (Pp.puts m1 ((s.services.take k).flatMap Pp.srvT)) wr ∧ LnK B b W1 wr)) (fun _ kv _ => s.services.length - (intOf kv).toNat)
      case atStart => exact ⟨0, Nat.zero_le _, rfl, Lib.hid ⟨H3.out, K3.out⟩⟩
      case round =>
        obtain ⟨k, hk, rfl, H⟩ := hrel
        by_cases hlt : k < s.services.length
        · have i1 : (k : Int) < (s.services.length : Int) := by omega
          have i2 : (0 : Int) ≤ (k : Int) := by omega
          obtain ⟨A, cc, q, kq, e3, hA, d0, d1, hin, hso, hso2⟩ := srv_at HVV.out hlt
          cases e3
          have HK := HU.out.go HB.out (K1.out.trans H.out.2).below
          replace d0 := (HK.cell (tcell_block d0)).trans d0
          replace d1 := (HK.cell (tcell_block d1)).trans d1
          have HS := Lib.hid (HL.out k hlt).1
          have Z4 := Lib.hid (HL.out k hlt).2
          have HSO := Lib.hid hso
          generalize s.services[k] = f at *
          generalize Pp.puts m1 ((s.services.take k).flatMap Pp.srvT) = m at *
          obtain ⟨W4, hW4⟩ : ∃ W4, W4 = wr.alloc (.cells #[.string f.name, .slice q f.methods.length kq] 98) := ⟨_, rfl⟩
          obtain ⟨h4, k4, hX4⟩ := ln_box H.out.1 hW4 (by decide)
          have H4 := Lib.hid h4
          have K4 := Lib.hid (H.out.2.trans k4)
          obtain ⟨x0, x1⟩ := cells2 (hX4 W4 (LnK.refl _ _ _))
          clear h4 k4 hX4 hA hin hso HK H
          go_upto_region 10 with fail
          rw [← hW4]
          clear hW4 d0 d1
          generalize wr.heap.size = g4 at *
          go_wp2_with fail
          refine (lnService_any H4.out HSO.out (HU.out.go HB.out (K1.out.trans K4.out).below) HB.out Z4.out).mono ?_
          rintro e w5 ⟨rfl, h5, k5⟩
          have H5 := Lib.hid h5
          have K5 := Lib.hid (K4.out.trans k5)
          clear h5 k5
          go_wp2_with fail
          go_roundw
          case rel => exact ⟨k + 1, by omega, by go_num, Lib.hid ⟨by rw [HS.out]; exact H5.out, K5.out⟩⟩
          case measure => simp [intOf]; omega
        · obtain rfl : k = s.services.length := by omega
          have i1 : ¬ (s.services.length : Int) < (s.services.length : Int) := by omega
          have H3_ := Lib.hid H.out.1
          have K3_ := Lib.hid H.out.2
          rw [List.take_length] at H3_
          clear H H3 K3 HL
          have H3 := H3_
          have K3 := K3_
          clear H3_ K3_
          obtain ⟨y0, y1, y2, y3⟩ := cells4' (HX.out _ K3.out)
          generalize Pp.puts m1 (s.services.flatMap Pp.srvT) = m2 at *
          have HL : Hid (∀ k, (hk : k < s.sagas.length) → Pp.puts m2 ((s.sagas.take (k + 1)).flatMap Pp.sgaT) = Pp.puts (Pp.puts m2 ((s.sagas.take k).flatMap Pp.sgaT)) (Pp.sgaT s.sagas[k]) ∧ (Pp.puts m2 ((s.sagas.take k).flatMap Pp.sgaT)).length + Pp.cost (Pp.sgaT s.sagas[k]) ≤ 140737488355328) := Lib.hid fun k hk =>
            ⟨Pp.puts_step Pp.sgaT m2 s.sagas hk, Nat.le_trans (Pp.step_len Pp.sgaT m2 s.sagas hk) Z3.out⟩
          go_wp2_with fail
          clear y0 y1 y2 y3
          go_loopw [9, 40] (fun _ kv wr => ∃ k : Nat, k ≤ s.sagas.length ∧ kv = .int .i64 (k : Nat) ∧ Hid (LnIs B b (Pp.puts m2 ((s.sagas.take k).flatMap Pp.sgaT)) wr ∧ LnK B b W1 wr)) (fun _ kv _ => s.sagas.length - (intOf kv).toNat)
          case atStart => exact ⟨0, Nat.zero_le _, rfl, Lib.hid ⟨H3.out, K3.out⟩⟩
          case round =>
            obtain ⟨k, hk, rfl, H⟩ := hrel
            by_cases hlt : k < s.sagas.length
            · have i1 : (k : Int) < (s.sagas.length : Int) := by omega
              have i2 : (0 : Int) ≤ (k : Int) := by omega
              obtain ⟨A, cc, q, kq, e3, hA, d0, d1, d2, hin, hso, hso2⟩ := sga_at HGG.out hlt
              cases e3
              have HK := HU.out.go HB.out (K1.out.trans H.out.2).below
              replace d0 := (HK.cell (tcell_block d0)).trans d0
              replace d1 := (HK.cell (tcell_block d1)).trans d1
              replace d2 := (HK.cell (tcell_block d2)).trans d2
              have HS := Lib.hid (HL.out k hlt).1
              have Z4 := Lib.hid (HL.out k hlt).2
              have HSO := Lib.hid hso
              have HAF := Lib.hid (HAT.out _ (List.getElem_mem hlt))
              generalize s.sagas[k] = f at *
              generalize Pp.puts m2 ((s.sagas.take k).flatMap Pp.sgaT) = m at *
              obtain ⟨W4, hW4⟩ : ∃ W4, W4 = wr.alloc (.cells #[.string f.name, .string f.arg, .slice q f.steps.length kq] 44) := ⟨_, rfl⟩
              obtain ⟨h4, k4, hX4⟩ := ln_box H.out.1 hW4 (by decide)
              have H4 := Lib.hid h4
              have K4 := Lib.hid (H.out.2.trans k4)
              obtain ⟨x0, x1, x2⟩ := cells3 (hX4 W4 (LnK.refl _ _ _))
              clear h4 k4 hX4 hA hin hso HK H
              go_upto_region 15 with fail
              rw [← hW4]
              clear hW4 d0 d1 d2
              generalize wr.heap.size = g4 at *
              go_wp2_with fail
              refine (lnSaga_any H4.out HSO.out (HU.out.go HB.out (K1.out.trans K4.out).below) HB.out HAF.out Z4.out).mono ?_
              rintro e w5 ⟨rfl, h5, k5⟩
              have H5 := Lib.hid h5
              have K5 := Lib.hid (K4.out.trans k5)
              clear h5 k5
              go_wp2_with fail
              go_roundw
              case rel => exact ⟨k + 1, by omega, by go_num, Lib.hid ⟨by rw [HS.out]; exact H5.out, K5.out⟩⟩
              case measure => simp [intOf]; omega
            · obtain rfl : k = s.sagas.length := by omega
              have i1 : ¬ (s.sagas.length : Int) < (s.sagas.length : Int) := by omega
              have H3_ := Lib.hid H.out.1
              have K3_ := Lib.hid H.out.2
              rw [List.take_length] at H3_
              clear H H3 K3 HL
              have H3 := H3_
              have K3 := K3_
              clear H3_ K3_
              obtain ⟨y0, y1, y2, y3⟩ := cells4' (HX.out _ K3.out)
              go_wp2_with fail
              go_end0
              exact ⟨rfl, by rw [HE.out]; exact H3.out, K1.out.trans K3.out⟩
end Go.Proofs.YtnkdhmoocomjfaaGreatDoor
set_option linter.unusedSimpArgs false
set_option linter.unusedVariables false
namespace Pp
open Ip
theorem kw_size (k : Nat) : (kw k).size ≤ 4 := by
  unfold kw
  split
  · decide
  split
  · decide
  split
  · decide
  split
  · decide
  split
  · decide
  split
  · decide
  decide
theorem soW_size {x : So} (h : x.name.size ≤ 200) : (soW x).size ≤ 200 := by
  unfold soW
  split
  · exact h
  · have := kw_size x.kind; omega
theorem cost_fld {f : Fld} (h : Ck.SmF f) : cost (fldT f) ≤ 9000 := by
  have h1 : cost (f.type.flatMap soT) ≤ f.type.length * 201 := cost_flat soT fun x hx => by
    have := soW_size (h.2.2 x hx); show cost [soW x] ≤ 201; rw [cost_cons, cost_nil]; omega
  have h2 : f.type.length * 201 ≤ 40 * 201 := Nat.mul_le_mul_right _ h.2.1
  have h3 := h.1
  unfold fldT
  rw [cost_append, cost_append, cost_cons, cost_cons, cost_nil, cost_cons, cost_nil, show sColon.size = 1 from rfl, show sSemi.size = 1 from rfl]
  omega
theorem cost_rcd {r : Rcd} (h : Ck.SmR r) : cost (rcdT r) ≤ 400000 := by
  have h1 : cost (r.fields.flatMap fldT) ≤ r.fields.length * 9000 := cost_flat fldT fun x hx => cost_fld (h.2.2 x hx)
  have h2 : r.fields.length * 9000 ≤ 40 * 9000 := Nat.mul_le_mul_right _ h.2.1
  have h3 := h.1
  have h4 : (rcdK r).size ≤ 6 := by unfold rcdK; split <;> decide
  unfold rcdT
  rw [cost_append, cost_append, cost_append, cost_cons, cost_nil, cost_cons, cost_cons, cost_nil, cost_cons, cost_nil, show sOpen.size = 1 from rfl, show sShut.size = 1 from rfl]
  omega
theorem cost_mth {m : Mth} (h : Ck.SmM m) : cost (mthT m) ≤ 2000 := by
  obtain ⟨h1, h2, h3, h4⟩ := h
  have h5 : cost (undoT m.undo) ≤ 300 := by
    unfold undoT
    split
    · decide
    · rw [cost_cons, cost_cons, cost_nil, show kUndo.size = 4 from rfl]; omega
  have h6 := kw_size m.result
  unfold mthT
  rw [cost_append, cost_append]
  simp only [cost_cons, cost_nil, show sIn.size = 1 from rfl, show sOut.size = 1 from rfl, show sArrow.size = 2 from rfl, show sSemi.size = 1 from rfl]
  omega
theorem cost_srv {v : Srv} (h : Ck.SmV v) : cost (srvT v) ≤ 100000 := by
  have h1 : cost (v.methods.flatMap mthT) ≤ v.methods.length * 2000 := cost_flat mthT fun x hx => cost_mth (h.2.2 x hx)
  have h2 : v.methods.length * 2000 ≤ 40 * 2000 := Nat.mul_le_mul_right _ h.2.1
  have h3 := h.1
  unfold srvT
  rw [cost_append, cost_append]
  simp only [cost_cons, cost_nil, show kService.size = 7 from rfl, show sOpen.size = 1 from rfl, show sShut.size = 1 from rfl]
  omega
theorem num_size {k : Nat} (h : k ≤ 3) : (Ck.num k).size ≤ 10 := by
  obtain rfl | rfl | rfl | rfl : k = 0 ∨ k = 1 ∨ k = 2 ∨ k = 3 := by omega
  all_goals decide
theorem cost_stp {p : Stp} (h : Ck.SmP p) (ha : 0 ≤ p.at_ ∧ p.at_ ≤ 3) : cost (stpT p) ≤ 1000 := by
  obtain ⟨h1, h2⟩ := h
  have h3 := num_size (k := p.at_.toNat) (by omega)
  unfold stpT
  simp only [cost_cons, cost_nil, show kDo.size = 2 from rfl, show sDot.size = 1 from rfl, show kAt.size = 2 from rfl, show sSemi.size = 1 from rfl]
  omega
theorem cost_sga {g : Sga} (h : Ck.SmG g) (ha : ∀ p ∈ g.steps, 0 ≤ p.at_ ∧ p.at_ ≤ 3) : cost (sgaT g) ≤ 100000 := by
  obtain ⟨h1, h2, h3, h4⟩ := h
  have h5 : cost (g.steps.flatMap stpT) ≤ g.steps.length * 1000 := cost_flat stpT fun x hx => cost_stp (h4 x hx) (ha x hx)
  have h6 : g.steps.length * 1000 ≤ 40 * 1000 := Nat.mul_le_mul_right _ h3
  unfold sgaT
  rw [cost_append, cost_append]
  simp only [cost_cons, cost_nil, show kSaga.size = 4 from rfl, show sIn.size = 1 from rfl, show sOut.size = 1 from rfl, show sOpen.size = 1 from rfl, show sShut.size = 1 from rfl]
  omega
theorem cost_sch {s : Sch} (h : Ck.Small s) (ha : ∀ g ∈ s.sagas, ∀ p ∈ g.steps, 0 ≤ p.at_ ∧ p.at_ ≤ 3) : cost (schT s) ≤ 100000000 := by
  have h1 : cost (s.records.flatMap rcdT) ≤ s.records.length * 400000 := cost_flat rcdT fun x hx => cost_rcd (h.r x hx)
  have h2 : cost (s.services.flatMap srvT) ≤ s.services.length * 100000 := cost_flat srvT fun x hx => cost_srv (h.v x hx)
  have h3 : cost (s.sagas.flatMap sgaT) ≤ s.sagas.length * 100000 := cost_flat sgaT fun x hx => cost_sga (h.g x hx) (ha x hx)
  have h4 := Nat.mul_le_mul_right 400000 h.nr
  have h5 := Nat.mul_le_mul_right 100000 h.ns
  have h6 := Nat.mul_le_mul_right 100000 h.ng
  have h7 := h.name
  unfold schT
  rw [cost_append, cost_append, cost_append]
  simp only [cost_cons, cost_nil, show kModule.size = 6 from rfl, show sSemi.size = 1 from rfl]
  omega
end Pp
namespace Go.Proofs.YtnkdhmoocomjfaaGreatDoor
open Go.RowKit
set_option maxRecDepth 100000 in
set_option maxHeartbeats 16000000 in
theorem Text_any {u w : World} {sv : Value} {s : Ip.Sch} (h : RoSch u sv s) (hu : Kp u w) (hk : KwIs u) (hS : Ck.Small s) :
    Calls Tryz.prog 22 #[sv] w fun e w' => e = .returned (.tuple #[.string (Pp.text s).1, .int .i64 ((Pp.text s).2 : Nat)]) ∧ Below w.heap.size w w' := by
  obtain ⟨p1, c1, p2, c2, p3, c3, rfl, -, -, -, -, -, -, -⟩ := sch_parts h
  obtain ⟨W0, hW0⟩ : ∃ W0, W0 = allocs w [schO s p1 c1 p2 c2 p3 c3] := ⟨_, rfl⟩
  have HX : Hid (∀ W, Below W0.heap.size W0 W → W.heap[w.heap.size]? = some (schO s p1 c1 p2 c2 p3 c3) ∧ Below w.heap.size w W) := Lib.hid (by subst hW0; exact fun W hW => ⟨allocs_box (i := 0) rfl hW, allocs_on hW⟩)
  obtain ⟨b0, B0⟩ := HX.out W0 (Below.refl _ _)
  obtain ⟨x0, x1, x2, x3⟩ := cells4' b0
  have HU0 := Lib.hid (hu.below B0)
  have H := Lib.hid h
  have HSM := Lib.hid hS
  have HKW := Lib.hid hk
  have HUW := Lib.hid hu
  have HOK := Lib.hid (Ck.check_ok (s := s))
  have HTX : Hid ((Ck.check s).2 ≠ 0 → Pp.text s = (⟨#[]⟩, (Ck.check s).2)) := Lib.hid fun e => by unfold Pp.text; rw [if_pos e]
  have HTL : Hid ((Ck.check s).2 = 0 → 65536 < (Pp.line s).length → Pp.text s = (⟨#[]⟩, 3)) := Lib.hid fun e k => by unfold Pp.text; rw [if_neg (by simpa using e), if_pos k]
  have HTT : Hid ((Ck.check s).2 = 0 → ¬ 65536 < (Pp.line s).length → Pp.text s = (Tk.bs (Pp.line s), 0)) := Lib.hid fun e k => by unfold Pp.text; rw [if_neg (by simpa using e), if_neg k]
  have QC := Lib.hid (Check_any h (hu.below B0) hk hS)
  unfold Checked at QC
  generalize Pp.text s = tx at *
  generalize Ck.check s = ck at *
  obtain ⟨cw, ce⟩ := ck
  simp only at HTX HTL HTT HOK QC
  clear h hk hu b0 B0
  simp only [allocs, schO] at hW0
  go_enter Tryz.func22, Tryz.ntmps22
  go_upto_region 1 with fail
  rw [← hW0]
  clear hW0
  go_wp2_with fail
  clear x0 x1 x2 x3
  refine Calls.mono QC.out ?_
  rintro e w2 ⟨rfl, hb2⟩
  obtain ⟨b2, B2⟩ := HX.out _ hb2
  have HB2 := Lib.hid B2
  obtain ⟨x0, x1, x2, x3⟩ := cells4' b2
  clear hb2 B2
  by_cases hce : ce = 0
  case neg =>
    have j1 : (((ce : Nat) : Int) != 0) = true := by rw [bne_iff_ne]; omega
    have HT := Lib.hid (HTX.out hce)
    clear hce b2
    go_wp2_with fail
    go_ret2
    exact ⟨by rw [HT.out]; rfl, HB2.out⟩
  case pos =>
  subst hce
  have HOKS := Lib.hid (HOK.out.1 rfl)
  have HAT := Lib.hid (Pp.ok_at HOKS.out)
  have HCS := Lib.hid (Pp.cost_sch HSM.out HAT.out)
  obtain ⟨W3, hW3⟩ : ∃ W3, W3 = w2.alloc (.cells #[.pointer none, .slice none 0 0] 92) := ⟨_, rfl⟩
  have HL3 : Hid (LnIs w2.heap.size w2.heap.size [] W3) := Lib.hid (by rw [hW3]; exact LnIs.new w2)
  have HB3 : Hid (Below w2.heap.size w2 W3) := Lib.hid (by rw [hW3]; exact tk_alloc w2 _)
  obtain ⟨z0, z1, z2, z3⟩ := cells4' (box_keep HB3.out b2)
  clear b2
  go_upto_region 5 with fail
  rw [← hW3]
  clear hW3 x0 x1 x2 x3
  go_wp2_with fail
  clear z0 z1 z2 z3
  have HKW2 : Hid (Kp u w2) := Lib.hid (HUW.out.trans (Kp.of_below HB2.out))
  refine (lnSchema_any HL3.out H.out (HKW2.out.below HB3.out) HKW2.out.size HAT.out (by have := HCS.out; simp only [List.length_nil]; omega)).mono ?_
  rintro e w4 ⟨rfl, h4, k4⟩
  have H4 := Lib.hid h4
  have HB4 : Hid (Below w2.heap.size w2 w4) := Lib.hid (HB3.out.trans k4.below)
  clear h4 k4
  go_wp2_with fail
  refine (ln_text H4.out).mono ?_
  rintro e w5 ⟨rfl, hb5⟩
  have HB5 := Lib.hid (HB2.out.trans ((HB4.out.trans hb5).mono HB2.out.size))
  clear hb5
  rw [show Pp.puts [] (Pp.schT s) = Pp.line s from rfl]
  have hlen : (Tk.bs (Pp.line s)).size = (Pp.line s).length := rfl
  by_cases hl : 65536 < (Pp.line s).length
  · have i1 : (65536 : Int) < (((Tk.bs (Pp.line s)).size : Nat) : Int) := by rw [hlen]; omega
    have HT := Lib.hid (HTL.out (by trivial) hl)
    clear hl hlen
    generalize Tk.bs (Pp.line s) = b at *
    go_wp2_with fail
    go_ret2
    exact ⟨by rw [HT.out]; rfl, HB5.out⟩
  · have i1 : ¬ (65536 : Int) < (((Tk.bs (Pp.line s)).size : Nat) : Int) := by rw [hlen]; omega
    have HT := Lib.hid (HTT.out (by trivial) hl)
    clear hl hlen
    generalize Tk.bs (Pp.line s) = b at *
    go_wp2_with fail
    go_ret2
    exact ⟨by rw [HT.out]; rfl, HB5.out⟩
/-- The fingerprint, and the fault's number. -/
def printOf (s : Ip.Sch) : Nat × Nat := if (Pp.text s).2 = 0 then (Sm.fnv (Pp.text s).1.data.toList, 0) else (0, (Pp.text s).2)
set_option maxRecDepth 100000 in
set_option maxHeartbeats 16000000 in
theorem Print_any {u w : World} {sv : Value} {s : Ip.Sch} (h : RoSch u sv s) (hu : Kp u w) (hk : KwIs u) (hS : Ck.Small s) :
    Calls Tryz.prog 24 #[sv] w fun e w' => e = .returned (.tuple #[.int .u64 ((printOf s).1 : Nat), .int .i64 ((printOf s).2 : Nat)]) ∧ Below w.heap.size w w' := by
  obtain ⟨p1, c1, p2, c2, p3, c3, rfl, -, -, -, -, -, -, -⟩ := sch_parts h
  obtain ⟨W0, hW0⟩ : ∃ W0, W0 = allocs w [schO s p1 c1 p2 c2 p3 c3] := ⟨_, rfl⟩
  have HX : Hid (∀ W, Below W0.heap.size W0 W → W.heap[w.heap.size]? = some (schO s p1 c1 p2 c2 p3 c3) ∧ Below w.heap.size w W) := Lib.hid (by subst hW0; exact fun W hW => ⟨allocs_box (i := 0) rfl hW, allocs_on hW⟩)
  obtain ⟨b0, B0⟩ := HX.out W0 (Below.refl _ _)
  obtain ⟨x0, x1, x2, x3⟩ := cells4' b0
  have HT := Lib.hid (Text_any h (hu.below B0) hk hS)
  have HP0 : Hid ((Pp.text s).2 = 0 → printOf s = (Sm.fnv (Pp.text s).1.data.toList, 0)) := Lib.hid fun e => by unfold printOf; rw [if_pos e]
  have HP1 : Hid ((Pp.text s).2 ≠ 0 → printOf s = (0, (Pp.text s).2)) := Lib.hid fun e => by unfold printOf; rw [if_neg e]
  have HLN : Hid ((Pp.text s).1.size ≤ 65536) := Lib.hid (by
    unfold Pp.text
    split
    · exact Nat.zero_le _
    · split
      · exact Nat.zero_le _
      · show (Pp.line s).length ≤ 65536; omega)
  generalize printOf s = pr at *
  generalize Pp.text s = tx at *
  obtain ⟨tt, te⟩ := tx
  simp only at HT HP0 HP1 HLN
  clear h hk hu b0 B0
  simp only [allocs, schO] at hW0
  go_enter Tryz.func24, Tryz.ntmps24
  go_upto_region 1 with fail
  rw [← hW0]
  clear hW0
  go_wp2_with fail
  clear x0 x1 x2 x3
  refine Calls.mono HT.out ?_
  rintro e w2 ⟨rfl, hb2⟩
  have HB2 := Lib.hid (HX.out _ hb2).2
  clear hb2
  by_cases hce : te = 0
  case neg =>
    have j1 : (((te : Nat) : Int) != 0) = true := by rw [bne_iff_ne]; omega
    have HT := Lib.hid (HP1.out hce)
    clear hce
    go_wp2_with fail
    go_ret2
    exact ⟨by rw [HT.out]; rfl, HB2.out⟩
  case pos =>
  subst hce
  have HT := Lib.hid (HP0.out rfl)
  go_wp2_with fail
  refine Calls.mono (long_any tt w2 (by have := HLN.out; unfold maxLen; omega)) ?_
  rintro e w3 ⟨rfl, hw3⟩
  obtain rfl := hw3
  go_wp2_with fail
  go_ret2
  exact ⟨by rw [HT.out]; rfl, HB2.out⟩
/-! ### the laws' schema -/
def smpS : Ip.Sch := ⟨⟨#[109]⟩, [⟨⟨#[82]⟩, false, [⟨⟨#[97]⟩, [⟨5, ⟨#[]⟩⟩, ⟨3, ⟨#[]⟩⟩]⟩]⟩], [], []⟩
def smpL : List UInt8 := [109, 111, 100, 117, 108, 101, 32, 109, 59, 114, 101, 99, 111, 114, 100, 32, 82, 123, 97, 58, 108, 105, 115, 116, 32, 105, 110, 116, 59, 125]
def smpT : List UInt8 := [109, 111, 100, 117, 108, 101, 32, 109, 32, 59, 32, 114, 101, 99, 111, 114, 100, 32, 82, 32, 123, 32, 97, 32, 58, 32, 108, 105, 115, 116, 32, 105, 110, 116, 32, 59, 32, 125]
theorem smp_parse : Ip.parse smpL = (smpS, 0, 0) := by kernel_rfl
theorem smp_text : Pp.text smpS = (⟨smpT.toArray⟩, 0) := by kernel_rfl
theorem smp_print : printOf smpS = (Sm.fnv smpT, 0) := by kernel_rfl
theorem smp_fnv : (Sm.fnv smpT != 0) = true := by kernel_rfl
theorem smp_in : ShpIn smpS := by
  unfold ShpIn RcdIn FldIn SoIn SrvIn MthIn SgaIn StpIn Sm_ I64
  decide +kernel
theorem smp_small : Ck.Small smpS := by
  refine ⟨?_, ?_, ?_, ?_, ?_, ?_, ?_⟩ <;> unfold smpS <;> (try unfold Ck.SmR Ck.SmF) <;> (try unfold Ck.SmV Ck.SmM) <;> (try unfold Ck.SmG Ck.SmP) <;> decide +kernel
/-- A schema that was made of parts that are in bounds reads as one that was handed in. -/
theorem SchV.ro {W : World} {base : Nat} {v : Value} {s : Ip.Sch} (h : SchV W base v s) (hin : ShpIn s) : RoSch W v s := by
  obtain ⟨vr, vs, vg, rfl, h1, h2, h3⟩ := h
  exact ⟨vr, vs, vg, rfl, hin.1, rcds_ro h1 hin.2.1, srvs_ro h2 hin.2.2.1, sgas_ro h3 hin.2.2.2⟩
set_option maxRecDepth 100000 in
set_option maxHeartbeats 16000000 in
theorem wakes14_any (w : World) (hk : KwIs w) : Calls Tryz.prog 21 #[] w fun e w' => e = .returned (.bool true) ∧ Below w.heap.size w w' := by
  have HK := Lib.hid hk
  clear hk
  have QA : ∀ W, Calls Tryz.prog 57 #[.string ⟨smpL.toArray⟩] W (Parsed (smpS, 0, 0) W) := fun W => by
    have q := RefParse_any ⟨smpL.toArray⟩ W (by decide)
    rwa [show (⟨smpL.toArray⟩ : ByteArray).data.toList = smpL from rfl, smp_parse] at q
  unfold smpL at QA
  have QT := fun (u W : World) (v : Value) (h : RoSch u v smpS) (hk : Kp u W) (hkw : KwIs u) => Text_any h hk hkw smp_small
  have QP := fun (u W : World) (v : Value) (h : RoSch u v smpS) (hk : Kp u W) (hkw : KwIs u) => Print_any h hk hkw smp_small
  simp only [smp_text, smp_print] at QT QP
  obtain ⟨fn, hfn⟩ : ∃ fn, fn = Sm.fnv smpT := ⟨_, rfl⟩
  obtain ⟨tb, htb⟩ : ∃ tb : ByteArray, tb = ⟨smpT.toArray⟩ := ⟨_, rfl⟩
  have HF : Hid ((((fn : Nat) : Int) != 0) = true) := Lib.hid (by
    have := smp_fnv
    rw [bne_iff_ne] at this ⊢
    omega)
  have HTT : Hid ((tb.toList == smpT) = true) := Lib.hid (by rw [htb, Go.Lib.toList_data, beq_iff_eq])
  rw [← hfn] at QP
  rw [← htb] at QT
  clear hfn htb
  have HT := Lib.hid QT
  have HP := Lib.hid QP
  clear QT QP
  go_enter Tryz.func21, Tryz.ntmps21
  go_wp2_with fail
  refine (QA w).mono ?_
  rintro e w1 ⟨v, rfl, hsv, hb1⟩
  have HR := Lib.hid (hsv.ro smp_in)
  obtain ⟨vr, vs, vg, rfl, h1, h2, h3⟩ := hsv
  obtain ⟨p1, c1, rfl, -⟩ := h1.shape
  obtain ⟨p2, c2, rfl, -⟩ := h2.shape
  obtain ⟨p3, c3, rfl, -⟩ := h3.shape
  clear h1 h2 h3
  have HK1 := Lib.hid (kw_kp HK.out (Kp.of_below hb1))
  have HB1 := Lib.hid hb1
  clear hb1
  obtain ⟨W1, hW1⟩ : ∃ W1, W1 = w1.alloc (.cells #[.string smpS.name, .slice p1 smpS.records.length c1, .slice p2 smpS.services.length c2, .slice p3 smpS.sagas.length c3] 26) := ⟨_, rfl⟩
  have hn1 : W1.heap[w1.heap.size]? = some (.cells #[.string smpS.name, .slice p1 smpS.records.length c1, .slice p2 smpS.services.length c2, .slice p3 smpS.sagas.length c3] 26 (0, 0)) := by rw [hW1]; exact heap_alloc_new w1 _
  have HN1 := Lib.hid hn1
  have HB2 : Hid (Below w1.heap.size w1 W1) := Lib.hid (by rw [hW1]; exact tk_alloc w1 _)
  obtain ⟨x0, x1, x2, x3⟩ := cells4' hn1
  clear hn1
  go_upto_region 2 with fail
  rw [← hW1]
  clear hW1
  go_wp2_with fail
  clear x0 x1 x2 x3
  refine (HT.out _ _ _ HR.out (Kp.of_below HB2.out) HK1.out).mono ?_
  rintro e w2 ⟨rfl, hb3⟩
  have HB3 := Lib.hid (HB2.out.trans (hb3.mono HB2.out.size))
  obtain ⟨x0, x1, x2, x3⟩ := cells4' (box_keep hb3 HN1.out)
  clear hb3
  go_wp2_with fail
  clear x0 x1 x2 x3
  refine (HP.out _ _ _ HR.out (Kp.of_below HB3.out) HK1.out).mono ?_
  rintro e w3 ⟨rfl, hb4⟩
  have HB4 := Lib.hid (HB1.out.trans ((HB3.out.trans (hb4.mono HB3.out.size)).mono HB1.out.size))
  clear hb4
  have j2 := HTT.out
  unfold smpT at j2
  have j1 := HF.out
  go_wp2_with fail
  go_ret
  exact ⟨rfl, HB4.out⟩
end Go.Proofs.YtnkdhmoocomjfaaGreatDoor
