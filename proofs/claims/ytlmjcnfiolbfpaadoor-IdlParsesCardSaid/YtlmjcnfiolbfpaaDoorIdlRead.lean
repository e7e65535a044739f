/-
  Walks over package idl: the reader of tokens: take, ahead. Conditions: those in the theorems (the keywords' variable holds what the row lists).
-/
import Derived.Test.YtlmjcnfiolbfpaaDoorIdlRow
import Derived.Test.YtlmjcnfiolbfpaaDoorTokName
import Derived.Test.YtlmjcnfiolbfpaaDoorTextsAt
import Derived.Deep.QuietTactic
import Derived.BigQuiet
set_option linter.unusedSimpArgs false
set_option linter.unusedVariables false
namespace Go.Proofs.YtlmjcnfiolbfpaaDoor
open Go.RowKit

/-- Block b alone may have turned; new blocks may have come. -/
structure Tn (b : Nat) (w W : World) : Prop where
  os : W.os = w.os
  tape : W.tape = w.tape
  output : W.output = w.output
  size : w.heap.size ≤ W.heap.size
  block : ∀ k, k < w.heap.size → k ≠ b → W.heap[k]? = w.heap[k]?
theorem Tn.refl (b : Nat) (w : World) : Tn b w w := ⟨rfl, rfl, rfl, Nat.le_refl _, fun _ _ _ => rfl⟩
theorem Tn.trans {b : Nat} {w W V : World} (h : Tn b w W) (k : Tn b W V) : Tn b w V :=
  ⟨k.os.trans h.os, k.tape.trans h.tape, k.output.trans h.output, Nat.le_trans h.size k.size, fun j hj hn => (k.block j (Nat.lt_of_lt_of_le hj h.size) hn).trans (h.block j hj hn)⟩
theorem Tn.of {b : Nat} {w W : World} (h : Below w.heap.size w W) : Tn b w W := ⟨h.os, h.tape, h.output, h.size, fun k hk _ => h.block k hk⟩
theorem Tn.below {b base : Nat} {w W : World} (h : Tn b w W) (hb : base ≤ b) (hs : base ≤ w.heap.size) : Below base w W := ⟨h.os, h.tape, h.output, h.size, fun k hk => h.block k (by omega) (by omega)⟩
theorem Tn.alloc {b : Nat} {w W : World} (h : Tn b w W) (o : Obj) : Tn b w (W.alloc o) := h.trans (Tn.of (tk_alloc W o))
theorem tn_set {b i : Nat} (w : World) (x : Value) : Tn b w (w.setCell ⟨b, i, none⟩ x) := ⟨rfl, rfl, rfl, by rw [World.size_setCell]; exact Nat.le_refl _, fun k _ hk => Below.heap_setCell _ _ _ _ hk⟩
/-- A block that has come since: it may turn. -/
theorem Tn.set_new {b c i : Nat} {w W : World} (h : Tn b w W) (hc : w.heap.size ≤ c) (x : Value) : Tn b w (W.setCell ⟨c, i, none⟩ x) :=
  ⟨h.os, h.tape, h.output, by rw [World.size_setCell]; exact h.size, fun k hk hn => (Below.heap_setCell _ _ _ _ (by show k ≠ c; omega)).trans (h.block k hk hn)⟩

def rdO (p : Option Addr) (n c : Nat) (s : Bool) : Obj := .cells #[.slice p n c, .bool s] 77 (0, 0)
/-- A reader's block, what it has left, and the keywords. -/
structure RdAt (w : World) (b q : Nat) (r : Ip.R) (p : Option Addr) (c : Nat) : Prop where
  blk : w.heap[b]? = some (rdO p r.left.length c r.stuck)
  cap : r.left.length ≤ c
  max : c ≤ maxLen
  toks : ToksAt w p r.left
  home : ∀ A, p = some A → A.block = q
  apart : q ≠ b
  old : q < w.heap.size
  kw : KwIs w
  notKw : b ≠ 0
  few : r.left.length ≤ 65536
def Rd (w : World) (b q : Nat) (r : Ip.R) : Prop := ∃ p c, RdAt w b q r p c
theorem KwIs.keep {w W : World} (h : KwIs w) (hb : W.heap[0]? = w.heap[0]?) : KwIs W := by
  obtain ⟨t, fr, e⟩ := h
  exact ⟨t, fr, hb.trans e⟩
theorem KwIs.lt {w : World} (h : KwIs w) : 0 < w.heap.size := by
  obtain ⟨t, fr, e⟩ := h
  exact (Array.getElem?_eq_some_iff.1 e).1
theorem KwIs.below {w W : World} (h : KwIs w) (hb : Below w.heap.size w W) : KwIs W := h.keep (hb.block _ h.lt)
theorem RdAt.notb {w : World} {b q : Nat} {r : Ip.R} {p : Option Addr} {c : Nat} (h : RdAt w b q r p c) : ∀ A, p = some A → A.block ≠ b := fun A e => by rw [h.home A e]; exact h.apart
theorem RdAt.lt {w : World} {b q : Nat} {r : Ip.R} {p : Option Addr} {c : Nat} (h : RdAt w b q r p c) : b < w.heap.size := (Array.getElem?_eq_some_iff.1 h.blk).1
theorem RdAt.below {w W : World} {b q : Nat} {r : Ip.R} {p : Option Addr} {c : Nat} (h : RdAt w b q r p c) (hb : Below w.heap.size w W) : RdAt W b q r p c :=
  ⟨(hb.block _ h.lt).trans h.blk, h.cap, h.max, h.toks.below hb, h.home, h.apart, Nat.lt_of_lt_of_le h.old hb.size, h.kw.below hb, h.notKw, h.few⟩
theorem Rd.lt {w : World} {b q : Nat} {r : Ip.R} (h : Rd w b q r) : b < w.heap.size := by obtain ⟨p, c, h⟩ := h; exact h.lt
theorem Rd.old {w : World} {b q : Nat} {r : Ip.R} (h : Rd w b q r) : q < w.heap.size := by obtain ⟨p, c, h⟩ := h; exact h.old
theorem Rd.kw {w : World} {b q : Nat} {r : Ip.R} (h : Rd w b q r) : KwIs w := by obtain ⟨p, c, h⟩ := h; exact h.kw
theorem Rd.few {w : World} {b q : Nat} {r : Ip.R} (h : Rd w b q r) : r.left.length ≤ 65536 := by obtain ⟨p, c, h⟩ := h; exact h.few
theorem Rd.below {w W : World} {b q : Nat} {r : Ip.R} (h : Rd w b q r) (hb : Below w.heap.size w W) : Rd W b q r := by obtain ⟨p, c, h⟩ := h; exact ⟨p, c, h.below hb⟩
theorem toks_tail {W : World} {A : Addr} {t : Tk.Token} {l : List Tk.Token} (h : ToksAt W (some A) (t :: l)) : ToksAt W (some (A.add 4)) l := fun i hi => by
  obtain ⟨B, e, h2, h3, h4⟩ := h (i + 1) (by simpa using hi)
  cases e
  refine ⟨A.add 4, rfl, by rw [tadd_block]; exact h2, fun j hj => ?_, h4⟩
  have := h3 j hj
  rw [tadd, show 4 + (i * 4 + j) = (i + 1) * 4 + j by omega]
  simpa using this
theorem toks_turn {w W : World} {b : Nat} {p : Option Addr} {xs : List Tk.Token} (h : ToksAt w p xs) (ht : Tn b w W) (ha : ∀ A, p = some A → A.block ≠ b) : ToksAt W p xs := fun i hi => by
  obtain ⟨A, e, h2, h3, h4⟩ := h i hi
  refine ⟨A, e, Nat.lt_of_lt_of_le h2 ht.size, fun j hj => ?_, h4⟩
  rw [← h3 j hj]
  unfold World.cell?
  rw [ht.block _ (by rw [tadd_block]; exact h2) (by rw [tadd_block]; exact ha A e)]
theorem rd_cells {w : World} {b q : Nat} {r : Ip.R} {p : Option Addr} {c : Nat} (h : RdAt w b q r p c) :
    w.cell? ⟨b, 0, none⟩ = some (.slice p r.left.length c) ∧ w.cell? ⟨b, 1, none⟩ = some (.bool r.stuck) ∧ w.frozen? ⟨b, 0, none⟩ = false ∧ w.frozen? ⟨b, 1, none⟩ = false := by
  have hb := h.blk
  unfold rdO at hb
  refine ⟨?_, ?_, frozen_of_row _ _ 0 _ _ hb, frozen_of_row _ _ 1 _ _ hb⟩ <;> rw [cell_of_row _ _ _ _ _ _ hb] <;> rfl
theorem rd_keep {w W : World} {b q : Nat} {r : Ip.R} {p : Option Addr} {c : Nat} (h : RdAt w b q r p c) (x : Nat) (hb : x ≠ b) (hq : x ≠ q) (hk : x ≠ 0) (ht : Tn x w W) : RdAt W b q r p c :=
  ⟨(ht.block _ h.lt fun e => hb e.symm).trans h.blk, h.cap, h.max, toks_turn h.toks ht (fun A e => by rw [h.home A e]; exact fun e => hq e.symm), h.home, h.apart, Nat.lt_of_lt_of_le h.old ht.size, h.kw.keep (ht.block _ h.kw.lt fun e => hk e.symm), h.notKw, h.few⟩
theorem Rd.keep {w W : World} {b q : Nat} {r : Ip.R} (h : Rd w b q r) (x : Nat) (hb : x ≠ b) (hq : x ≠ q) (hk : x ≠ 0) (ht : Tn x w W) : Rd W b q r := by
  obtain ⟨p, c, h⟩ := h
  exact ⟨p, c, rd_keep h x hb hq hk ht⟩
end Go.Proofs.YtlmjcnfiolbfpaaDoor
