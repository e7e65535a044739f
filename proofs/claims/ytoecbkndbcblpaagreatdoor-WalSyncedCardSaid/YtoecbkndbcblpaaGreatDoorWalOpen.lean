/-
  Walks over package wal: Open, by what read and settle do. Conditions: those in the theorems.
-/
import Derived.Test.YtoecbkndbcblpaaGreatDoorWalRec
import Derived.Test.YtoecbkndbcblpaaGreatDoorWalSettle2
import Derived.Test.YtoecbkndbcblpaaGreatDoorWalBegin
namespace Wm
/-- What a log's files' names begin with. -/
def logOf (name : ByteArray) : ByteArray := name ++ ⟨#[46]⟩
/-- A log that is being opened: nothing is read yet. -/
def opening (name : ByteArray) : W := ⟨fresh ⟨#[]⟩, logOf name, [], 0, false⟩
end Wm
namespace Go.Proofs.YtoecbkndbcblpaaGreatDoor
open Go.RowKit Go.Maps Go.Sort Go.Shelf

section
variable {w0 w w' : World} {a : Nat} {D D' : Dm.Disk} {B : List (Nat × Obj)} {W W' : Wm.W}
theorem opening_in (h : Bx w0 w a D B) (name : ByteArray) :
    WalIn w0 (w.alloc (.cells #[.pointer (some ⟨a, 0, none⟩), .string ⟨#[]⟩, .int .i64 0, .string ⟨#[]⟩, .string ⟨#[]⟩, .string (Wm.logOf name), .slice none 0 0, .int .i64 0, .bool false] 43)) a D w.heap.size (Wm.opening name) B := by
  refine ⟨.slice none 0 0, [], ?_, .inl ⟨rfl, rfl, rfl⟩⟩
  have e : fobj a (Wm.opening name).f (walRest (Wm.opening name) (.slice none 0 0)) 43 = .cells #[.pointer (some ⟨a, 0, none⟩), .string ⟨#[]⟩, .int .i64 0, .string ⟨#[]⟩, .string ⟨#[]⟩, .string (Wm.logOf name), .slice none 0 0, .int .i64 0, .bool false] 43 (0, 0) := by
    simp [fobj, fcells, walRest, Wm.opening, Wm.fresh, natV]
  rw [e]
  exact h.alloc _
set_option maxRecDepth 100000 in
set_option maxHeartbeats 4000000 in
theorem open_ok (h : Bx w0 w a D B) (name : ByteArray) (hs : name.size ≤ 12) (hn : Wm.isName name = true) (hd : D.down = false) {recs : List (Nat × List UInt8)}
    (hread : ∀ w1 b, WalIn w0 w1 a D b (Wm.opening name) B → Calls Tryz.prog 26 #[.pointer (some ⟨b, 0, none⟩)] w1 fun e w' => ∃ v Rr, e = .returned (.tuple #[v, .int .i64 0]) ∧ WalIn w0 w' a D b W (Rr ++ B) ∧ RecIs v Rr recs)
    (hset : ∀ w1 b B1, WalIn w0 w1 a D b W B1 → Calls Tryz.prog 27 #[.pointer (some ⟨b, 0, none⟩)] w1 fun e w' => e = .returned (.int .i64 0) ∧ WalIn w0 w' a D' b W' B1) :
    Calls Tryz.prog 8 #[.pointer (some ⟨a, 0, none⟩), .string name] w fun e w' => ∃ b v Rr, e = .returned (.tuple #[.pointer (some ⟨b, 0, none⟩), v, .int .i64 0]) ∧ WalIn w0 w' a D' b W' (Rr ++ B) ∧ RecIs v Rr recs := by
  have hi := walIsName_any name w (by unfold maxLen; omega)
  rw [hn] at hi
  have hdn := fun w1 (g : Bx w0 w1 a D B) => down_b g hd
  have H := Lib.hid h
  have HD := Lib.hid hdn
  have HR := Lib.hid hread
  have HS := Lib.hid hset
  have hcat : (name ++ ⟨#[46]⟩ : ByteArray) = Wm.logOf name := rfl
  clear h hn hd hdn hread hset
  go_enter Tryz.func8, Tryz.ntmps8
  go_wp2_with fail
  refine hi.mono ?_
  rintro e w1 ⟨rfl, hb1⟩
  have H1 := Lib.hid (H.out.same hb1)
  clear hb1 hi
  go_wp2_with fail
  refine (HD.out _ H1.out).mono ?_
  rintro e w2 ⟨rfl, rfl⟩
  have H2 := Lib.hid (opening_in H1.out name)
  go_wp2_with fail
  refine (HR.out _ _ H2.out).mono ?_
  rintro e w3 ⟨v, Rr, rfl, h3, hr⟩
  have H3 := Lib.hid h3
  have HRR := Lib.hid hr
  obtain ⟨p, cap, rfl, -⟩ := hr.shape
  clear h3 hr
  go_wp2_with fail
  refine (HS.out _ _ _ H3.out).mono ?_
  rintro e w4 ⟨rfl, h4⟩
  have H4 := Lib.hid h4
  clear h4
  go_wp2_with fail
  refine bodyPost_ret (v := .tuple #[.pointer (some ⟨w1.heap.size, 0, none⟩), .slice p recs.length cap, .int .i64 0]) (by simp [results, Tryz.results8, go_sem]) rfl ⟨_, _, Rr, rfl, H4.out, HRR.out⟩
end
end Go.Proofs.YtoecbkndbcblpaaGreatDoor
