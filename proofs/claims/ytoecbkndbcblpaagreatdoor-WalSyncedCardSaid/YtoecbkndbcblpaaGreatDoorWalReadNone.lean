/-
  Walks over package wal: read where the disk has no file of the log's. Conditions: those in the theorems.
-/
import Derived.Test.YtoecbkndbcblpaaGreatDoorWalOpen
namespace Wm
/-- A file that is none of the log's, or its spare one. -/
def Skips (log : ByteArray) (k : List UInt8) : Prop := Go.Lib.hasPrefix k log.data.toList = false ∨ (Go.Lib.hasPrefix k log.data.toList = true ∧ Go.Lib.trimPrefix k log.data.toList = [110, 101, 119])
end Wm
namespace Go.Proofs.YtoecbkndbcblpaaGreatDoor
open Go.RowKit Go.Maps Go.Sort Go.Shelf

section
variable {w0 w w' : World} {a b : Nat} {D D' : Dm.Disk} {B : List (Nat × Obj)} {W W' : Wm.W}
theorem perm_mid {α : Type} (x : α) (R S B : List α) : (x :: (R ++ (S ++ B))).Perm (S ++ x :: (R ++ B)) := by
  have h1 : (x :: (R ++ (S ++ B))).Perm (x :: (S ++ (R ++ B))) := by
    rw [← List.append_assoc, ← List.append_assoc]
    exact (List.perm_append_comm.append_right B).cons x
  exact h1.trans List.perm_middle.symm
theorem list_wi (h : WalIn w0 w a D b W B) :
    Calls Tryz.prog 17 #[.pointer (some ⟨a, 0, none⟩)] w fun e w' => ∃ v S, e = .returned v ∧ WalIn w0 w' a D b W (S ++ B) ∧ TextsIs v S (Dm.keys D.files) := by
  obtain ⟨v, R, h1, h2⟩ := h
  refine (list_b h1).mono fun _ w' ⟨v', he, hl, hb⟩ => ?_
  obtain ⟨S, h3, h4⟩ := h1.texts hl.1 hl.2.2
  exact ⟨v', S, he, ⟨v, R, h3.perm (perm_mid _ R S B), h2⟩, h4⟩
set_option maxRecDepth 100000 in
set_option maxHeartbeats 4000000 in
theorem read_none (h : WalIn w0 w a D b W B) (hk : ∀ k ∈ Dm.keys D.files, Wm.Skips W.log k) (hr : Dm.Right D) :
    Calls Tryz.prog 26 #[.pointer (some ⟨b, 0, none⟩)] w fun e w' => ∃ v Rr, e = .returned (.tuple #[v, .int .i64 0]) ∧ WalIn w0 w' a D b W (Rr ++ B) ∧ RecIs v Rr [] := by
  obtain ⟨x0, x5, -⟩ := h.cells
  have hl := list_wi h
  have hfew : (Dm.keys D.files).length ≤ 256 := by unfold Dm.keys; rw [List.length_map]; exact hr.few
  clear h hr
  generalize Dm.keys D.files = ks at *
  go_enter Tryz.func26, Tryz.ntmps26
  go_wp2_with fail
  refine hl.mono ?_
  rintro e w1 ⟨v, S, rfl, h1, h2⟩
  have H1 := Lib.hid h1
  obtain ⟨p0, cap0, rfl, hlc⟩ := h2.shape
  have H2 := Lib.hid h2
  clear h1 h2 hl x0 x5
  go_wp2_with fail
  go_loopg [4, 24] ks.length (fun g lv iv wr => ∃ k : Nat, g = ks.length - k ∧ k ≤ ks.length ∧ iv = .int .i64 (k : Nat) ∧ lv = .slice none 0 0 ∧ Hid (WalIn w0 wr a D b W (S ++ B)))
  case atStart => exact ⟨0, rfl, Nat.zero_le _, rfl, rfl, H1⟩
  case round =>
    obtain ⟨k, rfl, hkl, rfl, rfl, HH⟩ := hrel
    clear H1
    by_cases hlt : k < ks.length
    · have i1 : (k : Int) < (ks.length : Int) := by omega
      have i2 : (0 : Int) ≤ (k : Int) := by omega
      obtain ⟨g, cap, ev, z⟩ := H2.out.at (w := wr) (fun p hp => HH.out.box p (List.mem_append_left _ hp)) hlt
      cases ev
      obtain ⟨-, y5, -⟩ := HH.out.cells
      have hsk := hk _ (List.getElem_mem hlt)
      have hcut := fun W' => wl_strings_CutPrefix ⟨ks[k].toArray⟩ W.log W'
      have hdl : (⟨ks[k].toArray⟩ : ByteArray).data.toList = ks[k] := rfl
      rw [hdl] at hcut
      generalize ks[k] = key at *
      unfold Wm.Skips at hsk
      rcases hsk with hp | ⟨hp, ht⟩
      · rw [hp] at hcut
        clear hp
        go_wp2_with fail
        refine (hcut _).mono ?_
        rintro e w2 ⟨rfl, rfl⟩
        go_wp2_with fail
        go_roundg (ks.length - (k + 1))
        case measure => omega
        case rel => exact ⟨k + 1, rfl, by omega, by go_num, rfl, HH⟩
      · rw [hp, ht] at hcut
        clear hp ht
        go_wp2_with fail
        refine (hcut _).mono ?_
        rintro e w2 ⟨rfl, rfl⟩
        go_wp2_with fail
        go_roundg (ks.length - (k + 1))
        case measure => omega
        case rel => exact ⟨k + 1, rfl, by omega, by go_num, rfl, HH⟩
    · obtain rfl : k = ks.length := by omega
      have i1 : ¬ (ks.length : Int) < (ks.length : Int) := by omega
      have HF := Lib.hid (HH.out.sub (B' := B) (List.sublist_append_right _ _))
      clear HH
      go_wp2_with fail
      exact bodyPost_ret (v := .tuple #[.slice none 0 0, .int .i64 0]) (by simp [results, Tryz.results26, go_sem]) rfl ⟨.slice none 0 0, rfl, [], HF.out, .inl ⟨rfl, rfl, rfl⟩⟩
/-- A log is opened for the first time: it has no records, one file is made. -/
theorem open_new (h : Bx w0 w a D B) (name : ByteArray) (hs : name.size ≤ 12) (hn : Wm.isName name = true) (hd : D.down = false) (hr : Dm.Right D) (hk : ∀ k ∈ Dm.keys D.files, Wm.Skips (Wm.logOf name) k) {D1 : Dm.Disk} (hw : Wm.sweep D (Wm.logOf name) = (0, D1)) (hc : Dm.create D1 (Wm.nameOf (Wm.logOf name) 1).data.toList = (0, D')) :
    Calls Tryz.prog 8 #[.pointer (some ⟨a, 0, none⟩), .string name] w fun e w' => ∃ b v Rr, e = .returned (.tuple #[.pointer (some ⟨b, 0, none⟩), v, .int .i64 0]) ∧ WalIn w0 w' a D' b (Wm.follow (Wm.opening name) (Wm.fresh (Wm.nameOf (Wm.logOf name) 1))) (Rr ++ B) ∧ RecIs v Rr [] :=
  open_ok h name hs hn hd (fun w1 b hw1 => read_none hw1 hk hr) fun w1 b B1 hw1 => settle_none hw1 (by
    have h1 : (⟨#[46]⟩ : ByteArray).size = 1 := rfl
    show (name ++ ⟨#[46]⟩ : ByteArray).size ≤ 13
    rw [ByteArray.size_append, h1]; omega) (Nat.zero_le _) rfl hw hc
end
end Go.Proofs.YtoecbkndbcblpaaGreatDoor
