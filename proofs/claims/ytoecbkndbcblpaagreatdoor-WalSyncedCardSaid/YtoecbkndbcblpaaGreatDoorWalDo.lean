/-
  Walks over package wal: sweep, alive, do. Conditions: those in the theorems.
-/
import Derived.Test.YtoecbkndbcblpaaGreatDoorWalFollow2
namespace Wm
open Dm (Disk)
def spare (log : ByteArray) : ByteArray := log ++ ⟨#[110, 101, 119]⟩
def sweep (D : Disk) (log : ByteArray) : Nat × Disk := ((if (Dm.remove D (spare log).data.toList).1 = 4 then 0 else (Dm.remove D (spare log).data.toList).1), (Dm.remove D (spare log).data.toList).2)
/-- Has the file that takes records none? -/
def empty (W : W) : Bool := decide (W.last < W.firsts.getLast?.getD 0)
def alive (D : Disk) (W : W) : Bool := !W.dead && stands D W.f && (empty W || (Dm.read D (nameOf W.log (W.last + 1)).data.toList).2 == 4)
/-- What is so of a log while a law goes on. -/
structure Ok (W : W) : Prop where
  log : W.log.size ≤ 13
  some : W.firsts ≠ []
  few : W.firsts.length ≤ 200
  last : W.last ≤ 98
end Wm
namespace Go.Proofs.YtoecbkndbcblpaaGreatDoor
open Go.RowKit Go.Maps Go.Sort Go.Shelf

section
variable {w0 w w' : World} {a b : Nat} {D D' : Dm.Disk} {B : List (Nat × Obj)} {W : Wm.W}
theorem nameOf_size (log : ByteArray) (n : Nat) (hn : n < 100) : (Wm.nameOf log n).size ≤ log.size + 21 := by
  have hl := digits_len n hn
  unfold Wm.nameOf
  have e1 : ([48] : List UInt8).length = 1 := rfl
  rw [ByteArray.size_append, ByteArray.size_append, size_of_list (Go.Lib.repeatL _ _), size_of_list (Go.Lib.decDigits n), Go.Lib.repeatL_length, e1]
  omega
theorem WalIn.drewI (h : WalIn w0 w a D b W B) : WalIn w0 w.drew a D b W B := h.same (Below.refl _ w).drew
theorem remove_wi (h : WalIn w0 w a D b W B) (s : ByteArray) (hs : s.size ≤ maxLen) {c : Nat} (e : Dm.remove D s.data.toList = (c, D')) :
    Calls Tryz.prog 70 #[.pointer (some ⟨a, 0, none⟩), .string s] w fun e w' => e = .returned (.int .i64 (c : Nat)) ∧ WalIn w0 w' a D' b W B := by
  obtain ⟨v, R, h1, h2⟩ := h
  exact (remove_b h1 s hs e).mono fun _ _ ⟨he, hd⟩ => ⟨he, v, R, hd, h2⟩
theorem sync_wi (h : WalIn w0 w a D b W B) (s : ByteArray) (hs : s.size ≤ maxLen) {c : Nat} (e : Dm.sync D s.data.toList = (c, D')) :
    Calls Tryz.prog 55 #[.pointer (some ⟨a, 0, none⟩), .string s] w fun e w' => e = .returned (.int .i64 (c : Nat)) ∧ WalIn w0 w' a D' b W B := by
  obtain ⟨v, R, h1, h2⟩ := h
  exact (sync_b h1 s hs e).mono fun _ _ ⟨he, hd⟩ => ⟨he, v, R, hd, h2⟩
theorem read_wi (h : WalIn w0 w a D b W B) (n : ByteArray) (hn : n.size ≤ maxLen) {s : ByteArray} {c : Nat} (e : Dm.read D n.data.toList = (s.data.toList, c)) :
    Calls Tryz.prog 24 #[.pointer (some ⟨a, 0, none⟩), .string n] w fun e w' => e = .returned (.tuple #[.string s, .int .i64 (c : Nat)]) ∧ w = w' := by
  obtain ⟨v, R, h1, h2⟩ := h; exact read_s h1 n hn e
theorem create_wi (h : WalIn w0 w a D b W B) (n : ByteArray) (hn : n.size ≤ maxLen) {c : Nat} (e : Dm.create D n.data.toList = (c, D')) :
    Calls Tryz.prog 58 #[.pointer (some ⟨a, 0, none⟩), .string n] w fun e w' => e = .returned (.tuple #[if c = 0 then fileV (some ⟨a, 0, none⟩) (Wm.fresh n) else fileV none (Wm.fresh ⟨#[]⟩), .int .i64 (c : Nat)]) ∧ WalIn w0 w' a D' b W B := by
  obtain ⟨v, R, h1, h2⟩ := h
  exact (create_w h1 n hn e).mono fun _ _ ⟨he, hd⟩ => ⟨he, v, R, hd, h2⟩
theorem nameOf_wi (h : WalIn w0 w a D b W B) (hl : W.log.size ≤ 13) (n : Nat) (hn : n < 100) :
    Calls Tryz.prog 56 #[.pointer (some ⟨b, 0, none⟩), .int .i64 (n : Nat)] w fun e w' => e = .returned (.string (Wm.nameOf W.log n)) ∧ Below w.heap.size w w' := by
  obtain ⟨v, R, h1, h2⟩ := h
  exact nameOf_any b W.log n w hn (by omega) (wobj_cells (h1.box _ List.mem_cons_self)).1 fun W' hW => (wobj_cells ((h1.same hW).box _ List.mem_cons_self)).1
theorem WalIn.cells (h : WalIn w0 w a D b W B) : w.cell? ⟨b, 0, none⟩ = some (.pointer (some ⟨a, 0, none⟩)) ∧ w.cell? ⟨b, 5, none⟩ = some (.string W.log) ∧ w.cell? ⟨b, 7, none⟩ = some (.int .i64 (W.last : Nat)) ∧ w.cell? ⟨b, 8, none⟩ = some (.bool W.dead) ∧ w.cell? ⟨b, 4, none⟩ = some (.string W.f.torn) ∧ ∀ i, w.frozen? ⟨b, i, none⟩ = false := by
  obtain ⟨v, R, h1, h2⟩ := h
  obtain ⟨x0, -, -, -, x4, xf⟩ := fobj_cells (h1.box _ List.mem_cons_self)
  obtain ⟨x5, -, x7, x8⟩ := wobj_cells (h1.box _ List.mem_cons_self)
  exact ⟨x0, x5, x7, x8, x4, xf⟩

set_option maxRecDepth 100000 in
set_option maxHeartbeats 2000000 in
theorem sweep_w (h : WalIn w0 w a D b W B) (hl : W.log.size ≤ 13) {c : Nat} (e : Wm.sweep D W.log = (c, D')) :
    Calls Tryz.prog 57 #[.pointer (some ⟨b, 0, none⟩)] w fun e w' => e = .returned (.int .i64 (c : Nat)) ∧ WalIn w0 w' a D' b W B := by
  obtain ⟨x0, x5, -⟩ := h.cells
  obtain ⟨⟨c1, D1⟩, hs⟩ : ∃ y, Dm.remove D (Wm.spare W.log).data.toList = y := ⟨_, rfl⟩
  unfold Wm.sweep at e
  rw [hs] at e
  obtain ⟨e1, rfl⟩ := Prod.mk.inj e
  simp only at e1
  have hsz : (Wm.spare W.log).size ≤ maxLen := by
    have h3 : (⟨#[110, 101, 119]⟩ : ByteArray).size = 3 := rfl
    unfold Wm.spare; rw [ByteArray.size_append, h3]; unfold maxLen; omega
  have H := Lib.hid h.drewI
  have HS := Lib.hid hs
  have hrm := fun W' (hW : WalIn w0 W' a D b W B) => remove_wi hW (Wm.spare W.log) hsz hs
  unfold Wm.spare at hrm
  have HR := Lib.hid (hrm _ H.out)
  clear h hs hrm e
  by_cases h4 : c1 = 4
  · subst h4
    rw [if_pos rfl] at e1
    subst e1
    go_enter Tryz.func57, Tryz.ntmps57
    go_wp2_with fail
    go_region_with (go_at_call 70; refine HR.out.mono ?_; rintro e w2 ⟨rfl, h2⟩)
    all_goals
      have H2 := Lib.hid h2
      clear h2
      go_wp2_with fail
      go_ret
      exact ⟨rfl, H2.out⟩
  · rw [if_neg h4] at e1
    subst e1
    have d4 : ((c1 : Int) == 4) = false := by rw [beq_eq_false_iff_ne]; omega
    clear h4
    go_enter Tryz.func57, Tryz.ntmps57
    go_wp2_with fail
    go_region_with (go_at_call 70; refine HR.out.mono ?_; rintro e w2 ⟨rfl, h2⟩)
    all_goals
      have H2 := Lib.hid h2
      clear h2
      go_wp2_with fail
      go_ret
      exact ⟨rfl, H2.out⟩

set_option maxRecDepth 100000 in
set_option maxHeartbeats 4000000 in
theorem alive_w (h : WalIn w0 w a D b W B) (hok : Wm.Ok W) (hf : FOk W.f) :
    Calls Tryz.prog 62 #[.pointer (some ⟨b, 0, none⟩)] w fun e w' => e = .returned (.bool (Wm.alive D W)) ∧ WalIn w0 w' a D b W B := by
  obtain ⟨x0, x5, x7, x8, -⟩ := h.cells
  have hst : Calls Tryz.prog 90 #[.pointer (some ⟨b, 0, none⟩)] w fun e w' => e = .returned (.bool (Wm.stands D W.f)) ∧ Below w.heap.size w w' := by
    obtain ⟨v, R, h1, h2⟩ := h; exact stands_w h1 hf
  obtain ⟨n, hn⟩ : ∃ n, W.firsts.getLast? = some n := ⟨_, List.getLast?_eq_some_getLast hok.some⟩
  have hemp := fun W' (hW : WalIn w0 W' a D b W B) => empty_w hW hn (by have := hok.few; omega)
  have he : Wm.empty W = decide (W.last < n) := by unfold Wm.empty; rw [hn]; rfl
  rw [← he] at hemp
  have hlast := hok.last
  have hlog := hok.log
  obtain ⟨⟨l, c⟩, hr⟩ : ∃ y, Dm.read D (Wm.nameOf W.log (W.last + 1)).data.toList = y := ⟨_, rfl⟩
  obtain ⟨s, rfl⟩ := text_of l
  have hsz : (Wm.nameOf W.log (W.last + 1)).size ≤ maxLen := by have := nameOf_size W.log (W.last + 1) (by omega); unfold maxLen; omega
  have hname := fun W' (hW : WalIn w0 W' a D b W B) => nameOf_wi hW hlog (W.last + 1) (by omega)
  have hread := fun W' (hW : WalIn w0 W' a D b W B) => read_wi hW _ hsz hr
  have k1 : ((W.last + 1 : Nat) : Int) = (W.last : Int) + 1 := by omega
  have k2 : IntKind.i64.wrap ((W.last : Int) + 1) = (W.last : Int) + 1 := IntWalk.i64_in _ (by omega)
  rw [k1] at hname
  have ha : Wm.alive D W = (!W.dead && Wm.stands D W.f && (Wm.empty W || c == 4)) := by unfold Wm.alive; rw [hr]
  rw [ha]
  have d4 : ((c : Int) == 4) = (c == 4) := by rw [Bool.eq_iff_iff]; simp only [beq_iff_eq]; omega
  have H := Lib.hid h
  have HE := Lib.hid hemp
  have HN := Lib.hid hname
  have HR := Lib.hid hread
  clear h hemp hname hread ha he hn hr hsz hok hf k1
  generalize (c == 4) = b4 at *
  generalize Wm.stands D W.f = b2 at *
  generalize Wm.empty W = b3 at *
  generalize Wm.nameOf W.log (W.last + 1) = nm at *
  generalize W.dead = b1 at *
  cases b1 with
  | true =>
    go_enter Tryz.func62, Tryz.ntmps62
    go_wp2_with fail
    go_ret
    exact ⟨rfl, H.out⟩
  | false =>
    go_enter Tryz.func62, Tryz.ntmps62
    go_wp2_with fail
    refine hst.mono ?_
    rintro e w2 ⟨rfl, hb2⟩
    have H2 := Lib.hid (H.out.same hb2)
    clear hb2 hst
    cases b2 with
    | false =>
      go_wp2_with fail
      go_ret
      exact ⟨rfl, H2.out⟩
    | true =>
      go_wp2_with fail
      refine (HE.out _ H2.out).mono ?_
      rintro e w3 ⟨rfl, hb3⟩
      have H3 := Lib.hid (H2.out.same hb3)
      clear hb3
      cases b3 with
      | true =>
        go_wp2_with fail
        go_ret
        exact ⟨rfl, H3.out⟩
      | false =>
        obtain ⟨y0, y5, y7, y8, -⟩ := H3.out.cells
        have H3d := Lib.hid H3.out.drewI
        have y0w : ∀ W', Below w3.heap.size w3 W' → W'.cell? ⟨b, 0, none⟩ = some (.pointer (some ⟨a, 0, none⟩)) := fun W' hW => (H3.out.same hW).cells.1
        have Y0 := Lib.hid y0w
        have HD3 := Lib.hid (Below.refl w3.heap.size w3).drew
        clear x0 x5 x7 x8 y0w
        go_wp2_with fail
        go_region_with (first
          | (go_at_call 56; refine (HN.out _ H3d.out).mono ?_; rintro e w4 ⟨rfl, hb4⟩; have HB4 := Lib.hid (HD3.out.trans (hb4.mono HD3.out.size)); have H4 := Lib.hid (H3.out.same HB4.out); have z0 := Y0.out _ HB4.out; clear hb4)
          | (go_at_call 24; refine (HR.out _ H4.out).mono ?_; rintro e w5 ⟨rfl, rfl⟩))
        all_goals
          go_wp2_with fail
          go_ret
          exact ⟨by simp, H4.out⟩
end
end Go.Proofs.YtoecbkndbcblpaaGreatDoor
