/-
  Walks over package wal: upTo. Conditions: those in the theorems.
  Walks over package wal: drop, where no further file is begun. Conditions: those in the theorems.
  Walks over package wal: undo, become; begin and put where a call of the disk has an error; Append where put has. Conditions: those in the theorems.
  Walks over package wal: copied, mend. Conditions: those in the theorems.
  Walks over package wal: mend where the file keeps its name; put behind that. Conditions: those in the theorems.
  Plain facts on the files of a log: which of a disk's are its own; their names rise with their numbers; what stands in them. No condition.
  A log of many files: what is read of them, what a crash leaves of them; the log is opened. Conditions: those in the theorems.
  A log of many files: what Append makes of them, whenever the power goes. Conditions: those in the theorems.
  A log of many files: Append, whenever the power goes. Conditions: those in the theorems.
  A log of many files: Sync; the power goes and comes back; Append to a log that ends with a torn frame. Conditions: those in the theorems.
  A log of many files: Append to one that ends with a torn frame. Conditions: those in the theorems.
-/
import Derived.Test.YtoecbkndbcblpaaGreatDoorWalDo2
import Derived.Deep.LoopGhost
import Derived.Test.YtoecbkndbcblpaaGreatDoorWalSettle2
import Derived.Test.YtoecbkndbcblpaaGreatDoorWalAppend
import Derived.Test.YtoecbkndbcblpaaGreatDoorWalBegin
import Derived.Test.YtoecbkndbcblpaaGreatDoorWalDo
import Derived.Test.YtoecbkndbcblpaaGreatDoorWalFollow2
import Derived.Test.YtoecbkndbcblpaaGreatDoorWalAwake
import Derived.WalkSpells
namespace Wm
/-- How many files, ahead of the one that takes records, have no record behind a number. -/
def upTo (firsts : List Nat) (n : Int) : Nat := (firsts.tail.filter (fun m : Nat => decide ((m : Int) - 1 ≤ n))).length
end Wm
namespace Go.Proofs.YtoecbkndbcblpaaGreatDoor
open Go.RowKit Go.Maps Go.Sort Go.Shelf

section
variable {w0 w w' : World} {a b : Nat} {D D' : Dm.Disk} {B : List (Nat × Obj)} {W W' : Wm.W}
theorem filter_step {l : List Nat} {k : Nat} (h : k < l.length) (p : Nat → Bool) : ((l.take (k + 1)).filter p).length = ((l.take k).filter p).length + (if p l[k] then 1 else 0) := by
  rw [List.take_succ_eq_append_getElem h, List.filter_append, List.length_append]
  cases hp : p l[k] <;> simp [hp]
set_option maxRecDepth 100000 in
set_option maxHeartbeats 4000000 in
theorem upTo_w (h : WalIn w0 w a D b W B) (hok : Wm.Ok W) (hsm : ∀ m ∈ W.firsts, m < 100) (n : Int) :
    Calls Tryz.prog 69 #[.pointer (some ⟨b, 0, none⟩), .int .i64 n] w fun e w' => e = .returned (.int .i64 (Wm.upTo W.firsts n : Nat)) ∧ w = w' := by
  obtain ⟨v, R, h1, h2⟩ := h
  obtain ⟨-, x6, -⟩ := wobj_cells (h1.box _ List.mem_cons_self)
  have hpos : 0 < W.firsts.length := List.length_pos_iff.2 hok.some
  have hat : ∀ i (hi : i < W.firsts.length), ∃ g cap, v = .slice (some ⟨g, 0, none⟩) W.firsts.length cap ∧ W.firsts.length ≤ cap ∧ w.cell? ⟨g, i, none⟩ = some (natV W.firsts[i]) := fun i hi =>
    h2.at (w := w) (fun p hp => h1.box p (List.mem_cons_of_mem _ (List.mem_append_left _ hp))) hi
  obtain ⟨g, cap, rfl, hc, -⟩ := hat 0 hpos
  have hfew := hok.few
  have hcap : cap ≤ maxLen := by obtain ⟨p, c, e, -, h3⟩ := h2.shape; cases e; exact h3
  unfold maxLen at hcap
  have hcell : ∀ i (hi : i < W.firsts.length), w.cell? ⟨g, i, none⟩ = some (.int .i64 (W.firsts[i] : Nat)) := fun i hi => by
    obtain ⟨g', c', e, -, h⟩ := hat i hi
    cases e; exact h
  clear h1 h2 hat hok
  obtain ⟨q, hq1⟩ : ∃ q, W.firsts.length = q + 1 := ⟨W.firsts.length - 1, by omega⟩
  have HQ := Lib.hid hq1
  have HC := Lib.hid hcell
  have HSM := Lib.hid hsm
  rw [hq1] at x6 hc hfew hpos
  clear hq1 hcell hsm
  obtain ⟨A2, hA2, hA3⟩ : ∃ A2 : Addr, (if cap = 1 then some (⟨g, 0, none⟩ : Addr) else some ⟨g, 1, none⟩) = some A2 ∧ (q = 0 ∨ A2 = ⟨g, 1, none⟩) := by
    by_cases h : cap = 1
    · exact ⟨_, if_pos h, .inl (by omega)⟩
    · exact ⟨_, if_neg h, .inr rfl⟩
  have i1 : (1 : Int) ≤ (q : Int) + 1 := by omega
  have i2 : (q : Int) + 1 ≤ (cap : Int) := by omega
  have i3 : (1 : Int) ≤ (cap : Int) := by omega
  have i5 : 1 ≤ cap := by omega
  go_enter Tryz.func69, Tryz.ntmps69
  go_wp2_with fail
  go_loopg [5, 14] q (fun g' fv iv wr => ∃ k : Nat, g' = q - k ∧ k ≤ q ∧ iv = .int .i64 (k : Nat) ∧ fv = .int .i64 (((W.firsts.tail.take k).filter (fun m : Nat => decide ((m : Int) - 1 ≤ n))).length : Nat) ∧ wr = w)
  case atStart => exact ⟨0, rfl, Nat.zero_le _, rfl, rfl, rfl⟩
  case round =>
    obtain ⟨k, rfl, hk, rfl, rfl, rfl⟩ := hrel
    have htl : W.firsts.tail.length = q := by rw [List.length_tail, HQ.out]; rfl
    by_cases hlt : k < q
    · have j1 : (k : Int) < (q : Int) := by omega
      have j2 : (0 : Int) ≤ (k : Int) := by omega
      have hA : A2 = ⟨g, 1, none⟩ := by
        rcases hA3 with e | e
        · omega
        · exact e
      subst hA
      have hkt : k < W.firsts.tail.length := by omega
      have hlen := HQ.out
      have hge : W.firsts.tail[k] = W.firsts[k + 1]'(by omega) := by simp
      have hst := filter_step hkt (fun m : Nat => decide ((m : Int) - 1 ≤ n))
      have hce := HC.out (k + 1) (by omega)
      have hm1 := HSM.out _ (List.getElem_mem (show k + 1 < W.firsts.length by omega))
      rw [← hge] at hce hm1
      have hce2 : wr.cell? ⟨g, 1 + k, none⟩ = some (.int .i64 (W.firsts.tail[k] : Nat)) := by rw [Nat.add_comm]; exact hce
      have hcl : ((W.firsts.tail.take k).filter (fun m : Nat => decide ((m : Int) - 1 ≤ n))).length ≤ 200 := Nat.le_trans (List.length_filter_le _ _) (by rw [List.length_take]; omega)
      generalize W.firsts.tail[k] = m at *
      generalize ((W.firsts.tail.take k).filter (fun m : Nat => decide ((m : Int) - 1 ≤ n))).length = c at *
      have HS := Lib.hid hst
      have j3 : IntKind.i64.wrap ((m : Int) - 1) = (m : Int) - 1 := IntWalk.i64_in _ (by omega)
      clear hst hge hce hkt hlen htl hA3
      by_cases hmn : (m : Int) - 1 ≤ n
      · have d1 : decide ((m : Int) - 1 ≤ n) = true := decide_eq_true hmn
        have hs2 := HS.out
        rw [d1, if_pos rfl] at hs2
        have HS2 := Lib.hid hs2
        clear hs2
        go_wp2_with fail
        go_roundg (q - (k + 1))
        case measure => omega
        case rel => exact ⟨k + 1, rfl, by omega, by go_num, by rw [HS2.out]; go_num, rfl⟩
      · have d1 : decide ((m : Int) - 1 ≤ n) = false := decide_eq_false hmn
        have hs2 := HS.out
        rw [d1, if_neg (by simp)] at hs2
        have HS2 := Lib.hid hs2
        clear hs2
        go_wp2_with fail
        go_roundg (q - (k + 1))
        case measure => omega
        case rel => exact ⟨k + 1, rfl, by omega, by go_num, by rw [HS2.out]; rfl, rfl⟩
    · obtain rfl : k = q := by omega
      have j1 : ¬ (k : Int) < (k : Int) := by omega
      have hfin : ((W.firsts.tail.take k).filter (fun m : Nat => decide ((m : Int) - 1 ≤ n))).length = Wm.upTo W.firsts n := by
        unfold Wm.upTo; rw [List.take_of_length_le (by omega)]
      rw [hfin]
      clear hfin htl hA3
      go_wp2_with fail
      go_ret
      exact ⟨rfl, rfl⟩
end
end Go.Proofs.YtoecbkndbcblpaaGreatDoor
namespace Wm
open Dm (Disk)
def removeAll (log : ByteArray) : List Nat → Disk → Nat × Disk
  | [], D => (0, D)
  | n :: r, D => match Dm.remove D (nameOf log n).data.toList with
    | (0, D') => removeAll log r D'
    | (e + 1, D') => (e + 1, D')
theorem removeAll_ok {log : ByteArray} {n : Nat} {r : List Nat} {D D' : Disk} (h : Dm.remove D (nameOf log n).data.toList = (0, D')) : removeAll log (n :: r) D = removeAll log r D' := by
  show (match Dm.remove D (nameOf log n).data.toList with | (0, D') => removeAll log r D' | (e + 1, D') => (e + 1, D')) = _
  rw [h]
theorem removeAll_step {log : ByteArray} {n : Nat} {r : List Nat} {D D1 : Dm.Disk} (h : removeAll log (n :: r) D = (0, D1)) : ∃ D', Dm.remove D (nameOf log n).data.toList = (0, D') ∧ removeAll log r D' = (0, D1) := by
  obtain ⟨⟨c, D'⟩, hc⟩ : ∃ x, Dm.remove D (nameOf log n).data.toList = x := ⟨_, rfl⟩
  have e : removeAll log (n :: r) D = (match Dm.remove D (nameOf log n).data.toList with | (0, D') => removeAll log r D' | (e + 1, D') => (e + 1, D')) := rfl
  rw [e, hc] at h
  match c, hc, h with
  | 0, hc, h => exact ⟨D', hc, h⟩
  | c + 1, hc, h => cases h
end Wm
namespace Go.Proofs.YtoecbkndbcblpaaGreatDoor
open Go.RowKit Go.Maps Go.Sort Go.Shelf

section
variable {w0 w w' : World} {a b : Nat} {D D' : Dm.Disk} {B C : List (Nat × Obj)} {W W' : Wm.W}
theorem upTo_le (xs : List Nat) (n : Int) (h : xs ≠ []) : Wm.upTo xs n < xs.length := by
  unfold Wm.upTo
  have h1 := List.length_filter_le (fun m : Nat => decide ((m : Int) - 1 ≤ n)) xs.tail
  have h2 : xs.tail.length = xs.length - 1 := List.length_tail
  have h3 := List.length_pos_iff.2 h
  omega
/-- The row of numbers behind slices.Delete. -/
theorem deleted_row {g cap gone q : Nat} {cur : Array Value} {xs : List Nat} (h : Bx w0 w a D ((g, .cells cur 3 (0, 0)) :: C)) (hc : cur.size = cap) (hl : xs.length ≤ cap) (_ht : cur.toList.take xs.length = xs.map natV) (hg : gone ≤ xs.length)
    (hw : w' = putRow (Value.int .i64) (Sort.ahead w q) g 0 ((xs.map Int.ofNat).take 0 ++ (xs.map Int.ofNat).drop gone ++ List.replicate (gone - 0) 0).toArray) :
    ∃ cur', Bx w0 w' a D ((g, .cells cur' 3 (0, 0)) :: C) ∧ cur'.size = cap ∧ cur'.toList.take (xs.length - gone) = (xs.drop gone).map natV := by
  have hb := h.box _ List.mem_cons_self
  obtain ⟨d, hd⟩ : ∃ d, d = ((xs.map Int.ofNat).take 0 ++ (xs.map Int.ofNat).drop gone ++ List.replicate (gone - 0) (0 : Int)).toArray := ⟨_, rfl⟩
  have hds : d.size = xs.length := by rw [hd]; simp; omega
  rw [← hd] at hw
  refine ⟨putCells (Value.int .i64) 0 d cur, h.turn (o := .cells cur 3 (0, 0)) ?_ ?_, ?_, ?_⟩
  · rw [hw]
    exact ⟨rfl, rfl, rfl, by simp [Sort.ahead], fun k hk hne => by
      show ((w.heap.modify g _)[k]?) = _
      rw [Array.getElem?_modify, if_neg (fun e => hne e.symm)]⟩
  · rw [hw]
    show ((w.heap.modify g (onCells (putCells (Value.int .i64) 0 d)))[g]?) = _
    rw [Array.getElem?_modify, if_pos rfl, hb]
    rfl
  · simp [putCells, hc]
  · refine List.ext_getElem? fun i => ?_
    by_cases hi : i < xs.length - gone
    · have hic : i < cur.size := by omega
      rw [List.getElem?_take, if_pos hi, Array.getElem?_toList, List.getElem?_map, List.getElem?_drop, List.getElem?_eq_getElem (by omega : gone + i < xs.length)]
      unfold putCells
      rw [Array.getElem?_mapIdx, Array.getElem?_eq_getElem hic]
      simp only [Option.map_some]
      rw [if_pos ⟨Nat.zero_le _, by omega⟩, Nat.sub_zero, getElem!_pos d i (by omega)]
      have hgi : gone + i < xs.length := by omega
      obtain ⟨x, hx⟩ : ∃ x, x = xs[gone + i] := ⟨_, rfl⟩
      have e : d[i]'(by omega) = ((x : Nat) : Int) := by
        have e2 : d[i]? = some ((x : Nat) : Int) := by
          rw [hx, hd]
          rw [List.getElem?_toArray, List.take_zero, List.nil_append, List.getElem?_append_left (by simp; omega), List.getElem?_drop, List.getElem?_map, List.getElem?_eq_getElem (by omega : gone + i < xs.length)]
          rfl
        rw [Array.getElem?_eq_getElem (by omega)] at e2
        exact Option.some.inj e2
      rw [e, hx]; rfl
    · rw [List.getElem?_eq_none (by rw [List.length_take]; omega), List.getElem?_eq_none (by simp; omega)]
set_option maxRecDepth 100000 in
set_option maxHeartbeats 8000000 in
theorem drop_w (h : WalIn w0 w a D b W B) (hok : Wm.Ok W) (hsm : ∀ m ∈ W.firsts, m < 100) (n : Int) (_hn1 : -9223372036854775808 ≤ n) (hn2 : n < (W.last : Int)) (hr : Wm.removeAll W.log (W.firsts.take (Wm.upTo W.firsts n)) D = (0, D')) :
    Calls Tryz.prog 37 #[.pointer (some ⟨b, 0, none⟩), .int .i64 n] w fun e w' => e = .returned (.int .i64 0) ∧ WalIn w0 w' a D' b { W with firsts := W.firsts.drop (Wm.upTo W.firsts n) } B := by
  have hu := upTo_w h hok hsm n
  obtain ⟨v, R, h1, h2⟩ := h
  have hlog := hok.log
  have hpos : 0 < W.firsts.length := List.length_pos_iff.2 hok.some
  have hul := upTo_le W.firsts n hok.some
  have hfew := hok.few
  rcases h2 with ⟨-, hnil, -⟩ | ⟨g, cap, cur, rfl, rfl, hc1, hc2, hc3, hc4⟩
  · exact absurd hnil hok.some
  obtain ⟨U, hU⟩ : ∃ U, U = Wm.upTo W.firsts n := ⟨_, rfl⟩
  rw [← hU] at hu hul hr ⊢
  clear hU
  have hx : ∀ w1 D1, Bx w0 w1 a D1 ((b, fobj a W.f (walRest W (.slice (some ⟨g, 0, none⟩) W.firsts.length cap)) 43) :: ([(g, .cells cur 3 (0, 0))] ++ B)) → w1.cell? ⟨b, 0, none⟩ = some (.pointer (some ⟨a, 0, none⟩)) ∧ w1.cell? ⟨b, 5, none⟩ = some (.string W.log) ∧ w1.cell? ⟨b, 6, none⟩ = some (.slice (some ⟨g, 0, none⟩) W.firsts.length cap) ∧ w1.cell? ⟨b, 7, none⟩ = some (.int .i64 (W.last : Nat)) ∧ w1.frozen? ⟨b, 6, none⟩ = false := fun w1 D1 y =>
    ⟨(fobj_cells (y.box _ List.mem_cons_self)).1, (wobj_cells (y.box _ List.mem_cons_self)).1, (wobj_cells (y.box _ List.mem_cons_self)).2.1, (wobj_cells (y.box _ List.mem_cons_self)).2.2.1, frozen_of_row _ _ _ _ _ (y.box _ List.mem_cons_self)⟩
  have hat : ∀ w1 D1, Bx w0 w1 a D1 ((b, fobj a W.f (walRest W (.slice (some ⟨g, 0, none⟩) W.firsts.length cap)) 43) :: ([(g, .cells cur 3 (0, 0))] ++ B)) → ∀ i (hi : i < W.firsts.length), w1.cell? ⟨g, i, none⟩ = some (natV W.firsts[i]) := fun w1 D1 y i hi => by
    rw [cell_of_row w1 g i _ _ _ (y.box (g, .cells cur 3 (0, 0)) (by simp))]
    have := congrArg (fun l => l[i]?) hc4
    simp only [Nat.mul_one, List.getElem?_take, if_pos hi, Array.getElem?_toList, List.getElem?_map, List.getElem?_eq_getElem hi, Option.map_some] at this
    exact this
  obtain ⟨x0, x5, x6, x7, -⟩ := hx _ _ h1
  have hnl : ¬ (W.last : Int) ≤ n := by omega
  have i0 : (0 : Int) ≤ (U : Int) := by omega
  have i1 : (U : Int) ≤ (cap : Int) := by omega
  have H1 := Lib.hid h1
  have HX := Lib.hid hx
  have HA := Lib.hid hat
  have HS := Lib.hid hr
  have HC := Lib.hid (And.intro hc2 (And.intro hc3 hc4))
  clear h1 hx hat hr hc2 hc3 hc4
  unfold maxLen at HC
  go_enter Tryz.func37, Tryz.ntmps37
  go_wp2_with fail
  refine hu.mono ?_
  rintro e w1 ⟨rfl, rfl⟩
  go_wp2_with fail
  go_loopg [9, 10, 43] W.firsts.length (fun gh _ _ iv wr => ∃ (k : Nat) (Dk : Dm.Disk), gh = W.firsts.length - k ∧ k ≤ U ∧ iv = .int .i64 (k : Nat) ∧ Hid (Bx w0 wr a Dk ((b, fobj a W.f (walRest W (.slice (some ⟨g, 0, none⟩) W.firsts.length cap)) 43) :: ([(g, .cells cur 3 (0, 0))] ++ B)) ∧ Wm.removeAll W.log ((W.firsts.take U).drop k) Dk = (0, D')))
  case atStart => exact ⟨0, D, rfl, Nat.zero_le _, rfl, Lib.hid ⟨H1.out, HS.out⟩⟩
  case round =>
    obtain ⟨k, Dk, rfl, hk, rfl, HH⟩ := hrel
    clear x0 x5 x6 x7 H1 HS
    obtain ⟨y0, y5, y6, y7, yf⟩ := HX.out _ _ HH.out.1
    by_cases hlt : k < U
    · have j1 : (k : Int) < (U : Int) := by omega
      have j2 : (0 : Int) ≤ (k : Int) := by omega
      have hkl : k < W.firsts.length := by omega
      have z := HA.out _ _ HH.out.1 k hkl
      have hn1 := hsm _ (List.getElem_mem hkl)
      have hst := HH.out.2
      have htl : k < (W.firsts.take U).length := by rw [List.length_take]; omega
      rw [List.drop_eq_getElem_cons htl, List.getElem_take] at hst
      obtain ⟨D2, hd1, hd2⟩ := Wm.removeAll_step hst
      generalize W.firsts[k] = m at *
      unfold natV at z
      have hsz : (Wm.nameOf W.log m).size ≤ maxLen := by have := nameOf_size W.log m hn1; unfold maxLen; omega
      have hname := fun w1 (y : Bx w0 w1 a Dk ((b, fobj a W.f (walRest W (.slice (some ⟨g, 0, none⟩) W.firsts.length cap)) 43) :: ([(g, .cells cur 3 (0, 0))] ++ B))) => nameOf_any b W.log m w1 hn1 (by omega) (HX.out _ _ y).2.1 fun W' hW => (HX.out _ _ (y.same hW)).2.1
      have hsy := fun w1 (y : Bx w0 w1 a Dk ((b, fobj a W.f (walRest W (.slice (some ⟨g, 0, none⟩) W.firsts.length cap)) 43) :: ([(g, .cells cur 3 (0, 0))] ++ B))) => remove_b y (Wm.nameOf W.log m) hsz hd1
      have HN := Lib.hid hname
      have HY := Lib.hid hsy
      have HD2 := Lib.hid hd2
      have H3 := Lib.hid HH.out.1
      have H3d := Lib.hid HH.out.1.drew
      have HDR := Lib.hid (Below.refl wr.heap.size wr).drew
      generalize Wm.nameOf W.log m = nm at *
      clear hst hd1 hd2 hsz hname hsy HH htl
      go_wp2_with fail
      go_region_law (first
        | (go_simp; go_at_call 56; refine (HN.out _ H3d.out).mono ?_; rintro e w4 ⟨rfl, hb4⟩; have H4 := Lib.hid (H3.out.same (HDR.out.trans (hb4.mono HDR.out.size))); have z0 := (HX.out _ _ H4.out).1; clear hb4)
        | (go_simp; go_at_call 70; refine (HY.out _ H4.out).mono ?_; rintro e w5 ⟨rfl, h5⟩; have H5 := Lib.hid h5; clear h5))
      all_goals
        go_wp2_with fail
        go_roundg (W.firsts.length - (k + 1))
        case measure => omega
        case rel => exact ⟨k + 1, D2, rfl, by omega, by go_num, Lib.hid ⟨H5.out, HD2.out⟩⟩
    · obtain rfl : k = U := by omega
      have j1 : ¬ (k : Int) < (k : Int) := by omega
      have hfin := HH.out.2
      rw [List.drop_eq_nil_of_le (by rw [List.length_take]; omega)] at hfin
      obtain rfl : Dk = D' := (Prod.mk.inj hfin).2
      have hgb : Bx w0 wr a Dk ((g, .cells cur 3 (0, 0)) :: ((b, fobj a W.f (walRest W (.slice (some ⟨g, 0, none⟩) W.firsts.length cap)) 43) :: B)) := HH.out.1.perm (List.Perm.swap _ _ _)
      have hHold : Holds (Value.int .i64) wr g 0 ((W.firsts.map Int.ofNat)).toArray := fun j hj => by
        have hj' : j < W.firsts.length := by simpa using hj
        have hz := HA.out _ _ HH.out.1 j hj'
        refine ⟨?_, frozen_of_row _ _ _ _ _ (hgb.box _ List.mem_cons_self)⟩
        rw [Nat.zero_add, hz, getElem!_pos _ j hj]
        simp [natV]
      have hdel := wl_slices_Delete_int g 0 cap 0 k (W.firsts.map Int.ofNat) wr hHold (by simp; omega) (by have := HC.out.1; omega) (Nat.zero_le _) (by simp; omega)
      simp only [List.length_map] at hdel
      rw [show ((0 : Nat) : Int) = (0 : Int) from rfl] at hdel
      have HDEL := Lib.hid hdel
      have hk' : k ≤ W.firsts.length := by omega
      have HG := Lib.hid hgb
      clear hfin HH HA HX hdel hgb hHold hu
      go_wp2_with fail
      (with_reducible refine HDEL.out.mono ?_)
      rintro e w2 ⟨rfl, q, hw2⟩
      obtain ⟨cur', hb', hcs, hct⟩ := deleted_row HG.out (by have := HC.out.2.1; omega) hc1 (by have := HC.out.2.2; rwa [Nat.mul_one] at this) hk' hw2
      have hb2 := hb'.perm (List.Perm.swap _ _ _)
      have z6 := (wobj_cells (hb2.box _ List.mem_cons_self)).2.1
      have zf : w2.frozen? ⟨b, 6, none⟩ = false := frozen_of_row _ _ _ _ _ (hb2.box _ List.mem_cons_self)
      have H2 := Lib.hid (hb2.row (.slice (some ⟨g, 0, none⟩) (W.firsts.length - k) cap))
      have HCT := Lib.hid (And.intro hcs hct)
      clear hb' hb2 hcs hct hw2 HDEL HG y0 y5 y6 y7 yf
      rw [Nat.sub_zero]
      go_wp2_with fail
      go_ret
      refine ⟨rfl, _, [(g, .cells cur' 3 (0, 0))], H2.out, .inr ⟨g, cap, cur', ?_, rfl, ?_, HC.out.1, ?_, ?_⟩⟩
      · rw [List.length_drop]
      · rw [List.length_drop]; omega
      · rw [HCT.out.1, Nat.mul_one]
      · rw [List.length_drop, Nat.mul_one]; exact HCT.out.2
set_option maxHeartbeats 1000000 in
theorem DropC_w {z y : Nat} {n : Int} (z0 : w.cell? ⟨z, 0, none⟩ = some (.pointer (some ⟨b, 0, none⟩))) (y0 : w.cell? ⟨y, 0, none⟩ = some (.int .i64 n))
    (hd : Calls Tryz.prog 37 #[.pointer (some ⟨b, 0, none⟩), .int .i64 n] w fun e w' => e = .returned (.int .i64 0) ∧ WalIn w0 w' a D' b W' B) :
    Calls Tryz.prog 36 #[.pointer (some ⟨z, 0, none⟩), .pointer (some ⟨y, 0, none⟩)] w fun e w' => e = .returned (.int .i64 0) ∧ WalIn w0 w' a D' b W' B := by
  go_enter Tryz.func36, Tryz.ntmps36
  go_wp2_with fail
  refine hd.mono ?_
  rintro e w2 ⟨rfl, h2⟩
  have H2 := Lib.hid h2
  clear h2
  go_wp2_with fail
  go_ret
  exact ⟨rfl, H2.out⟩
set_option maxHeartbeats 1000000 in
theorem Drop_yes (h : WalIn w0 w a D b W B) (hok : Wm.Ok W) (hf : FOk W.f) (ha : Wm.alive D W = true) (hsm : ∀ m ∈ W.firsts, m < 100) (n : Int) (hn1 : -9223372036854775808 ≤ n) (hn2 : n < (W.last : Int)) (hr : Wm.removeAll W.log (W.firsts.take (Wm.upTo W.firsts n)) D = (0, D')) :
    Calls Tryz.prog 15 #[.pointer (some ⟨b, 0, none⟩), .int .i64 n] w fun e w' => e = .returned (.int .i64 (0 : Nat)) ∧ WalIn w0 w' a D' b { W with firsts := W.firsts.drop (Wm.upTo W.firsts n), dead := false } B := by
  obtain ⟨W1, hW1⟩ : ∃ W1, w.alloc (.cells #[.pointer (some ⟨b, 0, none⟩)] 24) = W1 := ⟨_, rfl⟩
  obtain ⟨z, hz⟩ : ∃ z, w.heap.size = z := ⟨_, rfl⟩
  have h1 : WalIn w0 W1 a D b W ((z, .cells #[.pointer (some ⟨b, 0, none⟩)] 24 (0, 0)) :: B) := by rw [← hW1, ← hz]; exact h.alloc _
  obtain ⟨W2, hW2⟩ : ∃ W2, W1.alloc (.cells #[.int .i64 n] 3) = W2 := ⟨_, rfl⟩
  obtain ⟨y, hy⟩ : ∃ y, W1.heap.size = y := ⟨_, rfl⟩
  have h2 : WalIn w0 W2 a D b W ((y, .cells #[.int .i64 n] 3 (0, 0)) :: (z, .cells #[.pointer (some ⟨b, 0, none⟩)] 24 (0, 0)) :: B) := by rw [← hW2, ← hy]; exact h1.alloc _
  have z0 : W2.cell? ⟨z, 0, none⟩ = some (.pointer (some ⟨b, 0, none⟩)) := by rw [cell_of_row W2 z _ _ _ _ (h2.box _ (List.mem_cons_of_mem _ List.mem_cons_self))]; rfl
  have hd := do_yes h2 hok hf ha (enters_of Tryz.func36 (by kernel_rfl) rfl) (cb := #[.pointer (some ⟨z, 0, none⟩), .pointer (some ⟨y, 0, none⟩)]) (c := 0) (W' := { W with firsts := W.firsts.drop (Wm.upTo W.firsts n) })
    (fun w1 hw1 => DropC_w (by rw [cell_of_row w1 z _ _ _ _ (hw1.box _ (List.mem_cons_of_mem _ List.mem_cons_self))]; rfl) (by rw [cell_of_row w1 y _ _ _ _ (hw1.box _ List.mem_cons_self)]; rfl) (drop_w hw1 hok hsm n hn1 hn2 hr))
  clear h h1 h2 hok hf ha
  go_enter Tryz.func15, Tryz.ntmps15
  go_wp2_with fail
  refine hd.mono ?_
  rintro e w2 ⟨rfl, h2⟩
  have H2 := Lib.hid (h2.sub ((List.sublist_cons_self _ _).trans (List.sublist_cons_self _ _)))
  clear h2
  go_wp2_with fail
  go_ret
  exact ⟨rfl, H2.out⟩
set_option maxHeartbeats 1000000 in
/-- A body that is too long. -/
theorem Append_long (h : WalIn w0 w a D b W B) (s : ByteArray) (hm : s.size ≤ maxLen) (hs : 65536 < s.size) :
    Calls Tryz.prog 11 #[.pointer (some ⟨b, 0, none⟩), .string s] w fun e w' => e = .returned (.tuple #[.int .i64 0, .int .i64 3]) ∧ WalIn w0 w' a D b W B := by
  obtain ⟨W1, hW1⟩ : ∃ W1, w.alloc (.cells #[.pointer (some ⟨b, 0, none⟩)] 24) = W1 := ⟨_, rfl⟩
  obtain ⟨z, hz⟩ : ∃ z, w.heap.size = z := ⟨_, rfl⟩
  have h1 : WalIn w0 W1 a D b W ((z, .cells #[.pointer (some ⟨b, 0, none⟩)] 24 (0, 0)) :: B) := by rw [← hW1, ← hz]; exact h.alloc _
  have z0 : W1.cell? ⟨z, 0, none⟩ = some (.pointer (some ⟨b, 0, none⟩)) := by rw [cell_of_row W1 z _ _ _ _ (h1.box _ List.mem_cons_self)]; rfl
  have hmd := made_w h1
  have hfr := Frame_long s W1 hm hs
  have H1 := Lib.hid (h1.sub (List.sublist_cons_self _ _))
  have H1b := Lib.hid ((h1.alloc (.cells #[.string ⟨#[]⟩] 9)).sub ((List.sublist_cons_self _ _).trans (List.sublist_cons_self _ _)))
  clear h h1
  go_enter Tryz.func11, Tryz.ntmps11
  go_wp2_with fail
  refine hmd.mono ?_
  rintro e w2 ⟨rfl, rfl⟩
  go_wp2_with fail
  refine hfr.mono ?_
  rintro e w2 ⟨rfl, rfl⟩
  go_wp2_with fail
  go_ret2
  exact ⟨rfl, by first | exact H1.out | exact H1b.out⟩
end
end Go.Proofs.YtoecbkndbcblpaaGreatDoor
namespace Go.Proofs.YtoecbkndbcblpaaGreatDoor
open Go.RowKit Go.Maps Go.Sort Go.Shelf

section
variable {w0 w w' : World} {a b : Nat} {D D' : Dm.Disk} {B : List (Nat × Obj)} {W W' : Wm.W}
theorem fobj_name {f : Wm.F} {rest : List Value} {T : TypeId} (n : ByteArray) : fobj a { f with name := n } rest T = .cells ((fcells a f ++ rest).toArray.setIfInBounds 1 (.string n)) T (0, 0) := by simp [fobj, fcells]
theorem Bx.fname {f : Wm.F} {rest : List Value} {T : TypeId} (h : Bx w0 w a D ((b, fobj a f rest T) :: B)) (n : ByteArray) : Bx w0 (w.setCell ⟨b, 1, none⟩ (.string n)) a D ((b, fobj a { f with name := n } rest T) :: B) := by
  rw [fobj_name]; exact Bx.set h 1 _
theorem WalIn.lift {z : Nat} {o o' : Obj} {g : Nat} {args : Array Value} {v : Value} (h : WalIn w0 w a D b W ((z, o) :: B))
    (hc : ∀ B1, Bx w0 w a D ((z, o) :: B1) → Calls Tryz.prog g args w fun e w' => e = .returned v ∧ Bx w0 w' a D' ((z, o') :: B1)) :
    Calls Tryz.prog g args w fun e w' => e = .returned v ∧ WalIn w0 w' a D' b W ((z, o') :: B) := by
  obtain ⟨v1, R, h1, h2⟩ := h
  exact (hc _ (box_first h1)).mono fun _ _ ⟨he, hd⟩ => ⟨he, v1, R, box_back hd, h2⟩
set_option maxHeartbeats 1000000 in
theorem undo_b {z : Nat} {f : Wm.F} {T : TypeId} (h : Bx w0 w a D ((z, fobj a f [] T) :: B)) (hn : f.name.size ≤ maxLen) {c : Nat} (hc : c ≠ 0) (e : Dm.remove D f.name.data.toList = (c, D')) (c0 : Int) :
    Calls Tryz.prog 67 #[.pointer (some ⟨z, 0, none⟩), .int .i64 c0] w fun e w' => e = .returned (.int .i64 (c : Nat)) ∧ Bx w0 w' a D' ((z, fobj a f [] T) :: B) := by
  obtain ⟨x0, x1, x2, x3, x4, -⟩ := fobj_cells (h.box _ List.mem_cons_self)
  have HS := Lib.hid e
  have H := Lib.hid h.drew
  have d0 : ((c : Int) == 0) = false := by rw [beq_eq_false_iff_ne]; omega
  clear h e hc
  go_enter Tryz.func67, Tryz.ntmps67
  go_wp2_with fail
  go_region_with (go_at_call 70; refine (remove_b H.out f.name hn HS.out).mono ?_; rintro e w2 ⟨rfl, h2⟩)
  all_goals
    have H2 := Lib.hid h2
    clear h2
    go_wp2_with fail
    go_ret
    exact ⟨rfl, H2.out⟩
set_option maxRecDepth 100000 in
set_option maxHeartbeats 1000000 in
theorem begin_nosync (h : WalIn w0 w a D b W B) (hf : FOk W.f) {c : Nat} (hc : c ≠ 0) {f1 : Wm.F} (e1 : Wm.sync D W.f = (c, D', f1)) :
    Calls Tryz.prog 66 #[.pointer (some ⟨b, 0, none⟩)] w fun e w' => e = .returned (.tuple #[.agg #[.pointer none, .string ⟨#[]⟩, .int .i64 0, .string ⟨#[]⟩, .string ⟨#[]⟩], .int .i64 (c : Nat)]) ∧ WalIn w0 w' a D' b { W with f := f1 } B := by
  have hn : W.f.name.size ≤ maxLen := by have := hf.name; unfold maxLen; omega
  have h1 := h.alloc (.cells #[.pointer none, .string ⟨#[]⟩, .int .i64 0, .string ⟨#[]⟩, .string ⟨#[]⟩] 40)
  have hsy := fsync_wi h1 hn e1
  have d0 : ((c : Int) == 0) = false := by rw [beq_eq_false_iff_ne]; omega
  clear h h1 hf e1 hn hc
  go_enter Tryz.func66, Tryz.ntmps66
  go_wp2_with fail
  refine hsy.mono ?_
  rintro e w2 ⟨rfl, h2⟩
  obtain ⟨q0, q1, q2, q3, q4, qf⟩ := cells5 (h2.box _ List.mem_cons_self)
  have qf0 := qf 0
  have qf1 := qf 1
  have qf2 := qf 2
  have qf3 := qf 3
  have qf4 := qf 4
  have H2 := Lib.hid h2
  clear h2 hsy qf
  go_wp2_with fail
  refine bodyPost_ret (v := .tuple #[.agg #[.pointer none, .string ⟨#[]⟩, .int .i64 0, .string ⟨#[]⟩, .string ⟨#[]⟩], .int .i64 (c : Nat)]) (by simp [results, Tryz.results66, go_sem, *]) rfl ⟨rfl, ?_⟩
  exact H2.out.five_
set_option maxRecDepth 100000 in
set_option maxHeartbeats 4000000 in
theorem begin_nofile (h : WalIn w0 w a D b W B) (hf : FOk W.f) (hlog : W.log.size ≤ 13) (hlast : W.last ≤ 98) {D1 : Dm.Disk} {f1 : Wm.F} (e1 : Wm.sync D W.f = (0, D1, f1)) {c : Nat} (hc : c ≠ 0) (e2 : Dm.create D1 (Wm.nameOf W.log (W.last + 1)).data.toList = (c, D')) :
    Calls Tryz.prog 66 #[.pointer (some ⟨b, 0, none⟩)] w fun e w' => e = .returned (.tuple #[.agg #[.pointer none, .string ⟨#[]⟩, .int .i64 0, .string ⟨#[]⟩, .string ⟨#[]⟩], .int .i64 (c : Nat)]) ∧ WalIn w0 w' a D' b { W with f := f1 } B := by
  obtain ⟨W1, hW1⟩ : ∃ W1, w.alloc (.cells #[.pointer none, .string ⟨#[]⟩, .int .i64 0, .string ⟨#[]⟩, .string ⟨#[]⟩] 40) = W1 := ⟨_, rfl⟩
  obtain ⟨z, hz⟩ : ∃ z, w.heap.size = z := ⟨_, rfl⟩
  have h1 : WalIn w0 W1 a D b W ((z, .cells #[.pointer none, .string ⟨#[]⟩, .int .i64 0, .string ⟨#[]⟩, .string ⟨#[]⟩] 40 (0, 0)) :: B) := by rw [← hW1, ← hz]; exact h.alloc _
  have hn : W.f.name.size ≤ maxLen := by have := hf.name; unfold maxLen; omega
  have hsy := fsync_wi h1 hn e1
  have hsz : (Wm.nameOf W.log (W.last + 1)).size ≤ maxLen := by have := nameOf_size W.log (W.last + 1) (by omega); unfold maxLen; omega
  have hname := fun w1 B1 (h1 : WalIn w0 w1 a D1 b { W with f := f1 } B1) => nameOf_wi h1 hlog (W.last + 1) (by omega)
  have hcr : ∀ w1 B1, WalIn w0 w1 a D1 b { W with f := f1 } B1 → Calls Tryz.prog 58 #[.pointer (some ⟨a, 0, none⟩), .string (Wm.nameOf W.log (W.last + 1))] w1 fun e w' => e = .returned (.tuple #[.agg #[.pointer none, .string ⟨#[]⟩, .int .i64 0, .string ⟨#[]⟩, .string ⟨#[]⟩], .int .i64 (c : Nat)]) ∧ WalIn w0 w' a D' b { W with f := f1 } B1 := fun w1 B1 h1 => by
    have h := create_wi h1 _ hsz e2
    rw [if_neg hc] at h
    exact h
  have k1 : ((W.last + 1 : Nat) : Int) = (W.last : Int) + 1 := by omega
  have k2 : IntKind.i64.wrap ((W.last : Int) + 1) = (W.last : Int) + 1 := IntWalk.i64_in _ (by omega)
  simp only at hname
  rw [k1] at hname
  have HN := Lib.hid hname
  have HC := Lib.hid hcr
  clear h h1 hf hname hcr hsz e1 e2 k1 hn hc
  generalize Wm.nameOf W.log (W.last + 1) = nm at *
  go_enter Tryz.func66, Tryz.ntmps66
  go_wp2_with fail
  refine hsy.mono ?_
  rintro e w2 ⟨rfl, h2⟩
  have H2 := Lib.hid h2
  obtain ⟨y0, y5, y7, -⟩ := h2.cells
  simp only at y7
  have H2d := Lib.hid h2.drewI
  have HD2 := Lib.hid (Below.refl w2.heap.size w2).drew
  clear h2 hsy
  go_wp2_with fail
  go_region_law (first
    | (go_simp; go_at_call 56; refine (HN.out _ _ H2d.out).mono ?_; rintro e w4 ⟨rfl, hb4⟩; have HB4 := Lib.hid (HD2.out.trans (hb4.mono HD2.out.size)); have H4 := Lib.hid (H2.out.same HB4.out); have z0 := H4.out.cells.1; clear hb4)
    | (go_simp; go_at_call 58; refine (HC.out _ _ H4.out).mono ?_; rintro e w5 ⟨rfl, h5⟩; obtain ⟨q0, q1, q2, q3, q4, qf⟩ := cells5 (h5.box _ List.mem_cons_self); have qf0 := qf 0; have qf1 := qf 1; have qf2 := qf 2; have qf3 := qf 3; have qf4 := qf 4; have H5 := Lib.hid h5; clear h5 qf))
  all_goals
    go_wp2_with fail
    refine bodyPost_ret (v := .tuple #[.agg #[.pointer none, .string ⟨#[]⟩, .int .i64 0, .string ⟨#[]⟩, .string ⟨#[]⟩], .int .i64 (c : Nat)]) (by simp [results, Tryz.results66, go_sem, *]) rfl ⟨rfl, ?_⟩
    exact H5.out.five_
set_option maxRecDepth 100000 in
set_option maxHeartbeats 2000000 in
/-- put where begin has an error. -/
theorem put_nobegin (h : WalIn w0 w a D b W B) (ht : W.f.torn = ⟨#[]⟩) (hs : 16384 ≤ W.f.size) (fr : ByteArray) {c : Nat} (hc : c ≠ 0)
    (hbg : Calls Tryz.prog 66 #[.pointer (some ⟨b, 0, none⟩)] w fun e w' => e = .returned (.tuple #[.agg #[.pointer none, .string ⟨#[]⟩, .int .i64 0, .string ⟨#[]⟩, .string ⟨#[]⟩], .int .i64 (c : Nat)]) ∧ WalIn w0 w' a D' b W' B) :
    Calls Tryz.prog 32 #[.pointer (some ⟨b, 0, none⟩), .string fr] w fun e w' => e = .returned (.int .i64 (c : Nat)) ∧ WalIn w0 w' a D' b W' B := by
  obtain ⟨-, -, -, -, x4, -⟩ := h.cells
  rw [ht] at x4
  have hfull := ffull_wi h
  rw [decide_eq_true hs] at hfull
  have d0 : ((c : Int) == 0) = false := by rw [beq_eq_false_iff_ne]; omega
  clear h ht hs hc
  go_enter Tryz.func32, Tryz.ntmps32
  go_wp2_with fail
  refine hfull.mono ?_
  rintro e w2 ⟨rfl, rfl⟩
  go_wp2_with fail
  refine hbg.mono ?_
  rintro e w3 ⟨rfl, h3⟩
  have H4 := Lib.hid (h3.below)
  have H5 := Lib.hid ((h3.alloc (.cells #[.pointer none, .string ⟨#[]⟩, .int .i64 0, .string ⟨#[]⟩, .string ⟨#[]⟩] 40)).sub (List.sublist_cons_self _ _))
  clear h3 hbg hfull
  go_wp2_with fail
  go_ret
  exact ⟨rfl, H5.out⟩
set_option maxRecDepth 100000 in
set_option maxHeartbeats 4000000 in
/-- put into another file, where that write has an error, and what is undone of it has another one. -/
theorem put_nowrite (h : WalIn w0 w a D b W B) (hok : Wm.Ok W) (hf : FOk W.f) (ht : W.f.torn = ⟨#[]⟩) (hs : 16384 ≤ W.f.size) (fr : ByteArray) (hr : fr.size ≤ 1048576) {D1 D2 D3 : Dm.Disk} {f1 f' : Wm.F} (e1 : Wm.sync D W.f = (0, D1, f1)) (e2 : Dm.create D1 (Wm.nameOf W.log (W.last + 1)).data.toList = (0, D2))
    {c k : Nat} (hc : c ≠ 0) (hk : k ≠ 0) (e3 : Wm.write D2 (Wm.fresh (Wm.nameOf W.log (W.last + 1))) fr = (c, D3, f')) (e4 : Dm.remove D3 f'.name.data.toList = (k, D')) (hn' : f'.name.size ≤ maxLen) :
    Calls Tryz.prog 32 #[.pointer (some ⟨b, 0, none⟩), .string fr] w fun e w' => e = .returned (.int .i64 (k : Nat)) ∧ WalIn w0 w' a D' b { W with f := f1 } B := by
  obtain ⟨-, -, -, -, x4, -⟩ := h.cells
  rw [ht] at x4
  have hfull := ffull_wi h
  rw [decide_eq_true hs] at hfull
  have hbg := begin_w h hf hok.log hok.last e1 e2
  have hnm : (Wm.nameOf W.log (W.last + 1)).size ≤ 32 := name_fits W.log (W.last + 1) hok.log (by have := hok.last; omega)
  have hfw := fun w1 z (h1 : WalIn w0 w1 a D2 b { W with f := f1 } ((z, fobj a (Wm.fresh (Wm.nameOf W.log (W.last + 1))) [] 40) :: B)) => fwrite_box h1 ⟨hnm, Nat.zero_le _, Nat.zero_le _, Nat.zero_le _⟩ fr hr e3
  have hun := fun w1 z (h1 : WalIn w0 w1 a D3 b { W with f := f1 } ((z, fobj a f' [] 40) :: B)) => h1.lift (fun B1 hB => undo_b hB hn' hk e4 (c : Int))
  have HW := Lib.hid hfw
  have HU := Lib.hid hun
  have d0 : ((c : Int) == 0) = false := by rw [beq_eq_false_iff_ne]; omega
  clear h hok hf ht hs hr e1 e2 e3 hfw hnm hun e4 hn' hc hk
  have hfr : ∀ nm : ByteArray, fobj a (Wm.fresh nm) [] 40 = .cells #[.pointer (some ⟨a, 0, none⟩), .string nm, .int .i64 0, .string ⟨#[]⟩, .string ⟨#[]⟩] 40 (0, 0) := fun nm => by simp [fobj, fcells, Wm.fresh]
  generalize Wm.nameOf W.log (W.last + 1) = nm at *
  have hfr := hfr nm
  go_enter Tryz.func32, Tryz.ntmps32
  go_wp2_with fail
  refine hfull.mono ?_
  rintro e w2 ⟨rfl, rfl⟩
  go_wp2_with fail
  refine hbg.mono ?_
  rintro e w3 ⟨rfl, h3⟩
  have H4 := Lib.hid (show WalIn w0 (w3.alloc (.cells #[.pointer (some ⟨a, 0, none⟩), .string nm, .int .i64 0, .string ⟨#[]⟩, .string ⟨#[]⟩] 40)) a D2 b { W with f := f1 } ((w3.heap.size, fobj a (Wm.fresh nm) [] 40) :: B) from by rw [hfr]; exact h3.alloc _)
  clear h3 hbg hfull hfr
  go_wp2_with fail
  refine (HW.out _ _ H4.out).mono ?_
  rintro e w5 ⟨rfl, h5⟩
  have H5 := Lib.hid h5
  clear h5
  go_wp2_with fail
  refine (HU.out _ _ H5.out).mono ?_
  rintro e w6 ⟨rfl, h6⟩
  have H6 := Lib.hid (h6.sub (List.sublist_cons_self _ _))
  clear h6
  go_wp2_with fail
  go_ret
  exact ⟨rfl, H6.out⟩
set_option maxRecDepth 100000 in
set_option maxHeartbeats 2000000 in
/-- Append where put has an error. -/
theorem Append_err (h : WalIn w0 w a D b W B) (hok : Wm.Ok W) (hf : FOk W.f) (ha : Wm.alive D W = true) (s : ByteArray) (hs : s.size ≤ 65536) {c : Nat} (hc : c ≠ 0)
    (hput : ∀ w1 B', WalIn w0 w1 a D b W B' → Calls Tryz.prog 32 #[.pointer (some ⟨b, 0, none⟩), .string (Wm.frame s)] w1 fun e w' => e = .returned (.int .i64 (c : Nat)) ∧ WalIn w0 w' a D' b W' B') :
    Calls Tryz.prog 11 #[.pointer (some ⟨b, 0, none⟩), .string s] w fun e w' => e = .returned (.tuple #[.int .i64 0, .int .i64 (c : Nat)]) ∧ WalIn w0 w' a D' b { W' with dead := decide (c = 7) } B := by
  obtain ⟨W1, hW1⟩ : ∃ W1, w.alloc (.cells #[.pointer (some ⟨b, 0, none⟩)] 24) = W1 := ⟨_, rfl⟩
  obtain ⟨z, hz⟩ : ∃ z, w.heap.size = z := ⟨_, rfl⟩
  have h1 : WalIn w0 W1 a D b W ((z, boxP b) :: B) := by rw [← hW1, ← hz]; exact h.alloc _
  have z0 : W1.cell? ⟨z, 0, none⟩ = some (.pointer (some ⟨b, 0, none⟩)) := by rw [cell_of_row W1 z _ _ _ _ (h1.box _ List.mem_cons_self)]; rfl
  have hm := made_w h1
  have hfr := Frame_short s W1 (by omega)
  have H1 := Lib.hid h1
  have HP := Lib.hid hput
  have d0 : ((c : Int) == 0) = false := by rw [beq_eq_false_iff_ne]; omega
  change Calls _ _ _ _ (fun e w' => e = .returned (.tuple #[.string (Wm.frame s), .int .i64 0]) ∧ _) at hfr
  generalize Wm.frame s = fr at *
  clear h h1 hput hc
  go_enter Tryz.func11, Tryz.ntmps11
  go_wp2_with fail
  refine hm.mono ?_
  rintro e w2 ⟨rfl, rfl⟩
  go_wp2_with fail
  refine hfr.mono ?_
  rintro e w2 ⟨rfl, hb2⟩
  obtain ⟨W2, hW2⟩ : ∃ W2, w2.alloc (.cells #[.string fr] 9) = W2 := ⟨_, rfl⟩
  obtain ⟨y, hy⟩ : ∃ y, w2.heap.size = y := ⟨_, rfl⟩
  have h3 : WalIn w0 W2 a D b W ((y, boxS fr) :: (z, boxP b) :: B) := by rw [← hW2, ← hy]; exact (H1.out.same hb2).alloc _
  have z1 : W2.cell? ⟨z, 0, none⟩ = some (.pointer (some ⟨b, 0, none⟩)) := by rw [cell_of_row W2 z _ _ _ _ (h3.box _ (List.mem_cons_of_mem _ List.mem_cons_self))]; rfl
  have hd := do_yes h3 hok hf ha (enters_of Tryz.func31 (by kernel_rfl) rfl) (cb := #[.pointer (some ⟨z, 0, none⟩), .pointer (some ⟨y, 0, none⟩)]) (W' := W') (c := c)
    (fun w1 hw1 => AppendC_w (by rw [cell_of_row w1 z _ _ _ _ (hw1.box _ (List.mem_cons_of_mem _ List.mem_cons_self))]; rfl) (by rw [cell_of_row w1 y _ _ _ _ (hw1.box _ List.mem_cons_self)]; rfl) (HP.out w1 _ hw1))
  clear h3 hb2 z0 hm hfr HP
  go_wp2_with fail
  refine hd.mono ?_
  rintro e w4 ⟨rfl, h4⟩
  have H4 := Lib.hid (h4.sub ((List.sublist_cons_self _ _).trans (List.sublist_cons_self _ _)))
  clear h4
  go_wp2_with fail
  go_ret2
  exact ⟨rfl, H4.out⟩
set_option maxRecDepth 100000 in
set_option maxHeartbeats 2000000 in
/-- A file gets another name. -/
theorem become_b {z : Nat} {f : Wm.F} {T : TypeId} (h : Bx w0 w a D ((z, fobj a f [] T) :: B)) (hn : f.name.size ≤ maxLen) (nm : ByteArray) (hm : nm.size ≤ maxLen) {D1 : Dm.Disk} {f1 : Wm.F} (e1 : Wm.sync D f = (0, D1, f1)) (e2 : Dm.rename D1 f1.name.data.toList nm.data.toList = (0, D')) :
    Calls Tryz.prog 92 #[.pointer (some ⟨z, 0, none⟩), .string nm] w fun e w' => e = .returned (.int .i64 0) ∧ Bx w0 w' a D' ((z, fobj a { f1 with name := nm } [] T) :: B) := by
  have hn1 : f1.name.size ≤ maxLen := by
    unfold Wm.sync at e1
    split at e1
    · obtain ⟨-, e2⟩ := Prod.mk.inj e1
      obtain ⟨-, rfl⟩ := Prod.mk.inj e2
      exact hn
    · rename_i c D2 hx
      obtain ⟨-, e2⟩ := Prod.mk.inj e1
      obtain ⟨-, rfl⟩ := Prod.mk.inj e2
      exact hn
  have hsy := sync_w h hn e1
  have HR := Lib.hid (fun w1 (h1 : Bx w0 w1 a D1 ((z, fobj a f1 [] T) :: B)) => rename_b h1 f1.name nm hn1 hm e2)
  clear h e1 e2
  go_enter Tryz.func92, Tryz.ntmps92
  go_wp2_with fail
  refine hsy.mono ?_
  rintro e w2 ⟨rfl, h2⟩
  obtain ⟨x0, x1, x2, x3, x4, -⟩ := fobj_cells (h2.box _ List.mem_cons_self)
  have H := Lib.hid h2.drew
  clear h2 hsy
  go_wp2_with fail
  go_region_with (go_at_call 115; refine (HR.out _ H.out).mono ?_; rintro e w2 ⟨rfl, h2⟩)
  all_goals
    have H2 := Lib.hid (h2.fname nm)
    obtain ⟨y0, y1, y2, y3, y4, yf⟩ := fobj_cells (h2.box _ List.mem_cons_self)
    have f1 := yf 1
    clear h2 yf
    go_wp2_with fail
    go_ret
    exact ⟨rfl, H2.out⟩
end
end Go.Proofs.YtoecbkndbcblpaaGreatDoor
namespace Go.Proofs.YtoecbkndbcblpaaGreatDoor
open Go.RowKit Go.Maps Go.Sort Go.Shelf

section
variable {w0 w w' : World} {a b : Nat} {D D' : Dm.Disk} {B : List (Nat × Obj)} {W W' : Wm.W}
theorem WalIn.five_keep {z : Nat} {v0 v1 v2 v3 v4 u0 u1 u2 u3 u4 : Value} {T : TypeId} (h : WalIn w0 w a D b W ((z, .cells #[v0, v1, v2, v3, v4] T (0, 0)) :: B)) : WalIn w0 (((((w.setCell ⟨z, 0, none⟩ u0).setCell ⟨z, 1, none⟩ u1).setCell ⟨z, 2, none⟩ u2).setCell ⟨z, 3, none⟩ u3).setCell ⟨z, 4, none⟩ u4) a D b W ((z, .cells #[u0, u1, u2, u3, u4] T (0, 0)) :: B) := by
  obtain ⟨v, R, g1, g2⟩ := h
  exact ⟨v, R, box_back ((((((box_first g1).set 0 u0).set 1 u1).set 2 u2).set 3 u3).set 4 u4), g2⟩
set_option maxRecDepth 100000 in
set_option maxHeartbeats 20000000 in
theorem copied_w (h : WalIn w0 w a D b W B) (hf : FOk W.f) (hlog : W.log.size ≤ 13) {D1 D2 : Dm.Disk} {s x : ByteArray} {f' : Wm.F} (hs : s.size ≤ 1048576) (e1 : Dm.read D W.f.name.data.toList = (s.data.toList, 0)) (e2 : Wm.sweep D W.log = (0, D1)) (e3 : Dm.create D1 (Wm.spare W.log).data.toList = (0, D2))
    (hx : (⟨(Lib.trimSuffix s.data.toList W.f.torn.data.toList).toArray⟩ : ByteArray) = x) (hxs : x.size ≤ 1048576) (e4 : Wm.write D2 (Wm.fresh (Wm.spare W.log)) x = (0, D', f')) :
    Calls Tryz.prog 91 #[.pointer (some ⟨b, 0, none⟩)] w fun e w' => e = .returned (.tuple #[fileV (some ⟨a, 0, none⟩) f', .int .i64 0]) ∧ WalIn w0 w' a D' b W B := by
  obtain ⟨W1, hW1⟩ : ∃ W1, w.alloc (.cells #[.pointer none, .string ⟨#[]⟩, .int .i64 0, .string ⟨#[]⟩, .string ⟨#[]⟩] 40) = W1 := ⟨_, rfl⟩
  obtain ⟨z, hz⟩ : ∃ z, w.heap.size = z := ⟨_, rfl⟩
  have h1 : WalIn w0 W1 a D b W ((z, .cells #[.pointer none, .string ⟨#[]⟩, .int .i64 0, .string ⟨#[]⟩, .string ⟨#[]⟩] 40 (0, 0)) :: B) := by rw [← hW1, ← hz]; exact h.alloc _
  have hn : W.f.name.size ≤ maxLen := by have := hf.name; unfold maxLen; omega
  have hsz : (Wm.spare W.log).size ≤ 32 := by
    have h3 : (⟨#[110, 101, 119]⟩ : ByteArray).size = 3 := rfl
    unfold Wm.spare; rw [ByteArray.size_append, h3]; omega
  have hcells : ∀ w1 D1 B1, WalIn w0 w1 a D1 b W B1 → w1.cell? ⟨b, 0, none⟩ = some (.pointer (some ⟨a, 0, none⟩)) ∧ w1.cell? ⟨b, 1, none⟩ = some (.string W.f.name) ∧ w1.cell? ⟨b, 5, none⟩ = some (.string W.log) ∧ w1.cell? ⟨b, 4, none⟩ = some (.string W.f.torn) := fun w1 D1 B1 g => by
    obtain ⟨v, R, g1, g2⟩ := g
    obtain ⟨x0, x1, x2, x3, x4, -⟩ := fobj_cells (g1.box _ List.mem_cons_self)
    exact ⟨x0, x1, (wobj_cells (g1.box _ List.mem_cons_self)).1, x4⟩
  obtain ⟨x0, x1, -⟩ := hcells _ _ _ h1
  have hread := fun w1 B1 (g : WalIn w0 w1 a D b W B1) => read_wi g W.f.name hn e1
  have hsw := fun w1 B1 (g : WalIn w0 w1 a D b W B1) => sweep_w g hlog e2
  have hcr : ∀ w1 B1, WalIn w0 w1 a D1 b W B1 → Calls Tryz.prog 58 #[.pointer (some ⟨a, 0, none⟩), .string (W.log ++ ⟨#[110, 101, 119]⟩)] w1 fun e w' => e = .returned (.tuple #[.agg #[.pointer (some ⟨a, 0, none⟩), .string (Wm.spare W.log), .int .i64 0, .string ⟨#[]⟩, .string ⟨#[]⟩], .int .i64 0]) ∧ WalIn w0 w' a D2 b W B1 := fun w1 B1 h1 => by
    have h := create_wi h1 (Wm.spare W.log) (by unfold maxLen; omega) e3
    rw [if_pos rfl] at h
    exact h
  have htrim := fun w1 => wl_strings_TrimSuffix s W.f.torn w1 (by omega)
  rw [hx] at htrim
  have hfw := fun w1 z1 B1 (h1 : WalIn w0 w1 a D2 b W ((z1, fobj a (Wm.fresh (Wm.spare W.log)) [] 40) :: B1)) => fwrite_box h1 ⟨hsz, Nat.zero_le _, Nat.zero_le _, Nat.zero_le _⟩ x hxs e4
  have hfr : fobj a (Wm.fresh (Wm.spare W.log)) [] 40 = .cells #[.pointer (some ⟨a, 0, none⟩), .string (Wm.spare W.log), .int .i64 0, .string ⟨#[]⟩, .string ⟨#[]⟩] 40 (0, 0) := by simp [fobj, fcells, Wm.fresh]
  have H1d := Lib.hid h1.drewI
  have H1 := Lib.hid h1
  have HC := Lib.hid hcells
  have HR := Lib.hid hread
  have HSW := Lib.hid hsw
  have HCR := Lib.hid hcr
  have HT := Lib.hid htrim
  have HFW := Lib.hid hfw
  have HFR := Lib.hid hfr
  clear h h1 hf hcells hread hsw hcr htrim hfw hfr e1 e2 e3 e4 hx hxs hsz hn
  have i9 : ¬ 9223372036854775807 < W.log.size + 3 := by omega
  go_enter Tryz.func91, Tryz.ntmps91
  go_wp2_with fail
  go_quiet ((go_at_call 24; exact Calls.quiet_of_same ((HR.out _ _ (H1.out.same (by first | exact Below.refl _ _ | exact below_drewN (Below.refl _ _) _))).mono fun _ _ ⟨q1, q2⟩ => ⟨q1, q2.symm⟩)))
  have H2 := Lib.hid (H1.out.same (below_drewN (Below.refl _ W1) nq))
  clear x0 x1
  generalize W1.drewN nq = w2 at *
  all_goals
    go_wp2_with fail
    refine (HSW.out _ _ H2.out).mono ?_
    rintro e w3 ⟨rfl, h3⟩
    obtain ⟨y0, y1, y5, y4⟩ := HC.out _ _ _ h3
    have H3 := Lib.hid h3
    have H3d := Lib.hid (h3.alloc (.cells #[.pointer none, .string ⟨#[]⟩, .int .i64 0, .string ⟨#[]⟩, .string ⟨#[]⟩] 40)).drewI
    have H3e := Lib.hid h3.drewI
    have a0 := fun o => (HC.out _ _ _ (h3.alloc o)).1
    have a5 := fun o => (HC.out _ _ _ (h3.alloc o)).2.2.1
    clear h3
    go_wp2_with fail
    go_region_law (go_simp; go_at_call 58; first
      | (refine (HCR.out _ _ H3d.out).mono ?_; rintro e w4 ⟨rfl, h4⟩; obtain ⟨q0, q1, q2, q3, q4, qf⟩ := cells5 (h4.box _ List.mem_cons_self); have qf0 := qf 0; have qf1 := qf 1; have qf2 := qf 2; have qf3 := qf 3; have qf4 := qf 4; have H4a := Lib.hid h4; clear h4 qf)
      | (refine (HCR.out _ _ H3e.out).mono ?_; rintro e w4 ⟨rfl, h4⟩; have H4b := Lib.hid h4; clear h4))
    all_goals
      clear a0 a5
      first
        | (have H5 := Lib.hid (show WalIn w0 (((((w4.setCell ⟨w3.heap.size, 0, none⟩ (.pointer (some ⟨a, 0, none⟩))).setCell ⟨w3.heap.size, 1, none⟩ (.string (Wm.spare W.log))).setCell ⟨w3.heap.size, 2, none⟩ (.int .i64 0)).setCell ⟨w3.heap.size, 3, none⟩ (.string ⟨#[]⟩)).setCell ⟨w3.heap.size, 4, none⟩ (.string ⟨#[]⟩)) a D2 b W ((w3.heap.size, fobj a (Wm.fresh (Wm.spare W.log)) [] 40) :: _) from by rw [HFR.out]; exact H4a.out.five_keep); clear q0 q1 q2 q3 q4 qf0 qf1 qf2 qf3 qf4)
        | (have H5 := Lib.hid (show WalIn w0 (w4.alloc (.cells #[.pointer (some ⟨a, 0, none⟩), .string (Wm.spare W.log), .int .i64 0, .string ⟨#[]⟩, .string ⟨#[]⟩] 40)) a D2 b W ((w4.heap.size, fobj a (Wm.fresh (Wm.spare W.log)) [] 40) :: _) from by rw [HFR.out]; exact H4b.out.alloc _))
      obtain ⟨-, -, -, r4⟩ := HC.out _ _ _ H5.out
      clear y0 y1 y5 y4 H3d H3e H3
      go_wp2_with fail
      refine (HT.out _).mono ?_
      rintro e w5 ⟨rfl, rfl⟩
      clear r4
      go_wp2_with fail
      refine (HFW.out _ _ _ H5.out).mono ?_
      rintro e w6 ⟨rfl, h6⟩
      have H6 := Lib.hid h6
      clear h6 H5
      obtain ⟨u0, u1, u2, u3, u4, -⟩ := fobj_cells (H6.out.box _ List.mem_cons_self)
      obtain ⟨p0, p1, p2, p3, p4, pf⟩ := cells5 (H6.out.box _ (List.mem_cons_of_mem _ List.mem_cons_self))
      have pf0 := pf 0
      have pf1 := pf 1
      have pf2 := pf 2
      have pf3 := pf 3
      have pf4 := pf 4
      clear pf
      go_wp2_with fail
      refine bodyPost_ret (v := .tuple #[.agg #[.pointer (some ⟨a, 0, none⟩), .string f'.name, .int .i64 (f'.size : Nat), .string f'.tail, .string f'.torn], .int .i64 0]) (by simp [results, Tryz.results91, go_sem, *]) rfl ⟨rfl, ?_⟩
      exact (H6.out.sub (List.sublist_cons_self _ _)).five_
end
end Go.Proofs.YtoecbkndbcblpaaGreatDoor
namespace Go.Proofs.YtoecbkndbcblpaaGreatDoor
open Go.RowKit Go.Maps Go.Sort Go.Shelf

section
variable {w0 w w' : World} {a b : Nat} {D D' : Dm.Disk} {B : List (Nat × Obj)} {W W' : Wm.W}
theorem WalIn.file (h : WalIn w0 w a D b W B) (f' : Wm.F) :
    WalIn w0 (((((w.setCell ⟨b, 0, none⟩ (.pointer (some ⟨a, 0, none⟩))).setCell ⟨b, 1, none⟩ (.string f'.name)).setCell ⟨b, 2, none⟩ (.int .i64 (f'.size : Nat))).setCell ⟨b, 3, none⟩ (.string f'.tail)).setCell ⟨b, 4, none⟩ (.string f'.torn)) a D b { W with f := f' } B := by
  obtain ⟨v, R, h1, h2⟩ := h
  exact ⟨v, R, h1.file f', h2⟩
theorem WalIn.name (h : WalIn w0 w a D b W B) : w.cell? ⟨b, 1, none⟩ = some (.string W.f.name) := by
  obtain ⟨v, R, h1, h2⟩ := h
  exact (fobj_cells (h1.box _ List.mem_cons_self)).2.1
theorem WalIn.fives (h : WalIn w0 w a D b W B) : w.cell? ⟨b, 0, none⟩ = some (.pointer (some ⟨a, 0, none⟩)) ∧ w.cell? ⟨b, 1, none⟩ = some (.string W.f.name) ∧ w.cell? ⟨b, 2, none⟩ = some (.int .i64 (W.f.size : Nat)) ∧ w.cell? ⟨b, 3, none⟩ = some (.string W.f.tail) ∧ w.cell? ⟨b, 4, none⟩ = some (.string W.f.torn) := by
  obtain ⟨v, R, h1, h2⟩ := h
  obtain ⟨x0, x1, x2, x3, x4, -⟩ := fobj_cells (h1.box _ List.mem_cons_self)
  exact ⟨x0, x1, x2, x3, x4⟩
set_option maxRecDepth 100000 in
set_option maxHeartbeats 4000000 in
theorem mend_w {D1 D2 : Dm.Disk} {f' f2 : Wm.F} (hlog : W.log.size ≤ 13) (hlast : W.last ≤ 98) (hns : W.f.name.size ≤ maxLen) (hn : f'.name.size ≤ maxLen)
    (hcp : Calls Tryz.prog 91 #[.pointer (some ⟨b, 0, none⟩)] w fun e w' => e = .returned (.tuple #[fileV (some ⟨a, 0, none⟩) f', .int .i64 0]) ∧ WalIn w0 w' a D1 b W B)
    (hz : f'.size = 0 → Wm.nameOf W.log (W.last + 1) = W.f.name) (e1 : Wm.sync D1 f' = (0, D2, f2)) (e2 : Dm.rename D2 f2.name.data.toList W.f.name.data.toList = (0, D')) :
    Calls Tryz.prog 63 #[.pointer (some ⟨b, 0, none⟩)] w fun e w' => e = .returned (.int .i64 0) ∧ WalIn w0 w' a D' b { W with f := { f2 with name := W.f.name } } B := by
  have hbc := fun w1 z B1 (h1 : WalIn w0 w1 a D1 b W ((z, fobj a f' [] 40) :: B1)) => h1.lift (fun B2 hB => become_b hB hn W.f.name hns e1 e2)
  have hnm := fun w1 B1 (h1 : WalIn w0 w1 a D1 b W B1) => nameOf_wi h1 hlog (W.last + 1) (by omega)
  have hfr : fobj a f' [] 40 = .cells #[.pointer (some ⟨a, 0, none⟩), .string f'.name, .int .i64 (f'.size : Nat), .string f'.tail, .string f'.torn] 40 (0, 0) := by simp [fobj, fcells]
  have k1 : ((W.last + 1 : Nat) : Int) = (W.last : Int) + 1 := by omega
  have k2 : IntKind.i64.wrap ((W.last : Int) + 1) = (W.last : Int) + 1 := IntWalk.i64_in _ (by omega)
  rw [k1] at hnm
  have HB := Lib.hid hbc
  have HNM := Lib.hid hnm
  have HZ := Lib.hid hz
  have HFR := Lib.hid hfr
  unfold fileV at hcp
  clear hbc hnm hz hfr e1 e2 k1 hlast hns hn hlog
  go_enter Tryz.func63, Tryz.ntmps63
  go_wp2_with fail
  refine hcp.mono ?_
  rintro e w2 ⟨rfl, h2⟩
  have H3 := Lib.hid (show WalIn w0 (w2.alloc (.cells #[.pointer (some ⟨a, 0, none⟩), .string f'.name, .int .i64 (f'.size : Nat), .string f'.tail, .string f'.torn] 40)) a D1 b W ((w2.heap.size, fobj a f' [] 40) :: B) from by rw [HFR.out]; exact h2.alloc _)
  have x1 := H3.out.name
  have x7 := H3.out.cells.2.2.1
  obtain ⟨-, -, z2, -⟩ := fobj_cells (H3.out.box _ List.mem_cons_self)
  clear h2 hcp
  by_cases hs : f'.size = 0
  · have hnn := HZ.out hs
    have d0 : ((f'.size : Int) == 0) = true := by rw [beq_iff_eq]; omega
    clear hs
    go_wp2_with fail
    refine (HNM.out _ _ H3.out).mono ?_
    rintro e w4 ⟨rfl, hb4⟩
    have H4 := Lib.hid (H3.out.same hb4)
    rw [hnn]
    clear hb4 x1 x7 z2
    go_wp2_with fail
    refine (HB.out _ _ _ H4.out).mono ?_
    rintro e w5 ⟨rfl, h5⟩
    obtain ⟨x80, x81, x82, x83, x84⟩ := h5.fives
    obtain ⟨q0, q1, q2, q3, q4, -⟩ := fobj_cells (h5.box _ List.mem_cons_self)
    have hf5 := (h5.sub (List.sublist_cons_self _ _))
    have pf := hf5.cells.2.2.2.2.2
    have pf0 := pf 0
    have pf1 := pf 1
    have pf2 := pf 2
    have pf3 := pf 3
    have pf4 := pf 4
    have H5 := Lib.hid (hf5.file { f2 with name := W.f.name })
    simp only at q0 q1 q2 q3 q4
    clear h5 hf5 pf
    go_wp2_with fail
    go_ret
    exact ⟨rfl, H5.out⟩
  · have d0 : ((f'.size : Int) == 0) = false := by rw [beq_eq_false_iff_ne]; omega
    clear hs
    have H4 := H3
    go_wp2_with fail
    refine (HB.out _ _ _ H4.out).mono ?_
    rintro e w5 ⟨rfl, h5⟩
    obtain ⟨x80, x81, x82, x83, x84⟩ := h5.fives
    obtain ⟨q0, q1, q2, q3, q4, -⟩ := fobj_cells (h5.box _ List.mem_cons_self)
    have hf5 := (h5.sub (List.sublist_cons_self _ _))
    have pf := hf5.cells.2.2.2.2.2
    have pf0 := pf 0
    have pf1 := pf 1
    have pf2 := pf 2
    have pf3 := pf 3
    have pf4 := pf 4
    have H5 := Lib.hid (hf5.file { f2 with name := W.f.name })
    simp only at q0 q1 q2 q3 q4
    clear h5 hf5 pf
    go_wp2_with fail
    go_ret
    exact ⟨rfl, H5.out⟩
set_option maxRecDepth 100000 in
set_option maxHeartbeats 2000000 in
/-- put where the file ends with a torn frame: it is mended, then written. -/
theorem put_torn {D1 : Dm.Disk} {f1 : Wm.F} (h : WalIn w0 w a D b W B) (ht : W.f.torn ≠ ⟨#[]⟩)
    (hm : Calls Tryz.prog 63 #[.pointer (some ⟨b, 0, none⟩)] w fun e w' => e = .returned (.int .i64 0) ∧ WalIn w0 w' a D1 b { W with f := f1 } B)
    (hf : FOk f1) (hs : f1.size < 16384) (fr : ByteArray) (hr : fr.size ≤ 1048576) {c : Nat} {f' : Wm.F} (e : Wm.write D1 f1 fr = (c, D', f')) :
    Calls Tryz.prog 32 #[.pointer (some ⟨b, 0, none⟩), .string fr] w fun e w' => e = .returned (.int .i64 (c : Nat)) ∧ WalIn w0 w' a D' b { W with f := f' } B := by
  obtain ⟨-, -, -, -, x4, -⟩ := h.cells
  have HFU := Lib.hid (fun w1 (h1 : WalIn w0 w1 a D1 b { W with f := f1 } B) => ffull_wi h1)
  have HWR := Lib.hid (fun w1 (h1 : WalIn w0 w1 a D1 b { W with f := f1 } B) => fwrite_wi h1 hf fr hr e)
  have d1 : decide (16384 ≤ f1.size) = false := decide_eq_false (by omega)
  simp only [d1] at HFU
  have d0 : W.f.torn.toList.isEmpty = false := by
    rw [ByteArray.toList_eq, List.isEmpty_eq_false_iff]
    intro e0
    exact ht (by apply ByteArray.ext; exact Array.toList_eq_nil_iff.1 e0)
  clear h hf ht hs hr e d1
  go_enter Tryz.func32, Tryz.ntmps32
  go_wp2_with fail
  refine hm.mono ?_
  rintro e w2 ⟨rfl, h2⟩
  have H2 := Lib.hid h2
  clear h2 hm x4
  go_wp2_with fail
  refine (HFU.out _ H2.out).mono ?_
  rintro e w3 ⟨rfl, rfl⟩
  go_wp2_with fail
  refine (HWR.out _ H2.out).mono ?_
  rintro e w4 ⟨rfl, h4⟩
  have H4 := Lib.hid h4
  clear h4
  go_wp2_with fail
  go_ret
  exact ⟨rfl, H4.out⟩
end
end Go.Proofs.YtoecbkndbcblpaaGreatDoor
namespace Wm
open Dm (Disk File)
open Go (bytesBefore)
abbrev Files := List (List UInt8 × File)
abbrev Body := List UInt8
/-- The name of a log's file. -/
def nm (log : List UInt8) (n : Nat) : List UInt8 := log ++ nineteen n
theorem nm_list (log : ByteArray) (n : Nat) : (nameOf log n).data.toList = nm log.data.toList n := nameOf_list log n
theorem before_app (l a b : List UInt8) : bytesBefore (l ++ a) (l ++ b) = bytesBefore a b := by
  induction l with
  | nil => rfl
  | cons c r ih =>
    show (c < c || (c == c && bytesBefore (r ++ a) (r ++ b))) = _
    rw [ih]; simp
theorem nineteen_before : ∀ j, j < 100 → ∀ i, i < j → bytesBefore (nineteen_ i) (nineteen_ j) = true := by decide +kernel
theorem nm_before (log : List UInt8) {i j : Nat} (h : i < j) (hj : j < 100) : bytesBefore (nm log i) (nm log j) = true := by
  unfold nm
  rw [before_app, nineteen_eq i (by omega), nineteen_eq j hj]
  exact nineteen_before j hj i h
theorem nm_ne (log : List UInt8) {i j : Nat} (h : i ≠ j) (hi : i < 100) (hj : j < 100) : nm log i ≠ nm log j := by
  rcases Nat.lt_or_gt_of_ne h with h | h
  · exact Dm.before_ne (nm_before log h hj)
  · exact Ne.symm (Dm.before_ne (nm_before log h hi))
theorem nm_prefix (log : List UInt8) (n : Nat) : log.isPrefixOf (nm log n) = true := List.isPrefixOf_iff_prefix.2 (List.prefix_append _ _)
/-! ### a log's own files -/
def own (log : List UInt8) (l : Files) : Files := l.filter fun p => log.isPrefixOf p.1
theorem own_get {log n : List UInt8} (h : log.isPrefixOf n = true) (l : Files) : Dm.get (own log l) n = Dm.get l n := by
  induction l with
  | nil => rfl
  | cons p r ih =>
    unfold own at ih ⊢
    by_cases e : log.isPrefixOf p.1 = true
    · rw [List.filter_cons_of_pos (by simpa using e)]; simp only [Dm.get, ih]
    · rw [List.filter_cons_of_neg (by simpa using e), ih]
      have : p.1 ≠ n := fun e' => e (by rw [e']; exact h)
      simp [Dm.get, this]
theorem own_upd {log n : List UInt8} (l : Files) (g : File → File) : own log (Dm.upd l n g) = Dm.upd (own log l) n g := by
  unfold own Dm.upd
  rw [List.filter_map]
  congr 1
  refine List.filter_congr fun p _ => ?_
  simp only [Function.comp]; split <;> rfl
theorem upd_none {n : List UInt8} {l : Files} (h : ∀ p ∈ l, p.1 ≠ n) (g : File → File) : Dm.upd l n g = l := by
  unfold Dm.upd
  rw [List.map_congr_left (g := id) fun p hp => by simp [h p hp], List.map_id]
theorem own_not {log n : List UInt8} (h : log.isPrefixOf n = false) (l : Files) : ∀ p ∈ own log l, p.1 ≠ n := fun p hp e => by
  have := (List.mem_filter.1 hp).2
  rw [e, h] at this; cases this
theorem own_upd_not {log n : List UInt8} (h : log.isPrefixOf n = false) (l : Files) (g : File → File) : own log (Dm.upd l n g) = own log l := by
  rw [own_upd, upd_none (own_not h l)]
theorem own_del {log n : List UInt8} (l : Files) : own log (Dm.del l n) = Dm.del (own log l) n := by
  unfold own Dm.del
  rw [List.filter_filter, List.filter_filter]
  refine List.filter_congr fun p _ => Bool.and_comm _ _
theorem del_not {n : List UInt8} {l : Files} (h : ∀ p ∈ l, p.1 ≠ n) : Dm.del l n = l := Dm.del_none (Dm.get_none.2 h)
theorem own_del_not {log n : List UInt8} (h : log.isPrefixOf n = false) (l : Files) : own log (Dm.del l n) = own log l := by
  rw [own_del, del_not (own_not h l)]
theorem ins_all {n : List UInt8} {x : File} {l : Files} (h : ∀ p ∈ l, bytesBefore n p.1 = true) : Dm.ins n x l = (n, x) :: l := by
  cases l with
  | nil => rfl
  | cons p r => unfold Dm.ins; rw [if_pos (h p List.mem_cons_self)]
theorem own_ins {log n : List UInt8} {x : File} (hn : log.isPrefixOf n = true) {l : Files} (hs : Dm.Sorted l) : own log (Dm.ins n x l) = Dm.ins n x (own log l) := by
  induction l with
  | nil => unfold own; rw [Dm.ins, List.filter_cons_of_pos (by simpa using hn)]; rfl
  | cons p r ih =>
    obtain ⟨h1, h2⟩ := List.pairwise_cons.1 hs
    have ih := ih h2
    unfold own at ih ⊢
    by_cases hb : bytesBefore n p.1 = true
    · have hall : ∀ q ∈ List.filter (fun p => log.isPrefixOf p.1) (p :: r), bytesBefore n q.1 = true := fun q hq => by
        rcases List.mem_cons.1 (List.mem_filter.1 hq).1 with rfl | hq
        · exact hb
        · exact Go.WideShapes.bytes_trans _ _ _ hb (h1 q hq)
      rw [ins_all hall, Dm.ins, if_pos hb, List.filter_cons_of_pos (by simpa using hn)]
    · rw [Dm.ins, if_neg hb]
      by_cases e : log.isPrefixOf p.1 = true
      · rw [List.filter_cons_of_pos (by simpa using e), List.filter_cons_of_pos (by simpa using e), ih, Dm.ins, if_neg hb]
      · rw [List.filter_cons_of_neg (by simpa using e), List.filter_cons_of_neg (by simpa using e), ih]
theorem own_ins_not {log n : List UInt8} {x : File} (hn : log.isPrefixOf n = false) (l : Files) : own log (Dm.ins n x l) = own log l := by
  induction l with
  | nil => unfold own; rw [Dm.ins, List.filter_cons_of_neg (by simp [hn])]
  | cons p r ih =>
    unfold Dm.ins
    split
    · unfold own; rw [List.filter_cons_of_neg (by simp [hn])]
    · unfold own at ih ⊢
      by_cases e : log.isPrefixOf p.1 = true
      · rw [List.filter_cons_of_pos (by simpa using e), List.filter_cons_of_pos (by simpa using e), ih]
      · rw [List.filter_cons_of_neg (by simpa using e), List.filter_cons_of_neg (by simpa using e), ih]
theorem own_put {log n : List UInt8} {x : File} (hn : log.isPrefixOf n = true) {l : Files} (hs : Dm.Sorted l) : own log (Dm.put l n x) = Dm.put (own log l) n x := by
  unfold Dm.put; rw [own_ins hn (hs.del n), own_del]
theorem own_put_not {log n : List UInt8} {x : File} (hn : log.isPrefixOf n = false) (l : Files) : own log (Dm.put l n x) = own log l := by
  unfold Dm.put; rw [own_ins_not hn, own_del_not hn]
/-- A name behind all others comes last. -/
theorem put_last {n : List UInt8} {x : File} {l : Files} (h : ∀ p ∈ l, bytesBefore p.1 n = true) : Dm.put l n x = l ++ [(n, x)] := by
  have hne : ∀ p ∈ l, p.1 ≠ n := fun p hp => Dm.before_ne (h p hp)
  unfold Dm.put
  rw [del_not hne]
  clear hne
  induction l with
  | nil => rfl
  | cons p r ih =>
    unfold Dm.ins
    rw [if_neg, ih fun q hq => h q (List.mem_cons_of_mem _ hq)]
    · rfl
    · intro e
      have := Go.WideShapes.bytes_trans _ _ _ e (h p List.mem_cons_self)
      rw [Go.WideAt.bytes_irrefl] at this; cases this
/-! ### frames, one behind the other -/
def fr (bs : List Body) : List UInt8 := bs.flatMap Go.Proofs.YtoecbkndbcblpaaGreatDoor.Sm.frame
theorem fr_nil : fr [] = [] := rfl
theorem fr_cons (b : Body) (bs : List Body) : fr (b :: bs) = Go.Proofs.YtoecbkndbcblpaaGreatDoor.Sm.frame b ++ fr bs := List.flatMap_cons
theorem fr_snoc (bs : List Body) (b : Body) : fr (bs ++ [b]) = fr bs ++ Go.Proofs.YtoecbkndbcblpaaGreatDoor.Sm.frame b := by
  unfold fr; rw [List.flatMap_append]; simp
theorem fr_len (bs : List Body) : (fr bs).length = (bs.map List.length).sum + 8 * bs.length := by
  induction bs with
  | nil => rfl
  | cons b r ih => rw [fr_cons, List.length_append, Go.Proofs.YtoecbkndbcblpaaGreatDoor.Sm.frame_len, ih, List.map_cons, List.sum_cons, List.length_cons]; omega
theorem behind_zero (l : List UInt8) : Go.Proofs.YtoecbkndbcblpaaGreatDoor.Sm.behind l 0 = Go.Proofs.YtoecbkndbcblpaaGreatDoor.Sm.behindAt l 0 := by
  unfold Go.Proofs.YtoecbkndbcblpaaGreatDoor.Sm.behind; rw [if_neg (Int.lt_irrefl 0), Int.toNat_zero]
/-- What doesn't begin with a frame. -/
def NoFrame (t : List UInt8) : Prop := Go.Proofs.YtoecbkndbcblpaaGreatDoor.Sm.behindAt t 0 = none
theorem NoFrame.nil : NoFrame [] := rfl
theorem chunks_fr {t : List UInt8} (ht : NoFrame t) : ∀ (bs : List Body) (n : Nat), (∀ b ∈ bs, b.length ≤ 65536) → bs.length ≤ n → chunks n (fr bs ++ t) = (bs, t)
  | [], n, _, _ => by rw [fr_nil, List.nil_append]; exact chunks_none (by rw [behind_zero]; exact ht)
  | b :: r, 0, _, h => by simp at h
  | b :: r, n + 1, hb, h => by
    have h1 := Go.Proofs.YtoecbkndbcblpaaGreatDoor.Sm.behindAt_frame [] b (fr r ++ t) (hb b List.mem_cons_self)
    have h2 := Go.Proofs.YtoecbkndbcblpaaGreatDoor.Sm.bodyAt_frame [] b (fr r ++ t)
    simp only [List.nil_append, List.length_nil, Nat.zero_add] at h1 h2
    rw [fr_cons, List.append_assoc]
    rw [chunks_some (by rw [behind_zero]; exact h1), h2]
    have hd : (Go.Proofs.YtoecbkndbcblpaaGreatDoor.Sm.frame b ++ (fr r ++ t)).drop (8 + b.length) = fr r ++ t := by
      rw [show 8 + b.length = (Go.Proofs.YtoecbkndbcblpaaGreatDoor.Sm.frame b).length by rw [Go.Proofs.YtoecbkndbcblpaaGreatDoor.Sm.frame_len]; omega, List.drop_left]
    rw [hd, chunks_fr ht r n (fun x hx => hb x (List.mem_cons_of_mem _ hx)) (by simpa using h)]
theorem frames_fr {t : List UInt8} (ht : NoFrame t) (bs : List Body) (hb : ∀ b ∈ bs, b.length ≤ 65536) : frames (fr bs ++ t) = (bs, t) :=
  chunks_fr ht bs _ hb (by rw [List.length_append, fr_len]; omega)
/-- A beginning of frames is some of them, and a beginning of the next one. -/
theorem fr_cut : ∀ (bs : List Body) (k : Nat), (∀ b ∈ bs, b.length ≤ 65536) → ∃ j t, j ≤ bs.length ∧ (fr bs).take k = fr (bs.take j) ++ t ∧ NoFrame t ∧ (∀ i, i ≤ bs.length → (fr (bs.take i)).length ≤ k → i ≤ j)
  | [], k, _ => ⟨0, [], Nat.le_refl _, by simp [fr], NoFrame.nil, fun i hi _ => by simpa using hi⟩
  | b :: r, k, hb => by
    by_cases hk : k < b.length + 8
    · refine ⟨0, (Go.Proofs.YtoecbkndbcblpaaGreatDoor.Sm.frame b).take k, Nat.zero_le _, ?_, ?_, fun i hi h => ?_⟩
      · rw [fr_cons, List.take_append_of_le_length (by rw [Go.Proofs.YtoecbkndbcblpaaGreatDoor.Sm.frame_len]; omega)]; rfl
      · exact Go.Proofs.YtoecbkndbcblpaaGreatDoor.Sm.behindAt_cut b k (hb b List.mem_cons_self) hk
      · cases i with
        | zero => exact Nat.le_refl _
        | succ i =>
          rw [List.take_succ_cons, fr_cons, List.length_append, Go.Proofs.YtoecbkndbcblpaaGreatDoor.Sm.frame_len] at h; omega
    · obtain ⟨j, t, h1, h2, h3, h4⟩ := fr_cut r (k - (b.length + 8)) fun x hx => hb x (List.mem_cons_of_mem _ hx)
      refine ⟨j + 1, t, by simpa using h1, ?_, h3, fun i hi h => ?_⟩
      · rw [fr_cons, List.take_append, Go.Proofs.YtoecbkndbcblpaaGreatDoor.Sm.frame_len, List.take_of_length_le (by rw [Go.Proofs.YtoecbkndbcblpaaGreatDoor.Sm.frame_len]; omega), h2, List.take_succ_cons, fr_cons, List.append_assoc]
      · cases i with
        | zero => exact Nat.zero_le _
        | succ i =>
          rw [List.take_succ_cons, fr_cons, List.length_append, Go.Proofs.YtoecbkndbcblpaaGreatDoor.Sm.frame_len] at h
          exact Nat.succ_le_succ (h4 i (by simpa using hi) (by omega))
/-! ### the files of a log -/
def total (cs : List (List Body)) : Nat := (cs.map List.length).sum
theorem total_cons (c : List Body) (cs : List (List Body)) : total (c :: cs) = c.length + total cs := by unfold total; rw [List.map_cons, List.sum_cons]
theorem total_snoc (cs : List (List Body)) (c : List Body) : total (cs ++ [c]) = total cs + c.length := by unfold total; simp
theorem total_flat (cs : List (List Body)) : total cs = cs.flatten.length := by unfold total; rw [List.length_flatten]
def closed (log : List UInt8) : Nat → List (List Body) → Files
  | _, [] => []
  | m, c :: cs => (nm log m, ⟨fr c, (fr c).length⟩) :: closed log (m + c.length) cs
/-- All files: those that take no more records, and the one that does; s bytes of that stay. -/
def segs (log : List UInt8) (m : Nat) (cs : List (List Body)) (bs : List Body) (t : List UInt8) (s : Nat) : Files := closed log m cs ++ [(nm log (m + total cs), ⟨fr bs ++ t, s⟩)]
def firstsOf : Nat → List (List Body) → List Nat
  | m, [] => [m]
  | m, c :: cs => m :: firstsOf (m + c.length) cs
theorem closed_snoc (log : List UInt8) (c : List Body) : ∀ (cs : List (List Body)) (m : Nat), closed log m (cs ++ [c]) = closed log m cs ++ [(nm log (m + total cs), ⟨fr c, (fr c).length⟩)]
  | [], m => rfl
  | d :: cs, m => by
    show (nm log m, _) :: closed log (m + d.length) (cs ++ [c]) = (nm log m, _) :: (closed log (m + d.length) cs ++ _)
    rw [closed_snoc log c cs, total_cons, Nat.add_assoc]
theorem firstsOf_snoc (c : List Body) : ∀ (cs : List (List Body)) (m : Nat), firstsOf m (cs ++ [c]) = firstsOf m cs ++ [m + total cs + c.length]
  | [], m => rfl
  | d :: cs, m => by
    show m :: firstsOf (m + d.length) (cs ++ [c]) = m :: (firstsOf (m + d.length) cs ++ _)
    rw [firstsOf_snoc c cs, total_cons, ← Nat.add_assoc]
theorem firstsOf_ne (m : Nat) (cs : List (List Body)) : firstsOf m cs ≠ [] := by cases cs <;> simp [firstsOf]
theorem firstsOf_length : ∀ (cs : List (List Body)) (m : Nat), (firstsOf m cs).length = cs.length + 1
  | [], _ => rfl
  | c :: cs, m => by show (firstsOf (m + c.length) cs).length + 1 = _; rw [firstsOf_length cs]; rfl
theorem firstsOf_le : ∀ (cs : List (List Body)) (m : Nat), ∀ n ∈ firstsOf m cs, m ≤ n ∧ n ≤ m + total cs
  | [], m, n, h => by rw [List.mem_singleton.1 h]; exact ⟨Nat.le_refl _, Nat.le_add_right _ _⟩
  | c :: cs, m, n, h => by
    rw [total_cons]
    rcases List.mem_cons.1 h with rfl | h
    · omega
    · have := firstsOf_le cs (m + c.length) n h; omega
theorem firstsOf_last : ∀ (cs : List (List Body)) (m : Nat), (firstsOf m cs).getLast? = some (m + total cs)
  | [], m => rfl
  | c :: cs, m => by
    rw [total_cons, ← Nat.add_assoc, ← firstsOf_last cs (m + c.length)]
    show (m :: firstsOf (m + c.length) cs).getLast? = _
    rw [List.getLast?_cons]
    cases h : (firstsOf (m + c.length) cs).getLast? with
    | none => exact absurd (List.getLast?_eq_none_iff.1 h) (firstsOf_ne _ _)
    | some x => rfl
theorem keys_segs (log : List UInt8) (bs : List Body) (t : List UInt8) (s : Nat) : ∀ (cs : List (List Body)) (m : Nat), Dm.keys (segs log m cs bs t s) = (firstsOf m cs).map (nm log)
  | [], m => rfl
  | c :: cs, m => by
    have := keys_segs log bs t s cs (m + c.length)
    unfold segs Dm.keys at this ⊢
    rw [total_cons, ← Nat.add_assoc]
    show nm log m :: List.map (·.1) (closed log (m + c.length) cs ++ _) = _
    rw [this]; rfl
theorem closed_names (log : List UInt8) : ∀ (cs : List (List Body)) (m : Nat), (∀ c ∈ cs, c ≠ []) → ∀ p ∈ closed log m cs, ∃ n, p.1 = nm log n ∧ m ≤ n ∧ n < m + total cs
  | [], _, _, _, h => nomatch h
  | c :: cs, m, hc, p, h => by
    have hp := List.length_pos_iff.2 (hc c List.mem_cons_self)
    rw [total_cons]
    rcases List.mem_cons.1 h with rfl | h
    · exact ⟨m, rfl, Nat.le_refl _, by omega⟩
    · obtain ⟨n, h1, h2, h3⟩ := closed_names log cs (m + c.length) (fun x hx => hc x (List.mem_cons_of_mem _ hx)) p h
      exact ⟨n, h1, by omega, by omega⟩
end Wm
namespace Wm
open Dm (Disk File)
open Go.Proofs.YtoecbkndbcblpaaGreatDoor.Wm (took readF follow Reads)
theorem get_all {l : Files} (hs : Dm.Sorted l) : ∀ p ∈ l, Dm.get l p.1 = some p.2 := fun p hp => hs.get (n := p.1) (x := p.2) hp
theorem segs_sorted (log : List UInt8) (bs : List Body) (t : List UInt8) (s : Nat) {cs : List (List Body)} {m : Nat} (hc : ∀ c ∈ cs, c ≠ []) (hm : m + total cs < 100) : Dm.Sorted (segs log m cs bs t s) := by
  induction cs generalizing m with
  | nil => exact List.pairwise_singleton _ _
  | cons c cs ih =>
    rw [total_cons] at hm
    have hp := List.length_pos_iff.2 (hc c List.mem_cons_self)
    have h := ih (m := m + c.length) (fun x hx => hc x (List.mem_cons_of_mem _ hx)) (by omega)
    have e : segs log m (c :: cs) bs t s = (nm log m, ⟨fr c, (fr c).length⟩) :: segs log (m + c.length) cs bs t s := by
      unfold segs; rw [total_cons, ← Nat.add_assoc]; rfl
    rw [e]
    refine List.pairwise_cons.2 ⟨fun q hq => ?_, h⟩
    have hk : q.1 ∈ Dm.keys (segs log (m + c.length) cs bs t s) := List.mem_map.2 ⟨q, hq, rfl⟩
    rw [keys_segs] at hk
    obtain ⟨n, hn, e⟩ := List.mem_map.1 hk
    have := firstsOf_le cs (m + c.length) n hn
    rw [← e]
    exact nm_before log (by omega) (by omega)
theorem cut_closed (log : List UInt8) (r : Files) (keep : List Int) : ∀ (cs : List (List Body)) (m : Nat), Dm.cut keep (closed log m cs ++ r) = closed log m cs ++ Dm.cut keep r
  | [], _ => rfl
  | c :: cs, m => by
    show Dm.cut keep ((nm log m, ⟨fr c, (fr c).length⟩) :: (closed log (m + c.length) cs ++ r)) = (nm log m, ⟨fr c, (fr c).length⟩) :: (closed log (m + c.length) cs ++ Dm.cut keep r)
    have e : Dm.cutOne keep ⟨fr c, (fr c).length⟩ = (⟨fr c, (fr c).length⟩, keep) := by unfold Dm.cutOne; rw [if_pos rfl]
    have e2 : ∀ (p : List UInt8 × File) (l : Files), Dm.cut keep (p :: l) = (p.1, (Dm.cutOne keep p.2).1) :: Dm.cut (Dm.cutOne keep p.2).2 l := fun _ _ => rfl
    rw [e2]
    simp only [e]
    rw [cut_closed log r keep cs]
/-- What is left behind a crash: the files that are synced, and a beginning of the last one. -/
theorem cut_segs (log : List UInt8) (m : Nat) (cs : List (List Body)) (bs : List Body) (s : Nat) (hs : s ≤ (fr bs).length) (keep : List Int) (hb : ∀ b ∈ bs, b.length ≤ 65536) :
    ∃ j t, j ≤ bs.length ∧ Dm.cut keep (segs log m cs bs [] s) = segs log m cs (bs.take j) t (fr (bs.take j) ++ t).length ∧ NoFrame t ∧ (j = bs.length ∨ j < bs.length) ∧ (j = bs.length → t = []) ∧ (∀ i, i ≤ bs.length → (fr (bs.take i)).length ≤ s → i ≤ j) := by
  obtain ⟨k, h1, h2, h3⟩ : ∃ k, s ≤ k ∧ k ≤ (fr bs).length ∧ (Dm.cutOne keep ⟨fr bs ++ [], s⟩).1 = ⟨(fr bs).take k, k⟩ := by
    unfold Dm.cutOne
    simp only [List.append_nil]
    split
    · rename_i e
      exact ⟨s, Nat.le_refl _, hs, by rw [← e, List.take_length]⟩
    · split
      · exact ⟨s, Nat.le_refl _, hs, rfl⟩
      · rename_i q ks
        exact ⟨_, Nat.le_add_right _ _, by omega, rfl⟩
  obtain ⟨j, t, g1, g2, g3, g4⟩ := fr_cut bs k hb
  have hl : (fr (bs.take j) ++ t).length = k := by rw [← g2, List.length_take]; omega
  refine ⟨j, t, g1, ?_, g3, by omega, fun e => ?_, fun i hi h => g4 i hi (by omega)⟩
  · unfold segs
    rw [cut_closed]
    show closed log m cs ++ (nm log (m + total cs), (Dm.cutOne keep ⟨fr bs ++ [], s⟩).1) :: Dm.cut _ [] = _
    rw [h3, g2, hl]; rfl
  · rw [e, List.take_length] at g2
    have h4 := congrArg List.length g2
    rw [List.length_append, List.length_take] at h4
    exact List.length_eq_zero_iff.1 (by omega)
theorem cut_synced {l : Files} (h : ∀ p ∈ l, p.2.data.length = p.2.synced) (keep : List Int) : Dm.cut keep l = l := by
  induction l with
  | nil => rfl
  | cons p r ih =>
    have e : Dm.cutOne keep p.2 = (p.2, keep) := by unfold Dm.cutOne; rw [if_pos (h p List.mem_cons_self)]
    unfold Dm.cut
    rw [e]
    show (p.1, p.2) :: Dm.cut keep r = p :: r
    rw [ih fun q hq => h q (List.mem_cons_of_mem _ hq)]
theorem closed_synced (log : List UInt8) : ∀ (cs : List (List Body)) (m : Nat), ∀ p ∈ closed log m cs, p.2.data.length = p.2.synced
  | [], _, _, h => nomatch h
  | c :: cs, m, p, h => by
    rcases List.mem_cons.1 h with rfl | h
    · rfl
    · exact closed_synced log cs _ p h
theorem segs_synced (log : List UInt8) (m : Nat) (cs : List (List Body)) (bs : List Body) (t : List UInt8) : ∀ p ∈ segs log m cs bs t (fr bs ++ t).length, p.2.data.length = p.2.synced := fun p hp => by
  rcases List.mem_append.1 hp with h | h
  · exact closed_synced log cs m p h
  · rw [List.mem_singleton.1 h]
/-- A disk all of which is synced: Sync changes nothing. -/
theorem sync_still {D : Disk} (hd : D.down = false) (hf : D.fuse = 0) (hs : ∀ p ∈ D.files, p.2.data.length = p.2.synced) {n : List UInt8} {f : File} (hg : Dm.get D.files n = some f) : Dm.sync D n = (0, D) := by
  have e : Dm.syncs n D.files = D.files := by
    unfold Dm.syncs Dm.upd
    rw [List.map_congr_left (g := id) fun p hp => ?_, List.map_id]
    have := hs p hp
    split
    · show (p.1, ({ p.2 with synced := p.2.data.length } : File)) = p
      rw [this]
    · rfl
  unfold Dm.sync
  rw [hd, hg]
  simp only [Bool.false_eq_true, if_false]
  unfold Dm.change
  rw [hf, if_neg (by decide), e]
  cases D
  simp only at hf
  subst hf
  rfl
theorem syncAll_still {log : ByteArray} {D : Disk} (hd : D.down = false) (hf : D.fuse = 0) (hs : ∀ p ∈ D.files, p.2.data.length = p.2.synced) : ∀ l : List Nat, (∀ n ∈ l, ∃ f, Dm.get D.files (nameOf log n).data.toList = some f) → syncAll log l D = (0, D)
  | [], _ => rfl
  | n :: r, h => by
    obtain ⟨f, hg⟩ := h n List.mem_cons_self
    rw [syncAll_ok (sync_still hd hf hs hg)]
    exact syncAll_still hd hf hs r fun x hx => h x (List.mem_cons_of_mem _ hx)
/-- What is read of a log's files. -/
theorem took_eq (W : W) {n : Nat} (h : 1 ≤ n) (s : ByteArray) (j : Nat) : took W n s j = ⟨⟨nameOf W.log n, s.size, ⟨#[]⟩, ⟨(frames s.data.toList).2.toArray⟩⟩, W.log, W.firsts ++ [n], n - 1 + j, W.dead⟩ := by
  unfold took follow readF
  simp only
  rw [Nat.sub_add_cancel h]
theorem numbered_app : ∀ (l k : List Body) (n : Nat), numbered n (l ++ k) = numbered n l ++ numbered (n + l.length) k
  | [], _, _ => rfl
  | b :: l, k, n => by
    show (n, b) :: numbered (n + 1) (l ++ k) = (n, b) :: (numbered (n + 1) l ++ numbered (n + (l.length + 1)) k)
    rw [numbered_app l k (n + 1), show n + 1 + l.length = n + (l.length + 1) by omega]
theorem reads_segs {D : Disk} {log : ByteArray} {bs : List Body} {t : List UInt8} {s : Nat} (ht : NoFrame t) (hb : ∀ b ∈ bs, b.length ≤ 65536) : ∀ (cs : List (List Body)) (m : Nat) (W : W) (r : List (Nat × List UInt8)), W.log = log → (W.firsts = [] ∨ m = W.last + 1) → 1 ≤ m → m + total cs + bs.length < 100 → (∀ c ∈ cs, ∀ b ∈ c, b.length ≤ 65536) → W.firsts.length + cs.length ≤ 200 → r.length + total cs ≤ 1000 →
    (∀ p ∈ segs log.data.toList m cs bs t s, Dm.read D p.1 = (p.2.data, 0)) →
    Reads D (Dm.keys (segs log.data.toList m cs bs t s)) W r ⟨⟨nameOf log (m + total cs), (fr bs ++ t).length, ⟨#[]⟩, ⟨t.toArray⟩⟩, log, W.firsts ++ firstsOf m cs, m + total cs - 1 + bs.length, W.dead⟩ (r ++ numbered m (cs.flatten ++ bs))
  | [], m, W, r, hlog, hf, h1, hm, _, hl, hr, hrd => by
    subst hlog
    have e0 : total [] = 0 := rfl
    rw [e0, Nat.add_zero] at hm
    have hrd := hrd (nm W.log.data.toList m, ⟨fr bs ++ t, s⟩) (by simp [segs, closed, e0])
    have e1 : frames (⟨(fr bs ++ t).toArray⟩ : ByteArray).data.toList = (bs, t) := by rw [← frames_fr ht bs hb]
    have hk : Dm.keys (segs W.log.data.toList m [] bs t s) = [(nameOf W.log m).data.toList] := by rw [keys_segs, nm_list]; rfl
    rw [hk]
    have hx := Reads.file (D := D) (ks := []) (W := W) (r := r) m ⟨(fr bs ++ t).toArray⟩ h1 (by omega) hf (by simp at hl; omega) (by rw [nm_list]; exact hrd) (by rw [e1]; show bs.length ≤ 1000; omega) (by rw [e0] at hr; omega) (.nil _ _)
    rw [e1, took_eq W h1] at hx
    simp only [e1] at hx
    have e2 : (⟨(fr bs ++ t).toArray⟩ : ByteArray).size = (fr bs ++ t).length := by simp [ByteArray.size]
    rw [e2] at hx
    simpa [firstsOf, e0] using hx
  | c :: cs, m, W, r, hlog, hf, h1, hm, hc, hl, hr, hrd => by
    subst hlog
    rw [total_cons] at hm hr
    have e3 : segs W.log.data.toList m (c :: cs) bs t s = (nm W.log.data.toList m, ⟨fr c, (fr c).length⟩) :: segs W.log.data.toList (m + c.length) cs bs t s := by
      unfold segs; rw [total_cons, ← Nat.add_assoc]; rfl
    rw [e3] at hrd ⊢
    have hrd1 := hrd _ List.mem_cons_self
    have e1 : frames (⟨(fr c).toArray⟩ : ByteArray).data.toList = (c, []) := by
      have := frames_fr NoFrame.nil c (hc c List.mem_cons_self)
      rw [List.append_nil] at this
      exact this
    have hk : Dm.keys ((nm W.log.data.toList m, (⟨fr c, (fr c).length⟩ : File)) :: segs W.log.data.toList (m + c.length) cs bs t s) = (nameOf W.log m).data.toList :: Dm.keys (segs W.log.data.toList (m + c.length) cs bs t s) := by rw [nm_list]; rfl
    rw [hk]
    have hrec := reads_segs ht hb cs (m + c.length) (took W m ⟨(fr c).toArray⟩ c.length) (r ++ numbered m c) (by rw [took_eq W h1]) (.inr (by rw [took_eq W h1]; simp only; omega)) (by omega) (by omega) (fun x hx => hc x (List.mem_cons_of_mem _ hx))
      (by rw [took_eq W h1]; simp at hl ⊢; omega) (by rw [List.length_append, numbered_length]; omega) (fun p hp => hrd p (List.mem_cons_of_mem _ hp))
    have hx := Reads.file (D := D) (ks := Dm.keys (segs W.log.data.toList (m + c.length) cs bs t s)) (W := W) (r := r) m ⟨(fr c).toArray⟩ h1 (by omega) hf (by simp at hl; omega) (by rw [nm_list]; exact hrd1) (by rw [e1]; show c.length ≤ 1000; omega) (by omega) (by rw [e1]; exact hrec)
    rw [took_eq W h1] at hx
    simp only at hx
    have e5 : r ++ numbered m c ++ numbered (m + c.length) (cs.flatten ++ bs) = r ++ numbered m ((c :: cs).flatten ++ bs) := by
      rw [List.flatten_cons, List.append_assoc c, numbered_app c, List.append_assoc]
    rw [e5, List.append_assoc, Nat.add_assoc m c.length, ← total_cons] at hx
    exact hx
end Wm
namespace Go.Proofs.YtoecbkndbcblpaaGreatDoor
open Go.RowKit Go.Maps Go.Sort Go.Shelf
open _root_.Wm (segs firstsOf fr total Body nm)
section
variable {w0 w w' : World} {a b : Nat} {D D' : Dm.Disk} {B : List (Nat × Obj)}
/-- A log of these files, of which t bytes may be cut, and that ends with a torn frame. -/
def Wm.Wst (log : ByteArray) (m : Nat) (cs : List (List Body)) (bs : List Body) (tail torn : ByteArray) : Wm.W :=
  ⟨⟨Wm.nameOf log (m + total cs), (fr bs).length + torn.size, tail, torn⟩, log, firstsOf m cs, m + total cs - 1 + bs.length, false⟩
theorem spare_nm (log : ByteArray) (n : Nat) (hn : n < 100) : (Wm.spare log).data.toList ≠ nm log.data.toList n := by
  intro e
  have h := congrArg List.length e
  obtain ⟨n1, -, -⟩ := Wm.nineteen_facts n hn
  unfold Wm.spare nm at h
  rw [ByteArray.data_append, Array.toList_append, List.length_append, List.length_append, n1] at h
  simp at h
theorem segs_names (log : List UInt8) (m : Nat) (cs : List (List Body)) (bs : List Body) (t : List UInt8) (s : Nat) : ∀ p ∈ segs log m cs bs t s, ∃ n, p.1 = nm log n ∧ n ∈ firstsOf m cs := fun p hp => by
  have hk : p.1 ∈ Dm.keys (segs log m cs bs t s) := List.mem_map.2 ⟨p, hp, rfl⟩
  rw [Wm.keys_segs] at hk
  obtain ⟨n, hn, e⟩ := List.mem_map.1 hk
  exact ⟨n, e.symm, hn⟩
theorem segs_get (log : List UInt8) (m : Nat) (cs : List (List Body)) (bs : List Body) (t : List UInt8) (s : Nat) : ∀ n ∈ firstsOf m cs, ∃ f, Dm.get (segs log m cs bs t s) (nm log n) = some f := fun n hn => by
  cases e : Dm.get (segs log m cs bs t s) (nm log n) with
  | some f => exact ⟨f, rfl⟩
  | none =>
    have h : nm log n ∈ Dm.keys (segs log m cs bs t s) := by rw [Wm.keys_segs]; exact List.mem_map.2 ⟨n, hn, rfl⟩
    obtain ⟨p, hp, e2⟩ := List.mem_map.1 h
    exact absurd e2 (Dm.get_none.1 e p hp)
/-- A log is opened whose files are all synced. -/
theorem open_segs {name : ByteArray} {cs : List (List Body)} {bs : List Body} {t : List UInt8} (h : Bx w0 w a D B) (hn : Wm.isName name = true) (hR : Dm.Right D) (hd : D.down = false) (hf : D.fuse = 0)
    (hfs : D.files = segs (Wm.logOf name).data.toList 1 cs bs t (fr bs ++ t).length) (hc : ∀ c ∈ cs, c ≠ []) (hcb : ∀ c ∈ cs, ∀ b ∈ c, b.length ≤ 65536) (hb : ∀ b ∈ bs, b.length ≤ 65536) (ht : Wm.NoFrame t) (hm : 1 + total cs + bs.length < 100) :
    Calls Tryz.prog 8 #[.pointer (some ⟨a, 0, none⟩), .string name] w fun e w' => ∃ b v Rr, e = .returned (.tuple #[.pointer (some ⟨b, 0, none⟩), v, .int .i64 0]) ∧ WalIn w0 w' a D b (Wm.Wst (Wm.logOf name) 1 cs bs ⟨#[]⟩ ⟨t.toArray⟩) (Rr ++ B) ∧ RecIs v Rr (Wm.numbered 1 (cs.flatten ++ bs)) := by
  have hs := ((Wm.isName_iff name).1 hn).2.1
  have hlog := Wm.logOf_size hs
  have hsorted := Wm.segs_sorted (Wm.logOf name).data.toList bs t (fr bs ++ t).length (m := 1) hc (by omega)
  have hlen : cs.length ≤ total cs := by
    clear hfs hsorted hcb hm
    induction cs with
    | nil => exact Nat.zero_le _
    | cons c cs ih =>
      have hp := List.length_pos_iff.2 (hc c List.mem_cons_self)
      have := ih fun x hx => hc x (List.mem_cons_of_mem _ hx)
      rw [Wm.total_cons, List.length_cons]; omega
  have hrd : ∀ p ∈ segs (Wm.logOf name).data.toList 1 cs bs t (fr bs ++ t).length, Dm.read D p.1 = (p.2.data, 0) := fun p hp => by
    unfold Dm.read
    rw [hd, hfs, Wm.get_all hsorted p hp]
    rfl
  have hreads := Wm.reads_segs (log := Wm.logOf name) ht hb cs 1 (Wm.opening name) [] rfl (.inl rfl) (Nat.le_refl _) hm hcb (by show 0 + _ ≤ _; omega) (by show 0 + _ ≤ _; omega) hrd
  rw [← hfs] at hreads
  have hW : (⟨⟨Wm.nameOf (Wm.logOf name) (1 + total cs), (fr bs ++ t).length, ⟨#[]⟩, ⟨t.toArray⟩⟩, Wm.logOf name, (Wm.opening name).firsts ++ firstsOf 1 cs, 1 + total cs - 1 + bs.length, (Wm.opening name).dead⟩ : Wm.W) = Wm.Wst (Wm.logOf name) 1 cs bs ⟨#[]⟩ ⟨t.toArray⟩ := by
    have e : (⟨t.toArray⟩ : ByteArray).size = t.length := by simp [ByteArray.size]
    unfold Wm.Wst Wm.opening
    rw [e, List.length_append]; rfl
  rw [hW, List.nil_append] at hreads
  refine open_ok h name hs hn hd (W := Wm.Wst (Wm.logOf name) 1 cs bs ⟨#[]⟩ ⟨t.toArray⟩) (fun w1 b hw1 => read_w hw1 hlog hR hreads)
    fun w1 b B1 hw1 => settle_some hw1 ⟨hlog, Wm.firstsOf_ne _ _, by show (firstsOf 1 cs).length ≤ 200; rw [Wm.firstsOf_length]; omega, by show 1 + total cs - 1 + bs.length ≤ 98; omega⟩ (fun n hn => by
      have := Wm.firstsOf_le cs 1 n hn
      omega) (D1 := D) (Wm.syncAll_still hd hf (fun p hp => by rw [hfs] at hp; exact Wm.segs_synced _ _ _ _ _ p hp) _ fun n hn => ?_) (Wm.sweep_none hd ?_)
  · rw [hfs, Wm.nm_list]; exact segs_get _ _ _ _ _ _ n hn
  · rw [hfs]
    refine Dm.get_none.2 fun p hp e => ?_
    obtain ⟨n, e1, hn⟩ := segs_names _ _ _ _ _ _ p hp
    have := Wm.firstsOf_le cs 1 n hn
    rw [e1] at e
    exact spare_nm (Wm.logOf name) n (by omega) e.symm
end
end Go.Proofs.YtoecbkndbcblpaaGreatDoor
namespace Wm
open Dm (Disk File)
theorem change_cases (d : Disk) (f g : Files → Files) : (∃ d', Dm.change d f g = (0, d') ∧ d'.down = d.down ∧ d'.files = f d.files ∧ d'.bounded = d.bounded ∧ (d.fuse = 0 → d'.fuse = 0)) ∨ ∃ d', Dm.change d f g = (7, d') ∧ d'.down = true ∧ d'.files = g d.files ∧ d'.bounded = d.bounded ∧ d.fuse ≠ 0 := by
  unfold Dm.change
  split
  · rename_i h
    exact .inr ⟨_, rfl, rfl, rfl, rfl, by omega⟩
  · exact .inl ⟨_, rfl, rfl, rfl, rfl, fun h => by show d.fuse - 1 = 0; omega⟩
theorem closed_not {log : List UInt8} {cs : List (List Body)} {m n : Nat} (hc : ∀ c ∈ cs, c ≠ []) (h : m + total cs ≤ n) (hn : n < 100) : ∀ p ∈ closed log m cs, p.1 ≠ nm log n := fun p hp e => by
  obtain ⟨k, e1, h1, h2⟩ := closed_names log cs m hc p hp
  rw [e1] at e
  exact nm_ne log (show k ≠ n by omega) (by omega) hn e
theorem get_app {l r : Files} {n : List UInt8} (h : ∀ p ∈ l, p.1 ≠ n) : Dm.get (l ++ r) n = Dm.get r n := by
  induction l with
  | nil => rfl
  | cons p l ih =>
    show (if p.1 = n then some p.2 else Dm.get (l ++ r) n) = _
    rw [if_neg (h p List.mem_cons_self)]
    exact ih fun q hq => h q (List.mem_cons_of_mem _ hq)
section
variable {log : List UInt8} {cs : List (List Body)} {bs : List Body} {m s : Nat}
theorem get_cur (t : List UInt8) (hc : ∀ c ∈ cs, c ≠ []) (hm : m + total cs < 100) : Dm.get (segs log m cs bs t s) (nm log (m + total cs)) = some ⟨fr bs ++ t, s⟩ := by
  unfold segs
  rw [get_app (closed_not hc (Nat.le_refl _) hm)]
  simp [Dm.get]
theorem upd_cur (t : List UInt8) (hc : ∀ c ∈ cs, c ≠ []) (hm : m + total cs < 100) (g : File → File) : Dm.upd (segs log m cs bs t s) (nm log (m + total cs)) g = closed log m cs ++ [(nm log (m + total cs), g ⟨fr bs ++ t, s⟩)] := by
  have h := upd_none (closed_not (log := log) hc (Nat.le_refl _) hm) g
  unfold segs Dm.upd at *
  rw [List.map_append, h]
  simp
theorem get_later (t : List UInt8) (hc : ∀ c ∈ cs, c ≠ []) {n : Nat} (hn : n < 100) (h : m + total cs < n) : Dm.get (segs log m cs bs t s) (nm log n) = none := by
  unfold segs
  rw [get_app (closed_not hc (by omega) hn)]
  simp [Dm.get, nm_ne log (show m + total cs ≠ n by omega) (by omega) hn]
theorem append_cur {D : Disk} (hfs : D.files = segs log m cs bs [] s) (hd : D.down = false) (hbd : D.bounded = false) (hc : ∀ c ∈ cs, c ≠ []) (hm : m + total cs < 100) (b : Body) (hl : (fr bs).length + (b.length + 8) ≤ 1048576) :
    (∃ D', Dm.append D (nm log (m + total cs)) (Go.Proofs.YtoecbkndbcblpaaGreatDoor.Sm.frame b) = (0, D') ∧ D'.down = false ∧ D'.files = segs log m cs (bs ++ [b]) [] s ∧ D'.bounded = false ∧ (D.fuse = 0 → D'.fuse = 0)) ∨ ∃ D', Dm.append D (nm log (m + total cs)) (Go.Proofs.YtoecbkndbcblpaaGreatDoor.Sm.frame b) = (7, D') ∧ D'.down = true ∧ D'.files = segs log m cs (bs ++ [b]) [] s ∧ D'.bounded = false ∧ D.fuse ≠ 0 := by
  have hg := get_cur (log := log) (s := s) (bs := bs) [] hc hm
  have hu : Dm.adds (nm log (m + total cs)) (Go.Proofs.YtoecbkndbcblpaaGreatDoor.Sm.frame b) D.files = segs log m cs (bs ++ [b]) [] s := by
    unfold Dm.adds
    rw [hfs, upd_cur [] hc hm]
    unfold segs
    simp [fr_snoc]
  have e : Dm.append D (nm log (m + total cs)) (Go.Proofs.YtoecbkndbcblpaaGreatDoor.Sm.frame b) = Dm.change D (Dm.adds (nm log (m + total cs)) (Go.Proofs.YtoecbkndbcblpaaGreatDoor.Sm.frame b)) (Dm.adds (nm log (m + total cs)) (Go.Proofs.YtoecbkndbcblpaaGreatDoor.Sm.frame b)) := by
    unfold Dm.append
    rw [hd, hfs, hg, hbd]
    simp only [Bool.false_eq_true, if_false, List.append_nil, Go.Proofs.YtoecbkndbcblpaaGreatDoor.Sm.frame_len, Bool.false_and]
    rw [if_neg (by omega)]
  rw [e]
  rcases change_cases D (Dm.adds (nm log (m + total cs)) (Go.Proofs.YtoecbkndbcblpaaGreatDoor.Sm.frame b)) (Dm.adds (nm log (m + total cs)) (Go.Proofs.YtoecbkndbcblpaaGreatDoor.Sm.frame b)) with ⟨D', h1, h2, h3, h4, h5⟩ | ⟨D', h1, h2, h3, h4, h5⟩
  · exact .inl ⟨D', h1, by rw [h2, hd], by rw [h3, hu], by rw [h4, hbd], h5⟩
  · exact .inr ⟨D', h1, h2, by rw [h3, hu], by rw [h4, hbd], h5⟩
theorem sync_cur {D : Disk} (hfs : D.files = segs log m cs bs [] s) (hd : D.down = false) (hbd : D.bounded = false) (hc : ∀ c ∈ cs, c ≠ []) (hm : m + total cs < 100) :
    (∃ D', Dm.sync D (nm log (m + total cs)) = (0, D') ∧ D'.down = false ∧ D'.files = segs log m cs bs [] (fr bs).length ∧ D'.bounded = false ∧ (D.fuse = 0 → D'.fuse = 0)) ∨ ∃ D', Dm.sync D (nm log (m + total cs)) = (7, D') ∧ D'.down = true ∧ D'.files = segs log m cs bs [] s ∧ D'.bounded = false ∧ D.fuse ≠ 0 := by
  have hg := get_cur (log := log) (s := s) (bs := bs) [] hc hm
  have hu : Dm.syncs (nm log (m + total cs)) D.files = segs log m cs bs [] (fr bs).length := by
    unfold Dm.syncs
    rw [hfs, upd_cur [] hc hm]
    unfold segs
    simp
  have e : Dm.sync D (nm log (m + total cs)) = Dm.change D (Dm.syncs (nm log (m + total cs))) id := by
    unfold Dm.sync
    rw [hd, hfs, hg]
    rfl
  rw [e]
  rcases change_cases D (Dm.syncs (nm log (m + total cs))) id with ⟨D', h1, h2, h3, h4, h5⟩ | ⟨D', h1, h2, h3, h4, h5⟩
  · exact .inl ⟨D', h1, by rw [h2, hd], by rw [h3, hu], by rw [h4, hbd], h5⟩
  · exact .inr ⟨D', h1, h2, by rw [h3, hfs]; rfl, by rw [h4, hbd], h5⟩
theorem create_next {D : Disk} (hfs : D.files = segs log m cs bs [] (fr bs).length) (hd : D.down = false) (hbd : D.bounded = false) (hc : ∀ c ∈ cs, c ≠ []) (hb : bs ≠ []) (hm : m + total cs + bs.length < 100) (hnm : Dm.isName (nm log (m + total cs + bs.length)) = true) :
    (∃ D', Dm.create D (nm log (m + total cs + bs.length)) = (0, D') ∧ D'.down = false ∧ D'.files = segs log m (cs ++ [bs]) [] [] 0 ∧ D'.bounded = false ∧ (D.fuse = 0 → D'.fuse = 0)) ∨ ∃ D', Dm.create D (nm log (m + total cs + bs.length)) = (7, D') ∧ D'.down = true ∧ D'.files = segs log m cs bs [] (fr bs).length ∧ D'.bounded = false ∧ D.fuse ≠ 0 := by
  have hp := List.length_pos_iff.2 hb
  have hg := get_later (log := log) (s := (fr bs).length) (bs := bs) (m := m) [] hc hm (by omega)
  have hlen : cs.length ≤ total cs := by
    clear hfs hg hm hnm
    induction cs with
    | nil => exact Nat.zero_le _
    | cons c cs ih =>
      have hp := List.length_pos_iff.2 (hc c List.mem_cons_self)
      have := ih fun x hx => hc x (List.mem_cons_of_mem _ hx)
      rw [total_cons, List.length_cons]; omega
  have hcl : ∀ (cs : List (List Body)) (m : Nat), (closed log m cs).length = cs.length := fun cs => by
    induction cs with
    | nil => intro; rfl
    | cons c cs ih => intro m; show (closed log (m + c.length) cs).length + 1 = _; rw [ih]; rfl
  have hu : Dm.put D.files (nm log (m + total cs + bs.length)) ⟨[], 0⟩ = segs log m (cs ++ [bs]) [] [] 0 := by
    rw [hfs, put_last]
    · unfold segs
      rw [closed_snoc, total_snoc, ← Nat.add_assoc, List.append_nil]; rfl
    · intro p hp
      rcases List.mem_append.1 hp with h | h
      · obtain ⟨k, e1, h1, h2⟩ := closed_names log cs m hc p h
        rw [e1]; exact nm_before log (by omega) hm
      · rw [List.mem_singleton.1 h]; exact nm_before log (by omega) hm
  have e : Dm.create D (nm log (m + total cs + bs.length)) = Dm.change D (fun l => Dm.put l (nm log (m + total cs + bs.length)) ⟨[], 0⟩) id := by
    have h256 : ¬ 256 ≤ D.files.length := by rw [hfs]; unfold segs; rw [List.length_append, hcl]; simp; omega
    unfold Dm.create
    rw [hd, hnm, hfs, hg]
    rw [hfs] at h256
    simp only [Bool.false_eq_true, Bool.true_eq_false, if_false, Option.isSome_none]
    rw [if_neg h256]
  rw [e]
  rcases change_cases D (fun l => Dm.put l (nm log (m + total cs + bs.length)) ⟨[], 0⟩) id with ⟨D', h1, h2, h3, h4, h5⟩ | ⟨D', h1, h2, h3, h4, h5⟩
  · exact .inl ⟨D', h1, by rw [h2, hd], by rw [h3, hu], by rw [h4, hbd], h5⟩
  · exact .inr ⟨D', h1, h2, by rw [h3, hfs]; rfl, by rw [h4, hbd], h5⟩
/-! ### what is sure -/
/-- The first k records stay. -/
def Sure (k : Nat) (cs : List (List Body)) (bs : List Body) (s : Nat) : Prop := k ≤ total cs ∨ (k ≤ total cs + bs.length ∧ (fr (bs.take (k - total cs))).length ≤ s)
theorem Sure.more {k : Nat} (h : Sure k cs bs s) (b : Body) : Sure k cs (bs ++ [b]) s := by
  rcases h with h | ⟨h1, h2⟩
  · exact .inl h
  · refine .inr ⟨by rw [List.length_append]; omega, ?_⟩
    rw [List.take_append_of_le_length (by omega)]; exact h2
theorem Sure.sync {k : Nat} (h : Sure k cs bs s) : Sure k cs bs (fr bs).length := by
  rcases h with h | ⟨h1, -⟩
  · exact .inl h
  · refine .inr ⟨h1, ?_⟩
    have e : fr bs = fr (bs.take (k - total cs)) ++ fr (bs.drop (k - total cs)) := by
      unfold fr; rw [← List.flatMap_append, List.take_append_drop]
    rw [e, List.length_append]; omega
theorem Sure.next {k : Nat} (h : Sure k cs bs s) : Sure k (cs ++ [bs]) [] 0 := by
  rw [Sure, total_snoc]
  rcases h with h | ⟨h1, -⟩ <;> exact .inl (by omega)
theorem Sure.all : Sure (total cs + bs.length) cs bs (fr bs).length := .inr ⟨Nat.le_refl _, by
  rw [show total cs + bs.length - total cs = bs.length by omega, List.take_length]; exact Nat.le_refl _⟩
end
end Wm
namespace Go.Proofs.YtoecbkndbcblpaaGreatDoor
open Go.RowKit Go.Maps Go.Sort Go.Shelf
open _root_.Wm (segs firstsOf fr total Body nm Sure)
/-- What is so of a log that takes records: its files, and its disk. -/
structure Lives (name : ByteArray) (D : Dm.Disk) (cs : List (List Body)) (bs : List Body) (s : Nat) (tail : ByteArray) : Prop where
  files : D.files = segs (Wm.logOf name).data.toList 1 cs bs [] s
  down : D.down = false
  bounded : D.bounded = false
  suf : Wm.suffix (fr bs) tail.data.toList = true
  synced : s ≤ (fr bs).length
  ne : ∀ c ∈ cs, c ≠ []
  few : total cs + bs.length ≤ 80
  bytes : ((cs.flatten ++ bs).map List.length).sum ≤ 200000
  short : ∀ b ∈ cs.flatten ++ bs, b.length ≤ 65536
  last : (fr bs.dropLast).length < 16384
/-- What is so where the power went. -/
structure Fell (name : ByteArray) (D : Dm.Disk) (cs : List (List Body)) (bs : List Body) (s : Nat) : Prop where
  files : D.files = segs (Wm.logOf name).data.toList 1 cs bs [] s
  down : D.down = true
  bounded : D.bounded = false
  synced : s ≤ (fr bs).length
  ne : ∀ c ∈ cs, c ≠ []
  few : total cs + bs.length ≤ 81
  short : ∀ b ∈ cs.flatten ++ bs, b.length ≤ 65536
  last : (fr bs.dropLast).length < 16384
section
variable {w0 w w' : World} {a b : Nat} {D D' : Dm.Disk} {B : List (Nat × Obj)} {name tail : ByteArray} {cs : List (List Body)} {bs : List Body} {s : Nat}
theorem sum_append (l k : List Body) : ((l ++ k).map List.length).sum = (l.map List.length).sum + (k.map List.length).sum := by rw [List.map_append, List.sum_append]
theorem Lives.len (h : Lives name D cs bs s tail) : (fr bs).length ≤ 200640 := by
  have h1 := h.bytes
  have h2 := h.few
  rw [sum_append] at h1
  rw [Wm.fr_len]; omega
theorem Lives.tail_len (h : Lives name D cs bs s tail) : tail.size ≤ 200640 := by
  have h1 := h.suf
  unfold Wm.suffix at h1
  have h2 := (List.isSuffixOf_iff_suffix.1 h1).length_le
  rw [data_len] at h2
  exact Nat.le_trans h2 h.len
theorem Lives.alive (h : Lives name D cs bs s tail) : Wm.alive D (Wm.Wst (Wm.logOf name) 1 cs bs tail ⟨#[]⟩) = true := by
  have hf := h.few
  have hg := Wm.get_cur (log := (Wm.logOf name).data.toList) (m := 1) (bs := bs) (s := s) [] h.ne (by omega)
  rw [List.append_nil] at hg
  have hr : Dm.read D (Wm.nameOf (Wm.logOf name) (1 + total cs)).data.toList = (fr bs, 0) := by
    unfold Dm.read; rw [h.down, h.files, Wm.nm_list, hg]; rfl
  have hs : Wm.stands D (Wm.Wst (Wm.logOf name) 1 cs bs tail ⟨#[]⟩).f = true := by
    unfold Wm.stands Wm.Wst
    simp only [hr, empty_add, h.suf]
    simp
    rfl
  have he : (Wm.empty (Wm.Wst (Wm.logOf name) 1 cs bs tail ⟨#[]⟩) || (Dm.read D (Wm.nameOf (Wm.logOf name) ((Wm.Wst (Wm.logOf name) 1 cs bs tail ⟨#[]⟩).last + 1)).data.toList).2 == 4) = true := by
    by_cases hb : bs.length = 0
    · have : Wm.empty (Wm.Wst (Wm.logOf name) 1 cs bs tail ⟨#[]⟩) = true := by
        unfold Wm.empty Wm.Wst
        simp only [Wm.firstsOf_last, Option.getD_some, hb]
        exact decide_eq_true (by omega)
      rw [this]; rfl
    · have hl := Wm.get_later (log := (Wm.logOf name).data.toList) (m := 1) (bs := bs) (s := s) [] h.ne (n := 1 + total cs - 1 + bs.length + 1) (by omega) (by omega)
      have : (Dm.read D (Wm.nameOf (Wm.logOf name) ((Wm.Wst (Wm.logOf name) 1 cs bs tail ⟨#[]⟩).last + 1)).data.toList).2 = 4 := by
        unfold Dm.read Wm.Wst
        simp only [h.down, h.files, Wm.nm_list, hl]
        rfl
      rw [this]; simp
  unfold Wm.alive
  rw [hs]
  simp only [Bool.and_true, Bool.and_eq_true]
  exact ⟨rfl, he⟩
theorem Lives.ok (h : Lives name D cs bs s tail) (hn : name.size ≤ 12) : Wm.Ok (Wm.Wst (Wm.logOf name) 1 cs bs tail ⟨#[]⟩) := by
  have hf := h.few
  have hlen : cs.length ≤ total cs := by
    have hc := h.ne
    clear h hf
    induction cs with
    | nil => exact Nat.zero_le _
    | cons c cs ih =>
      have hp := List.length_pos_iff.2 (hc c List.mem_cons_self)
      have := ih fun x hx => hc x (List.mem_cons_of_mem _ hx)
      rw [Wm.total_cons, List.length_cons]; omega
  exact ⟨Wm.logOf_size hn, Wm.firstsOf_ne _ _, by show (firstsOf 1 cs).length ≤ 200; rw [Wm.firstsOf_length]; omega, by show 1 + total cs - 1 + bs.length ≤ 98; omega⟩
theorem Lives.fok (h : Lives name D cs bs s tail) (hn : name.size ≤ 12) : FOk (Wm.Wst (Wm.logOf name) 1 cs bs tail ⟨#[]⟩).f := by
  have h1 := h.len
  have h2 := h.tail_len
  have h3 := h.few
  exact ⟨name_fits _ _ (Wm.logOf_size hn) (by omega), by show (fr bs).length + 0 ≤ 1048576; omega, by show tail.size ≤ 1048576; omega, Nat.zero_le _⟩
end
end Go.Proofs.YtoecbkndbcblpaaGreatDoor
namespace Go.Proofs.YtoecbkndbcblpaaGreatDoor
open Go.RowKit Go.Maps Go.Sort Go.Shelf
open _root_.Wm (segs firstsOf fr total Body nm Sure)
theorem _root_.Wm.file_nameS {name : ByteArray} (h : Wm.isName name = true) (n : Nat) (hn : n < 100) : Dm.isName (nm (Wm.logOf name).data.toList n) = true := by
  obtain ⟨h1, h2, h3⟩ := (Wm.isName_iff name).1 h
  obtain ⟨n1, n2, -⟩ := Wm.nineteen_facts n hn
  have hs := data_len name
  unfold nm
  rw [Wm.logOf_list]
  have hl : (name.data.toList ++ [46] ++ Wm.nineteen n).length = name.size + 20 := by
    rw [List.length_append, List.length_append, n1, hs]; rfl
  have ha : (name.data.toList ++ [46] ++ Wm.nineteen n).all Dm.nameByte = true := by
    rw [List.all_eq_true]
    intro c hc
    rcases List.mem_append.1 hc with hc | hc
    · rcases List.mem_append.1 hc with hc | hc
      · exact Wm.letters_byte c (h3 c hc)
      · rw [List.mem_singleton.1 hc]; decide
    · exact Wm.digit_byte c (n2 c hc)
  unfold Dm.isName
  rw [hl, ha]
  have e1 : 1 ≤ name.size + 20 := by omega
  have e2 : name.size + 20 ≤ 32 := by omega
  simp [e1, e2]
theorem frame_list (x : ByteArray) : (Wm.frame x).data.toList = Sm.frame x.data.toList := by simp [Wm.frame]
theorem frame_size8 (x : ByteArray) : (Wm.frame x).size = x.size + 8 := by
  rw [← data_len, frame_list, Sm.frame_len, data_len]
theorem suffix_appL {l : List UInt8} {t : ByteArray} (h : Wm.suffix l t.data.toList = true) (x : ByteArray) : Wm.suffix (l ++ x.data.toList) (t ++ x).data.toList = true := by
  unfold Wm.suffix at h ⊢
  rw [ByteArray.data_append, Array.toList_append]
  rw [List.isSuffixOf_iff_suffix] at h ⊢
  obtain ⟨k, hk⟩ := h
  exact ⟨k, by rw [← List.append_assoc, hk]⟩
section
variable {w0 w w' : World} {a b : Nat} {D D' : Dm.Disk} {B : List (Nat × Obj)} {name tail : ByteArray} {cs : List (List Body)} {bs : List Body} {s : Nat}
/-- What Append does: the record is put, or the power goes; then it may have been put, or not. -/
def Appends (D : Dm.Disk) (w0 w : World) (a b : Nat) (B : List (Nat × Obj)) (name : ByteArray) (cs : List (List Body)) (bs : List Body) (s : Nat) (x : ByteArray) : Prop :=
  (∃ D' cs' bs' s' tail', Lives name D' cs' bs' s' tail' ∧ cs'.flatten ++ bs' = cs.flatten ++ bs ++ [x.data.toList] ∧ (∀ k, Sure k cs bs s → Sure k cs' bs' s') ∧ (D.fuse = 0 → D'.fuse = 0) ∧
    Calls Tryz.prog 11 #[.pointer (some ⟨b, 0, none⟩), .string x] w fun e w' => e = .returned (.tuple #[.int .i64 (total cs + bs.length + 1 : Nat), .int .i64 0]) ∧ WalIn w0 w' a D' b (Wm.Wst (Wm.logOf name) 1 cs' bs' tail' ⟨#[]⟩) B) ∨
  (∃ D' cs' bs' s', Fell name D' cs' bs' s' ∧ D.fuse ≠ 0 ∧ (cs'.flatten ++ bs' = cs.flatten ++ bs ∨ cs'.flatten ++ bs' = cs.flatten ++ bs ++ [x.data.toList]) ∧ (∀ k, Sure k cs bs s → Sure k cs' bs' s') ∧
    Calls Tryz.prog 11 #[.pointer (some ⟨b, 0, none⟩), .string x] w fun e w' => e = .returned (.tuple #[.int .i64 0, .int .i64 7]) ∧ Bx w0 w' a D' B)
theorem Lives.put (h : Lives name D cs bs s tail) (x : ByteArray) (hx : x.size ≤ 65536) (hfew : total cs + bs.length + 1 ≤ 80) (hby : ((cs.flatten ++ bs).map List.length).sum + x.size ≤ 200000) (hfull : (fr bs).length < 16384) {D' : Dm.Disk} (h1 : D'.files = segs (Wm.logOf name).data.toList 1 cs (bs ++ [x.data.toList]) [] s) (h2 : D'.down = false) (h3 : D'.bounded = false) : Lives name D' cs (bs ++ [x.data.toList]) s (tail ++ Wm.frame x) := by
  have hs := h.synced
  refine ⟨h1, h2, h3, ?_, ?_, h.ne, ?_, ?_, ?_, ?_⟩
  · rw [Wm.fr_snoc, ← frame_list]; exact suffix_appL h.suf _
  · rw [Wm.fr_snoc, List.length_append]; omega
  · rw [List.length_append]; exact hfew
  · rw [← List.append_assoc, sum_append]; simpa [data_len] using hby
  · intro b hb
    rw [← List.append_assoc] at hb
    rcases List.mem_append.1 hb with hb | hb
    · exact h.short b hb
    · rw [List.mem_singleton.1 hb, data_len]; exact hx
  · rw [List.dropLast_concat]; exact hfull
theorem append_room (h : WalIn w0 w a D b (Wm.Wst (Wm.logOf name) 1 cs bs tail ⟨#[]⟩) B) (hl : Lives name D cs bs s tail) (hin : Wm.isName name = true) (x : ByteArray) (hx : x.size ≤ 65536) (hfew : total cs + bs.length + 1 ≤ 80) (hby : ((cs.flatten ++ bs).map List.length).sum + x.size ≤ 200000) (hfull : (fr bs).length < 16384) :
    Appends D w0 w a b B name cs bs s x := by
  have hn := ((Wm.isName_iff name).1 hin).2.1
  have hf8 := frame_size8 x
  have hlen := hl.len
  have hx2 := data_len x
  have hst : (fr bs).length + 0 < 16384 := by omega
  rcases Wm.append_cur hl.files hl.down hl.bounded hl.ne (by have := hl.few; omega) x.data.toList (by omega) with ⟨D', e1, h1, h2, h3, h4⟩ | ⟨D', e1, h1, h2, h3, h4⟩
  · have ew : Wm.write D (Wm.Wst (Wm.logOf name) 1 cs bs tail ⟨#[]⟩).f (Wm.frame x) = (0, D', ⟨Wm.nameOf (Wm.logOf name) (1 + total cs), (fr bs).length + 0 + (Wm.frame x).size, tail ++ Wm.frame x, ⟨#[]⟩⟩) := by
      unfold Wm.write Wm.Wst
      simp only [Wm.nm_list, frame_list, e1]
      rfl
    have hc := Append_yes h (hl.ok hn) (hl.fok hn) hl.alive x hx (W' := { Wm.Wst (Wm.logOf name) 1 cs bs tail ⟨#[]⟩ with f := ⟨Wm.nameOf (Wm.logOf name) (1 + total cs), (fr bs).length + 0 + (Wm.frame x).size, tail ++ Wm.frame x, ⟨#[]⟩⟩ }) (by show 1 + total cs - 1 + bs.length ≤ 1000000; omega)
      fun w1 B1 hw1 => put_w hw1 (hl.fok hn) rfl hst (Wm.frame x) (by omega) ew
    refine .inl ⟨D', cs, bs ++ [x.data.toList], s, tail ++ Wm.frame x, hl.put x hx hfew hby hfull h2 h1 h3, by rw [List.append_assoc], fun k hk => hk.more _, h4, ?_⟩
    refine hc.mono fun e w' ⟨he, hw⟩ => ⟨?_, ?_⟩
    · rw [he]
      have : 1 + total cs - 1 + bs.length + 1 = total cs + bs.length + 1 := by omega
      show Ending.returned (.tuple #[.int .i64 (1 + total cs - 1 + bs.length + 1 : Nat), .int .i64 0]) = _
      rw [this]
    · have hW : Wm.Wst (Wm.logOf name) 1 cs (bs ++ [x.data.toList]) (tail ++ Wm.frame x) ⟨#[]⟩ = ⟨⟨Wm.nameOf (Wm.logOf name) (1 + total cs), (fr bs).length + 0 + (Wm.frame x).size, tail ++ Wm.frame x, ⟨#[]⟩⟩, Wm.logOf name, firstsOf 1 cs, 1 + total cs - 1 + bs.length + 1, false⟩ := by
        have e5 : (fr (bs ++ [x.data.toList])).length + (⟨#[]⟩ : ByteArray).size = (fr bs).length + 0 + (Wm.frame x).size := by
          rw [Wm.fr_snoc, List.length_append, Sm.frame_len, data_len, hf8]; show _ + 0 = _; omega
        unfold Wm.Wst
        rw [e5, List.length_append]; rfl
      rw [hW]; exact hw
  · have ew : Wm.write D (Wm.Wst (Wm.logOf name) 1 cs bs tail ⟨#[]⟩).f (Wm.frame x) = (7, D', (Wm.Wst (Wm.logOf name) 1 cs bs tail ⟨#[]⟩).f) := by
      unfold Wm.write Wm.Wst
      simp only [Wm.nm_list, frame_list, e1]
    have hc := Append_err h (hl.ok hn) (hl.fok hn) hl.alive x hx (c := 7) (by decide) (W' := { Wm.Wst (Wm.logOf name) 1 cs bs tail ⟨#[]⟩ with f := (Wm.Wst (Wm.logOf name) 1 cs bs tail ⟨#[]⟩).f })
      fun w1 B1 hw1 => put_w hw1 (hl.fok hn) rfl hst (Wm.frame x) (by omega) ew
    have hs := hl.synced
    refine .inr ⟨D', cs, bs ++ [x.data.toList], s, ⟨h2, h1, h3, by rw [Wm.fr_snoc, List.length_append]; omega, hl.ne, by rw [List.length_append]; show _ + (_ + 1) ≤ _; omega, ?_, by rw [List.dropLast_concat]; exact hfull⟩, h4, .inr (by rw [List.append_assoc]), fun k hk => hk.more _, ?_⟩
    · intro b hb
      rw [← List.append_assoc] at hb
      rcases List.mem_append.1 hb with hb | hb
      · exact hl.short b hb
      · rw [List.mem_singleton.1 hb, data_len]; exact hx
    · exact hc.mono fun e w' ⟨he, hw⟩ => ⟨he, hw.disk⟩
theorem append_full (h : WalIn w0 w a D b (Wm.Wst (Wm.logOf name) 1 cs bs tail ⟨#[]⟩) B) (hl : Lives name D cs bs s tail) (hin : Wm.isName name = true) (x : ByteArray) (hx : x.size ≤ 65536) (hfew : total cs + bs.length + 1 ≤ 80) (hby : ((cs.flatten ++ bs).map List.length).sum + x.size ≤ 200000) (hfull : 16384 ≤ (fr bs).length) :
    Appends D w0 w a b B name cs bs s x := by
  have hn := ((Wm.isName_iff name).1 hin).2.1
  have hf8 := frame_size8 x
  have hlen := hl.len
  have hx2 := data_len x
  have hst : 16384 ≤ (fr bs).length + 0 := by omega
  have hbs : bs ≠ [] := fun e => by rw [e, Wm.fr_nil] at hfull; simp at hfull
  have hpos := List.length_pos_iff.2 hbs
  have hlast : (Wm.Wst (Wm.logOf name) 1 cs bs tail ⟨#[]⟩).last + 1 = 1 + total cs + bs.length := by show 1 + total cs - 1 + bs.length + 1 = _; omega
  have hfin := Wm.file_nameS hin (1 + total cs + bs.length) (by omega)
  have hne2 : ∀ c ∈ cs ++ [bs], c ≠ [] := fun c hc => by
    rcases List.mem_append.1 hc with hc | hc
    · exact hl.ne c hc
    · rw [List.mem_singleton.1 hc]; exact hbs
  have hshort : ∀ b ∈ (cs ++ [bs]).flatten ++ [x.data.toList], List.length b ≤ 65536 := fun b hb => by
    rw [List.flatten_append, List.flatten_singleton] at hb
    rcases List.mem_append.1 hb with hb | hb
    · exact hl.short b hb
    · rw [List.mem_singleton.1 hb, data_len]; exact hx
  have hflat : (cs ++ [bs]).flatten ++ [x.data.toList] = cs.flatten ++ bs ++ [x.data.toList] := by rw [List.flatten_append, List.flatten_singleton]
  have htot : 1 + total (cs ++ [bs]) = 1 + total cs + bs.length := by rw [Wm.total_snoc]; omega
  have hsure : ∀ k, Sure k cs bs s → Sure k (cs ++ [bs]) [x.data.toList] 0 := fun k hk => by
    have := (hk.next).more x.data.toList
    exact this
  rcases Wm.sync_cur hl.files hl.down hl.bounded hl.ne (by have := hl.few; omega) with ⟨D1, e1, h1, h2, h3, h4⟩ | ⟨D1, e1, h1, h2, h3, h4⟩
  · have es : Wm.sync D (Wm.Wst (Wm.logOf name) 1 cs bs tail ⟨#[]⟩).f = (0, D1, ⟨Wm.nameOf (Wm.logOf name) (1 + total cs), (fr bs).length + 0, ⟨#[]⟩, ⟨#[]⟩⟩) := by
      unfold Wm.sync Wm.Wst
      simp only [Wm.nm_list, e1]
      rfl
    rcases Wm.create_next h2 h1 h3 hl.ne hbs (by omega) hfin with ⟨D2, e2, k1, k2, k3, k4⟩ | ⟨D2, e2, k1, k2, k3, k4⟩
    · have ec : Dm.create D1 (Wm.nameOf (Wm.Wst (Wm.logOf name) 1 cs bs tail ⟨#[]⟩).log ((Wm.Wst (Wm.logOf name) 1 cs bs tail ⟨#[]⟩).last + 1)).data.toList = (0, D2) := by
        rw [hlast, Wm.nm_list]; exact e2
      rcases Wm.append_cur (bs := []) k2 k1 k3 hne2 (by omega) x.data.toList (by rw [Wm.fr_nil]; show 0 + _ ≤ _; omega) with ⟨D3, e3, g1, g2, g3, g4⟩ | ⟨D3, e3, g1, g2, g3, g4⟩
      · rw [htot] at e3
        have ew : Wm.write D2 (Wm.fresh (Wm.nameOf (Wm.Wst (Wm.logOf name) 1 cs bs tail ⟨#[]⟩).log ((Wm.Wst (Wm.logOf name) 1 cs bs tail ⟨#[]⟩).last + 1))) (Wm.frame x) = (0, D3, ⟨Wm.nameOf (Wm.logOf name) (1 + total cs + bs.length), 0 + (Wm.frame x).size, ⟨#[]⟩ ++ Wm.frame x, ⟨#[]⟩⟩) := by
          rw [hlast]
          unfold Wm.write Wm.fresh
          simp only [show (Wm.Wst (Wm.logOf name) 1 cs bs tail ⟨#[]⟩).log = Wm.logOf name from rfl, Wm.nm_list, frame_list, e3]
        have hc := Append_yes h (hl.ok hn) (hl.fok hn) hl.alive x hx (W' := Wm.follow { Wm.Wst (Wm.logOf name) 1 cs bs tail ⟨#[]⟩ with f := ⟨Wm.nameOf (Wm.logOf name) (1 + total cs), (fr bs).length + 0, ⟨#[]⟩, ⟨#[]⟩⟩ } ⟨Wm.nameOf (Wm.logOf name) (1 + total cs + bs.length), 0 + (Wm.frame x).size, ⟨#[]⟩ ++ Wm.frame x, ⟨#[]⟩⟩) (by show 1 + total cs - 1 + bs.length ≤ 1000000; omega)
          fun w1 B1 hw1 => put_full hw1 (hl.ok hn) (hl.fok hn) rfl hst (Wm.frame x) (by omega) es ec ew
        refine .inl ⟨D3, cs ++ [bs], [x.data.toList], 0, ⟨#[]⟩ ++ Wm.frame x, ⟨g2, g1, g3, ?_, Nat.zero_le _, hne2, ?_, ?_, hshort, ?_⟩, hflat, hsure, fun e => g4 (k4 (h4 e)), ?_⟩
        · rw [empty_add, frame_list]
          show Wm.suffix (fr [x.data.toList]) _ = true
          rw [show fr [x.data.toList] = Sm.frame x.data.toList from by rw [Wm.fr_cons, Wm.fr_nil, List.append_nil]]
          unfold Wm.suffix
          exact List.isSuffixOf_iff_suffix.2 (List.suffix_refl _)
        · rw [Wm.total_snoc]; show _ + 1 ≤ _; omega
        · rw [hflat, sum_append]; simpa [data_len] using hby
        · show (fr []).length < 16384; decide
        · refine hc.mono fun e w' ⟨he, hw⟩ => ⟨?_, ?_⟩
          · rw [he]
            have : 1 + total cs - 1 + bs.length + 1 = total cs + bs.length + 1 := by omega
            show Ending.returned (.tuple #[.int .i64 (1 + total cs - 1 + bs.length + 1 : Nat), .int .i64 0]) = _
            rw [this]
          · have hW : Wm.Wst (Wm.logOf name) 1 (cs ++ [bs]) [x.data.toList] (⟨#[]⟩ ++ Wm.frame x) ⟨#[]⟩ = ⟨⟨Wm.nameOf (Wm.logOf name) (1 + total cs + bs.length), 0 + (Wm.frame x).size, ⟨#[]⟩ ++ Wm.frame x, ⟨#[]⟩⟩, Wm.logOf name, firstsOf 1 cs ++ [1 + total cs - 1 + bs.length + 1], 1 + total cs - 1 + bs.length + 1, false⟩ := by
              have e5 : (fr [x.data.toList]).length + (⟨#[]⟩ : ByteArray).size = 0 + (Wm.frame x).size := by
                rw [Wm.fr_cons, Wm.fr_nil, List.append_nil, Sm.frame_len, data_len, hf8]; show _ + 0 = _; omega
              have e6 : 1 + total (cs ++ [bs]) - 1 + [x.data.toList].length = 1 + total cs - 1 + bs.length + 1 := by rw [htot]; show _ + 1 = _; omega
              have e7 : 1 + total cs - 1 + bs.length + 1 = 1 + total cs + bs.length := by omega
              unfold Wm.Wst
              rw [e5, e6, htot, Wm.firstsOf_snoc, e7]
            rw [hW]; exact hw
      · rw [htot] at e3
        have ew : Wm.write D2 (Wm.fresh (Wm.nameOf (Wm.Wst (Wm.logOf name) 1 cs bs tail ⟨#[]⟩).log ((Wm.Wst (Wm.logOf name) 1 cs bs tail ⟨#[]⟩).last + 1))) (Wm.frame x) = (7, D3, Wm.fresh (Wm.nameOf (Wm.logOf name) (1 + total cs + bs.length))) := by
          rw [hlast]
          unfold Wm.write Wm.fresh
          simp only [show (Wm.Wst (Wm.logOf name) 1 cs bs tail ⟨#[]⟩).log = Wm.logOf name from rfl, Wm.nm_list, frame_list, e3]
        have er : Dm.remove D3 (Wm.fresh (Wm.nameOf (Wm.logOf name) (1 + total cs + bs.length))).name.data.toList = (7, D3) := by
          unfold Dm.remove; rw [g1]; rfl
        have hnf := name_fits (Wm.logOf name) (1 + total cs + bs.length) (Wm.logOf_size hn) (by omega)
        have hc := Append_err h (hl.ok hn) (hl.fok hn) hl.alive x hx (c := 7) (by decide) (W' := { Wm.Wst (Wm.logOf name) 1 cs bs tail ⟨#[]⟩ with f := ⟨Wm.nameOf (Wm.logOf name) (1 + total cs), (fr bs).length + 0, ⟨#[]⟩, ⟨#[]⟩⟩ })
          fun w1 B1 hw1 => put_nowrite hw1 (hl.ok hn) (hl.fok hn) rfl hst (Wm.frame x) (by omega) es ec (c := 7) (k := 7) (by decide) (by decide) ew er (by show (Wm.nameOf _ _).size ≤ _; unfold maxLen; omega)
        refine .inr ⟨D3, cs ++ [bs], [x.data.toList], 0, ⟨g2, g1, g3, Nat.zero_le _, hne2, by rw [Wm.total_snoc]; show _ + 1 ≤ _; omega, hshort, by show (fr []).length < 16384; decide⟩, fun e => g4 (k4 (h4 e)), .inr hflat, hsure, ?_⟩
        exact hc.mono fun e w' ⟨he, hw⟩ => ⟨he, hw.disk⟩
    · have ec : Dm.create D1 (Wm.nameOf (Wm.Wst (Wm.logOf name) 1 cs bs tail ⟨#[]⟩).log ((Wm.Wst (Wm.logOf name) 1 cs bs tail ⟨#[]⟩).last + 1)).data.toList = (7, D2) := by
        rw [hlast, Wm.nm_list]; exact e2
      have hc := Append_err h (hl.ok hn) (hl.fok hn) hl.alive x hx (c := 7) (by decide) (W' := { Wm.Wst (Wm.logOf name) 1 cs bs tail ⟨#[]⟩ with f := ⟨Wm.nameOf (Wm.logOf name) (1 + total cs), (fr bs).length + 0, ⟨#[]⟩, ⟨#[]⟩⟩ })
        fun w1 B1 hw1 => put_nobegin hw1 rfl hst (Wm.frame x) (c := 7) (by decide) (begin_nofile hw1 (hl.fok hn) (hl.ok hn).log (hl.ok hn).last es (by decide) ec)
      refine .inr ⟨D2, cs, bs, (fr bs).length, ⟨k2, k1, k3, Nat.le_refl _, hl.ne, by omega, hl.short, hl.last⟩, fun e => k4 (h4 e), .inl rfl, fun k hk => hk.sync, ?_⟩
      exact hc.mono fun e w' ⟨he, hw⟩ => ⟨he, hw.disk⟩
  · have es : Wm.sync D (Wm.Wst (Wm.logOf name) 1 cs bs tail ⟨#[]⟩).f = (7, D1, (Wm.Wst (Wm.logOf name) 1 cs bs tail ⟨#[]⟩).f) := by
      unfold Wm.sync Wm.Wst
      simp only [Wm.nm_list, e1]
    have hc := Append_err h (hl.ok hn) (hl.fok hn) hl.alive x hx (c := 7) (by decide) (W' := { Wm.Wst (Wm.logOf name) 1 cs bs tail ⟨#[]⟩ with f := (Wm.Wst (Wm.logOf name) 1 cs bs tail ⟨#[]⟩).f })
      fun w1 B1 hw1 => put_nobegin hw1 rfl hst (Wm.frame x) (c := 7) (by decide) (begin_nosync hw1 (hl.fok hn) (by decide) es)
    refine .inr ⟨D1, cs, bs, s, ⟨h2, h1, h3, hl.synced, hl.ne, by omega, hl.short, hl.last⟩, h4, .inl rfl, fun k hk => hk, ?_⟩
    exact hc.mono fun e w' ⟨he, hw⟩ => ⟨he, hw.disk⟩
/-- Append, whatever the files are. -/
theorem append_lives (h : WalIn w0 w a D b (Wm.Wst (Wm.logOf name) 1 cs bs tail ⟨#[]⟩) B) (hl : Lives name D cs bs s tail) (hin : Wm.isName name = true) (x : ByteArray) (hx : x.size ≤ 65536) (hfew : total cs + bs.length + 1 ≤ 80) (hby : ((cs.flatten ++ bs).map List.length).sum + x.size ≤ 200000) :
    Appends D w0 w a b B name cs bs s x := by
  by_cases hfull : (fr bs).length < 16384
  · exact append_room h hl hin x hx hfew hby hfull
  · exact append_full h hl hin x hx hfew hby (by omega)
end
end Go.Proofs.YtoecbkndbcblpaaGreatDoor
namespace Go.Proofs.YtoecbkndbcblpaaGreatDoor
open Go.RowKit Go.Maps Go.Sort Go.Shelf
open _root_.Wm (segs firstsOf fr total Body nm Sure)
section
variable {w0 w w' : World} {a b : Nat} {D D' : Dm.Disk} {B : List (Nat × Obj)} {name tail : ByteArray} {cs : List (List Body)} {bs : List Body} {s : Nat} {W : Wm.W}
theorem fuse_wi (h : WalIn w0 w a D b W B) (n : Int) (hn : n ≤ 9223372036854775807) :
    Calls Tryz.prog 19 #[.pointer (some ⟨a, 0, none⟩), .int .i64 n] w fun e w' => e = .returned (.tuple #[]) ∧ WalIn w0 w' a (Dm.fuseTo D n) b W B := by
  obtain ⟨v, R, h1, h2⟩ := h
  exact (fuse_b h1 n hn).mono fun _ _ ⟨he, hd⟩ => ⟨he, v, R, hd, h2⟩
theorem Lives.fuseTo (h : Lives name D cs bs s tail) (n : Int) : Lives name (Dm.fuseTo D n) cs bs s tail := ⟨h.files, h.down, h.bounded, h.suf, h.synced, h.ne, h.few, h.bytes, h.short, h.last⟩
/-- Sync makes all records sure. -/
theorem sync_lives (h : WalIn w0 w a D b (Wm.Wst (Wm.logOf name) 1 cs bs tail ⟨#[]⟩) B) (hl : Lives name D cs bs s tail) (hin : Wm.isName name = true) (h0 : D.fuse = 0) :
    ∃ D', Lives name D' cs bs (fr bs).length ⟨#[]⟩ ∧ D'.fuse = 0 ∧ Calls Tryz.prog 12 #[.pointer (some ⟨b, 0, none⟩)] w fun e w' => e = .returned (.int .i64 (0 : Nat)) ∧ WalIn w0 w' a D' b (Wm.Wst (Wm.logOf name) 1 cs bs ⟨#[]⟩ ⟨#[]⟩) B := by
  have hn := ((Wm.isName_iff name).1 hin).2.1
  rcases Wm.sync_cur hl.files hl.down hl.bounded hl.ne (by have := hl.few; omega) with ⟨D1, e1, h1, h2, h3, h4⟩ | ⟨D1, e1, h1, h2, h3, h4⟩
  · have es : Wm.sync D (Wm.Wst (Wm.logOf name) 1 cs bs tail ⟨#[]⟩).f = (0, D1, (Wm.Wst (Wm.logOf name) 1 cs bs ⟨#[]⟩ ⟨#[]⟩).f) := by
      unfold Wm.sync Wm.Wst
      simp only [Wm.nm_list, e1]
    exact ⟨D1, ⟨h2, h1, h3, by simp [Wm.suffix], Nat.le_refl _, hl.ne, hl.few, hl.bytes, hl.short, hl.last⟩, h4 h0, Sync_yes h (hl.ok hn) (hl.fok hn) hl.alive es⟩
  · exact absurd h0 h4
/-- The power goes, and comes back. -/
theorem off_on (hfs : D.files = segs (Wm.logOf name).data.toList 1 cs bs [] s) (hbd : D.bounded = false) (hs : s ≤ (fr bs).length) (hb : ∀ b ∈ bs, b.length ≤ 65536) (keep : List Int) :
    ∃ j t, j ≤ bs.length ∧ (Dm.start (Dm.crash D keep)).files = segs (Wm.logOf name).data.toList 1 cs (bs.take j) t (fr (bs.take j) ++ t).length ∧ (Dm.start (Dm.crash D keep)).down = false ∧ (Dm.start (Dm.crash D keep)).fuse = 0 ∧ (Dm.start (Dm.crash D keep)).bounded = false ∧ Wm.NoFrame t ∧ (t ≠ [] → j < bs.length) ∧ ∀ k, Sure k cs bs s → k ≤ total cs + j := by
  obtain ⟨j, t, h1, h2, h3, h4, h5, h6⟩ := Wm.cut_segs (Wm.logOf name).data.toList 1 cs bs s hs keep hb
  refine ⟨j, t, h1, ?_, rfl, rfl, hbd, h3, fun ht => ?_, fun k hk => ?_⟩
  · show Dm.cut [] (Dm.cut keep D.files) = _
    rw [hfs, h2, Wm.cut_synced fun p hp => Wm.segs_synced _ _ _ _ _ p hp]
  · rcases h4 with h4 | h4
    · exact absurd (h5 h4) ht
    · exact h4
  · rcases hk with hk | ⟨k1, k2⟩
    · omega
    · have := h6 (k - total cs) (by omega) k2
      omega
theorem off_on_still (hf : ∀ p ∈ D.files, p.2.data.length = p.2.synced) (keep : List Int) : (Dm.start (Dm.crash D keep)).files = D.files := by
  show Dm.cut [] (Dm.cut keep D.files) = _
  rw [Wm.cut_synced hf, Wm.cut_synced hf]
/-- A spare file comes behind all others. -/
theorem nm_spare (log : ByteArray) (n : Nat) (hn : n < 100) : Go.bytesBefore (nm log.data.toList n) (Wm.spare log).data.toList = true := by
  unfold Wm.spare nm
  rw [ByteArray.data_append, Array.toList_append, Wm.before_app]
  rw [Wm.nineteen_eq n hn]
  exact spare_all n hn
where
  spare_all : ∀ n, n < 100 → Go.bytesBefore (Wm.nineteen_ n) [110, 101, 119] = true := by decide +kernel
end
end Go.Proofs.YtoecbkndbcblpaaGreatDoor
namespace Wm
open Dm (Disk File)
theorem change0 {d : Disk} (h : d.fuse = 0) (f g : Files → Files) : ∃ d', Dm.change d f g = (0, d') ∧ d'.down = d.down ∧ d'.files = f d.files ∧ d'.bounded = d.bounded ∧ d'.fuse = 0 := by
  rcases change_cases d f g with ⟨d', h1, h2, h3, h4, h5⟩ | ⟨d', -, -, -, -, h5⟩
  · exact ⟨d', h1, h2, h3, h4, h5 h⟩
  · exact absurd h h5
theorem get_end {l : Files} {n : List UInt8} {x : File} (h : ∀ p ∈ l, p.1 ≠ n) : Dm.get (l ++ [(n, x)]) n = some x := by rw [get_app h]; simp [Dm.get]
theorem upd_end {l : Files} {n : List UInt8} {x : File} (h : ∀ p ∈ l, p.1 ≠ n) (g : File → File) : Dm.upd (l ++ [(n, x)]) n g = l ++ [(n, g x)] := by
  have h := upd_none h g
  unfold Dm.upd at *
  rw [List.map_append, h]; simp
theorem del_end {l : Files} {n : List UInt8} {x : File} (h : ∀ p ∈ l, p.1 ≠ n) : Dm.del (l ++ [(n, x)]) n = l := by
  have h := del_not h
  unfold Dm.del at *
  rw [List.filter_append, h]; simp
theorem spare_name {name : ByteArray} (h : isName name = true) : Dm.isName (spare (logOf name)).data.toList = true := by
  obtain ⟨h1, h2, h3⟩ := (isName_iff name).1 h
  have hs : name.data.toList.length = name.size := by rw [Array.length_toList]; rfl
  have e : (spare (logOf name)).data.toList = name.data.toList ++ [46, 110, 101, 119] := by
    unfold spare; rw [ByteArray.data_append, Array.toList_append, logOf_list, List.append_assoc]; rfl
  rw [e]
  have hl : (name.data.toList ++ [46, 110, 101, 119]).length = name.size + 4 := by rw [List.length_append, hs]; rfl
  have ha : (name.data.toList ++ [46, 110, 101, 119]).all Dm.nameByte = true := by
    rw [List.all_eq_true]
    intro c hc
    rcases List.mem_append.1 hc with hc | hc
    · exact letters_byte c (h3 c hc)
    · clear hl e
      have hall : ∀ c ∈ ([46, 110, 101, 119] : List UInt8), Dm.nameByte c = true := by decide
      exact hall c hc
  unfold Dm.isName
  rw [hl, ha]
  have e1 : 1 ≤ name.size + 4 := by omega
  have e2 : name.size + 4 ≤ 32 := by omega
  simp [e1, e2]
end Wm
namespace Go.Proofs.YtoecbkndbcblpaaGreatDoor
open Go.RowKit Go.Maps Go.Sort Go.Shelf
open _root_.Wm (segs firstsOf fr total Body nm Sure)
section
variable {w0 w w' : World} {a b : Nat} {D D' : Dm.Disk} {B : List (Nat × Obj)} {name tail : ByteArray} {cs : List (List Body)} {bs : List Body} {t : List UInt8}
theorem alive_torn (hfs : D.files = segs (Wm.logOf name).data.toList 1 cs bs t (fr bs ++ t).length) (hd : D.down = false) (hc : ∀ c ∈ cs, c ≠ []) (hfew : total cs + bs.length ≤ 60) : Wm.alive D (Wm.Wst (Wm.logOf name) 1 cs bs ⟨#[]⟩ ⟨t.toArray⟩) = true := by
  have hg := Wm.get_cur (log := (Wm.logOf name).data.toList) (m := 1) (bs := bs) (s := (fr bs ++ t).length) t hc (by omega)
  have hr : Dm.read D (Wm.nameOf (Wm.logOf name) (1 + total cs)).data.toList = (fr bs ++ t, 0) := by
    unfold Dm.read; rw [hd, hfs, Wm.nm_list, hg]; rfl
  have hs : Wm.stands D (Wm.Wst (Wm.logOf name) 1 cs bs ⟨#[]⟩ ⟨t.toArray⟩).f = true := by
    have e1 : ((⟨t.toArray⟩ : ByteArray) ++ ⟨#[]⟩).data.toList = t := by rw [ByteArray.data_append]; simp
    have e2 : (⟨t.toArray⟩ : ByteArray).size = t.length := by simp [ByteArray.size]
    have e3 : Wm.suffix (fr bs ++ t) t = true := suffix_self _ _
    unfold Wm.stands Wm.Wst
    simp only [hr, e1, e2, e3]
    simp
  have he : (Wm.empty (Wm.Wst (Wm.logOf name) 1 cs bs ⟨#[]⟩ ⟨t.toArray⟩) || (Dm.read D (Wm.nameOf (Wm.logOf name) ((Wm.Wst (Wm.logOf name) 1 cs bs ⟨#[]⟩ ⟨t.toArray⟩).last + 1)).data.toList).2 == 4) = true := by
    by_cases hb : bs.length = 0
    · have : Wm.empty (Wm.Wst (Wm.logOf name) 1 cs bs ⟨#[]⟩ ⟨t.toArray⟩) = true := by
        unfold Wm.empty Wm.Wst
        simp only [Wm.firstsOf_last, Option.getD_some, hb]
        exact decide_eq_true (by omega)
      rw [this]; rfl
    · have hl := Wm.get_later (log := (Wm.logOf name).data.toList) (m := 1) (bs := bs) (s := (fr bs ++ t).length) t hc (n := 1 + total cs - 1 + bs.length + 1) (by omega) (by omega)
      have : (Dm.read D (Wm.nameOf (Wm.logOf name) ((Wm.Wst (Wm.logOf name) 1 cs bs ⟨#[]⟩ ⟨t.toArray⟩).last + 1)).data.toList).2 = 4 := by
        unfold Dm.read Wm.Wst
        simp only [hd, hfs, Wm.nm_list, hl]
        rfl
      rw [this]; simp
  unfold Wm.alive
  rw [hs]
  simp only [Bool.and_true, Bool.and_eq_true]
  exact ⟨rfl, he⟩
theorem append_torn (h : WalIn w0 w a D b (Wm.Wst (Wm.logOf name) 1 cs bs ⟨#[]⟩ ⟨t.toArray⟩) B) (hin : Wm.isName name = true) (hfs : D.files = segs (Wm.logOf name).data.toList 1 cs bs t (fr bs ++ t).length) (hd : D.down = false) (h0 : D.fuse = 0) (hbd : D.bounded = false) (hc : ∀ c ∈ cs, c ≠ []) (hfew : total cs + bs.length ≤ 60)
    (ht : t ≠ []) (hfull : (fr bs).length < 16384) (x : ByteArray) (hx : x.size ≤ 65536) :
    Calls Tryz.prog 11 #[.pointer (some ⟨b, 0, none⟩), .string x] w fun e w' => e = .returned (.tuple #[.int .i64 (total cs + bs.length + 1 : Nat), .int .i64 0]) ∧ Below w0.heap.size w0 w' := by
  have hn := ((Wm.isName_iff name).1 hin).2.1
  have hlog := Wm.logOf_size hn
  have hf8 := frame_size8 x
  have hx2 := data_len x
  have hR := h.disk.right
  have hg := Wm.get_cur (log := (Wm.logOf name).data.toList) (m := 1) (bs := bs) (s := (fr bs ++ t).length) t hc (by omega)
  have hsz : (fr bs ++ t).length ≤ 1048576 := by
    have := (hR.short (nm (Wm.logOf name).data.toList (1 + total cs), ⟨fr bs ++ t, (fr bs ++ t).length⟩) (by rw [hfs]; exact Dm.get_mem hg)).2
    exact this
  have hsz2 : t.length ≤ 1048576 := by rw [List.length_append] at hsz; omega
  have hlen : cs.length ≤ total cs := by
    clear h hfs hg hR
    induction cs with
    | nil => exact Nat.zero_le _
    | cons c cs ih =>
      have hp := List.length_pos_iff.2 (hc c List.mem_cons_self)
      have := ih (fun x hx => hc x (List.mem_cons_of_mem _ hx)) (by rw [Wm.total_cons] at hfew; omega)
      rw [Wm.total_cons, List.length_cons]; omega
  have hts : (⟨t.toArray⟩ : ByteArray).size = t.length := by simp [ByteArray.size]
  have hbs : (⟨(fr bs).toArray⟩ : ByteArray).size = (fr bs).length := by simp [ByteArray.size]
  have hok : Wm.Ok (Wm.Wst (Wm.logOf name) 1 cs bs ⟨#[]⟩ ⟨t.toArray⟩) := ⟨hlog, Wm.firstsOf_ne _ _, by show (firstsOf 1 cs).length ≤ 200; rw [Wm.firstsOf_length]; omega, by show 1 + total cs - 1 + bs.length ≤ 98; omega⟩
  have hfok : FOk (Wm.Wst (Wm.logOf name) 1 cs bs ⟨#[]⟩ ⟨t.toArray⟩).f := ⟨name_fits _ _ hlog (by omega), by show (fr bs).length + (⟨t.toArray⟩ : ByteArray).size ≤ 1048576; rw [hts, ← List.length_append]; exact hsz, Nat.zero_le _, by show (⟨t.toArray⟩ : ByteArray).size ≤ 1048576; rw [hts]; exact hsz2⟩
  have hal := alive_torn hfs hd hc hfew
  -- the disk's calls
  have hsp : ∀ p ∈ segs (Wm.logOf name).data.toList 1 cs bs t (fr bs ++ t).length, Go.bytesBefore p.1 (Wm.spare (Wm.logOf name)).data.toList = true := fun p hp => by
    obtain ⟨n, e1, hn⟩ := segs_names _ _ _ _ _ _ p hp
    have := Wm.firstsOf_le cs 1 n hn
    rw [e1]; exact nm_spare _ n (by omega)
  have hne := fun p hp => Dm.before_ne (hsp p hp)
  have hgs : Dm.get D.files (Wm.spare (Wm.logOf name)).data.toList = none := by rw [hfs]; exact Dm.get_none.2 hne
  have e1 : Dm.read D (Wm.nameOf (Wm.logOf name) (1 + total cs)).data.toList = ((⟨(fr bs ++ t).toArray⟩ : ByteArray).data.toList, 0) := by
    unfold Dm.read; rw [hd, hfs, Wm.nm_list, hg]; rfl
  have e2 : Wm.sweep D (Wm.logOf name) = (0, D) := Wm.sweep_none hd hgs
  obtain ⟨D2, c2, c2d, c2f, c2b, c2u⟩ := Wm.change0 h0 (fun l => Dm.put l (Wm.spare (Wm.logOf name)).data.toList ⟨[], 0⟩) id
  have e3 : Dm.create D (Wm.spare (Wm.logOf name)).data.toList = (0, D2) := by
    have h256 : ¬ 256 ≤ D.files.length := by
      have hk : D.files.length = (Dm.keys D.files).length := by unfold Dm.keys; rw [List.length_map]
      rw [hk, hfs, Wm.keys_segs, List.length_map, Wm.firstsOf_length]; omega
    unfold Dm.create
    rw [hd, Wm.spare_name hin, hgs]
    simp only [Bool.false_eq_true, Bool.true_eq_false, if_false, Option.isSome_none]
    rw [if_neg h256]
    exact c2
  have f2 : D2.files = segs (Wm.logOf name).data.toList 1 cs bs t (fr bs ++ t).length ++ [((Wm.spare (Wm.logOf name)).data.toList, ⟨[], 0⟩)] := by rw [c2f, hfs, Wm.put_last hsp]
  obtain ⟨D3, c3, c3d, c3f, c3b, c3u⟩ := Wm.change0 c2u (Dm.adds (Wm.spare (Wm.logOf name)).data.toList (fr bs)) (Dm.adds (Wm.spare (Wm.logOf name)).data.toList (fr bs))
  have f3 : D3.files = segs (Wm.logOf name).data.toList 1 cs bs t (fr bs ++ t).length ++ [((Wm.spare (Wm.logOf name)).data.toList, ⟨fr bs, 0⟩)] := by
    rw [c3f, f2]; unfold Dm.adds; rw [Wm.upd_end hne]; rfl
  have e4 : Dm.append D2 (Wm.spare (Wm.logOf name)).data.toList (fr bs) = (0, D3) := by
    unfold Dm.append
    rw [c2d, hd, c2b, hbd, f2, Wm.get_end hne]
    simp only [Bool.false_eq_true, if_false, Bool.false_and]
    rw [if_neg (by show ¬ 1048576 < 0 + _; omega), ← c3]
  have e4w : Wm.write D2 (Wm.fresh (Wm.spare (Wm.logOf name))) ⟨(fr bs).toArray⟩ = (0, D3, ⟨Wm.spare (Wm.logOf name), 0 + (⟨(fr bs).toArray⟩ : ByteArray).size, ⟨#[]⟩ ++ ⟨(fr bs).toArray⟩, ⟨#[]⟩⟩) := by
    unfold Wm.write Wm.fresh
    simp only [show (⟨(fr bs).toArray⟩ : ByteArray).data.toList = fr bs from rfl, e4]
  obtain ⟨D4, c4, c4d, c4f, c4b, c4u⟩ := Wm.change0 c3u (Dm.syncs (Wm.spare (Wm.logOf name)).data.toList) id
  have f4 : D4.files = segs (Wm.logOf name).data.toList 1 cs bs t (fr bs ++ t).length ++ [((Wm.spare (Wm.logOf name)).data.toList, ⟨fr bs, (fr bs).length⟩)] := by
    rw [c4f, f3]; unfold Dm.syncs; rw [Wm.upd_end hne]
  have e5 : Wm.sync D3 ⟨Wm.spare (Wm.logOf name), 0 + (⟨(fr bs).toArray⟩ : ByteArray).size, ⟨#[]⟩ ++ ⟨(fr bs).toArray⟩, ⟨#[]⟩⟩ = (0, D4, ⟨Wm.spare (Wm.logOf name), 0 + (⟨(fr bs).toArray⟩ : ByteArray).size, ⟨#[]⟩, ⟨#[]⟩⟩) := by
    have e : Dm.sync D3 (Wm.spare (Wm.logOf name)).data.toList = (0, D4) := by
      unfold Dm.sync
      rw [c3d, c2d, hd, f3, Wm.get_end hne]
      exact c4
    unfold Wm.sync
    simp only [e]
  obtain ⟨D5, c5, c5d, c5f, c5b, c5u⟩ := Wm.change0 c4u (fun l => Dm.put (Dm.del l (Wm.spare (Wm.logOf name)).data.toList) (Wm.nameOf (Wm.logOf name) (1 + total cs)).data.toList ⟨fr bs, (fr bs).length⟩) id
  have e6 : Dm.rename D4 (Wm.spare (Wm.logOf name)).data.toList (Wm.nameOf (Wm.logOf name) (1 + total cs)).data.toList = (0, D5) := by
    unfold Dm.rename
    rw [c4d, c3d, c2d, hd, f4, Wm.get_end hne, Wm.nm_list, Wm.file_nameS hin _ (by omega)]
    simp only [Bool.false_eq_true, Bool.true_eq_false, if_false]
    rw [← Wm.nm_list, ← c5]
  have f5 : D5.files = segs (Wm.logOf name).data.toList 1 cs bs [] (fr bs).length := by
    rw [c5f, f4]
    simp only [Wm.del_end hne]
    have e : Dm.del (segs (Wm.logOf name).data.toList 1 cs bs t (fr bs ++ t).length) (nm (Wm.logOf name).data.toList (1 + total cs)) = Wm.closed (Wm.logOf name).data.toList 1 cs := Wm.del_end (Wm.closed_not hc (Nat.le_refl _) (by omega))
    rw [Wm.nm_list]
    have e2 : Dm.put (segs (Wm.logOf name).data.toList 1 cs bs t (fr bs ++ t).length) (nm (Wm.logOf name).data.toList (1 + total cs)) ⟨fr bs, (fr bs).length⟩ = Dm.put (Wm.closed (Wm.logOf name).data.toList 1 cs) (nm (Wm.logOf name).data.toList (1 + total cs)) ⟨fr bs, (fr bs).length⟩ := by
      unfold Dm.put
      rw [e, Wm.del_not (Wm.closed_not hc (Nat.le_refl _) (by omega))]
    rw [e2, Wm.put_last]
    · unfold segs; rw [List.append_nil]
    · intro p hp
      obtain ⟨k, q1, q2, q3⟩ := Wm.closed_names _ cs 1 hc p hp
      rw [q1]; exact Wm.nm_before _ (by omega) (by omega)
  have hss : (Wm.spare (Wm.logOf name)).size ≤ 32 := by
    have h3 : (⟨#[110, 101, 119]⟩ : ByteArray).size = 3 := rfl
    unfold Wm.spare; rw [ByteArray.size_append, h3]; omega
  have hx0 : (⟨(Lib.trimSuffix (⟨(fr bs ++ t).toArray⟩ : ByteArray).data.toList (⟨t.toArray⟩ : ByteArray).data.toList).toArray⟩ : ByteArray) = ⟨(fr bs).toArray⟩ := by
    have e : Lib.trimSuffix (fr bs ++ t) t = fr bs := by
      unfold Lib.trimSuffix
      rw [if_pos (by unfold Lib.hasSuffix; exact List.isSuffixOf_iff_suffix.2 (List.suffix_append _ _)), List.length_append, Nat.add_sub_cancel, List.take_left]
    show (⟨(Lib.trimSuffix (fr bs ++ t) t).toArray⟩ : ByteArray) = _
    rw [e]
  have hmend := fun w1 B1 (hw1 : WalIn w0 w1 a D b (Wm.Wst (Wm.logOf name) 1 cs bs ⟨#[]⟩ ⟨t.toArray⟩) B1) => mend_w hok.log hok.last (by have := hfok.name; unfold maxLen; omega) (by show (Wm.spare (Wm.logOf name)).size ≤ maxLen; unfold maxLen; omega) (copied_w hw1 hfok hok.log (s := ⟨(fr bs ++ t).toArray⟩) (by show (fr bs ++ t).toArray.size ≤ _; rw [List.size_toArray]; exact hsz) e1 e2 e3 hx0 (by rw [hbs]; omega) e4w) (fun hz => by
      have hz2 : 0 + (⟨(fr bs).toArray⟩ : ByteArray).size = 0 := hz
      rw [hbs, Wm.fr_len] at hz2
      have : (1 + total cs - 1 + bs.length) + 1 = 1 + total cs := by omega
      show Wm.nameOf (Wm.logOf name) ((1 + total cs - 1 + bs.length) + 1) = Wm.nameOf (Wm.logOf name) (1 + total cs)
      rw [this]) e5 e6
  rcases Wm.append_cur f5 (by rw [c5d, c4d, c3d, c2d, hd]) (by rw [c5b, c4b, c3b, c2b, hbd]) hc (by omega) x.data.toList (by omega) with ⟨D6, e7, -⟩ | ⟨D6, -, -, -, -, q⟩
  · have ew : Wm.write D5 ⟨Wm.nameOf (Wm.logOf name) (1 + total cs), 0 + (⟨(fr bs).toArray⟩ : ByteArray).size, ⟨#[]⟩, ⟨#[]⟩⟩ (Wm.frame x) = (0, D6, ⟨Wm.nameOf (Wm.logOf name) (1 + total cs), 0 + (⟨(fr bs).toArray⟩ : ByteArray).size + (Wm.frame x).size, ⟨#[]⟩ ++ Wm.frame x, ⟨#[]⟩⟩) := by
      unfold Wm.write
      simp only [Wm.nm_list, frame_list, e7]
    have hne0 : (Wm.Wst (Wm.logOf name) 1 cs bs ⟨#[]⟩ ⟨t.toArray⟩).f.torn ≠ ⟨#[]⟩ := fun e => ht (by
      have := congrArg (fun z : ByteArray => z.data.toList) e
      exact this)
    have hcall := Append_yes h hok hfok hal x hx (W' := { Wm.Wst (Wm.logOf name) 1 cs bs ⟨#[]⟩ ⟨t.toArray⟩ with f := ⟨Wm.nameOf (Wm.logOf name) (1 + total cs), 0 + (⟨(fr bs).toArray⟩ : ByteArray).size + (Wm.frame x).size, ⟨#[]⟩ ++ Wm.frame x, ⟨#[]⟩⟩ }) (by show 1 + total cs - 1 + bs.length ≤ 1000000; omega)
      fun w1 B1 hw1 => put_torn hw1 hne0 (hmend w1 B1 hw1) ⟨name_fits _ _ hlog (by omega), by show 0 + (⟨(fr bs).toArray⟩ : ByteArray).size ≤ _; rw [hbs]; omega, Nat.zero_le _, Nat.zero_le _⟩ (by show 0 + (⟨(fr bs).toArray⟩ : ByteArray).size < _; rw [hbs]; omega) (Wm.frame x) (by omega) ew
    refine hcall.mono fun e w' ⟨he, hw⟩ => ⟨?_, hw.below⟩
    rw [he]
    have : 1 + total cs - 1 + bs.length + 1 = total cs + bs.length + 1 := by omega
    show Ending.returned (.tuple #[.int .i64 (1 + total cs - 1 + bs.length + 1 : Nat), .int .i64 0]) = _
    rw [this]
  · exact absurd c5u q
end
end Go.Proofs.YtoecbkndbcblpaaGreatDoor
