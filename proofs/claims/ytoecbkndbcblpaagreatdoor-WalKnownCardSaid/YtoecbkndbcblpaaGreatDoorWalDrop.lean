/-
  Walks over package wal: upTo. Conditions: those in the theorems.
  Walks over package wal: drop, where no further file is begun. Conditions: those in the theorems.
-/
import Derived.Test.YtoecbkndbcblpaaGreatDoorWalDo2
import Derived.Deep.LoopGhost
import Derived.Test.YtoecbkndbcblpaaGreatDoorWalSettle2
import Derived.Test.YtoecbkndbcblpaaGreatDoorWalAppend
namespace Wm
/-- How many files, ahead of the one that takes records, have no record behind a number. -/
def upTo (firsts : List Nat) (n : Int) : Nat := (firsts.tail.filter (fun m : Nat => decide ((m : Int) - 1 ≤ n))).length
end Wm
namespace Go.Proofs.YtoecbkndbcblpaaGreatDoor
open Go.RowKit Go.Maps Go.Sort Go.Shelf

section
variable {w0 w w' : World} {a b : Nat} {D D' : Dm.Disk} {B : List (Nat × Obj)} {W W' : Wm.W}
theorem filter_step {l : List Nat} {k : Nat} (h : k < l.length) (p : Nat → Bool) : ((l.take (k + 1)).filter p).length = ((l.take k).filter p).length + (if p l[k] then 1 else 0) := by
  rw [List.take_succ_eq_append_getElem h, List.filter_append, List.length_append]
  cases hp : p l[k] <;> simp [hp]
set_option maxRecDepth 100000 in
set_option maxHeartbeats 4000000 in
theorem upTo_w (h : WalIn w0 w a D b W B) (hok : Wm.Ok W) (hsm : ∀ m ∈ W.firsts, m < 100) (n : Int) :
    Calls Tryz.prog 69 #[.pointer (some ⟨b, 0, none⟩), .int .i64 n] w fun e w' => e = .returned (.int .i64 (Wm.upTo W.firsts n : Nat)) ∧ w = w' := by
  obtain ⟨v, R, h1, h2⟩ := h
  obtain ⟨-, x6, -⟩ := wobj_cells (h1.box _ List.mem_cons_self)
  have hpos : 0 < W.firsts.length := List.length_pos_iff.2 hok.some
  have hat : ∀ i (hi : i < W.firsts.length), ∃ g cap, v = .slice (some ⟨g, 0, none⟩) W.firsts.length cap ∧ W.firsts.length ≤ cap ∧ w.cell? ⟨g, i, none⟩ = some (natV W.firsts[i]) := fun i hi =>
    h2.at (w := w) (fun p hp => h1.box p (List.mem_cons_of_mem _ (List.mem_append_left _ hp))) hi
  obtain ⟨g, cap, rfl, hc, -⟩ := hat 0 hpos
  have hfew := hok.few
  have hcap : cap ≤ maxLen := by obtain ⟨p, c, e, -, h3⟩ := h2.shape; cases e; exact h3
  unfold maxLen at hcap
  have hcell : ∀ i (hi : i < W.firsts.length), w.cell? ⟨g, i, none⟩ = some (.int .i64 (W.firsts[i] : Nat)) := fun i hi => by
    obtain ⟨g', c', e, -, h⟩ := hat i hi
    cases e; exact h
  clear h1 h2 hat hok
  obtain ⟨q, hq1⟩ : ∃ q, W.firsts.length = q + 1 := ⟨W.firsts.length - 1, by omega⟩
  have HQ := Lib.hid hq1
  have HC := Lib.hid hcell
  have HSM := Lib.hid hsm
  rw [hq1] at x6 hc hfew hpos
  clear hq1 hcell hsm
  obtain ⟨A2, hA2, hA3⟩ : ∃ A2 : Addr, (if cap = 1 then some (⟨g, 0, none⟩ : Addr) else some ⟨g, 1, none⟩) = some A2 ∧ (q = 0 ∨ A2 = ⟨g, 1, none⟩) := by
    by_cases h : cap = 1
    · exact ⟨_, if_pos h, .inl (by omega)⟩
    · exact ⟨_, if_neg h, .inr rfl⟩
  have i1 : (1 : Int) ≤ (q : Int) + 1 := by omega
  have i2 : (q : Int) + 1 ≤ (cap : Int) := by omega
  have i3 : (1 : Int) ≤ (cap : Int) := by omega
  have i5 : 1 ≤ cap := by omega
  go_enter Tryz.func69, Tryz.ntmps69
  go_wp2_with fail
  go_loopg [5, 14] q (fun g' fv iv wr => ∃ k : Nat, g' = q - k ∧ k ≤ q ∧ iv = .int .i64 (k : Nat) ∧ fv = .int .i64 (((W.firsts.tail.take k).filter (fun m : Nat => decide ((m : Int) - 1 ≤ n))).length : Nat) ∧ wr = w)
  case atStart => exact ⟨0, rfl, Nat.zero_le _, rfl, rfl, rfl⟩
  case round =>
    obtain ⟨k, rfl, hk, rfl, rfl, rfl⟩ := hrel
    have htl : W.firsts.tail.length = q := by rw [List.length_tail, HQ.out]; rfl
    by_cases hlt : k < q
    · have j1 : (k : Int) < (q : Int) := by omega
      have j2 : (0 : Int) ≤ (k : Int) := by omega
      have hA : A2 = ⟨g, 1, none⟩ := by
        rcases hA3 with e | e
        · omega
        · exact e
      subst hA
      have hkt : k < W.firsts.tail.length := by omega
      have hlen := HQ.out
      have hge : W.firsts.tail[k] = W.firsts[k + 1]'(by omega) := by simp
      have hst := filter_step hkt (fun m : Nat => decide ((m : Int) - 1 ≤ n))
      have hce := HC.out (k + 1) (by omega)
      have hm1 := HSM.out _ (List.getElem_mem (show k + 1 < W.firsts.length by omega))
      rw [← hge] at hce hm1
      have hce2 : wr.cell? ⟨g, 1 + k, none⟩ = some (.int .i64 (W.firsts.tail[k] : Nat)) := by rw [Nat.add_comm]; exact hce
      have hcl : ((W.firsts.tail.take k).filter (fun m : Nat => decide ((m : Int) - 1 ≤ n))).length ≤ 200 := Nat.le_trans (List.length_filter_le _ _) (by rw [List.length_take]; omega)
      generalize W.firsts.tail[k] = m at *
      generalize ((W.firsts.tail.take k).filter (fun m : Nat => decide ((m : Int) - 1 ≤ n))).length = c at *
      have HS := Lib.hid hst
      have j3 : IntKind.i64.wrap ((m : Int) - 1) = (m : Int) - 1 := IntWalk.i64_in _ (by omega)
      clear hst hge hce hkt hlen htl hA3
      by_cases hmn : (m : Int) - 1 ≤ n
      · have d1 : decide ((m : Int) - 1 ≤ n) = true := decide_eq_true hmn
        have hs2 := HS.out
        rw [d1, if_pos rfl] at hs2
        have HS2 := Lib.hid hs2
        clear hs2
        go_wp2_with fail
        go_roundg (q - (k + 1))
        case measure => omega
        case rel => exact ⟨k + 1, rfl, by omega, by go_num, by rw [HS2.out]; go_num, rfl⟩
      · have d1 : decide ((m : Int) - 1 ≤ n) = false := decide_eq_false hmn
        have hs2 := HS.out
        rw [d1, if_neg (by simp)] at hs2
        have HS2 := Lib.hid hs2
        clear hs2
        go_wp2_with fail
        go_roundg (q - (k + 1))
        case measure => omega
        case rel => exact ⟨k + 1, rfl, by omega, by go_num, by rw [HS2.out]; rfl, rfl⟩
    · obtain rfl : k = q := by omega
      have j1 : ¬ (k : Int) < (k : Int) := by omega
      have hfin : ((W.firsts.tail.take k).filter (fun m : Nat => decide ((m : Int) - 1 ≤ n))).length = Wm.upTo W.firsts n := by
        unfold Wm.upTo; rw [List.take_of_length_le (by omega)]
      rw [hfin]
      clear hfin htl hA3
      go_wp2_with fail
      go_ret
      exact ⟨rfl, rfl⟩
end
end Go.Proofs.YtoecbkndbcblpaaGreatDoor
namespace Wm
open Dm (Disk)
def removeAll (log : ByteArray) : List Nat → Disk → Nat × Disk
  | [], D => (0, D)
  | n :: r, D => match Dm.remove D (nameOf log n).data.toList with
    | (0, D') => removeAll log r D'
    | (e + 1, D') => (e + 1, D')
theorem removeAll_ok {log : ByteArray} {n : Nat} {r : List Nat} {D D' : Disk} (h : Dm.remove D (nameOf log n).data.toList = (0, D')) : removeAll log (n :: r) D = removeAll log r D' := by
  show (match Dm.remove D (nameOf log n).data.toList with | (0, D') => removeAll log r D' | (e + 1, D') => (e + 1, D')) = _
  rw [h]
theorem removeAll_step {log : ByteArray} {n : Nat} {r : List Nat} {D D1 : Dm.Disk} (h : removeAll log (n :: r) D = (0, D1)) : ∃ D', Dm.remove D (nameOf log n).data.toList = (0, D') ∧ removeAll log r D' = (0, D1) := by
  obtain ⟨⟨c, D'⟩, hc⟩ : ∃ x, Dm.remove D (nameOf log n).data.toList = x := ⟨_, rfl⟩
  have e : removeAll log (n :: r) D = (match Dm.remove D (nameOf log n).data.toList with | (0, D') => removeAll log r D' | (e + 1, D') => (e + 1, D')) := rfl
  rw [e, hc] at h
  match c, hc, h with
  | 0, hc, h => exact ⟨D', hc, h⟩
  | c + 1, hc, h => cases h
end Wm
namespace Go.Proofs.YtoecbkndbcblpaaGreatDoor
open Go.RowKit Go.Maps Go.Sort Go.Shelf

section
variable {w0 w w' : World} {a b : Nat} {D D' : Dm.Disk} {B C : List (Nat × Obj)} {W W' : Wm.W}
theorem upTo_le (xs : List Nat) (n : Int) (h : xs ≠ []) : Wm.upTo xs n < xs.length := by
  unfold Wm.upTo
  have h1 := List.length_filter_le (fun m : Nat => decide ((m : Int) - 1 ≤ n)) xs.tail
  have h2 : xs.tail.length = xs.length - 1 := List.length_tail
  have h3 := List.length_pos_iff.2 h
  omega
/-- The row of numbers behind slices.Delete. -/
theorem deleted_row {g cap gone q : Nat} {cur : Array Value} {xs : List Nat} (h : Bx w0 w a D ((g, .cells cur 3 (0, 0)) :: C)) (hc : cur.size = cap) (hl : xs.length ≤ cap) (_ht : cur.toList.take xs.length = xs.map natV) (hg : gone ≤ xs.length)
    (hw : w' = putRow (Value.int .i64) (Sort.ahead w q) g 0 ((xs.map Int.ofNat).take 0 ++ (xs.map Int.ofNat).drop gone ++ List.replicate (gone - 0) 0).toArray) :
    ∃ cur', Bx w0 w' a D ((g, .cells cur' 3 (0, 0)) :: C) ∧ cur'.size = cap ∧ cur'.toList.take (xs.length - gone) = (xs.drop gone).map natV := by
  have hb := h.box _ List.mem_cons_self
  obtain ⟨d, hd⟩ : ∃ d, d = ((xs.map Int.ofNat).take 0 ++ (xs.map Int.ofNat).drop gone ++ List.replicate (gone - 0) (0 : Int)).toArray := ⟨_, rfl⟩
  have hds : d.size = xs.length := by rw [hd]; simp; omega
  rw [← hd] at hw
  refine ⟨putCells (Value.int .i64) 0 d cur, h.turn (o := .cells cur 3 (0, 0)) ?_ ?_, ?_, ?_⟩
  · rw [hw]
    exact ⟨rfl, rfl, rfl, by simp [Sort.ahead], fun k hk hne => by
      show ((w.heap.modify g _)[k]?) = _
      rw [Array.getElem?_modify, if_neg (fun e => hne e.symm)]⟩
  · rw [hw]
    show ((w.heap.modify g (onCells (putCells (Value.int .i64) 0 d)))[g]?) = _
    rw [Array.getElem?_modify, if_pos rfl, hb]
    rfl
  · simp [putCells, hc]
  · refine List.ext_getElem? fun i => ?_
    by_cases hi : i < xs.length - gone
    · have hic : i < cur.size := by omega
      rw [List.getElem?_take, if_pos hi, Array.getElem?_toList, List.getElem?_map, List.getElem?_drop, List.getElem?_eq_getElem (by omega : gone + i < xs.length)]
      unfold putCells
      rw [Array.getElem?_mapIdx, Array.getElem?_eq_getElem hic]
      simp only [Option.map_some]
      rw [if_pos ⟨Nat.zero_le _, by omega⟩, Nat.sub_zero, getElem!_pos d i (by omega)]
      have hgi : gone + i < xs.length := by omega
      obtain ⟨x, hx⟩ : ∃ x, x = xs[gone + i] := ⟨_, rfl⟩
      have e : d[i]'(by omega) = ((x : Nat) : Int) := by
        have e2 : d[i]? = some ((x : Nat) : Int) := by
          rw [hx, hd]
          rw [List.getElem?_toArray, List.take_zero, List.nil_append, List.getElem?_append_left (by simp; omega), List.getElem?_drop, List.getElem?_map, List.getElem?_eq_getElem (by omega : gone + i < xs.length)]
          rfl
        rw [Array.getElem?_eq_getElem (by omega)] at e2
        exact Option.some.inj e2
      rw [e, hx]; rfl
    · rw [List.getElem?_eq_none (by rw [List.length_take]; omega), List.getElem?_eq_none (by simp; omega)]
set_option maxRecDepth 100000 in
set_option maxHeartbeats 8000000 in
theorem drop_w (h : WalIn w0 w a D b W B) (hok : Wm.Ok W) (hsm : ∀ m ∈ W.firsts, m < 100) (n : Int) (_hn1 : -9223372036854775808 ≤ n) (hn2 : n < (W.last : Int)) (hr : Wm.removeAll W.log (W.firsts.take (Wm.upTo W.firsts n)) D = (0, D')) :
    Calls Tryz.prog 37 #[.pointer (some ⟨b, 0, none⟩), .int .i64 n] w fun e w' => e = .returned (.int .i64 0) ∧ WalIn w0 w' a D' b { W with firsts := W.firsts.drop (Wm.upTo W.firsts n) } B := by
  have hu := upTo_w h hok hsm n
  obtain ⟨v, R, h1, h2⟩ := h
  have hlog := hok.log
  have hpos : 0 < W.firsts.length := List.length_pos_iff.2 hok.some
  have hul := upTo_le W.firsts n hok.some
  have hfew := hok.few
  rcases h2 with ⟨-, hnil, -⟩ | ⟨g, cap, cur, rfl, rfl, hc1, hc2, hc3, hc4⟩
  · exact absurd hnil hok.some
  obtain ⟨U, hU⟩ : ∃ U, U = Wm.upTo W.firsts n := ⟨_, rfl⟩
  rw [← hU] at hu hul hr ⊢
  clear hU
  have hx : ∀ w1 D1, Bx w0 w1 a D1 ((b, fobj a W.f (walRest W (.slice (some ⟨g, 0, none⟩) W.firsts.length cap)) 43) :: ([(g, .cells cur 3 (0, 0))] ++ B)) → w1.cell? ⟨b, 0, none⟩ = some (.pointer (some ⟨a, 0, none⟩)) ∧ w1.cell? ⟨b, 5, none⟩ = some (.string W.log) ∧ w1.cell? ⟨b, 6, none⟩ = some (.slice (some ⟨g, 0, none⟩) W.firsts.length cap) ∧ w1.cell? ⟨b, 7, none⟩ = some (.int .i64 (W.last : Nat)) ∧ w1.frozen? ⟨b, 6, none⟩ = false := fun w1 D1 y =>
    ⟨(fobj_cells (y.box _ List.mem_cons_self)).1, (wobj_cells (y.box _ List.mem_cons_self)).1, (wobj_cells (y.box _ List.mem_cons_self)).2.1, (wobj_cells (y.box _ List.mem_cons_self)).2.2.1, frozen_of_row _ _ _ _ _ (y.box _ List.mem_cons_self)⟩
  have hat : ∀ w1 D1, Bx w0 w1 a D1 ((b, fobj a W.f (walRest W (.slice (some ⟨g, 0, none⟩) W.firsts.length cap)) 43) :: ([(g, .cells cur 3 (0, 0))] ++ B)) → ∀ i (hi : i < W.firsts.length), w1.cell? ⟨g, i, none⟩ = some (natV W.firsts[i]) := fun w1 D1 y i hi => by
    rw [cell_of_row w1 g i _ _ _ (y.box (g, .cells cur 3 (0, 0)) (by simp))]
    have := congrArg (fun l => l[i]?) hc4
    simp only [Nat.mul_one, List.getElem?_take, if_pos hi, Array.getElem?_toList, List.getElem?_map, List.getElem?_eq_getElem hi, Option.map_some] at this
    exact this
  obtain ⟨x0, x5, x6, x7, -⟩ := hx _ _ h1
  have hnl : ¬ (W.last : Int) ≤ n := by omega
  have i0 : (0 : Int) ≤ (U : Int) := by omega
  have i1 : (U : Int) ≤ (cap : Int) := by omega
  have H1 := Lib.hid h1
  have HX := Lib.hid hx
  have HA := Lib.hid hat
  have HS := Lib.hid hr
  have HC := Lib.hid (And.intro hc2 (And.intro hc3 hc4))
  clear h1 hx hat hr hc2 hc3 hc4
  unfold maxLen at HC
  go_enter Tryz.func37, Tryz.ntmps37
  go_wp2_with fail
  refine hu.mono ?_
  rintro e w1 ⟨rfl, rfl⟩
  go_wp2_with fail
  go_loopg [9, 10, 43] W.firsts.length (fun gh _ _ iv wr => ∃ (k : Nat) (Dk : Dm.Disk), gh = W.firsts.length - k ∧ k ≤ U ∧ iv = .int .i64 (k : Nat) ∧ Hid (Bx w0 wr a Dk ((b, fobj a W.f (walRest W (.slice (some ⟨g, 0, none⟩) W.firsts.length cap)) 43) :: ([(g, .cells cur 3 (0, 0))] ++ B)) ∧ Wm.removeAll W.log ((W.firsts.take U).drop k) Dk = (0, D')))
  case atStart => exact ⟨0, D, rfl, Nat.zero_le _, rfl, Lib.hid ⟨H1.out, HS.out⟩⟩
  case round =>
    obtain ⟨k, Dk, rfl, hk, rfl, HH⟩ := hrel
    clear x0 x5 x6 x7 H1 HS
    obtain ⟨y0, y5, y6, y7, yf⟩ := HX.out _ _ HH.out.1
    by_cases hlt : k < U
    · have j1 : (k : Int) < (U : Int) := by omega
      have j2 : (0 : Int) ≤ (k : Int) := by omega
      have hkl : k < W.firsts.length := by omega
      have z := HA.out _ _ HH.out.1 k hkl
      have hn1 := hsm _ (List.getElem_mem hkl)
      have hst := HH.out.2
      have htl : k < (W.firsts.take U).length := by rw [List.length_take]; omega
      rw [List.drop_eq_getElem_cons htl, List.getElem_take] at hst
      obtain ⟨D2, hd1, hd2⟩ := Wm.removeAll_step hst
      generalize W.firsts[k] = m at *
      unfold natV at z
      have hsz : (Wm.nameOf W.log m).size ≤ maxLen := by have := nameOf_size W.log m hn1; unfold maxLen; omega
      have hname := fun w1 (y : Bx w0 w1 a Dk ((b, fobj a W.f (walRest W (.slice (some ⟨g, 0, none⟩) W.firsts.length cap)) 43) :: ([(g, .cells cur 3 (0, 0))] ++ B))) => nameOf_any b W.log m w1 hn1 (by omega) (HX.out _ _ y).2.1 fun W' hW => (HX.out _ _ (y.same hW)).2.1
      have hsy := fun w1 (y : Bx w0 w1 a Dk ((b, fobj a W.f (walRest W (.slice (some ⟨g, 0, none⟩) W.firsts.length cap)) 43) :: ([(g, .cells cur 3 (0, 0))] ++ B))) => remove_b y (Wm.nameOf W.log m) hsz hd1
      have HN := Lib.hid hname
      have HY := Lib.hid hsy
      have HD2 := Lib.hid hd2
      have H3 := Lib.hid HH.out.1
      have H3d := Lib.hid HH.out.1.drew
      have HDR := Lib.hid (Below.refl wr.heap.size wr).drew
      generalize Wm.nameOf W.log m = nm at *
      clear hst hd1 hd2 hsz hname hsy HH htl
      go_wp2_with fail
      go_region_law (first
        | (go_simp; go_at_call 56; refine (HN.out _ H3d.out).mono ?_; rintro e w4 ⟨rfl, hb4⟩; have H4 := Lib.hid (H3.out.same (HDR.out.trans (hb4.mono HDR.out.size))); have z0 := (HX.out _ _ H4.out).1; clear hb4)
        | (go_simp; go_at_call 70; refine (HY.out _ H4.out).mono ?_; rintro e w5 ⟨rfl, h5⟩; have H5 := Lib.hid h5; clear h5))
      all_goals
        go_wp2_with fail
        go_roundg (W.firsts.length - (k + 1))
        case measure => omega
        case rel => exact ⟨k + 1, D2, rfl, by omega, by go_num, Lib.hid ⟨H5.out, HD2.out⟩⟩
    · obtain rfl : k = U := by omega
      have j1 : ¬ (k : Int) < (k : Int) := by omega
      have hfin := HH.out.2
      rw [List.drop_eq_nil_of_le (by rw [List.length_take]; omega)] at hfin
      obtain rfl : Dk = D' := (Prod.mk.inj hfin).2
      have hgb : Bx w0 wr a Dk ((g, .cells cur 3 (0, 0)) :: ((b, fobj a W.f (walRest W (.slice (some ⟨g, 0, none⟩) W.firsts.length cap)) 43) :: B)) := HH.out.1.perm (List.Perm.swap _ _ _)
      have hHold : Holds (Value.int .i64) wr g 0 ((W.firsts.map Int.ofNat)).toArray := fun j hj => by
        have hj' : j < W.firsts.length := by simpa using hj
        have hz := HA.out _ _ HH.out.1 j hj'
        refine ⟨?_, frozen_of_row _ _ _ _ _ (hgb.box _ List.mem_cons_self)⟩
        rw [Nat.zero_add, hz, getElem!_pos _ j hj]
        simp [natV]
      have hdel := wl_slices_Delete_int g 0 cap 0 k (W.firsts.map Int.ofNat) wr hHold (by simp; omega) (by have := HC.out.1; omega) (Nat.zero_le _) (by simp; omega)
      simp only [List.length_map] at hdel
      rw [show ((0 : Nat) : Int) = (0 : Int) from rfl] at hdel
      have HDEL := Lib.hid hdel
      have hk' : k ≤ W.firsts.length := by omega
      have HG := Lib.hid hgb
      clear hfin HH HA HX hdel hgb hHold hu
      go_wp2_with fail
      (with_reducible refine HDEL.out.mono ?_)
      rintro e w2 ⟨rfl, q, hw2⟩
      obtain ⟨cur', hb', hcs, hct⟩ := deleted_row HG.out (by have := HC.out.2.1; omega) hc1 (by have := HC.out.2.2; rwa [Nat.mul_one] at this) hk' hw2
      have hb2 := hb'.perm (List.Perm.swap _ _ _)
      have z6 := (wobj_cells (hb2.box _ List.mem_cons_self)).2.1
      have zf : w2.frozen? ⟨b, 6, none⟩ = false := frozen_of_row _ _ _ _ _ (hb2.box _ List.mem_cons_self)
      have H2 := Lib.hid (hb2.row (.slice (some ⟨g, 0, none⟩) (W.firsts.length - k) cap))
      have HCT := Lib.hid (And.intro hcs hct)
      clear hb' hb2 hcs hct hw2 HDEL HG y0 y5 y6 y7 yf
      rw [Nat.sub_zero]
      go_wp2_with fail
      go_ret
      refine ⟨rfl, _, [(g, .cells cur' 3 (0, 0))], H2.out, .inr ⟨g, cap, cur', ?_, rfl, ?_, HC.out.1, ?_, ?_⟩⟩
      · rw [List.length_drop]
      · rw [List.length_drop]; omega
      · rw [HCT.out.1, Nat.mul_one]
      · rw [List.length_drop, Nat.mul_one]; exact HCT.out.2
set_option maxHeartbeats 1000000 in
theorem DropC_w {z y : Nat} {n : Int} (z0 : w.cell? ⟨z, 0, none⟩ = some (.pointer (some ⟨b, 0, none⟩))) (y0 : w.cell? ⟨y, 0, none⟩ = some (.int .i64 n))
    (hd : Calls Tryz.prog 37 #[.pointer (some ⟨b, 0, none⟩), .int .i64 n] w fun e w' => e = .returned (.int .i64 0) ∧ WalIn w0 w' a D' b W' B) :
    Calls Tryz.prog 36 #[.pointer (some ⟨z, 0, none⟩), .pointer (some ⟨y, 0, none⟩)] w fun e w' => e = .returned (.int .i64 0) ∧ WalIn w0 w' a D' b W' B := by
  go_enter Tryz.func36, Tryz.ntmps36
  go_wp2_with fail
  refine hd.mono ?_
  rintro e w2 ⟨rfl, h2⟩
  have H2 := Lib.hid h2
  clear h2
  go_wp2_with fail
  go_ret
  exact ⟨rfl, H2.out⟩
set_option maxHeartbeats 1000000 in
theorem Drop_yes (h : WalIn w0 w a D b W B) (hok : Wm.Ok W) (hf : FOk W.f) (ha : Wm.alive D W = true) (hsm : ∀ m ∈ W.firsts, m < 100) (n : Int) (hn1 : -9223372036854775808 ≤ n) (hn2 : n < (W.last : Int)) (hr : Wm.removeAll W.log (W.firsts.take (Wm.upTo W.firsts n)) D = (0, D')) :
    Calls Tryz.prog 15 #[.pointer (some ⟨b, 0, none⟩), .int .i64 n] w fun e w' => e = .returned (.int .i64 (0 : Nat)) ∧ WalIn w0 w' a D' b { W with firsts := W.firsts.drop (Wm.upTo W.firsts n), dead := false } B := by
  obtain ⟨W1, hW1⟩ : ∃ W1, w.alloc (.cells #[.pointer (some ⟨b, 0, none⟩)] 24) = W1 := ⟨_, rfl⟩
  obtain ⟨z, hz⟩ : ∃ z, w.heap.size = z := ⟨_, rfl⟩
  have h1 : WalIn w0 W1 a D b W ((z, .cells #[.pointer (some ⟨b, 0, none⟩)] 24 (0, 0)) :: B) := by rw [← hW1, ← hz]; exact h.alloc _
  obtain ⟨W2, hW2⟩ : ∃ W2, W1.alloc (.cells #[.int .i64 n] 3) = W2 := ⟨_, rfl⟩
  obtain ⟨y, hy⟩ : ∃ y, W1.heap.size = y := ⟨_, rfl⟩
  have h2 : WalIn w0 W2 a D b W ((y, .cells #[.int .i64 n] 3 (0, 0)) :: (z, .cells #[.pointer (some ⟨b, 0, none⟩)] 24 (0, 0)) :: B) := by rw [← hW2, ← hy]; exact h1.alloc _
  have z0 : W2.cell? ⟨z, 0, none⟩ = some (.pointer (some ⟨b, 0, none⟩)) := by rw [cell_of_row W2 z _ _ _ _ (h2.box _ (List.mem_cons_of_mem _ List.mem_cons_self))]; rfl
  have hd := do_yes h2 hok hf ha (enters_of Tryz.func36 (by kernel_rfl) rfl) (cb := #[.pointer (some ⟨z, 0, none⟩), .pointer (some ⟨y, 0, none⟩)]) (c := 0) (W' := { W with firsts := W.firsts.drop (Wm.upTo W.firsts n) })
    (fun w1 hw1 => DropC_w (by rw [cell_of_row w1 z _ _ _ _ (hw1.box _ (List.mem_cons_of_mem _ List.mem_cons_self))]; rfl) (by rw [cell_of_row w1 y _ _ _ _ (hw1.box _ List.mem_cons_self)]; rfl) (drop_w hw1 hok hsm n hn1 hn2 hr))
  clear h h1 h2 hok hf ha
  go_enter Tryz.func15, Tryz.ntmps15
  go_wp2_with fail
  refine hd.mono ?_
  rintro e w2 ⟨rfl, h2⟩
  have H2 := Lib.hid (h2.sub ((List.sublist_cons_self _ _).trans (List.sublist_cons_self _ _)))
  clear h2
  go_wp2_with fail
  go_ret
  exact ⟨rfl, H2.out⟩
set_option maxHeartbeats 1000000 in
/-- A body that is too long. -/
theorem Append_long (h : WalIn w0 w a D b W B) (s : ByteArray) (hm : s.size ≤ maxLen) (hs : 65536 < s.size) :
    Calls Tryz.prog 11 #[.pointer (some ⟨b, 0, none⟩), .string s] w fun e w' => e = .returned (.tuple #[.int .i64 0, .int .i64 3]) ∧ WalIn w0 w' a D b W B := by
  obtain ⟨W1, hW1⟩ : ∃ W1, w.alloc (.cells #[.pointer (some ⟨b, 0, none⟩)] 24) = W1 := ⟨_, rfl⟩
  obtain ⟨z, hz⟩ : ∃ z, w.heap.size = z := ⟨_, rfl⟩
  have h1 : WalIn w0 W1 a D b W ((z, .cells #[.pointer (some ⟨b, 0, none⟩)] 24 (0, 0)) :: B) := by rw [← hW1, ← hz]; exact h.alloc _
  have z0 : W1.cell? ⟨z, 0, none⟩ = some (.pointer (some ⟨b, 0, none⟩)) := by rw [cell_of_row W1 z _ _ _ _ (h1.box _ List.mem_cons_self)]; rfl
  have hmd := made_w h1
  have hfr := Frame_long s W1 hm hs
  have H1 := Lib.hid (h1.sub (List.sublist_cons_self _ _))
  have H1b := Lib.hid ((h1.alloc (.cells #[.string ⟨#[]⟩] 9)).sub ((List.sublist_cons_self _ _).trans (List.sublist_cons_self _ _)))
  clear h h1
  go_enter Tryz.func11, Tryz.ntmps11
  go_wp2_with fail
  refine hmd.mono ?_
  rintro e w2 ⟨rfl, rfl⟩
  go_wp2_with fail
  refine hfr.mono ?_
  rintro e w2 ⟨rfl, rfl⟩
  go_wp2_with fail
  go_ret2
  exact ⟨rfl, by first | exact H1.out | exact H1b.out⟩
end
end Go.Proofs.YtoecbkndbcblpaaGreatDoor
