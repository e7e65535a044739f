/-
  Walks over package wal: read of a log that has files. Conditions: those in the theorems.
-/
import Derived.Test.YtoecbkndbcblpaaGreatDoorWalRead
namespace Go.Proofs.YtoecbkndbcblpaaGreatDoor
open Go.RowKit Go.Maps Go.Sort Go.Shelf

/-- What read makes of the disk's names, one behind the other. -/
inductive Wm.Reads (D : Dm.Disk) : List (List UInt8) → Wm.W → List (Nat × List UInt8) → Wm.W → List (Nat × List UInt8) → Prop
  | nil (W : Wm.W) (r) : Reads D [] W r W r
  | skip {k ks W r W' r'} (h : Wm.Skips W.log k) (t : Reads D ks W r W' r') : Reads D (k :: ks) W r W' r'
  | file {ks W r W' r'} (n : Nat) (s : ByteArray) (h1 : 1 ≤ n) (h2 : n < 100) (hf : W.firsts = [] ∨ n = W.last + 1) (hw : W.firsts.length ≤ 200) (hr : Dm.read D (Wm.nameOf W.log n).data.toList = (s.data.toList, 0)) (hb : (Wm.frames s.data.toList).1.length ≤ 1000) (hr2 : r.length ≤ 1000)
      (t : Reads D ks (Wm.took W n s (Wm.frames s.data.toList).1.length) (r ++ Wm.numbered n (Wm.frames s.data.toList).1) W' r') : Reads D ((Wm.nameOf W.log n).data.toList :: ks) W r W' r'

section
variable {w0 w w' : World} {a b : Nat} {D D' : Dm.Disk} {B : List (Nat × Obj)} {W W' : Wm.W}
set_option maxRecDepth 100000 in
set_option maxHeartbeats 8000000 in
theorem read_w (h : WalIn w0 w a D b W B) (hlog : W.log.size ≤ 13) (hr : Dm.Right D) {recs : List (Nat × List UInt8)} (hR : Wm.Reads D (Dm.keys D.files) W [] W' recs) :
    Calls Tryz.prog 26 #[.pointer (some ⟨b, 0, none⟩)] w fun e w' => ∃ v Rr, e = .returned (.tuple #[v, .int .i64 0]) ∧ WalIn w0 w' a D b W' (Rr ++ B) ∧ RecIs v Rr recs := by
  obtain ⟨x0, x5, -⟩ := h.cells
  have hl := list_wi h
  have hfew : (Dm.keys D.files).length ≤ 256 := by unfold Dm.keys; rw [List.length_map]; exact hr.few
  have HRT := Lib.hid hr
  clear h hr
  generalize Dm.keys D.files = ks at *
  have HRD := Lib.hid hR
  have HLG := Lib.hid hlog
  clear hR hlog
  go_enter Tryz.func26, Tryz.ntmps26
  go_wp2_with fail
  refine hl.mono ?_
  rintro e w1 ⟨v, S, rfl, h1, h2⟩
  have H1 := Lib.hid h1
  obtain ⟨p0, cap0, rfl, hlc⟩ := h2.shape
  have H2 := Lib.hid h2
  clear h1 h2 hl x0 x5
  go_wp2_with fail
  go_loopg [4, 24] ks.length (fun g lv iv wr => ∃ (k : Nat) (Wk : Wm.W) (rk : List (Nat × List UInt8)) (p : Option Addr) (c : Nat) (Rr : List (Nat × Obj)), g = ks.length - k ∧ k ≤ ks.length ∧ iv = .int .i64 (k : Nat) ∧ lv = .slice p rk.length c ∧ Hid (WalIn w0 wr a D b Wk (Rr ++ (S ++ B)) ∧ RecIs (.slice p rk.length c) Rr rk ∧ Wm.Reads D (ks.drop k) Wk rk W' recs ∧ Wk.log.size ≤ 13))
  case atStart => exact ⟨0, W, [], none, 0, [], rfl, Nat.zero_le _, rfl, rfl, Lib.hid ⟨H1.out, .inl ⟨rfl, rfl, rfl⟩, HRD.out, HLG.out⟩⟩
  case round =>
    obtain ⟨k, Wk, rk, p, c, Rr, rfl, hkl, rfl, rfl, HH⟩ := hrel
    clear H1 HRD HLG
    by_cases hlt : k < ks.length
    · have i1 : (k : Int) < (ks.length : Int) := by omega
      have i2 : (0 : Int) ≤ (k : Int) := by omega
      obtain ⟨g, cap, ev, z⟩ := H2.out.at (w := wr) (fun p hp => HH.out.1.box p (List.mem_append_right _ (List.mem_append_left _ hp))) hlt
      cases ev
      obtain ⟨y0, y5, y7, -⟩ := HH.out.1.cells
      have hrd := HH.out.2.2.1
      rw [List.drop_eq_getElem_cons hlt] at hrd
      have hcut := fun W' => wl_strings_CutPrefix ⟨ks[k].toArray⟩ Wk.log W'
      have hdl : (⟨ks[k].toArray⟩ : ByteArray).data.toList = ks[k] := rfl
      rw [hdl] at hcut
      generalize hkey : ks[k] = key at *
      generalize hrest : ks.drop (k + 1) = rest at *
      cases hrd with
      | skip hsk t =>
        have HT := Lib.hid (show WalIn w0 wr a D b Wk (Rr ++ (S ++ B)) ∧ RecIs (.slice p rk.length c) Rr rk ∧ Wm.Reads D (ks.drop (k + 1)) Wk rk W' recs ∧ Wk.log.size ≤ 13 from ⟨HH.out.1, HH.out.2.1, by rw [hrest]; exact t, HH.out.2.2.2⟩)
        clear HH t hrest hkey
        unfold Wm.Skips at hsk
        rcases hsk with hp | ⟨hp, ht⟩
        · rw [hp] at hcut
          clear hp
          go_wp2_with fail
          refine (hcut _).mono ?_
          rintro e w2 ⟨rfl, rfl⟩
          go_wp2_with fail
          go_roundg (ks.length - (k + 1))
          case measure => omega
          case rel => exact ⟨k + 1, Wk, rk, p, c, Rr, rfl, by omega, by go_num, rfl, HT⟩
        · rw [hp, ht] at hcut
          clear hp ht
          go_wp2_with fail
          refine (hcut _).mono ?_
          rintro e w2 ⟨rfl, rfl⟩
          go_wp2_with fail
          go_roundg (ks.length - (k + 1))
          case measure => omega
          case rel => exact ⟨k + 1, Wk, rk, p, c, Rr, rfl, by omega, by go_num, rfl, HT⟩
      | file n s hn1 hn2 hf hw hrr hb hr2 t =>
        obtain ⟨hp, ht⟩ := Wm.trim_name Wk.log n
        rw [hp, ht] at hcut
        obtain ⟨f1, f2, f3⟩ := Wm.nineteen_facts n hn2
        obtain ⟨tx, htx⟩ : ∃ tx : ByteArray, ⟨(Wm.nineteen n).toArray⟩ = tx := ⟨_, rfl⟩
        have htl : tx.data.toList = Wm.nineteen n := by rw [← htx]
        have hts : tx.size = 19 := by rw [← size_list, htl, f1]
        rw [htx] at hcut
        have hnum := fun W1 => numberOf_any tx hts (by rw [htl]; exact f2) (by rw [htl, f3]; omega) (by rw [htl, f3]; omega) W1
        rw [htl, f3] at hnum
        have hnew : (tx.toList == [110, 101, 119]) = false := by
          rw [Go.Lib.toList_data, htl, beq_eq_false_iff_ne]
          intro e
          have := congrArg List.length e
          rw [f1] at this; cases this
        have hnmt : (⟨(Wm.nameOf Wk.log n).data.toList.toArray⟩ : ByteArray) = Wm.nameOf Wk.log n := by simp
        rw [hnmt] at z hcut
        clear hdl hp ht f1 f2 f3 htx hnmt
        go_wp2_with fail
        refine (hcut _).mono ?_
        rintro e w2 ⟨rfl, rfl⟩
        go_wp2_with fail
        refine (hnum _).mono ?_
        rintro e w3 ⟨rfl, hb3⟩
        have H3 := Lib.hid (HH.out.1.same hb3)
        have HRI := Lib.hid HH.out.2.1
        have HLG := Lib.hid HH.out.2.2.2
        obtain ⟨q, cq, y6⟩ : ∃ q cq, w3.cell? ⟨b, 6, none⟩ = some (.slice q Wk.firsts.length cq) := by
          obtain ⟨v, R, g1, g2⟩ := H3.out
          obtain ⟨-, x6, -⟩ := wobj_cells (g1.box _ List.mem_cons_self)
          obtain ⟨p, cap, rfl, -⟩ := g2.shape
          exact ⟨p, cap, x6⟩
        clear y0 y5 y7 hb3 hnum hcut HH
        obtain ⟨y0, y5, y7, -, -, yf⟩ := H3.out.cells
        have hcase : decide (0 < Wk.firsts.length) = false ∨ (decide (0 < Wk.firsts.length) = true ∧ (Wk.last : Int) + 1 = (n : Int)) := by
          by_cases hfe : Wk.firsts = []
          · left; rw [hfe]; rfl
          · right
            have hl : 0 < Wk.firsts.length := List.length_pos_iff.2 hfe
            have hnl := hf.resolve_left hfe
            exact ⟨decide_eq_true hl, by omega⟩
        have dw : IntKind.i64.wrap (n : Int) = (n : Int) := IntWalk.i64_in _ (by omega)
        have hsz : (Wm.nameOf Wk.log n).size ≤ maxLen := by have := nameOf_size Wk.log n hn2; have := HLG.out; unfold maxLen; omega
        have hread := read_wi H3.out (Wm.nameOf Wk.log n) hsz hrr
        have hss : s.size ≤ 1048576 := by have := Dm.read_size HRT.out hrr; rw [size_list] at this; exact this
        have hfrm := frames_w s w3 hss
        have e1 : (n : Int) - 1 = ((n - 1 : Nat) : Int) := by omega
        have e2 : IntKind.i64.wrap ((n - 1 : Nat) : Int) = ((n - 1 : Nat) : Int) := IntWalk.i64_in _ (by omega)
        have HT := Lib.hid (And.intro t hrest)
        clear hsz hrr hf t hrest hkey htl hts hnew yf
        rcases hcase with d0 | ⟨d0, dn⟩
        all_goals
          go_wp2_with fail
          refine hread.mono ?_
          rintro e w4 ⟨rfl, rfl⟩
          go_wp2_with fail
          refine hfrm.mono ?_
          rintro e w4 ⟨vb, rfl, hT⟩
          obtain ⟨St, h4, hSt⟩ := H3.out.texts hT.row hT.below
          have h5 := h4.lastTo (n - 1)
          obtain ⟨pb, capb, rfl, hlb⟩ := hSt.shape
          obtain ⟨-, -, z7, -, -, zf⟩ := h4.cells
          have z7f := zf 7
          have k0 := h5.cells.1
          have H5 := Lib.hid h5
          have HST := Lib.hid hSt
          clear hT h4 h5 hSt zf
          go_wp2_with fail
          have hfo := follow_w H5.out (Wm.readF Wk.log n s) (by show Wk.firsts.length ≤ 1000; omega) (by show n - 1 ≤ 1000000; omega)
          refine hfo.mono ?_
          rintro e w6 ⟨rfl, h6⟩
          have H6 := Lib.hid (show WalIn w0 w6 a D b (Wm.took Wk n s 0) (Rr ++ (St ++ (S ++ B))) from h6.perm (List.perm_append_comm_assoc _ _ _))
          clear hfo h6 k0 z7 z7f
          obtain ⟨bs, hbs⟩ : ∃ bs, (Wm.frames s.data.toList).1 = bs := ⟨_, rfl⟩
          rw [hbs] at HT HST hlb hb ⊢
          clear hbs
          go_wp2_with fail
          go_loopg [4, 104] bs.length (fun g lv iv wr => ∃ (j : Nat) (p2 : Option Addr) (c2 : Nat) (R2 : List (Nat × Obj)), g = bs.length - j ∧ j ≤ bs.length ∧ iv = .int .i64 (j : Nat) ∧ lv = .slice p2 (rk.length + j) c2 ∧ Hid (WalIn w0 wr a D b (Wm.took Wk n s j) (R2 ++ (St ++ (S ++ B))) ∧ RecIs (.slice p2 (rk.length + j) c2) R2 (rk ++ Wm.numbered n (bs.take j))))
          case atStart => exact ⟨0, p, c, Rr, rfl, Nat.zero_le _, rfl, rfl, Lib.hid ⟨H6.out, by simpa [Wm.numbered] using HRI.out⟩⟩
          case round =>
            obtain ⟨j, p2, c2, R2, rfl, hj, rfl, rfl, HJ⟩ := hrel
            clear H6
            by_cases hjl : j < bs.length
            · have j1 : (j : Int) < (bs.length : Int) := by omega
              have j2 : (0 : Int) ≤ (j : Int) := by omega
              obtain ⟨g2, cap2, ev, zb⟩ := HST.out.at (w := wr) (fun p hp => HJ.out.1.box p (List.mem_append_right _ (List.mem_append_left _ hp))) hjl
              cases ev
              obtain ⟨m, hm⟩ : ∃ m, n - 1 + j = m := ⟨_, rfl⟩
              have hnj : n + j = m + 1 := by omega
              have h7 := HJ.out.1.lastTo (m + 1)
              obtain ⟨-, -, x7, -, -, xf⟩ := HJ.out.1.cells
              have x7f := xf 7
              have x7b : wr.cell? ⟨b, 7, none⟩ = some (.int .i64 (m : Nat)) := by rw [← hm]; exact x7
              have x8 := h7.cells.2.2.1
              obtain ⟨bd, hbd⟩ : ∃ bd : ByteArray, ⟨bs[j].toArray⟩ = bd := ⟨_, rfl⟩
              have hbl : bd.data.toList = bs[j] := by rw [← hbd]
              have hll : (rk ++ Wm.numbered n (bs.take j)).length = rk.length + j := by rw [List.length_append, Wm.numbered_length, List.length_take]; omega
              have hrec : rk ++ Wm.numbered n (bs.take (j + 1)) = (rk ++ Wm.numbered n (bs.take j)) ++ [(m + 1, bd.data.toList)] := by
                rw [List.take_succ_eq_append_getElem hjl, Wm.numbered_snoc, List.append_assoc, List.length_take, Nat.min_eq_left hj, hnj, hbl]
              obtain ⟨p3, c3, W3, R3, hrun, h8, h9⟩ := h7.push HJ.out.2 (m + 1) bd ((Below.refl _ _).alloc (Nat.le_refl _) (.cells #[natV (m + 1), .string bd] 35)) (heap_alloc_new _ _) (by rw [hll]; omega) 25
              rw [hll] at hrun h9
              rw [← hrec] at h9
              have htk : ({ Wm.took Wk n s j with last := m + 1 } : Wm.W) = Wm.took Wk n s (j + 1) := by
                unfold Wm.took; rw [show n - 1 + (j + 1) = m + 1 by omega]
              rw [htk] at h8
              have H8 := Lib.hid (show WalIn w0 W3 a D b (Wm.took Wk n s (j + 1)) (R3 ++ (St ++ (S ++ B))) ∧ RecIs (.slice p3 (rk.length + (j + 1)) c3) R3 (rk ++ Wm.numbered n (bs.take (j + 1))) from ⟨h8, h9⟩)
              have k1 : ((m + 1 : Nat) : Int) = (m : Int) + 1 := by omega
              have k2 : IntKind.i64.wrap ((m : Int) + 1) = (m : Int) + 1 := IntWalk.i64_in _ (by omega)
              unfold natV at hrun
              simp only at x8
              rw [k1] at hrun x8
              obtain ⟨w7, hw7⟩ : ∃ w7, wr.setCell ⟨b, 7, none⟩ (.int .i64 ((m : Int) + 1)) = w7 := ⟨_, rfl⟩
              rw [hw7] at hrun x8
              rw [hbd] at zb
              clear x7 h7 h8 h9 HJ hm hnj hbl hbd hll hrec htk k1 xf
              go_wp2_with (at_builtin; refine Lib.wpList_append_run _ rfl (.tmp 115) (.tmp 122) _ _ rfl _ _ rfl rfl _ _ hrun ?_)
              go_roundg (bs.length - (j + 1))
              case measure => omega
              case rel => exact ⟨j + 1, p3, c3, R3, rfl, by omega, by go_num, by first | rfl | (congr 1; omega), H8⟩
            · obtain rfl : j = bs.length := by omega
              have j1 : ¬ (bs.length : Int) < (bs.length : Int) := by omega
              have hll : (rk ++ Wm.numbered n bs).length = rk.length + bs.length := by rw [List.length_append, Wm.numbered_length]
              have hri := HJ.out.2
              rw [List.take_length] at hri
              have HFI := Lib.hid (show WalIn w0 wr a D b (Wm.took Wk n s bs.length) (R2 ++ (S ++ B)) ∧ RecIs (.slice p2 (rk ++ Wm.numbered n bs).length c2) R2 (rk ++ Wm.numbered n bs) ∧ Wm.Reads D (ks.drop (k + 1)) (Wm.took Wk n s bs.length) (rk ++ Wm.numbered n bs) W' recs ∧ (Wm.took Wk n s bs.length).log.size ≤ 13 from
                ⟨HJ.out.1.sub (List.Sublist.append (List.Sublist.refl R2) (List.sublist_append_right _ _)), by rw [hll]; exact hri, by rw [HT.out.2]; exact HT.out.1, HLG.out⟩)
              clear HJ hri
              go_wp2_with fail
              go_roundg (ks.length - (k + 1))
              case measure => omega
              case rel => exact ⟨k + 1, Wm.took Wk n s bs.length, rk ++ Wm.numbered n bs, p2, c2, R2, rfl, by omega, by go_num, by rw [hll], HFI⟩
    · obtain rfl : k = ks.length := by omega
      have i1 : ¬ (ks.length : Int) < (ks.length : Int) := by omega
      have hrd := HH.out.2.2.1
      rw [List.drop_length] at hrd
      cases hrd
      have HF := Lib.hid (HH.out.1.sub (B' := Rr ++ B) (List.Sublist.append (List.Sublist.refl Rr) (List.sublist_append_right _ _)))
      have HRI := Lib.hid HH.out.2.1
      clear HH
      go_wp2_with fail
      exact bodyPost_ret (v := .tuple #[.slice p recs.length c, .int .i64 0]) (by simp [results, Tryz.results26, go_sem]) rfl ⟨.slice p recs.length c, rfl, Rr, HF.out, HRI.out⟩
end
end Go.Proofs.YtoecbkndbcblpaaGreatDoor
