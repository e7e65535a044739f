/-
  Walks over package check: rows of texts, slices.Contains, the names of fields and of methods. Conditions: those in the theorems.
-/
import Derived.Test.YtnkdhmoocomjfaaGreatDoorCkUndone
import Derived.OwnWalk
import Derived.OwnWalkIn
set_option linter.unusedSimpArgs false
set_option linter.unusedVariables false
namespace Go.Proofs.YtnkdhmoocomjfaaGreatDoor
open Go.RowKit
/-- A row of texts that a call has made. -/
def OwnTx (W : World) (base : Nat) (v : Value) (ss : List ByteArray) : Prop := W.ownsRow base 9 1 v ss.length (ss.map Value.string)
theorem infoTx : (Tryz.prog.info? 9).map (fun i => (i.zero, i.size, i.bytes)) = some (some (.string ⟨#[]⟩), 1, 16) := by kernel_rfl
theorem OwnTx.nil (W : World) (base : Nat) : OwnTx W base (.slice none 0 0) [] := World.ownsRow_nil _ _ _ _
theorem OwnTx.texts {W : World} {base : Nat} {v : Value} {ss : List ByteArray} (h : OwnTx W base v ss) : ∃ p cap, v = .slice p ss.length cap ∧ ss.length ≤ cap ∧ cap ≤ maxLen ∧ TextsAt W p ss := by
  have hc := World.ownsRow.cells (g := (v.ownBlock).getD 0) h
  have hlt := World.ownsRow.lt h
  rcases h.2 with ⟨rfl, hn⟩ | ⟨g, cap, cur, rfl, hb, hg, h1, h2, h3, h4⟩
  · rw [hn]; exact ⟨none, 0, rfl, Nat.le_refl _, Nat.zero_le _, fun i hi => by omega⟩
  · refine ⟨some ⟨g, 0, none⟩, cap, rfl, h1, h2, fun i hi => ⟨_, rfl, (hlt g rfl).2, ?_⟩⟩
    exact hc rfl i _ (by rw [List.getElem?_map, List.getElem?_eq_getElem hi]; rfl)
theorem OwnTx.lt {W : World} {base : Nat} {v : Value} {ss : List ByteArray} (h : OwnTx W base v ss) : ∀ k, v.ownBlock = some k → base ≤ k ∧ k < W.heap.size := World.ownsRow.lt h
/-- A row stays where its block does. -/
theorem OwnTx.stays {A C : World} {T : Nat} {v : Value} {ss : List ByteArray} (h : OwnTx A T v ss) (hb : ∀ k, k < A.heap.size → T ≤ k → ¬ NoCells A k → C.heap[k]? = A.heap[k]?) : OwnTx C T v ss := by
  refine ⟨h.1, ?_⟩
  rcases h.2 with hn | ⟨g, cap, cur, rfl, h1, h2, h3⟩
  · exact .inl hn
  · exact .inr ⟨g, cap, cur, rfl, h1, (hb g (Array.getElem?_eq_some_iff.1 h2).1 h1 fun hn => hn _ _ _ h2).trans h2, h3⟩
theorem OwnTx.below {A C : World} {T : Nat} {v : Value} {ss : List ByteArray} (h : OwnTx A T v ss) (hb : Below A.heap.size A C) : OwnTx C T v ss := h.stays fun k hk _ _ => hb.block k hk
theorem OwnTx.mono {A : World} {T S : Nat} {v : Value} {ss : List ByteArray} (h : OwnTx A T v ss) (hs : S ≤ T) : OwnTx A S v ss := by
  refine ⟨h.1, ?_⟩
  rcases h.2 with hn | ⟨g, cap, cur, rfl, h1, h2, h3⟩
  · exact .inl hn
  · exact .inr ⟨g, cap, cur, rfl, Nat.le_trans hs h1, h2, h3⟩
/-- append of a text that is written out at the call. -/
theorem tx_append {W : World} {base : Nat} {v : Value} {ss : List ByteArray} (h : OwnTx W base v ss) (x : ByteArray) (hs : ss.length + 1 ≤ 1000000) (hb : base ≤ W.heap.size) (ty : TypeId) :
    ∃ (pv : Option Addr) (cv : Nat) (V : World), (Builtin.append_ #[129, 129] ty #[v, .slice (some ⟨W.heap.size, 0, none⟩) 1 1]).run Tryz.prog (W.alloc (.cells #[.string x] 9)) = .ok (.slice pv (ss.length + 1) cv) V ∧
      OwnTx V base (.slice pv (ss.length + 1) cv) (ss ++ [x]) ∧ GrewT v (.slice pv (ss.length + 1) cv) W V := by
  obtain ⟨i0, hi0, hz0, hz1, hz2⟩ := info_parts infoTx
  have hov : OwnTx (W.alloc (.cells #[.string x] 9)) base v ss := h.below (tk_alloc W _)
  obtain ⟨v', V, hrun, ho, hg, -, hown⟩ := run_append_own_at (P := Tryz.prog) (W.alloc (.cells #[.string x] 9)) base 129 ty 9 i0 _ 1 16 Tryz.underlying129 hi0 hz0 hz1 hz2 rfl (by decide) v _ _ hov
    ⟨W.heap.size, 0, none⟩ 1 1 [.string x] rfl (cell_one_new _ _ _) (fun u hu => by simp at hu; subst hu; rfl) (by unfold maxLen; omega) (by omega) (by rw [World.size_alloc]; omega)
  have hR : OwnTx V base v' (ss ++ [x]) := by
    unfold OwnTx
    rw [List.length_append, List.map_append]
    exact ho
  obtain ⟨pv, cv, rfl, -, -, -⟩ := hR.texts
  rw [List.length_append] at hrun hR hown
  have hgr : ∀ k, k < W.heap.size → v.ownBlock ≠ some k → V.heap[k]? = W.heap[k]? := fun k hk hn =>
    (hg.block k (by rw [World.size_alloc]; omega) fun e => hn e.symm).trans (Below.heap_alloc _ _ _ hk)
  refine ⟨pv, cv, V, hrun, hR, hg.os, hg.tape, hg.output, by have := hg.size; rw [World.size_alloc] at this; omega, hgr, fun k hk => ?_⟩
  rcases hown with e | e
  · exact .inl (e ▸ hk)
  · have e2 : (Value.slice pv (ss.length + 1) cv).ownBlock = some (W.alloc (.cells #[.string x] 9)).heap.size := e
    rw [e2] at hk
    simp only [Option.some.injEq, World.size_alloc] at hk
    exact .inr (by omega)
/-! ### slices.Contains -/
theorem eqB_comm (a b : ByteArray) : Ip.eqB a b = Ip.eqB b a := by
  rw [Bool.eq_iff_iff, Ip.eqB_iff, Ip.eqB_iff]
  exact ⟨fun h => h.symm, fun h => h.symm⟩
set_option maxRecDepth 100000 in
set_option maxHeartbeats 4000000 in
theorem index_any {w : World} {p : Option Addr} {c : Nat} {ss : List ByteArray} (h : TextsAt w p ss) (hl : ss.length ≤ 1000000) (n : ByteArray) :
    Calls Tryz.prog 169 #[.slice p ss.length c, .string n] w fun e w' => e = .returned (idxV (ss.findIdx? fun m => Ip.eqB m n)) ∧ w' = w := by
  have H := Lib.hid h
  clear h
  go_enter Tryz.func169, Tryz.ntmps169
  go_wp2_with fail
  go_loopw [8] (fun kv wr => ∃ k : Nat, k ≤ ss.length ∧ kv = .int .i64 (k : Nat) ∧ wr = w ∧ Hid (∀ j (hj : j < ss.length), j < k → Ip.eqB ss[j] n = false)) (fun kv _ => ss.length - (intOf kv).toNat)
  case atStart => exact ⟨0, Nat.zero_le _, rfl, rfl, Lib.hid fun j _ hj => absurd hj (Nat.not_lt_zero _)⟩
  case round =>
    obtain ⟨k, hk, rfl, hw, HR⟩ := hrel
    subst hw
    by_cases hlt : k < ss.length
    · have i1 : (k : Int) < (ss.length : Int) := by omega
      have i2 : (0 : Int) ≤ (k : Int) := by omega
      obtain ⟨A, e3, hA, c0⟩ := H.out k hlt
      cases e3
      have hq2 := eqB_list n ss[k]
      rw [eqB_comm] at hq2
      cases hq : Ip.eqB ss[k] n with
      | true =>
        rw [hq] at hq2
        have HF : Hid (ss.findIdx? (fun m => Ip.eqB m n) = some k) := Lib.hid (idx_some hlt HR.out hq)
        clear hq
        generalize ss[k] = y at c0 hq2
        go_wp2_with fail
        go_ret
        exact ⟨by rw [HF.out]; rfl, rfl⟩
      | false =>
        rw [hq] at hq2
        have HQ := Lib.hid hq
        clear hq
        generalize hy : ss[k] = y at c0 hq2
        have HY := Lib.hid hy
        clear hy
        go_wp2_with fail
        go_roundw
        case rel => exact ⟨k + 1, by omega, by go_num, trivial, Lib.hid fun j hj hjk => by
          by_cases e : j < k
          · exact HR.out j hj e
          · obtain rfl : j = k := by omega
            exact HQ.out⟩
        case measure => simp [intOf]; omega
    · obtain rfl : k = ss.length := by omega
      have i1 : ¬ (ss.length : Int) < (ss.length : Int) := by omega
      go_wp2_with fail
      go_ret
      exact ⟨by rw [idx_none (L := ss) fun j hj => HR.out j hj hj]; rfl, rfl⟩
theorem contains_any {w : World} {p : Option Addr} {c : Nat} {ss : List ByteArray} (h : TextsAt w p ss) (hl : ss.length ≤ 1000000) (n : ByteArray) :
    Calls Tryz.prog 124 #[.slice p ss.length c, .string n] w fun e w' => e = .returned (.bool (Ck.inB ss n)) ∧ w' = w := by
  have HC := Lib.hid (index_any (c := c) h hl n)
  clear h
  go_enter Tryz.func124, Tryz.ntmps124
  go_wp2_with fail
  refine HC.out.mono ?_
  rintro e w' ⟨rfl, rfl⟩
  cases hq : ss.findIdx? fun m => Ip.eqB m n with
  | some i =>
    obtain ⟨hi, hf⟩ := find_idx hq
    have HQ : Hid (Ck.inB ss n = true) := Lib.hid (by
      unfold Ck.inB
      rw [List.any_eq_true]
      exact ⟨_, List.mem_of_find?_eq_some hf, by simpa using List.find?_some hf⟩)
    rw [show idxV (some i) = .int .i64 ((i : Nat) : Int) from rfl]
    have i2 : (0 : Int) ≤ (i : Int) := by omega
    clear hq hf hi
    go_wp2_with fail
    go_ret
    exact ⟨by rw [HQ.out]; rfl, rfl⟩
  | none =>
    have HQ : Hid (Ck.inB ss n = false) := Lib.hid (by
      unfold Ck.inB
      rw [List.any_eq_false]
      intro x hx e
      exact List.find?_eq_none.1 (find_idx_none hq) x hx e)
    rw [show idxV none = .int .i64 (-1) from rfl]
    clear hq
    go_wp2_with fail
    go_ret
    exact ⟨by rw [HQ.out]; rfl, rfl⟩

set_option maxRecDepth 100000 in
theorem nameF_any (w : World) (x : Ip.Fld) (p : Option Addr) (c : Nat) : Calls Tryz.prog 166 #[.agg #[.string x.name, .slice p x.type.length c]] w fun e w' => e = .returned (.string x.name) ∧ Below w.heap.size w w' := by
  go_enter Tryz.func166, Tryz.ntmps166
  go_wp2_with fail
  go_ret
  exact ⟨rfl, tk_alloc w _⟩
set_option maxRecDepth 100000 in
set_option maxHeartbeats 4000000 in
theorem namesF_any {u w : World} {v : Value} {L : List Ip.Fld} (h : RoFld u v L) (hu : Kp u w) (hl : L.length ≤ 1000) : Calls Tryz.prog 165 #[v, .func (.func 166) #[] #[]] w fun e w' =>
    ∃ tv, e = .returned tv ∧ OwnTx w' w.heap.size tv (L.map (·.name)) ∧ Below w.heap.size w w' := by
  have H := Lib.hid h
  have HU := Lib.hid hu
  obtain ⟨p0, k0, rfl, -⟩ := ro_len h
  clear h hu
  go_enter Tryz.func165, Tryz.ntmps165
  go_wp2_with fail
  go_loopw [5, 10] (fun lv kv wr => ∃ k : Nat, k ≤ L.length ∧ kv = .int .i64 (k : Nat) ∧ Hid (Below w.heap.size w wr ∧ OwnTx wr w.heap.size lv ((L.take k).map (·.name)))) (fun _ kv _ => L.length - (intOf kv).toNat)
  case atStart => exact ⟨0, Nat.zero_le _, rfl, Lib.hid ⟨Below.refl _ _, OwnTx.nil _ _⟩⟩
  case round =>
    obtain ⟨k, hk, rfl, HR⟩ := hrel
    have hlen : ((L.take k).map (fun x : Ip.Fld => x.name)).length = k := by rw [List.length_map, List.length_take]; omega
    obtain ⟨pl, cl, hlv, -, -, -⟩ := HR.out.2.texts
    rw [hlen] at hlv
    subst hlv
    have HLEN := Lib.hid hlen
    clear hlen
    by_cases hlt : k < L.length
    · have i1 : (k : Int) < (L.length : Int) := by omega
      have i2 : (0 : Int) ≤ (k : Int) := by omega
      obtain ⟨A, cc, p, c, e3, hA, c0, c1, -, -, -⟩ := fld_at (H.out.kp (HU.out.below HR.out.1)) hlt
      cases e3
      have HT : Hid ((L.take (k + 1)).map (fun x : Ip.Fld => x.name) = (L.take k).map (fun x : Ip.Fld => x.name) ++ [L[k].name]) := Lib.hid (by rw [List.take_succ_eq_append_getElem hlt, List.map_append]; rfl)
      generalize L[k] = x at c0 c1 HT
      obtain ⟨W1, hW1⟩ : ∃ W1, W1 = wr.alloc (.cells #[.string x.name, .slice p x.type.length c] 39) := ⟨_, rfl⟩
      have hn1 : W1.heap[wr.heap.size]? = some (.cells #[.string x.name, .slice p x.type.length c] 39 (0, 0)) := by rw [hW1]; exact heap_alloc_new wr _
      have hb1 : Below wr.heap.size wr W1 := by rw [hW1]; exact tk_alloc wr _
      obtain ⟨y0, y1⟩ := cells2 hn1
      have HB1 := Lib.hid hb1
      clear hn1 hb1 hA
      go_upto_region 5 with fail
      rw [← hW1]
      clear hW1
      go_wp2_with fail
      refine (nameF_any W1 x p c).mono ?_
      rintro e w2 ⟨rfl, hb2⟩
      have HB2 := Lib.hid (HB1.out.trans (hb2.mono HB1.out.size))
      obtain ⟨pv, cv, V, hrun, hL5, hG⟩ := tx_append (HR.out.2.below HB2.out) x.name (by rw [HLEN.out]; omega) (Nat.le_trans HR.out.1.size HB2.out.size) 129
      rw [HLEN.out] at hrun hL5 hG
      have HG := Lib.hid (GrewT.below hG ((HR.out.1).trans (HB2.out.mono HR.out.1.size)) (Nat.le_trans HR.out.1.size HB2.out.size) (fun k hk => (HR.out.2.lt k hk).1))
      rw [← HT.out] at hL5
      have HL := Lib.hid hL5
      clear hL5 hG hb2 y0 y1 c0 c1
      go_wp2_with (at_builtin; refine Lib.wpList_append_run _ rfl (.tmp 14) (.tmp 18) _ _ rfl _ _ rfl rfl _ _ hrun ?_)
      go_roundw
      case rel => exact ⟨k + 1, by omega, by go_num, Lib.hid ⟨HG.out, HL.out⟩⟩
      case measure => simp [intOf]; omega
    · obtain rfl : k = L.length := by omega
      have i1 : ¬ (L.length : Int) < (L.length : Int) := by omega
      have HL : Hid (OwnTx wr w.heap.size (.slice pl L.length cl) (L.map fun x : Ip.Fld => x.name)) := Lib.hid (by have := HR.out.2; rwa [List.take_length] at this)
      go_wp2_with fail
      go_ret
      exact ⟨_, rfl, HL.out, HR.out.1⟩

set_option maxRecDepth 100000 in
theorem nameM_any (w : World) (x : Ip.Mth) : Calls Tryz.prog 168 #[.agg #[.string x.name, .string x.arg, .int .u8 (x.result : Nat), .string x.effect, .string x.undo]] w fun e w' => e = .returned (.string x.name) ∧ Below w.heap.size w w' := by
  go_enter Tryz.func168, Tryz.ntmps168
  go_wp2_with fail
  go_ret
  exact ⟨rfl, tk_alloc w _⟩
set_option maxRecDepth 100000 in
set_option maxHeartbeats 4000000 in
theorem namesM_any {u w : World} {v : Value} {L : List Ip.Mth} (h : RoMth u v L) (hu : Kp u w) (hl : L.length ≤ 1000) : Calls Tryz.prog 167 #[v, .func (.func 168) #[] #[]] w fun e w' =>
    ∃ tv, e = .returned tv ∧ OwnTx w' w.heap.size tv (L.map (·.name)) ∧ Below w.heap.size w w' := by
  have H := Lib.hid h
  have HU := Lib.hid hu
  obtain ⟨p0, k0, rfl, -⟩ := ro_len h
  clear h hu
  go_enter Tryz.func167, Tryz.ntmps167
  go_wp2_with fail
  go_loopw [5, 10] (fun lv kv wr => ∃ k : Nat, k ≤ L.length ∧ kv = .int .i64 (k : Nat) ∧ Hid (Below w.heap.size w wr ∧ OwnTx wr w.heap.size lv ((L.take k).map (·.name)))) (fun _ kv _ => L.length - (intOf kv).toNat)
  case atStart => exact ⟨0, Nat.zero_le _, rfl, Lib.hid ⟨Below.refl _ _, OwnTx.nil _ _⟩⟩
  case round =>
    obtain ⟨k, hk, rfl, HR⟩ := hrel
    have hlen : ((L.take k).map (fun x : Ip.Mth => x.name)).length = k := by rw [List.length_map, List.length_take]; omega
    obtain ⟨pl, cl, hlv, -, -, -⟩ := HR.out.2.texts
    rw [hlen] at hlv
    subst hlv
    have HLEN := Lib.hid hlen
    clear hlen
    by_cases hlt : k < L.length
    · have i1 : (k : Int) < (L.length : Int) := by omega
      have i2 : (0 : Int) ≤ (k : Int) := by omega
      obtain ⟨A, cc, e3, hA, c0, c1, c2, c3, c4, -⟩ := mth_at (H.out.kp (HU.out.below HR.out.1)) hlt
      cases e3
      have HT : Hid ((L.take (k + 1)).map (fun x : Ip.Mth => x.name) = (L.take k).map (fun x : Ip.Mth => x.name) ++ [L[k].name]) := Lib.hid (by rw [List.take_succ_eq_append_getElem hlt, List.map_append]; rfl)
      generalize L[k] = x at c0 c1 c2 c3 c4 HT
      obtain ⟨W1, hW1⟩ : ∃ W1, W1 = wr.alloc (.cells #[.string x.name, .string x.arg, .int .u8 (x.result : Nat), .string x.effect, .string x.undo] 100) := ⟨_, rfl⟩
      have hn1 : W1.heap[wr.heap.size]? = some (.cells #[.string x.name, .string x.arg, .int .u8 (x.result : Nat), .string x.effect, .string x.undo] 100 (0, 0)) := by rw [hW1]; exact heap_alloc_new wr _
      have hb1 : Below wr.heap.size wr W1 := by rw [hW1]; exact tk_alloc wr _
      obtain ⟨y0, y1, y2, y3, y4⟩ := cells5 hn1
      have HB1 := Lib.hid hb1
      clear hn1 hb1 hA
      go_upto_region 5 with fail
      rw [← hW1]
      clear hW1
      go_wp2_with fail
      refine (nameM_any W1 x).mono ?_
      rintro e w2 ⟨rfl, hb2⟩
      have HB2 := Lib.hid (HB1.out.trans (hb2.mono HB1.out.size))
      obtain ⟨pv, cv, V, hrun, hL5, hG⟩ := tx_append (HR.out.2.below HB2.out) x.name (by rw [HLEN.out]; omega) (Nat.le_trans HR.out.1.size HB2.out.size) 129
      rw [HLEN.out] at hrun hL5 hG
      have HG := Lib.hid (GrewT.below hG ((HR.out.1).trans (HB2.out.mono HR.out.1.size)) (Nat.le_trans HR.out.1.size HB2.out.size) (fun k hk => (HR.out.2.lt k hk).1))
      rw [← HT.out] at hL5
      have HL := Lib.hid hL5
      clear hL5 hG hb2 y0 y1 y2 y3 y4 c0 c1 c2 c3 c4
      go_wp2_with (at_builtin; refine Lib.wpList_append_run _ rfl (.tmp 14) (.tmp 18) _ _ rfl _ _ rfl rfl _ _ hrun ?_)
      go_roundw
      case rel => exact ⟨k + 1, by omega, by go_num, Lib.hid ⟨HG.out, HL.out⟩⟩
      case measure => simp [intOf]; omega
    · obtain rfl : k = L.length := by omega
      have i1 : ¬ (L.length : Int) < (L.length : Int) := by omega
      have HL : Hid (OwnTx wr w.heap.size (.slice pl L.length cl) (L.map fun x : Ip.Mth => x.name)) := Lib.hid (by have := HR.out.2; rwa [List.take_length] at this)
      go_wp2_with fail
      go_ret
      exact ⟨_, rfl, HL.out, HR.out.1⟩
end Go.Proofs.YtnkdhmoocomjfaaGreatDoor
