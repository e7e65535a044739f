/-
  Walks over the document's check: which records and choices have a value of so many levels. Conditions: those in the theorems.
  Walks over the document's check: the text of a small number. Conditions: those in the theorems.
  Walks over the document's check: records without a value (its fifth rule). Conditions: those in the theorems.
-/
import Derived.Test.YtnkdhmoocomjfaaGreatDoorCkBound
import Derived.Test.YtnkdhmoocomjfaaGreatDoorRcNames
import Derived.Lib.ConvBytes
set_option linter.unusedSimpArgs false
set_option linter.unusedVariables false
namespace Ck
open Ip
/-- What a list of truths says of a name: that of the first record of that name. -/
def look (R : List Rcd) (l : List Bool) (n : ByteArray) : Bool := match (R.zip l).find? (fun p => eqB p.1.name n) with
  | some p => p.2
  | none => false
theorem look_map (f : Rcd → Bool) (n : ByteArray) : ∀ R : List Rcd, look R (R.map f) n = match R.find? (fun r => eqB r.name n) with
    | some r => f r
    | none => false
  | [] => rfl
  | r :: R => by
    unfold look
    rw [List.map_cons, List.zip_cons_cons, List.find?_cons, List.find?_cons]
    cases h : eqB r.name n with
    | true => rfl
    | false => exact look_map f n R
def lvl (s : Sch) : Nat → List Bool
  | 0 => s.records.map fun _ => false
  | k + 1 => s.records.map (got (lv s k))
theorem lvl_len (s : Sch) : ∀ k, (lvl s k).length = s.records.length
  | 0 => by unfold lvl; rw [List.length_map]
  | k + 1 => by unfold lvl; rw [List.length_map]
theorem look_lvl (s : Sch) (n : ByteArray) : ∀ k, look s.records (lvl s k) n = lv s k n
  | 0 => by
    unfold lvl; rw [look_map]
    show _ = false
    split <;> rfl
  | k + 1 => by unfold lvl; rw [look_map]; rfl
theorem lvl_end (s : Sch) : lvl s (s.records.length + 2) = s.records.map (got (fin s)) := by
  show s.records.map (got (lv s (s.records.length + 1))) = _
  rw [lv_fin s 1]
/-- The truths of a round under way: i of them are told. -/
def mid (s : Sch) (k i : Nat) : List Bool := (lvl s (k + 1)).take i ++ List.replicate (s.records.length - i) false
theorem mid_zero (s : Sch) (k : Nat) : mid s k 0 = List.replicate s.records.length false := by unfold mid; simp
theorem mid_end (s : Sch) (k : Nat) : mid s k s.records.length = lvl s (k + 1) := by
  unfold mid
  rw [List.take_of_length_le (by rw [lvl_len]; exact Nat.le_refl _), Nat.sub_self]
  simp
theorem mid_set (s : Sch) (k : Nat) {i : Nat} (hi : i < s.records.length) : (mid s k i).set i (got (lv s k) s.records[i]) = mid s k (i + 1) := by
  have h1 : i < (lvl s (k + 1)).length := by rw [lvl_len]; exact hi
  have h2 : (lvl s (k + 1))[i] = got (lv s k) s.records[i] := List.getElem_map (got (lv s k))
  unfold mid
  rw [List.set_append_right _ _ (by rw [List.length_take]; omega), List.length_take, Nat.min_eq_left (Nat.le_of_lt h1), Nat.sub_self, show s.records.length - i = (s.records.length - (i + 1)) + 1 by omega, List.replicate_succ, List.set_cons_zero, List.take_succ_eq_append_getElem h1, h2, List.append_assoc]
  rfl
theorem mid_len (s : Sch) (k : Nat) {i : Nat} (hi : i ≤ s.records.length) : (mid s k i).length = s.records.length := by
  unfold mid; rw [List.length_append, List.length_take, List.length_replicate, lvl_len]; omega
def anyH (P : ByteArray → Bool) (l : List Fld) : Bool := l.any fun f => has P f.type
def allH (P : ByteArray → Bool) (l : List Fld) : Bool := l.all fun f => has P f.type
theorem anyH_at (P : ByteArray → Bool) {l : List Fld} {k : Nat} (hk : k < l.length) : anyH P (l.take (k + 1)) = (anyH P (l.take k) || has P l[k].type) := by
  unfold anyH; rw [List.take_succ_eq_append_getElem hk, List.any_append]; simp
theorem allH_at (P : ByteArray → Bool) {l : List Fld} {k : Nat} (hk : k < l.length) : allH P (l.take (k + 1)) = (allH P (l.take k) && has P l[k].type) := by
  unfold allH; rw [List.take_succ_eq_append_getElem hk, List.all_append]; simp
theorem got_is (P : ByteArray → Bool) (r : Rcd) : got P r = if r.choice then anyH P r.fields else allH P r.fields := rfl
end Ck
namespace Go.Proofs.YtnkdhmoocomjfaaGreatDoor
open Go.RowKit
def boolsO (l : List Bool) : Obj := .cells (l.map Value.bool).toArray 4 (0, 0)
theorem infoB : (Tryz.prog.info? 4).map (fun i => (i.zero, i.size, i.bytes)) = some (some (.bool false), 1, 1) := by kernel_rfl
theorem make_bools (n : Nat) (hn : n ≤ 281474976710656) (u : World) :
    (Instr.makeSlice 133 (.int .i64 (n : Int)) (.int .i64 (n : Int))).run Tryz.prog u = .ok (.slice (some ⟨u.heap.size, 0, none⟩) n n) (u.alloc (boolsO (List.replicate n false))) := by
  obtain ⟨i0, hi, hz0, hz1, hz2⟩ := info_parts infoB
  have h := run_make (P := Tryz.prog) u 133 4 i0 (.bool false) Tryz.underlying133 hi hz0 .i64 .i64 (n : Int) (n : Int) (by omega) (Int.le_refl _) (by rw [hz2]; omega) (by omega)
  have e : madeCells #[Value.bool false] n = ((List.replicate n false).map Value.bool).toArray := by
    apply Array.ext
    · rw [size_madeCells]; simp
    · intro i h1 h2
      simp [madeCells, Nat.mod_one]
  simpa [hz1, Value.cells, e, boolsO] using h
theorem bools_at {W : World} {b : Nat} {l : List Bool} (h : W.heap[b]? = some (boolsO l)) {i : Nat} (hi : i < l.length) : W.cell? ⟨b, i, none⟩ = some (.bool l[i]) := by
  rw [cell_of_row W b i _ _ _ h]; simp [hi]
theorem bools_set {W : World} {b : Nat} {l : List Bool} (h : W.heap[b]? = some (boolsO l)) (i : Nat) (x : Bool) : (W.setCell ⟨b, i, none⟩ (.bool x)).heap[b]? = some (boolsO (l.set i x)) := by
  rw [tk_set h]
  unfold boolsO
  congr 2
  apply Array.ext'
  simp [List.map_set]
/-! ### the walk -/
set_option maxRecDepth 100000 in
set_option maxHeartbeats 8000000 in
theorem refLevels_any {u w : World} {sv : Value} {s : Ip.Sch} (h : RoSch u sv s) (hu : Kp u w) (hS : Ck.Small s) (deep : Nat) (hd : deep ≤ 1000) : Calls Tryz.prog 96 #[sv, .int .i64 (deep : Nat)] w fun e w' => ∃ b, e = .returned (.slice (some ⟨b, 0, none⟩) s.records.length s.records.length) ∧ w'.heap[b]? = some (boolsO (Ck.lvl s (deep + 1))) ∧ Below w.heap.size w w' := by
  obtain ⟨p1, c1, p2, c2, p3, c3, rfl, -, hr, -, -, l1, l2, l3⟩ := sch_parts h
  obtain ⟨W0, hW0⟩ : ∃ W0, W0 = allocs w [schO s p1 c1 p2 c2 p3 c3] := ⟨_, rfl⟩
  have HX : Hid (∀ W, Below W0.heap.size W0 W → W.heap[w.heap.size]? = some (schO s p1 c1 p2 c2 p3 c3) ∧ Below w.heap.size w W) := Lib.hid (by subst hW0; exact fun W hW => ⟨allocs_box (i := 0) rfl hW, allocs_on hW⟩)
  obtain ⟨b0, B0⟩ := HX.out W0 (Below.refl _ _)
  obtain ⟨x0, x1, x2, x3⟩ := cells4' b0
  have HU := Lib.hid (hu.below B0)
  have HR := Lib.hid hr
  have HSF : Hid (∀ r ∈ s.records, r.fields.length ≤ 40) := Lib.hid fun r hr => (hS.r r hr).2.1
  have m1 : s.records.length ≤ 100 := hS.nr
  have HMK : Hid (∀ W : World, (Instr.makeSlice 133 (.int .i64 (s.records.length : Int)) (.int .i64 (s.records.length : Int))).run Tryz.prog W = .ok (.slice (some ⟨W.heap.size, 0, none⟩) s.records.length s.records.length) (W.alloc (boolsO (List.replicate s.records.length false)))) := Lib.hid fun W => make_bools _ (by omega) W
  obtain ⟨V0, hV0⟩ : ∃ V, V = W0.alloc (boolsO (List.replicate s.records.length false)) := ⟨_, rfl⟩
  have HV0 : Hid (V0.heap[W0.heap.size]? = some (boolsO (Ck.lvl s 0))) := Lib.hid (by
    rw [hV0, heap_alloc_new]
    unfold Ck.lvl
    rw [List.map_const'])
  have HBV0 : Hid (Below W0.heap.size W0 V0) := Lib.hid (by rw [hV0]; exact tk_alloc W0 _)
  have hmk := HMK.out W0
  clear h hu hS hr b0 B0 l1 l2 l3
  simp only [allocs, schO] at hW0
  go_enter Tryz.func96, Tryz.ntmps96
  go_upto_region 1 with fail
  rw [← hW0]
  clear hW0
  go_upto_region 2 with fail
  rw [← hV0]
  clear hV0 hmk x0 x1 x2 x3
  go_wp2_with fail
  go_loopw [5, 6, 7, 8, 9, 10, 11, 12, 13, 14, 15] (fun lv kv _ _ _ _ _ _ _ _ _ wr => ∃ k b : Nat, k ≤ deep + 1 ∧ lv = .slice (some ⟨b, 0, none⟩) s.records.length s.records.length ∧ kv = .int .i64 (k : Nat) ∧ Hid (wr.heap[b]? = some (boolsO (Ck.lvl s k)) ∧ Below W0.heap.size W0 wr)) (fun _ kv _ _ _ _ _ _ _ _ _ _ => deep + 1 - (intOf kv).toNat)
  case atStart => exact ⟨0, _, Nat.zero_le _, rfl, rfl, Lib.hid ⟨HV0.out, HBV0.out⟩⟩
  case round =>
  obtain ⟨k, b, hk, rfl, rfl, HQ⟩ := hrel
  by_cases hlt : k ≤ deep
  · have i1 : (k : Int) ≤ (deep : Int) := by omega
    have hk0 : k ≤ 1000 := by omega
    have hmk := HMK.out wr
    obtain ⟨z, hz⟩ : ∃ z, z = wr.heap.size := ⟨_, rfl⟩
    obtain ⟨W1, hW1⟩ : ∃ V, V = wr.alloc (boolsO (List.replicate s.records.length false)) := ⟨_, rfl⟩
    have HM1 : Hid (W1.heap[z]? = some (boolsO (Ck.mid s k 0))) := Lib.hid (by rw [hW1, hz, heap_alloc_new, Ck.mid_zero])
    have HB1 : Hid (Below z wr W1) := Lib.hid (by rw [hW1, hz]; exact tk_alloc wr _)
    have HLB : Hid (b < z) := Lib.hid (by rw [hz]; exact (Array.getElem?_eq_some_iff.1 HQ.out.1).1)
    have HL1 : Hid (W1.heap[b]? = some (boolsO (Ck.lvl s k))) := Lib.hid ((HB1.out.block _ HLB.out).trans HQ.out.1)
    have HZ0 : Hid (W0.heap.size ≤ z) := Lib.hid (by rw [hz]; exact HQ.out.2.size)
    have HBW1 : Hid (Below W0.heap.size W0 W1) := Lib.hid (HQ.out.2.trans (HB1.out.mono HZ0.out))
    go_upto_region 6 with fail
    rw [← hW1, ← hz]
    clear hW1 hmk HQ HB1 hz
    go_wp2_with fail
    go_loopw [8, 9, 10, 11, 12, 13, 14, 15] (fun iv _ _ _ _ _ _ _ wq => ∃ i : Nat, i ≤ s.records.length ∧ iv = .int .i64 (i : Nat) ∧ Hid (wq.heap[z]? = some (boolsO (Ck.mid s k i)) ∧ Below z W1 wq)) (fun iv _ _ _ _ _ _ _ _ => s.records.length - (intOf iv).toNat)
    case atStart => exact ⟨0, Nat.zero_le _, rfl, Lib.hid ⟨HM1.out, Below.refl _ _⟩⟩
    case round =>
    obtain ⟨i, hi, rfl, HJ⟩ := hrel
    have HBQ : Hid (Below W0.heap.size W0 wr) := Lib.hid (HBW1.out.trans (HJ.out.2.mono HZ0.out))
    by_cases hli : i < s.records.length
    · obtain ⟨x0, x1, x2, x3⟩ := cells4' (HX.out _ HBQ.out).1
      have j1 : (i : Int) < (s.records.length : Int) := by omega
      have j2 : (0 : Int) ≤ (i : Int) := by omega
      obtain ⟨A, cc, p, kq, e3, hA, d0, d1, d2, hin, hsub⟩ := rcd_at2 HR.out (HU.out.below HBQ.out) hli
      cases e3
      obtain ⟨_, _, e9, hsl⟩ := ro_len hsub
      cases e9
      have HSUB := Lib.hid hsub
      have HSM := Lib.hid (HSF.out _ (List.getElem_mem hli))
      have HMS := Lib.hid (Ck.mid_set s k hli)
      clear hsub hin hA
      generalize s.records[i] = r at *
      obtain ⟨y, hy⟩ : ∃ y, y = wr.heap.size := ⟨_, rfl⟩
      obtain ⟨W2, hW2⟩ : ∃ V, V = wr.alloc (.cells #[.string r.name, .bool r.choice, .slice p r.fields.length kq] 34) := ⟨_, rfl⟩
      have HN2 : Hid (W2.heap[y]? = some (.cells #[.string r.name, .bool r.choice, .slice p r.fields.length kq] 34 (0, 0))) := Lib.hid (by rw [hW2, hy]; exact heap_alloc_new wr _)
      have HA2 : Hid (Below wr.heap.size wr W2) := Lib.hid (by rw [hW2]; exact tk_alloc wr _)
      have HM2 : Hid (W2.heap[z]? = some (boolsO (Ck.mid s k i))) := Lib.hid (box_keep HA2.out HJ.out.1)
      have HB2 : Hid (Below z W1 W2) := Lib.hid (HJ.out.2.trans (HA2.out.mono (Nat.le_of_lt (Array.getElem?_eq_some_iff.1 HJ.out.1).1)))
      have HBW2 : Hid (Below W0.heap.size W0 W2) := Lib.hid (HBW1.out.trans (HB2.out.mono HZ0.out))
      have HL2 : Hid (W2.heap[b]? = some (boolsO (Ck.lvl s k))) := Lib.hid ((HB2.out.block _ HLB.out).trans HL1.out)
      go_upto_region 10 with fail
      rw [← hW2, ← hy]
      clear hW2 hy x0 x1 x2 x3 d0 d1 d2 HA2 HBQ HJ
      go_wp2_with fail
      go_loopw [10, 11, 12, 13, 14, 15] (fun av ev jv _ _ _ wj => ∃ j : Nat, j ≤ r.fields.length ∧ av = .bool (Ck.anyH (Ck.lv s k) (r.fields.take j)) ∧ ev = .bool (Ck.allH (Ck.lv s k) (r.fields.take j)) ∧ jv = .int .i64 (j : Nat) ∧ Hid (Below W2.heap.size W2 wj)) (fun _ _ jv _ _ _ _ => r.fields.length - (intOf jv).toNat)
      case atStart => exact ⟨0, Nat.zero_le _, rfl, rfl, rfl, Lib.hid (Below.refl _ _)⟩
      case round =>
      obtain ⟨j, hj, rfl, rfl, rfl, HBJ⟩ := hrel
      obtain ⟨y0, y1, y2⟩ := cells3 (box_keep HBJ.out HN2.out)
      have HKJ := Lib.hid (HU.out.below (HBW2.out.trans (HBJ.out.mono HBW2.out.size)))
      by_cases hlj : j < r.fields.length
      · have q1 : (j : Int) < (r.fields.length : Int) := by omega
        have q2 : (0 : Int) ≤ (j : Int) := by omega
        obtain ⟨B, cb, pp, kp, e5, hB, g0, g1, hpin, hss, hss2⟩ := fld_at (HSUB.out.kp HKJ.out) hlj
        cases e5
        have HSO := Lib.hid hss
        have HA := Lib.hid (Ck.anyH_at (Ck.lv s k) hlj)
        have HE := Lib.hid (Ck.allH_at (Ck.lv s k) hlj)
        clear hB hpin hss
        generalize r.fields[j] = f at *
        generalize Ck.anyH (Ck.lv s k) (r.fields.take j) = sm at *
        generalize Ck.allH (Ck.lv s k) (r.fields.take j) = ev at *
        clear g0
        obtain ⟨fn, ft⟩ := f
        simp only at *
        cases ft with
        | nil =>
          have HB : Hid (Ck.has (Ck.lv s k) [] = false) := Lib.hid rfl
          have HA2 : Hid (Ck.anyH (Ck.lv s k) (r.fields.take (j + 1)) = (sm || false)) := Lib.hid (by rw [HA.out, HB.out])
          have HE2 : Hid (Ck.allH (Ck.lv s k) (r.fields.take (j + 1)) = (ev && false)) := Lib.hid (by rw [HE.out, HB.out])
          cases sm with
          | false =>
            cases ev with
            | false =>
              go_wp2_with fail
              go_roundw
              case rel => exact ⟨j + 1, by omega, by rw [HA2.out]; rfl, by rw [HE2.out]; rfl, by go_num, HBJ⟩
              case measure => simp [intOf]; omega
            | true =>
              go_wp2_with fail
              go_roundw
              case rel => exact ⟨j + 1, by omega, by rw [HA2.out]; rfl, by rw [HE2.out]; rfl, by go_num, HBJ⟩
              case measure => simp [intOf]; omega
          | true =>
            cases ev with
            | false =>
              go_wp2_with fail
              go_roundw
              case rel => exact ⟨j + 1, by omega, by rw [HA2.out]; rfl, by rw [HE2.out]; rfl, by go_num, HBJ⟩
              case measure => simp [intOf]; omega
            | true =>
              go_wp2_with fail
              go_roundw
              case rel => exact ⟨j + 1, by omega, by rw [HA2.out]; rfl, by rw [HE2.out]; rfl, by go_num, HBJ⟩
              case measure => simp [intOf]; omega

        | cons x l =>
          obtain ⟨C, c3, e3, hC, h0, h1, hin⟩ := so_at (i := 0) HSO.out (by simp)
          cases e3
          have hx0 : (0 : Int) < ((x :: l).length : Int) := by simp
          have h0' : wr.cell? C = some (.int .u8 (x.kind : Nat)) := by have := h0; unfold Addr.add at this; simpa using this
          by_cases e7 : x.kind = 7
          · have hk7 : ((x.kind : Int) == 7) = true := by rw [beq_iff_eq]; omega
            have HHS : Hid (Ck.has (Ck.lv s k) (x :: l) = Ck.lv s k x.name) := Lib.hid (by show (if x.kind = 7 then Ck.lv s k x.name else true) = _; rw [if_pos e7])
            have HX0 := Lib.hid (Ck.look_lvl s x.name k)
            have HWJ : Hid (Below W0.heap.size W0 wr) := Lib.hid (HBW2.out.trans (HBJ.out.mono HBW2.out.size))
            have HLJ : Hid (wr.heap[b]? = some (boolsO (Ck.lvl s k))) := Lib.hid (box_keep HBJ.out HL2.out)
            have HC1 := Lib.hid h1
            have HLL := Lib.hid (Ck.lvl_len s k)
            clear h1 hin hC y0 y1 q2
            go_wp2_with fail
            clear h0 h0' y2 g1
            generalize wr = W3 at *
            go_loopw [14, 15] (fun ov xv wx => ∃ x0 : Nat, x0 ≤ s.records.length ∧ ov = .bool false ∧ xv = .int .i64 (x0 : Nat) ∧ Hid (Below W3.heap.size W3 wx ∧ Ck.look s.records (Ck.lvl s k) x.name = match ((s.records.zip (Ck.lvl s k)).drop x0).find? (fun p => Ip.eqB p.1.name x.name) with
              | some p => p.2
              | none => false)) (fun _ xv _ => s.records.length - (intOf xv).toNat)
            case atStart => exact ⟨0, Nat.zero_le _, rfl, rfl, Lib.hid ⟨Below.refl _ _, by rw [List.drop_zero]; rfl⟩⟩
            case round =>
            obtain ⟨q, hq, rfl, rfl, HF⟩ := hrel
            have HBJ : Hid (Below W2.heap.size W2 wr) := Lib.hid (HBJ.out.trans (HF.out.1.mono HBJ.out.size))
            by_cases hlx : q < s.records.length
            · have r1 : (q : Int) < (s.records.length : Int) := by omega
              have r2 : (0 : Int) ≤ (q : Int) := by omega
              have HZW : Hid (Below W0.heap.size W0 wr) := Lib.hid (HWJ.out.trans (HF.out.1.mono HWJ.out.size))
              obtain ⟨x0, x1, x2, x3⟩ := cells4' (HX.out _ HZW.out).1
              obtain ⟨A, cc, pq, kq2, e3, hA, d0, d1, d2, hin, hsub⟩ := rcd_at2 HR.out (HU.out.below HZW.out) hlx
              cases e3
              have hll : q < (Ck.lvl s k).length := by rw [HLL.out]; exact hlx
              have hzl : q < (s.records.zip (Ck.lvl s k)).length := by rw [List.length_zip, HLL.out]; omega
              have HLX : Hid (wr.cell? ⟨b, q, none⟩ = some (.bool (Ck.lvl s k)[q])) := Lib.hid (bools_at (box_keep HF.out.1 HLJ.out) hll)
              have HZE : Hid ((s.records.zip (Ck.lvl s k))[q] = (s.records[q], (Ck.lvl s k)[q])) := Lib.hid (List.getElem_zip ..)
              have HYE : Hid (Ip.eqB s.records[q].name x.name = true → Ck.look s.records (Ck.lvl s k) x.name = (Ck.lvl s k)[q]) := Lib.hid fun hy => by
                rw [HF.out.2, Ck.find_at hzl (by rw [HZE.out]; exact hy), HZE.out]
              have HNE : Hid (Ip.eqB s.records[q].name x.name = false → Ck.look s.records (Ck.lvl s k) x.name = match ((s.records.zip (Ck.lvl s k)).drop (q + 1)).find? (fun p => Ip.eqB p.1.name x.name) with
                | some p => p.2
                | none => false) := Lib.hid fun hy => by rw [HF.out.2, Ck.find_no hzl (by rw [HZE.out]; exact hy)]
              have hn1 : wr.cell? ⟨C.block, C.off + 1, none⟩ = some (.string x.name) := by
                have h1 := HC1.out
                rw [show C.add (0 * 2) = C by unfold Addr.add; simp] at h1
                exact (HF.out.1.cell (tcell_block h1)).trans h1
              have hn2 : wr.cell? ⟨(C.add 0).block, (C.add 0).off + 1, none⟩ = some (.string x.name) := hn1
              clear HZE hzl hsub hin hA d1 d2
              generalize s.records[q] = z2 at *
              generalize (Ck.lvl s k)[q] = bx at *
              have hd0 := d0
              have ha := eqB_list z2.name x.name
              cases qa : Ip.eqB z2.name x.name with
              | true =>
                rw [qa] at ha
                have HB : Hid (Ck.has (Ck.lv s k) (x :: l) = bx) := Lib.hid (by rw [HHS.out, ← HX0.out, HYE.out qa])
                clear qa
                go_wp2_with fail
                go_quiet (fail)
                have hbx := HLX.out
                cases bx with
                | false =>
                  have HA2 : Hid (Ck.anyH (Ck.lv s k) (r.fields.take (j + 1)) = (sm || false)) := Lib.hid (by rw [HA.out, HB.out])
                  have HE2 : Hid (Ck.allH (Ck.lv s k) (r.fields.take (j + 1)) = (ev && false)) := Lib.hid (by rw [HE.out, HB.out])
                  cases sm with
                  | false =>
                    cases ev with
                    | false =>
                      go_wp2_with fail
                      go_roundw
                      case rel => exact ⟨j + 1, by omega, by rw [HA2.out]; rfl, by rw [HE2.out]; rfl, by go_num, Lib.hid (HBJ.out.trans ((dn_below wr _).mono HBJ.out.size))⟩
                      case measure => simp [intOf]; omega
                    | true =>
                      go_wp2_with fail
                      go_roundw
                      case rel => exact ⟨j + 1, by omega, by rw [HA2.out]; rfl, by rw [HE2.out]; rfl, by go_num, Lib.hid (HBJ.out.trans ((dn_below wr _).mono HBJ.out.size))⟩
                      case measure => simp [intOf]; omega
                  | true =>
                    cases ev with
                    | false =>
                      go_wp2_with fail
                      go_roundw
                      case rel => exact ⟨j + 1, by omega, by rw [HA2.out]; rfl, by rw [HE2.out]; rfl, by go_num, Lib.hid (HBJ.out.trans ((dn_below wr _).mono HBJ.out.size))⟩
                      case measure => simp [intOf]; omega
                    | true =>
                      go_wp2_with fail
                      go_roundw
                      case rel => exact ⟨j + 1, by omega, by rw [HA2.out]; rfl, by rw [HE2.out]; rfl, by go_num, Lib.hid (HBJ.out.trans ((dn_below wr _).mono HBJ.out.size))⟩
                      case measure => simp [intOf]; omega
                | true =>
                  have HA2 : Hid (Ck.anyH (Ck.lv s k) (r.fields.take (j + 1)) = (sm || true)) := Lib.hid (by rw [HA.out, HB.out])
                  have HE2 : Hid (Ck.allH (Ck.lv s k) (r.fields.take (j + 1)) = (ev && true)) := Lib.hid (by rw [HE.out, HB.out])
                  cases sm with
                  | false =>
                    cases ev with
                    | false =>
                      go_wp2_with fail
                      go_roundw
                      case rel => exact ⟨j + 1, by omega, by rw [HA2.out]; rfl, by rw [HE2.out]; rfl, by go_num, Lib.hid (HBJ.out.trans ((dn_below wr _).mono HBJ.out.size))⟩
                      case measure => simp [intOf]; omega
                    | true =>
                      go_wp2_with fail
                      go_roundw
                      case rel => exact ⟨j + 1, by omega, by rw [HA2.out]; rfl, by rw [HE2.out]; rfl, by go_num, Lib.hid (HBJ.out.trans ((dn_below wr _).mono HBJ.out.size))⟩
                      case measure => simp [intOf]; omega
                  | true =>
                    cases ev with
                    | false =>
                      go_wp2_with fail
                      go_roundw
                      case rel => exact ⟨j + 1, by omega, by rw [HA2.out]; rfl, by rw [HE2.out]; rfl, by go_num, Lib.hid (HBJ.out.trans ((dn_below wr _).mono HBJ.out.size))⟩
                      case measure => simp [intOf]; omega
                    | true =>
                      go_wp2_with fail
                      go_roundw
                      case rel => exact ⟨j + 1, by omega, by rw [HA2.out]; rfl, by rw [HE2.out]; rfl, by go_num, Lib.hid (HBJ.out.trans ((dn_below wr _).mono HBJ.out.size))⟩
                      case measure => simp [intOf]; omega

              | false =>
                rw [qa] at ha
                have HO := Lib.hid (HNE.out qa)
                clear qa
                go_wp2_with fail
                go_quiet (fail)
                go_wp2_with fail
                go_roundw
                case rel => exact ⟨q + 1, by omega, rfl, by go_num, Lib.hid ⟨HF.out.1.trans ((dn_below wr _).mono HF.out.1.size), HO.out⟩⟩
                case measure => simp [intOf]; omega
            · obtain rfl : q = s.records.length := by omega
              have r1 : ¬ (s.records.length : Int) < (s.records.length : Int) := by omega
              have HB : Hid (Ck.has (Ck.lv s k) (x :: l) = false) := Lib.hid (by rw [HHS.out, ← HX0.out, HF.out.2, Ck.find_end (by rw [List.length_zip, HLL.out]; omega)])
              have HA2 : Hid (Ck.anyH (Ck.lv s k) (r.fields.take (j + 1)) = (sm || false)) := Lib.hid (by rw [HA.out, HB.out])
              have HE2 : Hid (Ck.allH (Ck.lv s k) (r.fields.take (j + 1)) = (ev && false)) := Lib.hid (by rw [HE.out, HB.out])
              cases sm with
              | false =>
                cases ev with
                | false =>
                  go_wp2_with fail
                  go_roundw
                  case rel => exact ⟨j + 1, by omega, by rw [HA2.out]; rfl, by rw [HE2.out]; rfl, by go_num, HBJ⟩
                  case measure => simp [intOf]; omega
                | true =>
                  go_wp2_with fail
                  go_roundw
                  case rel => exact ⟨j + 1, by omega, by rw [HA2.out]; rfl, by rw [HE2.out]; rfl, by go_num, HBJ⟩
                  case measure => simp [intOf]; omega
              | true =>
                cases ev with
                | false =>
                  go_wp2_with fail
                  go_roundw
                  case rel => exact ⟨j + 1, by omega, by rw [HA2.out]; rfl, by rw [HE2.out]; rfl, by go_num, HBJ⟩
                  case measure => simp [intOf]; omega
                | true =>
                  go_wp2_with fail
                  go_roundw
                  case rel => exact ⟨j + 1, by omega, by rw [HA2.out]; rfl, by rw [HE2.out]; rfl, by go_num, HBJ⟩
                  case measure => simp [intOf]; omega

          · have hk7 : ((x.kind : Int) == 7) = false := by rw [beq_eq_false_iff_ne]; omega
            have HB : Hid (Ck.has (Ck.lv s k) (x :: l) = true) := Lib.hid (by show (if x.kind = 7 then Ck.lv s k x.name else true) = _; rw [if_neg e7])
            have HA2 : Hid (Ck.anyH (Ck.lv s k) (r.fields.take (j + 1)) = (sm || true)) := Lib.hid (by rw [HA.out, HB.out])
            have HE2 : Hid (Ck.allH (Ck.lv s k) (r.fields.take (j + 1)) = (ev && true)) := Lib.hid (by rw [HE.out, HB.out])
            cases sm with
            | false =>
              cases ev with
              | false =>
                go_wp2_with fail
                go_roundw
                case rel => exact ⟨j + 1, by omega, by rw [HA2.out]; rfl, by rw [HE2.out]; rfl, by go_num, HBJ⟩
                case measure => simp [intOf]; omega
              | true =>
                go_wp2_with fail
                go_roundw
                case rel => exact ⟨j + 1, by omega, by rw [HA2.out]; rfl, by rw [HE2.out]; rfl, by go_num, HBJ⟩
                case measure => simp [intOf]; omega
            | true =>
              cases ev with
              | false =>
                go_wp2_with fail
                go_roundw
                case rel => exact ⟨j + 1, by omega, by rw [HA2.out]; rfl, by rw [HE2.out]; rfl, by go_num, HBJ⟩
                case measure => simp [intOf]; omega
              | true =>
                go_wp2_with fail
                go_roundw
                case rel => exact ⟨j + 1, by omega, by rw [HA2.out]; rfl, by rw [HE2.out]; rfl, by go_num, HBJ⟩
                case measure => simp [intOf]; omega

      · obtain rfl : j = r.fields.length := by omega
        have q1 : ¬ (r.fields.length : Int) < (r.fields.length : Int) := by omega
        obtain ⟨sm, hsm⟩ : ∃ x, x = Ck.anyH (Ck.lv s k) (r.fields.take r.fields.length) := ⟨_, rfl⟩
        obtain ⟨ev, hev⟩ : ∃ x, x = Ck.allH (Ck.lv s k) (r.fields.take r.fields.length) := ⟨_, rfl⟩
        rw [← hsm, ← hev]
        have HG : Hid (Ck.got (Ck.lv s k) r = if r.choice then sm else ev) := Lib.hid (by rw [hsm, hev, List.take_length]; exact Ck.got_is _ _)
        have HMJ : Hid (wr.heap[z]? = some (boolsO (Ck.mid s k i))) := Lib.hid (box_keep HBJ.out HM2.out)
        have HBZ : Hid (Below z W1 wr) := Lib.hid (HB2.out.trans (HBJ.out.mono (Nat.le_of_lt (Array.getElem?_eq_some_iff.1 HM2.out).1)))
        have hlm : i < (Ck.mid s k i).length := by rw [Ck.mid_len s k hi]; exact hli
        have hcm := bools_at HMJ.out hlm
        have hfm := frozen2 HMJ.out i
        clear hsm hev y0
        generalize (Ck.mid s k i)[i] = old at hcm
        clear hlm
        cases hc : r.choice with
        | true =>
          rw [hc] at y1 HG
          clear hc
          cases sm with
          | true =>
            go_wp2_with fail
            go_roundw
            case rel => exact ⟨i + 1, by omega, by go_num, Lib.hid ⟨by rw [← HMS.out, HG.out]; exact bools_set HMJ.out i _, HBZ.out.setCell (Nat.le_refl _) _⟩⟩
            case measure => simp [intOf]; omega
          | false =>
            go_wp2_with fail
            go_roundw
            case rel => exact ⟨i + 1, by omega, by go_num, Lib.hid ⟨by rw [← HMS.out, HG.out]; exact bools_set HMJ.out i _, HBZ.out.setCell (Nat.le_refl _) _⟩⟩
            case measure => simp [intOf]; omega
        | false =>
          rw [hc] at y1 HG
          clear hc
          go_wp2_with fail
          go_roundw
          case rel => exact ⟨i + 1, by omega, by go_num, Lib.hid ⟨by rw [← HMS.out, HG.out]; exact bools_set HMJ.out i _, HBZ.out.setCell (Nat.le_refl _) _⟩⟩
          case measure => simp [intOf]; omega
    · obtain rfl : i = s.records.length := by omega
      have j1 : ¬ (s.records.length : Int) < (s.records.length : Int) := by omega
      have HE : Hid (wr.heap[z]? = some (boolsO (Ck.lvl s (k + 1)))) := Lib.hid (by rw [← Ck.mid_end]; exact HJ.out.1)
      go_wp2_with fail
      go_roundw
      case rel => exact ⟨k + 1, z, by omega, rfl, by go_num, Lib.hid ⟨HE.out, HBQ.out⟩⟩
      case measure => simp [intOf]; omega
  · obtain rfl : k = deep + 1 := by omega
    have i1 : ¬ ((deep + 1 : Nat) : Int) ≤ (deep : Int) := by omega
    go_wp2_with fail
    go_ret
    exact ⟨b, rfl, HQ.out.1, (HX.out _ HQ.out.2).2⟩
end Go.Proofs.YtnkdhmoocomjfaaGreatDoor
set_option linter.unusedSimpArgs false
set_option linter.unusedVariables false
namespace Go.Proofs.YtnkdhmoocomjfaaGreatDoor
open Go.RowKit
theorem one_text (W : World) (b : Nat) (x : UInt8) (c : Nat) (h : W.cell? ⟨b, 0, none⟩ = some (.int .u8 (x.toNat : Int))) :
    (convert 88 9 (.slice (some ⟨b, 0, none⟩) 1 c)).run Tryz.prog W = .ok (.string ⟨#[x]⟩) W := by
  have h := run_convert_bytes_back (P := Tryz.prog) W 88 9 5 ⟨b, 0, none⟩ c [x] Tryz.underlying88 Tryz.underlying5 Tryz.underlying9 (fun j hj => by
    obtain rfl : j = 0 := by simpa using hj
    exact h)
  exact h
set_option maxRecDepth 100000 in
set_option maxHeartbeats 4000000 in
theorem refNum_any (k : Nat) (hk : k < 10) (w : World) : Calls Tryz.prog 100 #[.int .i64 (k : Nat)] w fun e w' => e = .returned (.string (Ck.num k)) ∧ Below w.heap.size w w' := by
  obtain ⟨x, hx, hxn⟩ : ∃ x : UInt8, (x.toNat : Int) = 48 + (k : Int) ∧ Ck.num k = ⟨#[x]⟩ := by
    have h : ∀ k : Nat, k < 10 → ∃ x : UInt8, (x.toNat : Int) = 48 + (k : Int) ∧ Ck.num k = ⟨#[x]⟩ := by
      intro k hk
      obtain rfl | rfl | rfl | rfl | rfl | rfl | rfl | rfl | rfl | rfl : k = 0 ∨ k = 1 ∨ k = 2 ∨ k = 3 ∨ k = 4 ∨ k = 5 ∨ k = 6 ∨ k = 7 ∨ k = 8 ∨ k = 9 := by omega
      · exact ⟨48, by decide, by decide⟩
      · exact ⟨49, by decide, by decide⟩
      · exact ⟨50, by decide, by decide⟩
      · exact ⟨51, by decide, by decide⟩
      · exact ⟨52, by decide, by decide⟩
      · exact ⟨53, by decide, by decide⟩
      · exact ⟨54, by decide, by decide⟩
      · exact ⟨55, by decide, by decide⟩
      · exact ⟨56, by decide, by decide⟩
      · exact ⟨57, by decide, by decide⟩
    exact h k hk
  rw [hxn]
  have i1 : (k : Int).tmod 10 = (k : Int) := Int.tmod_eq_of_lt (by omega) (by omega)
  have i2 : ¬ (9 : Int) < (k : Int) := by omega
  have hcv := one_text (w.alloc (.cells #[.int .u8 (48 + (k : Int))] 5)) w.heap.size x 1 (by rw [cell_of_row _ _ _ _ _ _ (heap_alloc_new w _), ← hx]; rfl)
  clear hx hxn
  go_enter Tryz.func100, Tryz.ntmps100
  go_wp2_with fail
  go_loopw [0, 3] (fun nv sv wr => nv = .int .i64 (k : Nat) ∧ sv = .string ⟨#[x]⟩ ∧ Hid (Below w.heap.size w wr)) (fun _ _ _ => 0)
  case atStart => exact ⟨rfl, rfl, Lib.hid (tk_alloc w _)⟩
  case round =>
    obtain ⟨rfl, rfl, HB⟩ := hrel
    go_wp2_with fail
    go_ret
    exact ⟨rfl, HB.out⟩
end Go.Proofs.YtnkdhmoocomjfaaGreatDoor
set_option linter.unusedSimpArgs false
set_option linter.unusedVariables false
namespace Ck
open Ip
def bR (s : Sch) (r : Rcd) : Option ByteArray := if got (fin s) r then none else some r.name
theorem bR_yes {s : Sch} {r : Rcd} (h : got (fin s) r = true) : bR s r = none := by unfold bR; rw [if_pos h]
theorem bR_no {s : Sch} {r : Rcd} (h : got (fin s) r = false) : bR s r = some r.name := by unfold bR; rw [if_neg (by rw [h]; decide)]
theorem bottoms_is {s : Sch} (h : doubles s = none) : s.records.findSome? (bR s) = bottoms s := by
  unfold bottoms
  have key : ∀ r ∈ s.records, bR s r = (if fin s r.name then none else some r.name) := fun r hr => by
    have hf : find s r.name = some r := find_self (fun r : Rcd => r.name) s.records (nodup_recs h) r hr
    have e : fin s r.name = got (fin s) r := by
      have := congrFun (fin_fn s) r.name
      rw [← this]
      unfold fn
      rw [hf]
    unfold bR
    rw [e]
  have key2 : ∀ {l : List Rcd}, (∀ r ∈ l, bR s r = (if fin s r.name then none else some r.name)) → l.findSome? (bR s) = l.findSome? fun r => if fin s r.name then none else some r.name := by
    intro l hl
    induction l with
    | nil => rfl
    | cons a l ih =>
      rw [List.findSome?_cons, List.findSome?_cons, hl a List.mem_cons_self, ih fun r hr => hl r (List.mem_cons_of_mem _ hr)]
  exact key2 key
end Ck
namespace Go.Proofs.YtnkdhmoocomjfaaGreatDoor
open Go.RowKit
set_option maxRecDepth 100000 in
set_option maxHeartbeats 8000000 in
theorem refRecords5_any {u w : World} {sv : Value} {s : Ip.Sch} (h : RoSch u sv s) (hu : Kp u w) (hS : Ck.Small s) : Calls Tryz.prog 48 #[sv, .int .i64 5] w (RuleR (s.records.findSome? (Ck.bR s)) w) := by
  obtain ⟨p1, c1, p2, c2, p3, c3, rfl, -, hr, -, -, l1, l2, l3⟩ := sch_parts h
  obtain ⟨W0, hW0⟩ : ∃ W0, W0 = allocs w [schO s p1 c1 p2 c2 p3 c3] := ⟨_, rfl⟩
  have HX : Hid (∀ W, Below W0.heap.size W0 W → W.heap[w.heap.size]? = some (schO s p1 c1 p2 c2 p3 c3) ∧ Below w.heap.size w W) := Lib.hid (by subst hW0; exact fun W hW => ⟨allocs_box (i := 0) rfl hW, allocs_on hW⟩)
  obtain ⟨b0, B0⟩ := HX.out W0 (Below.refl _ _)
  obtain ⟨x0, x1, x2, x3⟩ := cells4' b0
  have H := Lib.hid h
  have HU := Lib.hid (hu.below B0)
  have HR := Lib.hid hr
  have HSM := Lib.hid hS
  have m1 : s.records.length ≤ 100 := hS.nr
  have HLV := Lib.hid (refLevels_any H.out HU.out hS (s.records.length + 1) (by omega))
  clear h hu hS hr b0 B0 l1 l2 l3
  simp only [allocs, schO] at hW0
  go_enter Tryz.func48, Tryz.ntmps48
  go_upto_region 1 with fail
  rw [← hW0]
  clear hW0
  go_wp2_with fail
  refine Calls.mono HLV.out ?_
  rintro e w2 ⟨b, rfl, hl, hb2⟩
  have HB2 := Lib.hid hb2
  rw [Ck.lvl_end] at hl
  have HL := Lib.hid hl
  clear hb2 hl x0 x1 x2 x3 HLV
  go_wp2_with fail
  go_loopw [7, 8, 9] (fun iv _ _ wr => ∃ i : Nat, i ≤ s.records.length ∧ iv = .int .i64 (i : Nat) ∧ Hid (Below w2.heap.size w2 wr ∧ s.records.findSome? (Ck.bR s) = (s.records.drop i).findSome? (Ck.bR s))) (fun iv _ _ _ => s.records.length - (intOf iv).toNat)
  case atStart => exact ⟨0, Nat.zero_le _, rfl, Lib.hid ⟨Below.refl _ _, by rw [List.drop_zero]⟩⟩
  case round =>
  obtain ⟨i, hi, rfl, HQ⟩ := hrel
  have HBQ : Hid (Below W0.heap.size W0 wr) := Lib.hid (HB2.out.trans (HQ.out.1.mono HB2.out.size))
  obtain ⟨x0, x1, x2, x3⟩ := cells4' (HX.out _ HBQ.out).1
  by_cases hlt : i < s.records.length
  · have i1 : (i : Int) < (s.records.length : Int) := by omega
    have i2 : (0 : Int) ≤ (i : Int) := by omega
    obtain ⟨A, cc, p, kq, e3, hA, d0, d1, d2, hin, hsub⟩ := rcd_at2 HR.out (HU.out.below HBQ.out) hlt
    cases e3
    have hll : i < (s.records.map (Ck.got (Ck.fin s))).length := by rw [List.length_map]; exact hlt
    have HLX := Lib.hid (bools_at HL.out hll)
    rw [List.getElem_map] at HLX
    have HY : Hid (∀ y, Ck.bR s s.records[i] = some y → s.records.findSome? (Ck.bR s) = some y) := Lib.hid fun y hy => HQ.out.2.trans (Ck.some_at hlt hy)
    have HN : Hid (Ck.bR s s.records[i] = none → s.records.findSome? (Ck.bR s) = (s.records.drop (i + 1)).findSome? (Ck.bR s)) := Lib.hid fun hy => HQ.out.2.trans (Ck.none_at hlt hy)
    clear hin hsub hA
    generalize s.records[i] = r at *
    obtain ⟨y, hy⟩ : ∃ y, y = wr.heap.size := ⟨_, rfl⟩
    obtain ⟨W1, hW1⟩ : ∃ W1, W1 = wr.alloc (.cells #[.string r.name, .bool r.choice, .slice p r.fields.length kq] 34) := ⟨_, rfl⟩
    have HN1 : Hid (W1.heap[y]? = some (.cells #[.string r.name, .bool r.choice, .slice p r.fields.length kq] 34 (0, 0))) := Lib.hid (by rw [hW1, hy]; exact heap_alloc_new wr _)
    have HB1 : Hid (Below w2.heap.size w2 W1) := Lib.hid (by rw [hW1]; exact HQ.out.1.trans ((tk_alloc wr _).mono HQ.out.1.size))
    have HBW1 : Hid (Below W0.heap.size W0 W1) := Lib.hid (HB2.out.trans (HB1.out.mono HB2.out.size))
    have hlx := (HB1.out.cell (tcell_block HLX.out)).trans HLX.out
    go_upto_region 8 with fail
    rw [← hW1, ← hy]
    clear hW1 hy x0 x1 x2 x3 d0 d1 d2
    obtain ⟨y0, y1, y2⟩ := cells3 HN1.out
    cases hg : Ck.got (Ck.fin s) r with
    | true =>
      rw [hg] at hlx
      have HO := Lib.hid (HN.out (Ck.bR_yes hg))
      clear hg
      go_wp2_with fail
      go_roundw
      case rel => exact ⟨i + 1, by omega, by go_num, Lib.hid ⟨HB1.out, HO.out⟩⟩
      case measure => simp [intOf]; omega
    | false =>
      rw [hg] at hlx
      have HO := Lib.hid (HY.out _ (Ck.bR_no hg))
      clear hg
      go_wp2_with fail
      go_ret2
      exact ruleR_some HO.out (HX.out _ HBW1.out).2
  · obtain rfl : i = s.records.length := by omega
    have i1 : ¬ (s.records.length : Int) < (s.records.length : Int) := by omega
    have HO := Lib.hid (HQ.out.2.trans (Ck.none_end (Nat.le_refl _)))
    clear hlt hi
    go_wp2_with fail
    go_ret2
    exact ruleR_none HO.out (HX.out _ HBQ.out).2
end Go.Proofs.YtnkdhmoocomjfaaGreatDoor
