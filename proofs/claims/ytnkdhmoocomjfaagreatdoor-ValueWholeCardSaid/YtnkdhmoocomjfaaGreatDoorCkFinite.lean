/-
  Walks over package check: what is finite: has, valueOf, value, finite. Conditions: those in the theorems.
-/
import Derived.Test.YtnkdhmoocomjfaaGreatDoorCkMap
set_option linter.unusedSimpArgs false
set_option linter.unusedVariables false
namespace Go.Proofs.YtnkdhmoocomjfaaGreatDoor
open Go.RowKit

set_option maxRecDepth 100000 in
set_option maxHeartbeats 1000000 in
theorem has_any {w : World} {b : Nat} {L : List ByteArray} (h : SetIs w b L) {x : ByteArray} (hx : x.size ≤ maxLen) : Calls Tryz.prog 129 #[.map (some b), .string x] w fun e w' => e = .returned (.bool (Ck.inB L x)) ∧ Below w.heap.size w w' := by
  have hl := h.look hx
  clear h hx
  go_enter Tryz.func129, Tryz.ntmps129
  go_wp2_with fail
  go_ret
  exact ⟨rfl, tk_alloc w _⟩
set_option maxRecDepth 100000 in
set_option maxHeartbeats 4000000 in
theorem valueOf_any {w : World} {b : Nat} {L : List ByteArray} {v : Value} {t : List Ip.So} (h : SetIs w b L) (ht : RoSo w v t) (hn : t ≠ []) : Calls Tryz.prog 183 #[.map (some b), v] w fun e w' => e = .returned (.bool (Ck.has (Ck.inB L) t)) ∧ Below w.heap.size w w' := by
  have hl : 0 < t.length := List.length_pos_iff.2 hn
  obtain ⟨A, c, rfl, hA, c0, c1, hin⟩ := so_at ht hl
  have i1 : (0 : Int) < (t.length : Int) := by omega
  have HT : Hid (Ck.has (Ck.inB L) t = if t[0].kind = 7 then Ck.inB L t[0].name else true) := Lib.hid (by
    cases t with
    | nil => exact absurd rfl hn
    | cons x l => rfl)
  generalize t[0] = x at c0 c1 hin HT
  obtain ⟨xk, xn⟩ := x
  have ha : A.add (0 * 2) = A := by unfold Addr.add; simp
  rw [ha] at c0 c1
  clear hl hn ht ha
  by_cases e7 : xk = 7
  · have i2 : ((xk : Int) != 7) = false := by rw [bne_eq_false_iff_eq]; omega
    have HQ : Hid (Ck.has (Ck.inB L) t = Ck.inB L xn) := Lib.hid (by rw [HT.out, if_pos e7])
    have HH := Lib.hid (has_any h hin.2)
    clear e7 h hin
    go_enter Tryz.func183, Tryz.ntmps183
    go_wp2_with fail
    refine HH.out.mono ?_
    rintro e w1 ⟨rfl, hb1⟩
    have HB := Lib.hid hb1
    clear hb1 c0 c1
    go_wp2_with fail
    go_ret
    exact ⟨by rw [HQ.out]; rfl, HB.out⟩
  · have i2 : ((xk : Int) != 7) = true := by rw [bne_iff_ne]; omega
    have HQ : Hid (Ck.has (Ck.inB L) t = true) := Lib.hid (by rw [HT.out, if_neg e7])
    clear e7 h hin
    go_enter Tryz.func183, Tryz.ntmps183
    go_wp2_with fail
    go_ret
    exact ⟨by rw [HQ.out]; rfl, Below.refl _ _⟩
set_option maxRecDepth 100000 in
set_option maxHeartbeats 4000000 in
theorem value_any {u w : World} {b : Nat} {L : List ByteArray} {rv : Value} {r : Ip.Rcd} (h : SetIs w b L) (hr : RcdV u rv r) (hu : Kp u w) (hn : ∀ f ∈ r.fields, f.type ≠ []) (hl : r.fields.length ≤ 1000) :
    Calls Tryz.prog 172 #[.map (some b), rv] w fun e w' => e = .returned (.bool (Ck.got (Ck.inB L) r)) ∧ Below w.heap.size w w' := by
  obtain ⟨p, c, rfl, -, hf⟩ := hr
  obtain ⟨W0, hW0⟩ : ∃ W0, W0 = allocs w [.cells #[.string r.name, .bool r.choice, .slice p r.fields.length c] 34] := ⟨_, rfl⟩
  have HX : Hid (∀ W, Below W0.heap.size W0 W → W.heap[w.heap.size]? = some (.cells #[.string r.name, .bool r.choice, .slice p r.fields.length c] 34 (0, 0)) ∧ Below w.heap.size w W) := Lib.hid (by subst hW0; exact fun W hW => ⟨allocs_box (i := 0) rfl hW, allocs_on hW⟩)
  obtain ⟨hb0, B0⟩ := HX.out W0 (Below.refl _ _)
  obtain ⟨x0, x1, x2⟩ := cells3 hb0
  have HS0 := Lib.hid (h.below B0)
  have HU0 := Lib.hid (hu.below B0)
  have HF := Lib.hid hf
  have HN := Lib.hid hn
  have HG := Lib.hid (Ck.got_withs (Ck.inB L) r)
  clear h hu hf hn hb0 B0
  simp only [allocs] at hW0
  go_enter Tryz.func172, Tryz.ntmps172
  go_upto_region 1 with fail
  rw [← hW0]
  clear hW0
  go_wp2_with fail
  clear x0 x1 x2
  go_loopw [5, 11] (fun nv kv wr => ∃ k q : Nat, k ≤ r.fields.length ∧ q ≤ k ∧ nv = .int .i64 (q : Nat) ∧ kv = .int .i64 (k : Nat) ∧ Hid (Below W0.heap.size W0 wr ∧ q = Ck.withs (Ck.inB L) (r.fields.take k))) (fun _ kv _ => r.fields.length - (intOf kv).toNat)
  case atStart => exact ⟨0, 0, Nat.zero_le _, Nat.le_refl _, rfl, rfl, Lib.hid ⟨Below.refl _ _, rfl⟩⟩
  case round =>
    obtain ⟨k, q, hk, hq, rfl, rfl, HR⟩ := hrel
    by_cases hlt : k < r.fields.length
    · have i1 : (k : Int) < (r.fields.length : Int) := by omega
      have i2 : (0 : Int) ≤ (k : Int) := by omega
      obtain ⟨A, cc, q2, kq, e3, hA, c0, c1, hin, hts⟩ := fld_at2 HF.out (HU0.out.below HR.out.1) hlt
      cases e3
      have HT := Lib.hid hts
      have HNE := Lib.hid (HN.out _ (List.getElem_mem hlt))
      have HW := Lib.hid (Ck.withs_at (P := Ck.inB L) hlt)
      generalize r.fields[k] = f at *
      obtain ⟨W1, hW1⟩ : ∃ W1, W1 = wr.alloc (.cells #[.string f.name, .slice q2 f.type.length kq] 39) := ⟨_, rfl⟩
      have hn1 : W1.heap[wr.heap.size]? = some (.cells #[.string f.name, .slice q2 f.type.length kq] 39 (0, 0)) := by rw [hW1]; exact heap_alloc_new wr _
      have hb1 : Below W0.heap.size W0 W1 := by rw [hW1]; exact HR.out.1.trans ((tk_alloc wr _).mono HR.out.1.size)
      obtain ⟨y0, y1⟩ := cells2 hn1
      have HB1 := Lib.hid hb1
      clear hn1 hb1 hA hts hin
      go_upto_region 5 with fail
      rw [← hW1]
      clear hW1
      go_wp2_with fail
      refine (valueOf_any (HS0.out.below HB1.out) (HT.out.kp (HU0.out.below HB1.out)) HNE.out).mono ?_
      rintro e w2 ⟨rfl, hb2⟩
      have HB2 := Lib.hid (HB1.out.trans (hb2.mono HB1.out.size))
      clear hb2 c0 c1 y0 y1
      cases hv : Ck.has (Ck.inB L) f.type with
      | true =>
        have HQ : Hid (q + 1 = Ck.withs (Ck.inB L) (r.fields.take (k + 1))) := Lib.hid (by rw [HW.out, hv, ← HR.out.2]; rfl)
        clear hv
        go_wp2_with fail
        go_roundw
        case rel => exact ⟨k + 1, q + 1, by omega, by omega, by go_num, by go_num, Lib.hid ⟨HB2.out, HQ.out⟩⟩
        case measure => simp [intOf]; omega
      | false =>
        have HQ : Hid (q = Ck.withs (Ck.inB L) (r.fields.take (k + 1))) := Lib.hid (by rw [HW.out, hv, ← HR.out.2]; rfl)
        clear hv
        go_wp2_with fail
        go_roundw
        case rel => exact ⟨k + 1, q, by omega, by omega, rfl, by go_num, Lib.hid ⟨HB2.out, HQ.out⟩⟩
        case measure => simp [intOf]; omega
    · obtain rfl : k = r.fields.length := by omega
      have i1 : ¬ (r.fields.length : Int) < (r.fields.length : Int) := by omega
      have HQ : Hid (q = Ck.withs (Ck.inB L) r.fields) := Lib.hid (by have := HR.out.2; rwa [List.take_length] at this)
      obtain ⟨hb0, B0⟩ := HX.out wr HR.out.1
      obtain ⟨x0, x1, x2⟩ := cells3 hb0
      have HB0 := Lib.hid B0
      clear hb0 B0
      cases hc : r.choice with
      | true =>
        rw [hc] at x1
        have HZ : Hid (Ck.got (Ck.inB L) r = decide (0 < q)) := Lib.hid (by rw [HG.out, hc, if_pos rfl, ← HQ.out])
        clear hc
        go_wp2_with fail
        go_ret
        exact ⟨by rw [HZ.out]; rfl, HB0.out⟩
      | false =>
        rw [hc] at x1
        have HZ : Hid (Ck.got (Ck.inB L) r = ((q : Int) == (r.fields.length : Int))) := Lib.hid (by
          rw [HG.out, hc, if_neg (by decide), ← HQ.out, Bool.eq_iff_iff, decide_eq_true_iff, beq_iff_eq]; omega)
        clear hc
        go_wp2_with fail
        go_ret
        exact ⟨by rw [HZ.out]; rfl, HB0.out⟩
/-- The set so far, and the number that was told last. -/
def FinC (s : Ip.Sch) (L : List ByteArray) (bf : Int) : Prop := Ck.Among s L ∧ Ck.Safe s L ∧ (bf < (L.length : Int) ∨ (bf = (L.length : Int) ∧ Ck.inB L = Ck.fin s))
/-- The set in the walk over finite. -/
def FinW (w : World) (OB : Obj) (L : List ByteArray) (wr : World) : Prop := SetIs wr (w.heap.size + 1) L ∧ Below w.heap.size w wr ∧ wr.heap[w.heap.size]? = some OB ∧ w.heap.size + 2 ≤ wr.heap.size
theorem FinW.below {w wr X : World} {OB : Obj} {L : List ByteArray} (h : FinW w OB L wr) (hb : Below wr.heap.size wr X) : FinW w OB L X :=
  ⟨h.1.below hb, h.2.1.trans (hb.mono h.2.1.size), box_keep hb h.2.2.1, Nat.le_trans h.2.2.2 hb.size⟩
theorem FinW.put {w wr X : World} {OB : Obj} {L M : List ByteArray} (h : FinW w OB L wr) (hs : SetIs X (w.heap.size + 1) M) (hg : wr.grownBy X (some (w.heap.size + 1))) : FinW w OB M X :=
  ⟨hs, h.2.1.grown hg h.2.1.size (fun k hk => by cases hk; omega), (hg.block _ (by have := h.2.2.2; omega) (by simp)).trans h.2.2.1, Nat.le_trans h.2.2.2 hg.size⟩
theorem fold_keeps {s : Ip.Sch} (hF : Ck.Four s) {L : List ByteArray} (h1 : Ck.Among s L) (h2 : Ck.Safe s L) : ∀ i, i ≤ s.records.length → Ck.Among s ((s.records.take i).foldl Ck.grow L) ∧ Ck.Safe s ((s.records.take i).foldl Ck.grow L)
  | 0, _ => ⟨h1, h2⟩
  | i + 1, hi => by
    have hlt : i < s.records.length := by omega
    obtain ⟨a, b⟩ := fold_keeps hF h1 h2 i (by omega)
    rw [List.take_succ_eq_append_getElem hlt, List.foldl_append]
    exact ⟨a.grow (List.getElem_mem hlt), b.grow (hF.find (List.getElem_mem hlt))⟩
theorem fold_next {s : Ip.Sch} {L : List ByteArray} {i : Nat} (hlt : i < s.records.length) : (s.records.take (i + 1)).foldl Ck.grow L = Ck.grow ((s.records.take i).foldl Ck.grow L) s.records[i] := by
  rw [List.take_succ_eq_append_getElem hlt, List.foldl_append]; rfl
theorem FinC.pass {s : Ip.Sch} (hF : Ck.Four s) {L : List ByteArray} (h1 : Ck.Among s L) (h2 : Ck.Safe s L) : FinC s (s.records.foldl Ck.grow L) (L.length : Int) := by
  have hk := fold_keeps hF h1 h2 s.records.length (Nat.le_refl _)
  rw [List.take_length] at hk
  refine ⟨hk.1, hk.2, ?_⟩
  obtain ⟨M, hM⟩ := Ck.fold_pre s.records L
  by_cases e : (s.records.foldl Ck.grow L).length = L.length
  · right
    have hz : s.records.foldl Ck.grow L = L := by
      rw [hM] at e ⊢
      rw [List.length_append] at e
      rw [List.length_eq_zero_iff.1 (by omega : M.length = 0), List.append_nil]
    refine ⟨by rw [hz], ?_⟩
    rw [hz]
    exact Ck.pass_end h2 e
  · left
    rw [hM, List.length_append] at e ⊢
    omega
set_option maxRecDepth 100000 in
set_option maxHeartbeats 8000000 in
theorem finite_any {u w : World} {sv : Value} {s : Ip.Sch} (h : RoSch u sv s) (hu : Kp u w) (hF : Ck.Four s) (hS : Ck.Small s) : Calls Tryz.prog 128 #[sv] w fun e w' =>
    ∃ b L, e = .returned (.map (some b)) ∧ SetIs w' b L ∧ Ck.inB L = Ck.fin s ∧ Below w.heap.size w w' := by
  obtain ⟨p1, c1, p2, c2, p3, c3, rfl, -, hr, -, -, l1, l2, l3⟩ := sch_parts h
  obtain ⟨W0, hW0⟩ : ∃ W0, W0 = allocs w [.cells #[.string s.name, .slice p1 s.records.length c1, .slice p2 s.services.length c2, .slice p3 s.sagas.length c3] 26, .map #[] 0] := ⟨_, rfl⟩
  have hw0 : W0.heap.size = w.heap.size + 2 := by rw [hW0, allocs_size]; rfl
  have hbx : W0.heap[w.heap.size]? = some (schO s p1 c1 p2 c2 p3 c3) := by subst hW0; exact allocs_box (i := 0) rfl (Below.refl _ _)
  have hm0 : SetIs W0 (w.heap.size + 1) [] := by
    have := SetIs.made (w.alloc (.cells #[.string s.name, .slice p1 s.records.length c1, .slice p2 s.services.length c2, .slice p3 s.sagas.length c3] 26))
    rw [World.size_alloc] at this
    rw [hW0]; exact this
  have hB0 : Below w.heap.size w W0 := by subst hW0; exact allocs_below _ _
  obtain ⟨OB, hOB⟩ : ∃ OB, OB = schO s p1 c1 p2 c2 p3 c3 := ⟨_, rfl⟩
  rw [← hOB] at hbx
  have HOB := Lib.hid hOB
  have HI0 : Hid (Below w.heap.size w W0 ∧ FinW w OB [] W0 ∧ FinC s [] (-1)) := Lib.hid ⟨hB0, ⟨hm0, hB0, hbx, by omega⟩, Ck.Among.nil s, Ck.Safe.nil s, .inl (by simp)⟩
  have H := Lib.hid hr
  have HU := Lib.hid hu
  have HF := Lib.hid hF
  have HSM := Lib.hid hS
  have hmm := @run_makeMap Tryz.prog
  have hn1 : s.records.length ≤ 100 := hS.nr
  clear h hr hu hF hS hw0 hbx hm0 hB0 hOB
  simp only [allocs] at hW0
  go_enter Tryz.func128, Tryz.ntmps128
  go_upto_region 2 with fail
  rw [← hW0]
  clear hW0 hmm
  go_wp2_with fail
  go_loopw [4] (fun bv wr => ∃ (L : List ByteArray) (bf : Int), bv = .int .i64 bf ∧ (-1 ≤ bf ∧ bf ≤ 100) ∧ L.length ≤ 100 ∧ Hid (FinC s L bf ∧ FinW w OB L wr)) (fun bv _ => 200 - (intOf bv + 1).toNat)
  case atStart => exact ⟨[], -1, rfl, ⟨by omega, by omega⟩, by simp, Lib.hid ⟨HI0.out.2.2, HI0.out.2.1⟩⟩
  case round =>
    obtain ⟨L, bf, rfl, ⟨hb1, hb2⟩, hL, HR⟩ := hrel
    have hlen := HR.out.2.1.len 3
    by_cases hlt : bf < (L.length : Int)
    · obtain ⟨x0, x1, x2, x3⟩ := cells4' (by have := HR.out.2.2.2.1; rw [HOB.out] at this; exact this)
      go_wp2_with fail
      clear x0 x1 x2 x3 hlen
      have HR0 := Lib.hid HR.out.2
      have HC := Lib.hid HR.out.1
      go_loopw [17] (fun iv wx => ∃ i : Nat, i ≤ s.records.length ∧ iv = .int .i64 (i : Nat) ∧ Hid (FinW w OB ((s.records.take i).foldl Ck.grow L) wx)) (fun iv _ => s.records.length - (intOf iv).toNat)
      case atStart => exact ⟨0, Nat.zero_le _, rfl, HR0⟩
      case round =>
        obtain ⟨i, hi, rfl, HW⟩ := hrel
        by_cases hli : i < s.records.length
        · have i1 : (i : Int) < (s.records.length : Int) := by omega
          have i2 : (0 : Int) ≤ (i : Int) := by omega
          have hkp : Kp u wr := HU.out.go HU.out.size HW.out.2.1
          obtain ⟨A, cc, q, kq, e3, hA, d0, d1, d2, hin, hfs⟩ := rcd_at2 H.out hkp hli
          cases e3
          have HV : Hid (RcdV u (.agg #[.string s.records[i].name, .bool s.records[i].choice, .slice q s.records[i].fields.length kq]) s.records[i]) := Lib.hid ⟨q, kq, rfl, hin, hfs⟩
          have HNT : Hid (∀ f ∈ s.records[i].fields, f.type ≠ []) := Lib.hid fun f hf => by
            obtain ⟨x, l, e⟩ := Ck.type_some (HF.out.right (List.getElem_mem hli) hf)
            rw [e]; simp
          have HFL : Hid (s.records[i].fields.length ≤ 1000) := Lib.hid (by have := (HSM.out.r _ (List.getElem_mem hli)).2.1; omega)
          have HNX := Lib.hid (fold_next (L := L) hli)
          have HNM : Hid (s.records[i].name.size ≤ maxLen) := Lib.hid hin
          have HLL : Hid (((s.records.take i).foldl Ck.grow L).length < 1000) := Lib.hid (by
            have h1 := (fold_keeps HF.out HC.out.1 HC.out.2.1 i (by omega)).1.len
            omega)
          generalize s.records[i] = r at *
          generalize (s.records.take i).foldl Ck.grow L = M at *
          obtain ⟨W1, hW1⟩ : ∃ W1, W1 = wr.alloc (.cells #[.string r.name, .bool r.choice, .slice q r.fields.length kq] 34) := ⟨_, rfl⟩
          have hn1' : W1.heap[wr.heap.size]? = some (.cells #[.string r.name, .bool r.choice, .slice q r.fields.length kq] 34 (0, 0)) := by rw [hW1]; exact heap_alloc_new wr _
          have hb1' : Below wr.heap.size wr W1 := by rw [hW1]; exact tk_alloc wr _
          have HN1 : Hid (∀ X, Below W1.heap.size W1 X → X.heap[wr.heap.size]? = some (.cells #[.string r.name, .bool r.choice, .slice q r.fields.length kq] 34 (0, 0))) := Lib.hid fun X hX => box_keep hX hn1'
          obtain ⟨y0, y1, y2⟩ := cells3 hn1'
          have HF1 := Lib.hid (HW.out.below hb1')
          have HU1 := Lib.hid (hkp.below hb1')
          clear hn1' hb1' hA hkp hin hfs
          go_upto_region 8 with fail
          rw [← hW1]
          clear hW1
          go_wp2_with fail
          refine (value_any HF1.out.1 HV.out HU1.out HNT.out HFL.out).mono ?_
          rintro e w2 ⟨rfl, hb2'⟩
          have HF2 := Lib.hid (HF1.out.below hb2')
          obtain ⟨z0, z1, z2⟩ := cells3 (HN1.out w2 hb2')
          clear hb2' y0 y1 y2 d0 d1 d2
          cases hv : Ck.got (Ck.inB M) r with
          | true =>
            obtain ⟨W3, hrun, hset, hgr⟩ := HF2.out.1.put HNM.out HLL.out
            have HF3 : Hid (FinW w OB (Ck.grow M r) W3) := Lib.hid (by
              unfold Ck.grow
              rw [if_pos hv]
              exact HF2.out.put hset hgr)
            rw [← HNX.out] at HF3
            clear hset hgr hv
            go_wp2_with fail
            go_roundw
            case rel => exact ⟨i + 1, by omega, by go_num, HF3⟩
            case measure => simp [intOf]; omega
          | false =>
            have HF3 : Hid (FinW w OB (Ck.grow M r) w2) := Lib.hid (by
              unfold Ck.grow
              rw [if_neg (by rw [hv]; decide)]
              exact HF2.out)
            rw [← HNX.out] at HF3
            clear hv
            go_wp2_with fail
            go_roundw
            case rel => exact ⟨i + 1, by omega, by go_num, HF3⟩
            case measure => simp [intOf]; omega
        · obtain rfl : i = s.records.length := by omega
          have i1 : ¬ (s.records.length : Int) < (s.records.length : Int) := by omega
          have HN : Hid (FinC s (s.records.foldl Ck.grow L) (L.length : Int) ∧ FinW w OB (s.records.foldl Ck.grow L) wr) := Lib.hid ⟨FinC.pass HF.out HC.out.1 HC.out.2.1, by have := HW.out; rwa [List.take_length] at this⟩
          have hln : (s.records.foldl Ck.grow L).length ≤ 100 := by have := HN.out.1.1.len; omega
          generalize s.records.foldl Ck.grow L = M at *
          go_wp2_with fail
          go_roundw
          case rel => exact ⟨M, _, rfl, ⟨by omega, by omega⟩, hln, HN⟩
          case measure => simp [intOf]; omega
    · have HE : Hid (Ck.inB L = Ck.fin s) := Lib.hid (HR.out.1.2.2.elim (fun h => absurd h hlt) (·.2))
      go_wp2_with fail
      go_ret
      exact ⟨_, rfl, L, HR.out.2.1, HE.out, HR.out.2.2.1⟩
end Go.Proofs.YtnkdhmoocomjfaaGreatDoor
