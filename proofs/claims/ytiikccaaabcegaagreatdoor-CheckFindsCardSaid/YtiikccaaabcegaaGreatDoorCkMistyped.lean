/-
  Walks over package check: rule 4: types of fields and results. Conditions: those in the theorems.
-/
import Derived.Test.YtiikccaaabcegaaGreatDoorCkPlain
set_option linter.unusedSimpArgs false
set_option linter.unusedVariables false
namespace Go.Proofs.YtiikccaaabcegaaGreatDoor
open Go.RowKit
attribute [local go_sem] Oper.semAt_some

def gResult (x : Ip.Srv × Ip.Mth) : Option ByteArray := if x.2.result = 1 ∨ x.2.result = 3 then none else some (Ck.dot x.1.name x.2.name)
def gField (s : Ip.Sch) (r : Ip.Rcd) (f : Ip.Fld) : Option ByteArray := if Ck.right s f.type then none else some (Ck.dot r.name f.name)
theorem types_flat (s : Ip.Sch) : Ck.types s = (s.records.findSome? fun r => r.fields.findSome? (gField s r)).or ((allM s).findSome? gResult) := by
  unfold allM
  rw [some_flat]
  simp only [List.findSome?_map]
  rfl
theorem rule_ends {F : Fence} {n : Nat} {P : Program} {fn : Func} {tmps : Array Value} {R : Ending → World → Prop} {v : Value} {W : World} (hres : (results fn tmps).run P W = .ok v W) (hR : R (.returned v) W) :
    LeavesInM F n P fn tmps R [] .returning W := ⟨v, hres, hR⟩
/-- Both results are stored, no range about. -/
theorem told_cells {X : World} {r0 r1 : Nat} (h0 : X.heap[r0]? = some (strO ⟨#[]⟩)) (h1 : X.heap[r1]? = some (errO 0)) (hne : r0 ≠ r1) (x : ByteArray) (e : Nat) :
    ((X.setCell ⟨r0, 0, none⟩ (.string x)).setCell ⟨r1, 0, none⟩ (.int .i64 (e : Nat))).heap[r0]? = some (strO x) ∧ ((X.setCell ⟨r0, 0, none⟩ (.string x)).setCell ⟨r1, 0, none⟩ (.int .i64 (e : Nat))).heap[r1]? = some (errO e) :=
  ⟨(Below.heap_setCell _ _ _ _ (by dsimp only; exact hne)).trans (tk_set h0 _), tk_set ((Below.heap_setCell _ _ _ _ (by dsimp only; exact hne.symm)).trans h1) _⟩
theorem mistyped_res {W : World} {tmps : Array Value} {r0 r1 : Nat} {x : ByteArray} {e : Nat} (h2 : tmps[2]? = some (.pointer (some ⟨r0, 0, none⟩))) (h3 : tmps[3]? = some (.pointer (some ⟨r1, 0, none⟩))) (h0 : W.heap[r0]? = some (strO x)) (h1 : W.heap[r1]? = some (errO e)) :
    (results Tryz.f44 tmps).run Tryz.prog W = .ok (.tuple #[.string x, .int .i64 (e : Nat)]) W := by
  have c0 := cells1' h0
  have c1 := cells1' h1
  simp [results, Tryz.results44, h2, h3, go_sem, c0, c1]
set_option maxRecDepth 100000 in
set_option maxHeartbeats 8000000 in
theorem mistyped_any {u w : World} {sv : Value} {s : Ip.Sch} (h : RoSch u sv s) (hu : Kp u w) (hS : Ck.Small s) : Calls Tryz.prog 44 #[sv] w (Told (Ck.types s) 131 w) := by
  obtain ⟨p1, c1, p2, c2, p3, c3, rfl, -, hr, hs, hg, l1, l2, l3⟩ := sch_parts h
  refine (callsIn_wide (n := 9)).1 ?_
  refine callsIn_of_wp_marks Tryz.func44 rfl trivial ?_ rfl
  simp only [Tryz.ntmps44, List.size_toArray, List.length_cons, List.length_nil, Nat.reduceAdd, Nat.reduceSub, Array.replicate_succ, Array.replicate_zero, List.push_toArray, List.append_toArray, List.nil_append, List.cons_append]
  obtain ⟨W0, hW0⟩ : ∃ W0, W0 = allocs w [schO s p1 c1 p2 c2 p3 c3, strO ⟨#[]⟩, errO 0] := ⟨_, rfl⟩
  have hz0 : w.heap.size + 3 ≤ W0.heap.size := by rw [hW0, allocs_size]; exact Nat.le_refl _
  have HX : Hid (∀ W, Below W0.heap.size W0 W → W.heap[w.heap.size]? = some (schO s p1 c1 p2 c2 p3 c3) ∧ W.heap[w.heap.size + 1]? = some (strO ⟨#[]⟩) ∧ W.heap[w.heap.size + 2]? = some (errO 0) ∧ Below w.heap.size w W) := Lib.hid (by subst hW0; exact fun W hW => ⟨allocs_box (i := 0) rfl hW, allocs_box (i := 1) rfl hW, allocs_box (i := 2) rfl hW, allocs_on hW⟩)
  obtain ⟨b0, -, -, B0⟩ := HX.out W0 (Below.refl _ _)
  obtain ⟨x0, x1, x2, x3⟩ := cells4' b0
  have HU := Lib.hid hu
  have H := Lib.hid h
  have HSV := Lib.hid hs
  have HRC := Lib.hid hr
  have HSM := Lib.hid hS
  clear h hr hs hg hu hS b0 B0
  simp only [allocs, schO, strO, errO] at hW0
  rw [show (((0 : Nat) : Int)) = 0 from rfl] at hW0
  gi_upto_region 1 with fail
  rw [← hW0]
  clear hW0
  have HU0 := Lib.hid (HU.out.below (HX.out W0 (Below.refl _ _)).2.2.2)
  gi_wp2_with fail
  clear x0 x1 x2 x3
  gi_loopw [13] (fun iv wr => ∃ i : Nat, i ≤ s.records.length ∧ iv = .int .i64 (i : Nat) ∧ Hid (Below W0.heap.size W0 wr ∧ ∀ j x, s.records[j]? = some x → j < i → (fun r : Ip.Rcd => r.fields.findSome? (gField s r)) x = none)) (fun iv _ => s.records.length - (intOf iv).toNat)
  case atStart => exact ⟨0, Nat.zero_le _, rfl, Lib.hid ⟨Below.refl _ _, fun j _ _ hj => absurd hj (Nat.not_lt_zero _)⟩⟩
  case round =>
    obtain ⟨i, hi, rfl, HR⟩ := hrel
    by_cases hlt : i < s.records.length
    · have i1 : (i : Int) < (s.records.length : Int) := by omega
      have i2 : (0 : Int) ≤ (i : Int) := by omega
      obtain ⟨A, cc, q, kq, e3, hA, d0, d1, d2, hin, hms⟩ := rcd_at2 HRC.out (HU0.out.below HR.out.1) hlt
      cases e3
      have HXI := Lib.hid (List.getElem?_eq_getElem hlt)
      have HSR := Lib.hid (HSM.out.r _ (List.getElem_mem hlt))
      generalize s.records[i] = x at *
      obtain ⟨W1, hW1⟩ : ∃ W1, W1 = wr.alloc (.cells #[.string x.name, .bool x.choice, .slice q x.fields.length kq] 34) := ⟨_, rfl⟩
      have hn1 : W1.heap[wr.heap.size]? = some (.cells #[.string x.name, .bool x.choice, .slice q x.fields.length kq] 34 (0, 0)) := by rw [hW1]; exact heap_alloc_new wr _
      have hb1 : Below W0.heap.size W0 W1 := by rw [hW1]; exact HR.out.1.trans ((tk_alloc wr _).mono HR.out.1.size)
      obtain ⟨y0, y1, y2⟩ := cells3 hn1
      have HN1 : Hid (∀ X, Below W1.heap.size W1 X → X.heap[wr.heap.size]? = some (.cells #[.string x.name, .bool x.choice, .slice q x.fields.length kq] 34 (0, 0))) := Lib.hid fun X hX => box_keep hX hn1
      have HB1 := Lib.hid hb1
      have HFS := Lib.hid hms
      have HNX := Lib.hid HR.out.2
      have hfl : x.fields.length ≤ 40 := HSR.out.2.1
      clear hn1 hb1 hA hin hms HR
      gi_upto_region 4 with fail
      rw [← hW1]
      clear hW1 d0 d1 d2
      generalize wr.heap.size = g at *
      gi_wp2_with fail
      clear y0 y1 y2
      gi_loopw [20] (fun kv wx => ∃ k : Nat, k ≤ x.fields.length ∧ kv = .int .i64 (k : Nat) ∧ Hid (Below W1.heap.size W1 wx ∧ ∀ j f, x.fields[j]? = some f → j < k → gField s x f = none)) (fun kv _ => x.fields.length - (intOf kv).toNat)
      case atStart => exact ⟨0, Nat.zero_le _, rfl, Lib.hid ⟨Below.refl _ _, fun j _ _ hj => absurd hj (Nat.not_lt_zero _)⟩⟩
      case round =>
        obtain ⟨k, hk, rfl, HR⟩ := hrel
        by_cases hlk : k < x.fields.length
        · have j1 : (k : Int) < (x.fields.length : Int) := by omega
          have j2 : (0 : Int) ≤ (k : Int) := by omega
          have hbr : Below W0.heap.size W0 wr := HB1.out.trans (HR.out.1.mono HB1.out.size)
          obtain ⟨B, cb, q5, k5, e5, hB, d0, d1, hfin, hts⟩ := fld_at2 HFS.out (HU0.out.below hbr) hlk
          cases e5
          have HXK := Lib.hid (List.getElem?_eq_getElem hlk)
          have HSF := Lib.hid (HSR.out.2.2 _ (List.getElem_mem hlk)).1
          generalize x.fields[k] = f at *
          obtain ⟨W2, hW2⟩ : ∃ W2, W2 = wr.alloc (.cells #[.string f.name, .slice q5 f.type.length k5] 53) := ⟨_, rfl⟩
          have hn2 : W2.heap[wr.heap.size]? = some (.cells #[.string f.name, .slice q5 f.type.length k5] 53 (0, 0)) := by rw [hW2]; exact heap_alloc_new wr _
          have hb2 : Below W1.heap.size W1 W2 := by rw [hW2]; exact HR.out.1.trans ((tk_alloc wr _).mono HR.out.1.size)
          have hb02 : Below W0.heap.size W0 W2 := HB1.out.trans (hb2.mono HB1.out.size)
          have HN2 : Hid (∀ X, Below W2.heap.size W2 X → X.heap[wr.heap.size]? = some (.cells #[.string f.name, .slice q5 f.type.length k5] 53 (0, 0))) := Lib.hid fun X hX => box_keep hX hn2
          obtain ⟨y0, y1⟩ := cells2 hn2
          obtain ⟨b0, -, -, -⟩ := HX.out W2 hb02
          obtain ⟨x0, x1, x2, x3⟩ := cells4' b0
          have HB2 := Lib.hid hb2
          have HB02 := Lib.hid hb02
          have HTS := Lib.hid (hts.kp (HU0.out.below hb02))
          have HTU := Lib.hid hts
          clear hn2 hb2 hb02 hbr hB hfin hts b0
          gi_upto_region 7 with fail
          rw [← hW2]
          clear hW2 d0 d1
          gi_wp2_with fail
          refine ⟨trivial, ?_⟩
          refine (callsIn_wide.2 (isType_any H.out HTU.out (HU0.out.below HB02.out))).mono ?_
          rintro e w3 ⟨rfl, hb3⟩
          have HB3 := Lib.hid (HB2.out.trans (hb3.mono HB2.out.size))
          have HB03 := Lib.hid (HB02.out.trans (hb3.mono HB02.out.size))
          have HN3 := Lib.hid (HN2.out w3 hb3)
          clear hb3 x0 x1 x2 x3 y0 y1
          cases ho : Ck.right s f.type with
          | true =>
            have HQ : Hid (gField s x f = none) := Lib.hid (by unfold gField; rw [ho]; rfl)
            clear ho
            gi_wp2_with fail
            go_roundw
            case rel => exact ⟨k + 1, by omega, by go_num, Lib.hid ⟨HB3.out, goes_next HR.out.2 HXK.out HQ.out⟩⟩
            case measure => simp [intOf]; omega
          | false =>
            have HQ : Hid (gField s x f = some (Ck.dot x.name f.name)) := Lib.hid (by unfold gField; rw [ho]; rfl)
            have HT9 : Hid (Ck.types s = some (Ck.dot x.name f.name)) := Lib.hid (by
              rw [types_flat, found_at HNX.out HXI.out (g := fun r : Ip.Rcd => r.fields.findSome? (gField s r)) (found_at HR.out.2 HXK.out HQ.out), Option.some_or])
            obtain ⟨y0, y1⟩ := cells2 HN3.out
            obtain ⟨z0, z1, z2⟩ := cells3 (HN1.out w3 HB3.out)
            obtain ⟨-, b1, b2, B3⟩ := HX.out w3 HB03.out
            have c0 := cells1' b1
            have c1' := cells1' b2
            have f0 := frozen2 b1 0
            have f1 := frozen2 b2 0
            have HTC := Lib.hid (told_cells b1 b2 (by omega) (Ck.dot x.name f.name) 131)
            have HBF : Hid (Below w.heap.size w ((w3.setCell ⟨w.heap.size + 1, 0, none⟩ (.string (Ck.dot x.name f.name))).setCell ⟨w.heap.size + 1 + 1, 0, none⟩ (.int .i64 ((131 : Nat) : Int)))) := Lib.hid ((B3.setCell (by dsimp only; omega) _).setCell (by dsimp only; omega) _)
            have HM1 : Hid (x.name.size ≤ 1000000) := Lib.hid (by have := HSR.out.1; omega)
            have HM2 : Hid (f.name.size ≤ 1000000) := Lib.hid (by have := HSF.out; omega)
            clear ho b1 b2 B3
            gi_wp2_with fail
            refine ⟨trivial, ?_⟩
            refine (callsIn_wide.2 (place_any x.name f.name w3 HM1.out HM2.out)).mono ?_
            rintro e w9 ⟨rfl, hw9⟩
            obtain rfl := hw9.symm
            gi_wp2_with fail
            refine rule_ends (fn := Tryz.f44) (mistyped_res rfl rfl HTC.out.1 HTC.out.2) ?_
            exact ⟨by rw [HT9.out]; rfl, HBF.out⟩
        · obtain rfl : k = x.fields.length := by omega
          have j1 : ¬ (x.fields.length : Int) < (x.fields.length : Int) := by omega
          have HQ : Hid ((fun r : Ip.Rcd => r.fields.findSome? (gField s r)) x = none) := Lib.hid (found_none HR.out.2)
          have HB3 := Lib.hid (HB1.out.trans (HR.out.1.mono HB1.out.size))
          gi_wp2_with fail
          go_roundw
          case rel => exact ⟨i + 1, by omega, by go_num, Lib.hid ⟨HB3.out, goes_next HNX.out HXI.out HQ.out⟩⟩
          case measure => simp [intOf]; omega
    · obtain rfl : i = s.records.length := by omega
      have i1 : ¬ (s.records.length : Int) < (s.records.length : Int) := by omega
      have HNO := Lib.hid (found_none HR.out.2)
      have HX0 : Hid (∀ W, Below wr.heap.size wr W → W.heap[w.heap.size]? = some (schO s p1 c1 p2 c2 p3 c3) ∧ W.heap[w.heap.size + 1]? = some (strO ⟨#[]⟩) ∧ W.heap[w.heap.size + 1 + 1]? = some (errO 0) ∧ Below w.heap.size w W) := Lib.hid fun W hW => HX.out W (HR.out.1.trans (hW.mono HR.out.1.size))
      have hz1 : w.heap.size + 3 ≤ wr.heap.size := Nat.le_trans hz0 HR.out.1.size
      have HU9 := HU
      clear HR HU0 HX hz0
      have HX := HX0
      have hz0 := hz1
      clear HX0 hz1
      generalize wr = V0 at *
      obtain ⟨b0, -, -, B0⟩ := HX.out V0 (Below.refl _ _)
      obtain ⟨x0, x1, x2, x3⟩ := cells4' b0
      clear b0 B0
      gi_wp2_with fail
      refine ⟨trivial, ?_⟩
      refine (callsIn_wide.2 (methods_any V0 rfl)).mono ?_
      rintro e w1 ⟨rfl, rfl⟩
      obtain ⟨W3, hW3⟩ : ∃ W3, W3 = V0.alloc (schO s p1 c1 p2 c2 p3 c3) := ⟨_, rfl⟩
      have hb3 : Below V0.heap.size V0 W3 := by rw [hW3]; exact tk_alloc V0 _
      have hn3 : W3.heap[V0.heap.size]? = some (schO s p1 c1 p2 c2 p3 c3) := by rw [hW3]; exact heap_alloc_new V0 _
      have hz3 : V0.heap.size + 1 ≤ W3.heap.size := by rw [hW3, World.size_alloc]; exact Nat.le_refl _
      obtain ⟨q0, q1, q2, q3⟩ := HX.out W3 hb3
      have hku : Kp u W3 := HU.out.below (q3.mono (Nat.le_refl _))
      have hus := HU.out.size
      have hsq := methods1_seq 8 HSV.out hku hn3
      have hI0 : GoesI (gResult) (allM s) u w W3.heap.size [(w.heap.size + 1, strO ⟨#[]⟩), (w.heap.size + 1 + 1, errO 0), (w.heap.size, schO s p1 c1 p2 c2 p3 c3)] (fun _ => False) 0 W3 :=
        ⟨⟨fun k hk => hk.elim, Nat.le_refl _, q3.size, hku, by omega, q3, fun q hq => by
          simp only [List.mem_cons, List.not_mem_nil, or_false] at hq
          rcases hq with rfl | rfl | rfl
          · exact ⟨q1, by dsimp only; omega⟩
          · exact ⟨q2, by dsimp only; omega⟩
          · exact ⟨q0, by dsimp only; omega⟩⟩, fun j x _ hj => absurd hj (Nat.not_lt_zero _)⟩
      rw [← hW3]
      clear hW3 q0 q1 q2 q3 hn3 hb3 x0 x1 x2 x3
      gi_wp2_with fail
      apply wpIn_rangeV rfl (by omega) (gf := 113) (lb := #[.pointer (some ⟨V0.heap.size, 0, none⟩)]) rfl trivial (enters_of Tryz.func113 (by kernel_rfl) rfl)
        (encs := encM) (rel := relM u) (xs := allM s) (cap := fun k => k < u.heap.size ∨ k = V0.heap.size) hsq (fun k hk => by rcases hk with hk | hk <;> omega) (fun _ _ => rfl) (fun _ _ _ _ _ _ h _ _ => h)
        (fun S i A => GoesI (gResult) (allM s) u w W3.heap.size [(w.heap.size + 1, strO ⟨#[]⟩), (w.heap.size + 1 + 1, errO 0), (w.heap.size, schO s p1 c1 p2 c2 p3 c3)] S i A)
        (fun c S i A => StopsI (gResult) (allM s) 131 (w.heap.size + 1) (w.heap.size + 1 + 1) u w W3.heap.size c S i A)
        (fun S S' i A C hs st => hs.steps st) (fun c S S' i A C hs st => hs.steps st) hI0
        (w₁ := fun x b A => (A.alloc (.cells #[.string x.1.name, .slice b.1 x.1.methods.length b.2] 69)).alloc (.cells #[.string x.2.name, .string x.2.arg, .int .u8 (x.2.result : Nat), .string x.2.effect, .string x.2.undo] 38))
        (hw₁ := fun x b A => (tk_alloc A _).trans ((tk_alloc _ _).mono (by rw [World.size_alloc]; omega)))
      case hassign =>
        intro l x b W K hK
        simp only [encM, srvA, mthV]
        gi_wp2
        exact hK
      case hstop =>
        rintro D S c i A hD hSD hS hi ⟨rfl, x, hf, hr⟩ hK
        have HF9 := Lib.hid hf
        obtain ⟨hb9, hq9⟩ := hr.mark hD (.deferred none)
        have HR0 := Lib.hid (hq9 (w.heap.size + 1, strO x) (by simp))
        have HR1 := Lib.hid (hq9 (w.heap.size + 1 + 1, errO 131) (by simp))
        have HB9 := Lib.hid hb9
        clear hf hr hb9 hq9 hsq hI0
        gi_wp2_with fail
        refine rule_leaves (fn := Tryz.f44) hK (mistyped_res rfl rfl HR0.out HR1.out) ?_
        exact ⟨by rw [types_flat, HNO.out, Option.none_or, HF9.out]; rfl, HB9.out⟩
      case hdone =>
        rintro D S A hD hSD hS ⟨hr, hk⟩ hK
        have HF9 := Lib.hid (found_none hk)
        have f0 := frozen2 (hr.at (b := w.heap.size + 1) (o := strO ⟨#[]⟩) (by simp)) 0
        have f1 := frozen2 (hr.at (b := w.heap.size + 1 + 1) (o := errO 0) (by simp)) 0
        have z0 := cells1' (hr.at (b := w.heap.size + 1) (o := strO ⟨#[]⟩) (by simp))
        have z1 := cells1' (hr.at (b := w.heap.size + 1 + 1) (o := errO 0) (by simp))
        have hrt := hr.tell (by omega) ⟨by omega, by omega⟩ ⟨by omega, by omega⟩ ⟨#[]⟩ 0
        obtain ⟨hb9, hq9⟩ := hrt.mark hD (.deferred none)
        have HR0 := Lib.hid (hq9 (w.heap.size + 1, strO ⟨#[]⟩) (by simp))
        have HR1 := Lib.hid (hq9 (w.heap.size + 1 + 1, errO 0) (by simp))
        have HB9 := Lib.hid hb9
        have HK9 : Hid (((A.setCell ⟨w.heap.size + 1, 0, none⟩ (.string ⟨#[]⟩)).setCell ⟨w.heap.size + 1 + 1, 0, none⟩ (.int .i64 ((0 : Nat) : Int))).heap[D]? = some (.deferred (some []))) := Lib.hid (((Below.heap_setCell _ _ _ _ (by dsimp only; omega)).trans (Below.heap_setCell _ _ _ _ (by dsimp only; omega))).trans hK)
        clear hr hk hsq hI0 hrt hb9 hq9 hK
        gi_wp2_with fail
        refine rule_leaves (fn := Tryz.f44) HK9.out (mistyped_res rfl rfl HR0.out HR1.out) ?_
        exact ⟨by rw [types_flat, HNO.out, Option.none_or, HF9.out]; rfl, HB9.out⟩
      case hbody =>
        rintro l S i hi b A0 A hz0' hSA hzA hnew ⟨hsv, hmin⟩ ⟨hr, hk⟩
        have hxi : (allM s)[i]? = some (allM s)[i] := List.getElem?_eq_getElem hi
        generalize (allM s)[i] = x at *
        obtain ⟨hm1, hm2⟩ := mem_allM hxi
        obtain ⟨sv, m⟩ := x
        obtain ⟨bp, bc⟩ := b
        have hsg : A.heap[A0.heap.size]? = some (.cells #[.string sv.name, .slice bp sv.methods.length bc] 69 (0, 0)) := (hnew _ (Nat.le_refl _)).trans ((tk_alloc _ _).block _ (by rw [World.size_alloc]; omega) |>.trans (heap_alloc_new A0 _))
        have hmg : A.heap[A0.heap.size + 1]? = some (.cells #[.string m.name, .string m.arg, .int .u8 (m.result : Nat), .string m.effect, .string m.undo] 38 (0, 0)) := (hnew _ (by omega)).trans (by
          have := heap_alloc_new (A0.alloc (.cells #[.string sv.name, .slice bp sv.methods.length bc] 69)) (.cells #[.string m.name, .string m.arg, .int .u8 (m.result : Nat), .string m.effect, .string m.undo] 38)
          rw [World.size_alloc] at this; exact this)
        obtain ⟨s0, s1⟩ := cells2 hsg
        obtain ⟨m0, m1, m2', m3, m4⟩ := cells5 hmg
        obtain ⟨x0, x1, x2, x3⟩ := cells4' (hr.at (b := w.heap.size) (o := schO s p1 c1 p2 c2 p3 c3) (by simp))
        have HG : Hid (GoesI (gResult) (allM s) u w W3.heap.size [(w.heap.size + 1, strO ⟨#[]⟩), (w.heap.size + 1 + 1, errO 0), (w.heap.size, schO s p1 c1 p2 c2 p3 c3)] S i A) := Lib.hid ⟨hr, hk⟩
        have HXI := Lib.hid hxi
        have HSG := Lib.hid hsg
        have HMG := Lib.hid hmg
        have HKP := Lib.hid hr.kp
        have HN1 : Hid (sv.name.size ≤ 1000000) := Lib.hid (by have := (HSM.out.v _ hm1).1; simp only at this; omega)
        have HN2 : Hid (m.name.size ≤ 1000000) := Lib.hid (by have := ((HSM.out.v _ hm1).2.2 _ hm2).1; simp only at this; omega)
        have HGX : Hid (gResult (sv, m) = if m.result = 1 ∨ m.result = 3 then none else some (Ck.dot sv.name m.name)) := Lib.hid rfl
        clear hr hk hxi hnew hzA hsg hmg hsq hI0 hsv hmin hm1 hm2
        by_cases h3 : m.result = 3
        · have i3 : ((m.result : Int) != 3) = false := by rw [bne_eq_false_iff_eq]; omega
          have HGS : Hid (gResult (sv, m) = none) := Lib.hid (by rw [HGX.out, if_pos (.inr h3)])
          have HON := Lib.hid (HG.out.goOn HXI.out HGS.out (Below.refl _ _) (b := V0.heap.size))
          clear h3
          gi_wp2_with fail
          exact HON.out
        have i3 : ((m.result : Int) != 3) = true := by rw [bne_iff_ne]; omega
        by_cases h1 : m.result = 1
        · have i4 : ((m.result : Int) != 1) = false := by rw [bne_eq_false_iff_eq]; omega
          have HGS : Hid (gResult (sv, m) = none) := Lib.hid (by rw [HGX.out, if_pos (.inl h1)])
          have HON := Lib.hid (HG.out.goOn HXI.out HGS.out (Below.refl _ _) (b := V0.heap.size))
          clear h3 h1
          gi_wp2_with fail
          exact HON.out
        · have i4 : ((m.result : Int) != 1) = true := by rw [bne_iff_ne]; omega
          have HGS : Hid (gResult (sv, m) = some (Ck.dot sv.name m.name)) := Lib.hid (by rw [HGX.out, if_neg (by rintro (e | e); exact h1 e; exact h3 e)])
          clear h3 h1
          obtain ⟨z0, z1, f0, f1⟩ := HG.out.cells (X := A) (Below.refl _ _)
          have HSTOP := Lib.hid (HG.out.stop (e := 131) HXI.out HGS.out (Below.refl _ _) (by omega) ⟨by omega, by omega⟩ hus ⟨by omega, by omega⟩ (b := V0.heap.size) rfl)
          gi_wp2_with fail
          refine ⟨trivial, ?_⟩
          refine (CallsIn.inRound l (callsIn_wide.2 (place_any sv.name m.name A HN1.out HN2.out))).mono ?_
          rintro e w9 ⟨rfl, hw9⟩
          obtain rfl := hw9.symm
          gi_wp2_with fail
          exact HSTOP.out
end Go.Proofs.YtiikccaaabcegaaGreatDoor
