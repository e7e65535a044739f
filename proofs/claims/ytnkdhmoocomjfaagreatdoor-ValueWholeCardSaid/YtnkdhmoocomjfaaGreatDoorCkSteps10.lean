/-
  Walks over package check: rule 6: effects and what methods take. Conditions: those in the theorems.
  Walks over package check: rule 7: what undoes a method. Conditions: those in the theorems.
  Walks over package check: rule 9: what steps call. Conditions: those in the theorems.
  Walks over package check: rule 10: what steps can be undone. Conditions: those in the theorems.
-/
import Derived.Test.YtnkdhmoocomjfaaGreatDoorCkRule
import Derived.Shelf.RegionOpen
set_option linter.unusedSimpArgs false
set_option linter.unusedVariables false
namespace Go.Proofs.YtnkdhmoocomjfaaGreatDoor
open Go.RowKit
attribute [local go_sem] Oper.semAt_some

def gEffects (s : Ip.Sch) (x : Ip.Srv × Ip.Mth) : Option ByteArray := if Ck.isEffect x.2.effect && Ck.order s x.2.arg then none else some (Ck.dot x.1.name x.2.name)
theorem effects_flat (s : Ip.Sch) : Ck.effects s = (allM s).findSome? (gEffects s) := by
  unfold allM
  rw [some_flat]
  simp only [List.findSome?_map]
  rfl
theorem wrongEffects_res {W : World} {tmps : Array Value} {r0 r1 : Nat} {x : ByteArray} {e : Nat} (h2 : tmps[2]? = some (.pointer (some ⟨r0, 0, none⟩))) (h3 : tmps[3]? = some (.pointer (some ⟨r1, 0, none⟩))) (h0 : W.heap[r0]? = some (strO x)) (h1 : W.heap[r1]? = some (errO e)) :
    (results Tryz.f86 tmps).run Tryz.prog W = .ok (.tuple #[.string x, .int .i64 (e : Nat)]) W := by
  have c0 := cells1' h0
  have c1 := cells1' h1
  simp [results, Tryz.results86, h2, h3, go_sem, c0, c1]
set_option maxRecDepth 100000 in
set_option maxHeartbeats 8000000 in
theorem wrongEffects_any {u w : World} {sv : Value} {s : Ip.Sch} (h : RoSch u sv s) (hu : Kp u w) (hF : Ck.Four s) (hS : Ck.Small s) : Calls Tryz.prog 86 #[sv] w (Told (Ck.effects s) 134 w) := by
  obtain ⟨p1, c1, p2, c2, p3, c3, rfl, -, hr, hs, hg, l1, l2, l3⟩ := sch_parts h
  refine (callsIn_wide (n := 9)).1 ?_
  refine callsIn_of_wp_marks Tryz.func86 rfl trivial ?_ rfl
  simp only [Tryz.ntmps86, List.size_toArray, List.length_cons, List.length_nil, Nat.reduceAdd, Nat.reduceSub, Array.replicate_succ, Array.replicate_zero, List.push_toArray, List.append_toArray, List.nil_append, List.cons_append]
  obtain ⟨W0, hW0⟩ : ∃ W0, W0 = allocs w [schO s p1 c1 p2 c2 p3 c3, strO ⟨#[]⟩, errO 0] := ⟨_, rfl⟩
  have hz0 : w.heap.size + 3 ≤ W0.heap.size := by rw [hW0, allocs_size]; exact Nat.le_refl _
  have HX : Hid (∀ W, Below W0.heap.size W0 W → W.heap[w.heap.size]? = some (schO s p1 c1 p2 c2 p3 c3) ∧ W.heap[w.heap.size + 1]? = some (strO ⟨#[]⟩) ∧ W.heap[w.heap.size + 2]? = some (errO 0) ∧ Below w.heap.size w W) := Lib.hid (by subst hW0; exact fun W hW => ⟨allocs_box (i := 0) rfl hW, allocs_box (i := 1) rfl hW, allocs_box (i := 2) rfl hW, allocs_on hW⟩)
  obtain ⟨b0, -, -, B0⟩ := HX.out W0 (Below.refl _ _)
  obtain ⟨x0, x1, x2, x3⟩ := cells4' b0
  have HU := Lib.hid hu
  have H := Lib.hid h
  have HSV := Lib.hid hs
  have HF := Lib.hid hF
  have HSM := Lib.hid hS
  clear h hr hs hg hu hF hS b0 B0
  simp only [allocs, schO, strO, errO] at hW0
  rw [show (((0 : Nat) : Int)) = 0 from rfl] at hW0
  gi_wp2_with fail
  rw [← hW0]
  clear hW0
  refine ⟨trivial, ?_⟩
  refine (callsIn_wide.2 (methods_any W0 rfl)).mono ?_
  rintro e w1 ⟨rfl, rfl⟩
  obtain ⟨W3, hW3⟩ : ∃ W3, W3 = W0.alloc (schO s p1 c1 p2 c2 p3 c3) := ⟨_, rfl⟩
  have hb3 : Below W0.heap.size W0 W3 := by rw [hW3]; exact tk_alloc W0 _
  have hn3 : W3.heap[W0.heap.size]? = some (schO s p1 c1 p2 c2 p3 c3) := by rw [hW3]; exact heap_alloc_new W0 _
  have hz3 : W0.heap.size + 1 ≤ W3.heap.size := by rw [hW3, World.size_alloc]; exact Nat.le_refl _
  obtain ⟨q0, q1, q2, q3⟩ := HX.out W3 hb3
  have hku : Kp u W3 := HU.out.below (q3.mono (Nat.le_refl _))
  have hus := HU.out.size
  have hsq := methods1_seq 8 HSV.out hku hn3
  have hI0 : GoesI (gEffects s) (allM s) u w W3.heap.size [(w.heap.size + 1, strO ⟨#[]⟩), (w.heap.size + 1 + 1, errO 0), (w.heap.size, schO s p1 c1 p2 c2 p3 c3)] (fun _ => False) 0 W3 :=
    ⟨⟨fun k hk => hk.elim, Nat.le_refl _, q3.size, hku, by omega, q3, fun q hq => by
      simp only [List.mem_cons, List.not_mem_nil, or_false] at hq
      rcases hq with rfl | rfl | rfl
      · exact ⟨q1, by dsimp only; omega⟩
      · exact ⟨q2, by dsimp only; omega⟩
      · exact ⟨q0, by dsimp only; omega⟩⟩, fun j x _ hj => absurd hj (Nat.not_lt_zero _)⟩
  rw [← hW3]
  clear hW3 q0 q1 q2 q3 hn3 hb3 x0 x1 x2 x3
  gi_wp2_with fail
  apply wpIn_rangeV rfl (by omega) (gf := 171) (lb := #[.pointer (some ⟨W0.heap.size, 0, none⟩)]) rfl trivial (enters_of Tryz.func171 (by kernel_rfl) rfl)
    (encs := encM) (rel := relM u) (xs := allM s) (cap := fun k => k < u.heap.size ∨ k = W0.heap.size) hsq (fun k hk => by rcases hk with hk | hk <;> omega) (fun _ _ => rfl) (fun _ _ _ _ _ _ h _ _ => h)
    (fun S i A => GoesI (gEffects s) (allM s) u w W3.heap.size [(w.heap.size + 1, strO ⟨#[]⟩), (w.heap.size + 1 + 1, errO 0), (w.heap.size, schO s p1 c1 p2 c2 p3 c3)] S i A)
    (fun c S i A => StopsI (gEffects s) (allM s) 134 (w.heap.size + 1) (w.heap.size + 1 + 1) u w W3.heap.size c S i A)
    (fun S S' i A C hs st => hs.steps st) (fun c S S' i A C hs st => hs.steps st) hI0
    (w₁ := fun x b A => (A.alloc (.cells #[.string x.1.name, .slice b.1 x.1.methods.length b.2] 98)).alloc (.cells #[.string x.2.name, .string x.2.arg, .int .u8 (x.2.result : Nat), .string x.2.effect, .string x.2.undo] 100))
    (hw₁ := fun x b A => (tk_alloc A _).trans ((tk_alloc _ _).mono (by rw [World.size_alloc]; omega)))
  case hassign =>
    intro l x b W K hK
    simp only [encM, srvA, mthV]
    gi_wp2
    exact hK
  case hstop =>
    rintro D S c i A hD hSD hS hi ⟨rfl, x, hf, hr⟩ hK
    have HF9 := Lib.hid hf
    obtain ⟨hb9, hq9⟩ := hr.mark hD (.deferred none)
    have HR0 := Lib.hid (hq9 (w.heap.size + 1, strO x) (by simp))
    have HR1 := Lib.hid (hq9 (w.heap.size + 1 + 1, errO 134) (by simp))
    have HB9 := Lib.hid hb9
    clear hf hr hb9 hq9 hsq hI0
    gi_wp2_with fail
    refine rule_leaves (fn := Tryz.f86) hK (wrongEffects_res rfl rfl HR0.out HR1.out) ?_
    exact ⟨by rw [effects_flat, HF9.out]; rfl, HB9.out⟩
  case hdone =>
    rintro D S A hD hSD hS ⟨hr, hk⟩ hK
    have HF9 := Lib.hid (found_none hk)
    have f0 := frozen2 (hr.at (b := w.heap.size + 1) (o := strO ⟨#[]⟩) (by simp)) 0
    have f1 := frozen2 (hr.at (b := w.heap.size + 1 + 1) (o := errO 0) (by simp)) 0
    have z0 := cells1' (hr.at (b := w.heap.size + 1) (o := strO ⟨#[]⟩) (by simp))
    have z1 := cells1' (hr.at (b := w.heap.size + 1 + 1) (o := errO 0) (by simp))
    have hrt := hr.tell (by omega) ⟨by omega, by omega⟩ ⟨by omega, by omega⟩ ⟨#[]⟩ 0
    obtain ⟨hb9, hq9⟩ := hrt.mark hD (.deferred none)
    have HR0 := Lib.hid (hq9 (w.heap.size + 1, strO ⟨#[]⟩) (by simp))
    have HR1 := Lib.hid (hq9 (w.heap.size + 1 + 1, errO 0) (by simp))
    have HB9 := Lib.hid hb9
    have HK9 : Hid (((A.setCell ⟨w.heap.size + 1, 0, none⟩ (.string ⟨#[]⟩)).setCell ⟨w.heap.size + 1 + 1, 0, none⟩ (.int .i64 ((0 : Nat) : Int))).heap[D]? = some (.deferred (some []))) := Lib.hid (((Below.heap_setCell _ _ _ _ (by dsimp only; omega)).trans (Below.heap_setCell _ _ _ _ (by dsimp only; omega))).trans hK)
    clear hr hk hsq hI0 hrt hb9 hq9 hK
    gi_wp2_with fail
    refine rule_leaves (fn := Tryz.f86) HK9.out (wrongEffects_res rfl rfl HR0.out HR1.out) ?_
    exact ⟨by rw [effects_flat, HF9.out]; rfl, HB9.out⟩
  case hbody =>
    rintro l S i hi b A0 A hz0' hSA hzA hnew ⟨hsv, hmin⟩ ⟨hr, hk⟩
    have hxi : (allM s)[i]? = some (allM s)[i] := List.getElem?_eq_getElem hi
    generalize (allM s)[i] = x at *
    obtain ⟨hm1, hm2⟩ := mem_allM hxi
    obtain ⟨sv, m⟩ := x
    obtain ⟨bp, bc⟩ := b
    have hsg : A.heap[A0.heap.size]? = some (.cells #[.string sv.name, .slice bp sv.methods.length bc] 98 (0, 0)) := (hnew _ (Nat.le_refl _)).trans ((tk_alloc _ _).block _ (by rw [World.size_alloc]; omega) |>.trans (heap_alloc_new A0 _))
    have hmg : A.heap[A0.heap.size + 1]? = some (.cells #[.string m.name, .string m.arg, .int .u8 (m.result : Nat), .string m.effect, .string m.undo] 100 (0, 0)) := (hnew _ (by omega)).trans (by
      have := heap_alloc_new (A0.alloc (.cells #[.string sv.name, .slice bp sv.methods.length bc] 98)) (.cells #[.string m.name, .string m.arg, .int .u8 (m.result : Nat), .string m.effect, .string m.undo] 100)
      rw [World.size_alloc] at this; exact this)
    obtain ⟨s0, s1⟩ := cells2 hsg
    obtain ⟨m0, m1, m2', m3, m4⟩ := cells5 hmg
    obtain ⟨x0, x1, x2, x3⟩ := cells4' (hr.at (b := w.heap.size) (o := schO s p1 c1 p2 c2 p3 c3) (by simp))
    have HG : Hid (GoesI (gEffects s) (allM s) u w W3.heap.size [(w.heap.size + 1, strO ⟨#[]⟩), (w.heap.size + 1 + 1, errO 0), (w.heap.size, schO s p1 c1 p2 c2 p3 c3)] S i A) := Lib.hid ⟨hr, hk⟩
    have HXI := Lib.hid hxi
    have HSG := Lib.hid hsg
    have HMG := Lib.hid hmg
    have HKP := Lib.hid hr.kp
    have HN1 : Hid (sv.name.size ≤ 1000000) := Lib.hid (by have := (HSM.out.v _ hm1).1; simp only at this; omega)
    have HN2 : Hid (m.name.size ≤ 1000000) := Lib.hid (by have := ((HSM.out.v _ hm1).2.2 _ hm2).1; simp only at this; omega)
    have HGX : Hid (gEffects s (sv, m) = if Ck.isEffect m.effect && Ck.isOrder s m.arg then none else some (Ck.dot sv.name m.name)) := Lib.hid (by unfold gEffects; rw [HF.out.order])
    clear hr hk hxi hnew hzA hsg hmg hsq hI0 hsv hmin hm1 hm2
    gi_wp2_with fail
    refine ⟨trivial, ?_⟩
    refine (CallsIn.inRound l (callsIn_wide.2 (contrary_any m.effect A))).mono ?_
    rintro e w' ⟨rfl, hw9⟩
    obtain rfl := hw9.symm
    have hemp := empty_is (Ck.contraryOf m.effect)
    rw [Ck.empty_contraryOf] at hemp
    generalize Ck.contraryOf m.effect = ce at *
    cases he : Ck.isEffect m.effect with
    | false =>
        rw [he] at hemp
        have HGS : Hid (gEffects s (sv, m) = some (Ck.dot sv.name m.name)) := Lib.hid (by rw [HGX.out, he]; rfl)
        clear he s0 s1 m0 m1 m2' m3 m4 x0 x1 x2 x3
        obtain ⟨z0, z1, f0, f1⟩ := HG.out.cells (X := A) (Below.refl _ _)
        obtain ⟨s0, s1⟩ := cells2 (box_keep (Below.refl _ _) HSG.out)
        obtain ⟨m0, m1, m2', m3, m4⟩ := cells5 (box_keep (Below.refl _ _) HMG.out)
        have HSTOP := Lib.hid (HG.out.stop (e := 134) HXI.out HGS.out (Below.refl _ _) (by omega) ⟨by omega, by omega⟩ hus ⟨by omega, by omega⟩ (b := W0.heap.size) rfl)
        gi_wp2_with fail
        refine ⟨trivial, ?_⟩
        gi_wp2_with fail
        refine ⟨trivial, ?_⟩
        refine (CallsIn.inRound l (callsIn_wide.2 (place_any sv.name m.name A HN1.out HN2.out))).mono ?_
        rintro e w9 ⟨rfl, rfl⟩
        gi_wp2_with fail
        exact HSTOP.out
    | true =>
        rw [he] at hemp
        have HGY : Hid (gEffects s (sv, m) = if Ck.isOrder s m.arg then none else some (Ck.dot sv.name m.name)) := Lib.hid (by rw [HGX.out, he, Bool.true_and])
        clear he
        gi_wp2_with fail
        refine ⟨trivial, ?_⟩
        refine (CallsIn.inRound l (callsIn_wide.2 (isOrder_any H.out HKP.out m.arg))).mono ?_
        rintro e w2 ⟨rfl, hb2⟩
        have HB2 := Lib.hid hb2
        clear hb2 s0 s1 m0 m1 m2' m3 m4 x0 x1 x2 x3 hemp
        cases ho : Ck.isOrder s m.arg with
        | true =>
          have HGS : Hid (gEffects s (sv, m) = none) := Lib.hid (by rw [HGY.out, ho]; rfl)
          have HON := Lib.hid (HG.out.goOn HXI.out HGS.out HB2.out (b := W0.heap.size))
          clear ho
          gi_wp2_with fail
          exact HON.out
        | false =>
          have HGS : Hid (gEffects s (sv, m) = some (Ck.dot sv.name m.name)) := Lib.hid (by rw [HGY.out, ho]; rfl)
          clear ho
          obtain ⟨z0, z1, f0, f1⟩ := HG.out.cells (X := w2) HB2.out
          obtain ⟨s0, s1⟩ := cells2 (box_keep HB2.out HSG.out)
          obtain ⟨m0, m1, m2', m3, m4⟩ := cells5 (box_keep HB2.out HMG.out)
          have HSTOP := Lib.hid (HG.out.stop (e := 134) HXI.out HGS.out HB2.out (by omega) ⟨by omega, by omega⟩ hus ⟨by omega, by omega⟩ (b := W0.heap.size) rfl)
          gi_wp2_with fail
          refine ⟨trivial, ?_⟩
          refine (CallsIn.inRound l (callsIn_wide.2 (place_any sv.name m.name w2 HN1.out HN2.out))).mono ?_
          rintro e w9 ⟨rfl, rfl⟩
          gi_wp2_with fail
          exact HSTOP.out
end Go.Proofs.YtnkdhmoocomjfaaGreatDoor
set_option linter.unusedSimpArgs false
set_option linter.unusedVariables false
namespace Go.Proofs.YtnkdhmoocomjfaaGreatDoor
open Go.RowKit
attribute [local go_sem] Oper.semAt_some

def gUndos (x : Ip.Srv × Ip.Mth) : Option ByteArray := if Ck.empty x.2.undo || Ck.undone x.1 x.2 then none else some (Ck.dot x.1.name x.2.name)
theorem find_congr {α β : Type} {f g : α → Option β} : ∀ {l : List α}, (∀ x ∈ l, f x = g x) → l.findSome? f = l.findSome? g
  | [], _ => rfl
  | x :: l, h => by rw [List.findSome?_cons, List.findSome?_cons, h x (by simp), find_congr fun y hy => h y (List.mem_cons_of_mem _ hy)]
theorem undos_flat {s : Ip.Sch} (hF : Ck.Four s) (he : Ck.effects s = none) : Ck.undos s = (allM s).findSome? gUndos := by
  unfold allM
  rw [some_flat]
  simp only [List.findSome?_map]
  exact find_congr fun v hv => find_congr fun m hm => by
    show _ = gUndos (v, m)
    unfold gUndos
    rw [hF.undo he hv hm]
theorem wrongUndos_res {W : World} {tmps : Array Value} {r0 r1 : Nat} {x : ByteArray} {e : Nat} (h2 : tmps[2]? = some (.pointer (some ⟨r0, 0, none⟩))) (h3 : tmps[3]? = some (.pointer (some ⟨r1, 0, none⟩))) (h0 : W.heap[r0]? = some (strO x)) (h1 : W.heap[r1]? = some (errO e)) :
    (results Tryz.f87 tmps).run Tryz.prog W = .ok (.tuple #[.string x, .int .i64 (e : Nat)]) W := by
  have c0 := cells1' h0
  have c1 := cells1' h1
  simp [results, Tryz.results87, h2, h3, go_sem, c0, c1]
set_option maxRecDepth 100000 in
set_option maxHeartbeats 8000000 in
theorem wrongUndos_any {u w : World} {sv : Value} {s : Ip.Sch} (h : RoSch u sv s) (hu : Kp u w) (hF : Ck.Four s) (he : Ck.effects s = none) (hS : Ck.Small s) : Calls Tryz.prog 87 #[sv] w (Told (Ck.undos s) 133 w) := by
  obtain ⟨p1, c1, p2, c2, p3, c3, rfl, -, hr, hs, hg, l1, l2, l3⟩ := sch_parts h
  refine (callsIn_wide (n := 9)).1 ?_
  refine callsIn_of_wp_marks Tryz.func87 rfl trivial ?_ rfl
  simp only [Tryz.ntmps87, List.size_toArray, List.length_cons, List.length_nil, Nat.reduceAdd, Nat.reduceSub, Array.replicate_succ, Array.replicate_zero, List.push_toArray, List.append_toArray, List.nil_append, List.cons_append]
  obtain ⟨W0, hW0⟩ : ∃ W0, W0 = allocs w [schO s p1 c1 p2 c2 p3 c3, strO ⟨#[]⟩, errO 0] := ⟨_, rfl⟩
  have hz0 : w.heap.size + 3 ≤ W0.heap.size := by rw [hW0, allocs_size]; exact Nat.le_refl _
  have HX : Hid (∀ W, Below W0.heap.size W0 W → W.heap[w.heap.size]? = some (schO s p1 c1 p2 c2 p3 c3) ∧ W.heap[w.heap.size + 1]? = some (strO ⟨#[]⟩) ∧ W.heap[w.heap.size + 2]? = some (errO 0) ∧ Below w.heap.size w W) := Lib.hid (by subst hW0; exact fun W hW => ⟨allocs_box (i := 0) rfl hW, allocs_box (i := 1) rfl hW, allocs_box (i := 2) rfl hW, allocs_on hW⟩)
  obtain ⟨b0, -, -, B0⟩ := HX.out W0 (Below.refl _ _)
  obtain ⟨x0, x1, x2, x3⟩ := cells4' b0
  have HU := Lib.hid hu
  have H := Lib.hid h
  have HSV := Lib.hid hs
  have HF := Lib.hid hF
  have HE := Lib.hid he
  have HSM := Lib.hid hS
  clear h hr hs hg hu hF he hS b0 B0
  simp only [allocs, schO, strO, errO] at hW0
  rw [show (((0 : Nat) : Int)) = 0 from rfl] at hW0
  gi_wp2_with fail
  rw [← hW0]
  clear hW0
  refine ⟨trivial, ?_⟩
  refine (callsIn_wide.2 (methods_any W0 rfl)).mono ?_
  rintro e w1 ⟨rfl, rfl⟩
  obtain ⟨W3, hW3⟩ : ∃ W3, W3 = W0.alloc (schO s p1 c1 p2 c2 p3 c3) := ⟨_, rfl⟩
  have hb3 : Below W0.heap.size W0 W3 := by rw [hW3]; exact tk_alloc W0 _
  have hn3 : W3.heap[W0.heap.size]? = some (schO s p1 c1 p2 c2 p3 c3) := by rw [hW3]; exact heap_alloc_new W0 _
  have hz3 : W0.heap.size + 1 ≤ W3.heap.size := by rw [hW3, World.size_alloc]; exact Nat.le_refl _
  obtain ⟨q0, q1, q2, q3⟩ := HX.out W3 hb3
  have hku : Kp u W3 := HU.out.below (q3.mono (Nat.le_refl _))
  have hus := HU.out.size
  have hsq := methods1_seq 8 HSV.out hku hn3
  have hI0 : GoesI (gUndos) (allM s) u w W3.heap.size [(w.heap.size + 1, strO ⟨#[]⟩), (w.heap.size + 1 + 1, errO 0), (w.heap.size, schO s p1 c1 p2 c2 p3 c3)] (fun _ => False) 0 W3 :=
    ⟨⟨fun k hk => hk.elim, Nat.le_refl _, q3.size, hku, by omega, q3, fun q hq => by
      simp only [List.mem_cons, List.not_mem_nil, or_false] at hq
      rcases hq with rfl | rfl | rfl
      · exact ⟨q1, by dsimp only; omega⟩
      · exact ⟨q2, by dsimp only; omega⟩
      · exact ⟨q0, by dsimp only; omega⟩⟩, fun j x _ hj => absurd hj (Nat.not_lt_zero _)⟩
  rw [← hW3]
  clear hW3 q0 q1 q2 q3 hn3 hb3 x0 x1 x2 x3
  gi_wp2_with fail
  apply wpIn_rangeV rfl (by omega) (gf := 171) (lb := #[.pointer (some ⟨W0.heap.size, 0, none⟩)]) rfl trivial (enters_of Tryz.func171 (by kernel_rfl) rfl)
    (encs := encM) (rel := relM u) (xs := allM s) (cap := fun k => k < u.heap.size ∨ k = W0.heap.size) hsq (fun k hk => by rcases hk with hk | hk <;> omega) (fun _ _ => rfl) (fun _ _ _ _ _ _ h _ _ => h)
    (fun S i A => GoesI (gUndos) (allM s) u w W3.heap.size [(w.heap.size + 1, strO ⟨#[]⟩), (w.heap.size + 1 + 1, errO 0), (w.heap.size, schO s p1 c1 p2 c2 p3 c3)] S i A)
    (fun c S i A => StopsI (gUndos) (allM s) 133 (w.heap.size + 1) (w.heap.size + 1 + 1) u w W3.heap.size c S i A)
    (fun S S' i A C hs st => hs.steps st) (fun c S S' i A C hs st => hs.steps st) hI0
    (w₁ := fun x b A => (A.alloc (.cells #[.string x.1.name, .slice b.1 x.1.methods.length b.2] 98)).alloc (.cells #[.string x.2.name, .string x.2.arg, .int .u8 (x.2.result : Nat), .string x.2.effect, .string x.2.undo] 100))
    (hw₁ := fun x b A => (tk_alloc A _).trans ((tk_alloc _ _).mono (by rw [World.size_alloc]; omega)))
  case hassign =>
    intro l x b W K hK
    simp only [encM, srvA, mthV]
    gi_wp2
    exact hK
  case hstop =>
    rintro D S c i A hD hSD hS hi ⟨rfl, x, hf, hr⟩ hK
    have HF9 := Lib.hid hf
    obtain ⟨hb9, hq9⟩ := hr.mark hD (.deferred none)
    have HR0 := Lib.hid (hq9 (w.heap.size + 1, strO x) (by simp))
    have HR1 := Lib.hid (hq9 (w.heap.size + 1 + 1, errO 133) (by simp))
    have HB9 := Lib.hid hb9
    clear hf hr hb9 hq9 hsq hI0
    gi_wp2_with fail
    refine rule_leaves (fn := Tryz.f87) hK (wrongUndos_res rfl rfl HR0.out HR1.out) ?_
    exact ⟨by rw [undos_flat HF.out HE.out, HF9.out]; rfl, HB9.out⟩
  case hdone =>
    rintro D S A hD hSD hS ⟨hr, hk⟩ hK
    have HF9 := Lib.hid (found_none hk)
    have f0 := frozen2 (hr.at (b := w.heap.size + 1) (o := strO ⟨#[]⟩) (by simp)) 0
    have f1 := frozen2 (hr.at (b := w.heap.size + 1 + 1) (o := errO 0) (by simp)) 0
    have z0 := cells1' (hr.at (b := w.heap.size + 1) (o := strO ⟨#[]⟩) (by simp))
    have z1 := cells1' (hr.at (b := w.heap.size + 1 + 1) (o := errO 0) (by simp))
    have hrt := hr.tell (by omega) ⟨by omega, by omega⟩ ⟨by omega, by omega⟩ ⟨#[]⟩ 0
    obtain ⟨hb9, hq9⟩ := hrt.mark hD (.deferred none)
    have HR0 := Lib.hid (hq9 (w.heap.size + 1, strO ⟨#[]⟩) (by simp))
    have HR1 := Lib.hid (hq9 (w.heap.size + 1 + 1, errO 0) (by simp))
    have HB9 := Lib.hid hb9
    have HK9 : Hid (((A.setCell ⟨w.heap.size + 1, 0, none⟩ (.string ⟨#[]⟩)).setCell ⟨w.heap.size + 1 + 1, 0, none⟩ (.int .i64 ((0 : Nat) : Int))).heap[D]? = some (.deferred (some []))) := Lib.hid (((Below.heap_setCell _ _ _ _ (by dsimp only; omega)).trans (Below.heap_setCell _ _ _ _ (by dsimp only; omega))).trans hK)
    clear hr hk hsq hI0 hrt hb9 hq9 hK
    gi_wp2_with fail
    refine rule_leaves (fn := Tryz.f87) HK9.out (wrongUndos_res rfl rfl HR0.out HR1.out) ?_
    exact ⟨by rw [undos_flat HF.out HE.out, HF9.out]; rfl, HB9.out⟩
  case hbody =>
    rintro l S i hi b A0 A hz0' hSA hzA hnew ⟨hsv, hmin⟩ ⟨hr, hk⟩
    have hxi : (allM s)[i]? = some (allM s)[i] := List.getElem?_eq_getElem hi
    generalize (allM s)[i] = x at *
    obtain ⟨hm1, hm2⟩ := mem_allM hxi
    obtain ⟨sv, m⟩ := x
    obtain ⟨bp, bc⟩ := b
    have hsg : A.heap[A0.heap.size]? = some (.cells #[.string sv.name, .slice bp sv.methods.length bc] 98 (0, 0)) := (hnew _ (Nat.le_refl _)).trans ((tk_alloc _ _).block _ (by rw [World.size_alloc]; omega) |>.trans (heap_alloc_new A0 _))
    have hmg : A.heap[A0.heap.size + 1]? = some (.cells #[.string m.name, .string m.arg, .int .u8 (m.result : Nat), .string m.effect, .string m.undo] 100 (0, 0)) := (hnew _ (by omega)).trans (by
      have := heap_alloc_new (A0.alloc (.cells #[.string sv.name, .slice bp sv.methods.length bc] 98)) (.cells #[.string m.name, .string m.arg, .int .u8 (m.result : Nat), .string m.effect, .string m.undo] 100)
      rw [World.size_alloc] at this; exact this)
    obtain ⟨s0, s1⟩ := cells2 hsg
    obtain ⟨m0, m1, m2', m3, m4⟩ := cells5 hmg
    obtain ⟨x0, x1, x2, x3⟩ := cells4' (hr.at (b := w.heap.size) (o := schO s p1 c1 p2 c2 p3 c3) (by simp))
    have HG : Hid (GoesI (gUndos) (allM s) u w W3.heap.size [(w.heap.size + 1, strO ⟨#[]⟩), (w.heap.size + 1 + 1, errO 0), (w.heap.size, schO s p1 c1 p2 c2 p3 c3)] S i A) := Lib.hid ⟨hr, hk⟩
    have HXI := Lib.hid hxi
    have HSG := Lib.hid hsg
    have HMG := Lib.hid hmg
    have HKP := Lib.hid hr.kp
    have HSV9 : Hid (SrvV u (.agg #[.string sv.name, .slice bp sv.methods.length bc]) sv) := Lib.hid hsv
    have HN1 : Hid (sv.name.size ≤ 1000000) := Lib.hid (by have := (HSM.out.v _ hm1).1; simp only at this; omega)
    have HN2 : Hid (m.name.size ≤ 1000000) := Lib.hid (by have := ((HSM.out.v _ hm1).2.2 _ hm2).1; simp only at this; omega)
    have HGX : Hid (gUndos (sv, m) = if Ck.empty m.undo || Ck.undone sv m then none else some (Ck.dot sv.name m.name)) := Lib.hid rfl
    clear hr hk hxi hnew hzA hsg hmg hsq hI0 hsv hmin hm1 hm2
    have hem := empty_is m.undo
    cases he : Ck.empty m.undo with
    | true =>
        rw [he] at hem
        have HGS : Hid (gUndos (sv, m) = none) := Lib.hid (by rw [HGX.out, he]; rfl)
        have HON := Lib.hid (HG.out.goOn HXI.out HGS.out (Below.refl _ _) (b := W0.heap.size))
        clear he
        gi_wp2_with fail
        refine ⟨trivial, ?_⟩
        gi_wp2_with fail
        exact HON.out
    | false =>
        rw [he] at hem
        have HGY : Hid (gUndos (sv, m) = if Ck.undone sv m then none else some (Ck.dot sv.name m.name)) := Lib.hid (by rw [HGX.out, he, Bool.false_or])
        clear he
        gi_wp2_with fail
        refine ⟨trivial, ?_⟩
        have HC := Lib.hid (undone_any HSV9.out HKP.out m)
        unfold mthV at HC
        refine (CallsIn.inRound l (callsIn_wide.2 HC.out)).mono ?_
        rintro e w2 ⟨rfl, hb2⟩
        have HB2 := Lib.hid hb2
        clear hb2 s0 s1 m0 m1 m2' m3 m4 x0 x1 x2 x3 hem
        cases ho : Ck.undone sv m with
        | true =>
          have HGS : Hid (gUndos (sv, m) = none) := Lib.hid (by rw [HGY.out, ho]; rfl)
          have HON := Lib.hid (HG.out.goOn HXI.out HGS.out HB2.out (b := W0.heap.size))
          clear ho
          gi_wp2_with fail
          exact HON.out
        | false =>
          have HGS : Hid (gUndos (sv, m) = some (Ck.dot sv.name m.name)) := Lib.hid (by rw [HGY.out, ho]; rfl)
          clear ho
          obtain ⟨z0, z1, f0, f1⟩ := HG.out.cells (X := w2) HB2.out
          obtain ⟨s0, s1⟩ := cells2 (box_keep HB2.out HSG.out)
          obtain ⟨m0, m1, m2', m3, m4⟩ := cells5 (box_keep HB2.out HMG.out)
          have HSTOP := Lib.hid (HG.out.stop (e := 133) HXI.out HGS.out HB2.out (by omega) ⟨by omega, by omega⟩ hus ⟨by omega, by omega⟩ (b := W0.heap.size) rfl)
          gi_wp2_with fail
          refine ⟨trivial, ?_⟩
          refine (CallsIn.inRound l (callsIn_wide.2 (place_any sv.name m.name w2 HN1.out HN2.out))).mono ?_
          rintro e w9 ⟨rfl, rfl⟩
          gi_wp2_with fail
          exact HSTOP.out
end Go.Proofs.YtnkdhmoocomjfaaGreatDoor
set_option linter.unusedSimpArgs false
set_option linter.unusedVariables false
namespace Go.Proofs.YtnkdhmoocomjfaaGreatDoor
open Go.RowKit
attribute [local go_sem] Oper.semAt_some

theorem wpIn_calm {F : Fence} {n : Nat} {P : Program} {c : Code} {Q : Exit → Act → World → Prop} {a : Act} {w : World}
    (h : c.wpIn F n P (fun e a' w' => match e with | .normal => Q .normal a' w' | _ => False) a w) : c.wpIn F n P Q a w :=
  wpIn_mono h (fun e a' w' h => by cases e <;> first | exact h | exact h.elim)
def noStp : Ip.Stp := ⟨⟨#[]⟩, ⟨#[]⟩, 0⟩
def gStep9 (s : Ip.Sch) (x : Ip.Sga × Nat) : Option ByteArray := if Ck.stepOk s x.1 (x.1.steps.getD x.2 noStp) then none else some (Ck.dot x.1.name (Ck.num x.2))
def gStep10 (s : Ip.Sch) (x : Ip.Sga × Nat) : Option ByteArray := if x.2 + 1 = x.1.steps.length ∨ Ck.hasUndo s (x.1.steps.getD x.2 noStp) = true then none else some (Ck.dot x.1.name (Ck.num x.2))
theorem zip_range (l : List Ip.Stp) : l.zipIdx = (List.range l.length).map fun k => (l.getD k noStp, k) := by
  apply List.ext_getElem?
  intro k
  by_cases h : k < l.length
  · simp [h]
  · simp [h]
theorem steps9_flat (s : Ip.Sch) : Ck.steps9 s = (allS s).findSome? (gStep9 s) := by
  unfold allS Ck.steps9
  rw [some_flat]
  simp only [zip_range, List.findSome?_map]
  rfl
theorem steps10_flat (s : Ip.Sch) : Ck.steps10 s = (allS s).findSome? (gStep10 s) := by
  unfold allS Ck.steps10
  rw [some_flat]
  simp only [zip_range, List.findSome?_map]
  rfl
theorem num_small {k : Nat} (hk : k < 10) : (Ck.num k).size ≤ 1000000 := by
  have hk2 : k = 0 ∨ k = 1 ∨ k = 2 ∨ k = 3 ∨ k = 4 ∨ k = 5 ∨ k = 6 ∨ k = 7 ∨ k = 8 ∨ k = 9 := by omega
  rcases hk2 with rfl | rfl | rfl | rfl | rfl | rfl | rfl | rfl | rfl | rfl <;> decide
theorem wrongSteps_res {W : World} {tmps : Array Value} {r0 r1 : Nat} {x : ByteArray} {e : Nat} (h2 : tmps[2]? = some (.pointer (some ⟨r0, 0, none⟩))) (h3 : tmps[3]? = some (.pointer (some ⟨r1, 0, none⟩))) (h0 : W.heap[r0]? = some (strO x)) (h1 : W.heap[r1]? = some (errO e)) :
    (results Tryz.f89 tmps).run Tryz.prog W = .ok (.tuple #[.string x, .int .i64 (e : Nat)]) W := by
  have c0 := cells1' h0
  have c1 := cells1' h1
  simp [results, Tryz.results89, h2, h3, go_sem, c0, c1]
set_option maxRecDepth 100000 in
set_option maxHeartbeats 8000000 in
theorem wrongSteps_any {u w : World} {sv : Value} {s : Ip.Sch} (h : RoSch u sv s) (hu : Kp u w) (hC : ∀ g ∈ s.sagas, g.steps.length ≤ 8) (hS : Ck.Small s) : Calls Tryz.prog 89 #[sv] w (Told (Ck.steps9 s) 241 w) := by
  obtain ⟨p1, c1, p2, c2, p3, c3, rfl, -, hr, hs, hg, l1, l2, l3⟩ := sch_parts h
  refine (callsIn_wide (n := 9)).1 ?_
  refine callsIn_of_wp_marks Tryz.func89 rfl trivial ?_ rfl
  simp only [Tryz.ntmps89, List.size_toArray, List.length_cons, List.length_nil, Nat.reduceAdd, Nat.reduceSub, Array.replicate_succ, Array.replicate_zero, List.push_toArray, List.append_toArray, List.nil_append, List.cons_append]
  obtain ⟨W0, hW0⟩ : ∃ W0, W0 = allocs w [schO s p1 c1 p2 c2 p3 c3, strO ⟨#[]⟩, errO 0] := ⟨_, rfl⟩
  have hz0 : w.heap.size + 3 ≤ W0.heap.size := by rw [hW0, allocs_size]; exact Nat.le_refl _
  have HX : Hid (∀ W, Below W0.heap.size W0 W → W.heap[w.heap.size]? = some (schO s p1 c1 p2 c2 p3 c3) ∧ W.heap[w.heap.size + 1]? = some (strO ⟨#[]⟩) ∧ W.heap[w.heap.size + 2]? = some (errO 0) ∧ Below w.heap.size w W) := Lib.hid (by subst hW0; exact fun W hW => ⟨allocs_box (i := 0) rfl hW, allocs_box (i := 1) rfl hW, allocs_box (i := 2) rfl hW, allocs_on hW⟩)
  obtain ⟨b0, -, -, B0⟩ := HX.out W0 (Below.refl _ _)
  obtain ⟨x0, x1, x2, x3⟩ := cells4' b0
  have HU := Lib.hid hu
  have H := Lib.hid h
  have HSV := Lib.hid hg
  have HCN := Lib.hid hC
  have HSM := Lib.hid hS
  clear h hr hs hg hu hC hS b0 B0
  simp only [allocs, schO, strO, errO] at hW0
  rw [show (((0 : Nat) : Int)) = 0 from rfl] at hW0
  gi_wp2_with fail
  rw [← hW0]
  clear hW0
  refine ⟨trivial, ?_⟩
  refine (callsIn_wide.2 (steps_any W0 rfl)).mono ?_
  rintro e w1 ⟨rfl, rfl⟩
  obtain ⟨W3, hW3⟩ : ∃ W3, W3 = W0.alloc (schO s p1 c1 p2 c2 p3 c3) := ⟨_, rfl⟩
  have hb3 : Below W0.heap.size W0 W3 := by rw [hW3]; exact tk_alloc W0 _
  have hn3 : W3.heap[W0.heap.size]? = some (schO s p1 c1 p2 c2 p3 c3) := by rw [hW3]; exact heap_alloc_new W0 _
  have hz3 : W0.heap.size + 1 ≤ W3.heap.size := by rw [hW3, World.size_alloc]; exact Nat.le_refl _
  obtain ⟨q0, q1, q2, q3⟩ := HX.out W3 hb3
  have hku : Kp u W3 := HU.out.below (q3.mono (Nat.le_refl _))
  have hus := HU.out.size
  have hsq := steps1_seq 8 HSV.out hku hn3
  have hI0 : GoesI (gStep9 s) (allS s) u w W3.heap.size [(w.heap.size + 1, strO ⟨#[]⟩), (w.heap.size + 1 + 1, errO 0), (w.heap.size, schO s p1 c1 p2 c2 p3 c3)] (fun _ => False) 0 W3 :=
    ⟨⟨fun k hk => hk.elim, Nat.le_refl _, q3.size, hku, by omega, q3, fun q hq => by
      simp only [List.mem_cons, List.not_mem_nil, or_false] at hq
      rcases hq with rfl | rfl | rfl
      · exact ⟨q1, by dsimp only; omega⟩
      · exact ⟨q2, by dsimp only; omega⟩
      · exact ⟨q0, by dsimp only; omega⟩⟩, fun j x _ hj => absurd hj (Nat.not_lt_zero _)⟩
  rw [← hW3]
  clear hW3 q0 q1 q2 q3 hn3 hb3 x0 x1 x2 x3
  gi_wp2_with fail
  apply wpIn_rangeV rfl (by omega) (gf := 175) (lb := #[.pointer (some ⟨W0.heap.size, 0, none⟩)]) rfl trivial (enters_of Tryz.func175 (by kernel_rfl) rfl)
    (encs := encS) (rel := relS u) (xs := allS s) (cap := fun k => k < u.heap.size ∨ k = W0.heap.size) hsq (fun k hk => by rcases hk with hk | hk <;> omega) (fun _ _ => rfl) (fun _ _ _ _ _ _ h _ _ => h)
    (fun S i A => GoesI (gStep9 s) (allS s) u w W3.heap.size [(w.heap.size + 1, strO ⟨#[]⟩), (w.heap.size + 1 + 1, errO 0), (w.heap.size, schO s p1 c1 p2 c2 p3 c3)] S i A)
    (fun c S i A => StopsI (gStep9 s) (allS s) 241 (w.heap.size + 1) (w.heap.size + 1 + 1) u w W3.heap.size c S i A)
    (fun S S' i A C hs st => hs.steps st) (fun c S S' i A C hs st => hs.steps st) hI0
    (w₁ := fun x b A => A.alloc (.cells #[.string x.1.name, .string x.1.arg, .slice b.1 x.1.steps.length b.2] 44))
    (hw₁ := fun x b A => tk_alloc A _)
  case hassign =>
    intro l x b W K hK
    simp only [encS, sgaA]
    gi_wp2
    exact hK
  case hstop =>
    rintro D S c i A hD hSD hS hi ⟨rfl, x, hf, hr⟩ hK
    have HF9 := Lib.hid hf
    obtain ⟨hb9, hq9⟩ := hr.mark hD (.deferred none)
    have HR0 := Lib.hid (hq9 (w.heap.size + 1, strO x) (by simp))
    have HR1 := Lib.hid (hq9 (w.heap.size + 1 + 1, errO 241) (by simp))
    have HB9 := Lib.hid hb9
    clear hf hr hb9 hq9 hsq hI0
    gi_wp2_with fail
    refine rule_leaves (fn := Tryz.f89) hK (wrongSteps_res rfl rfl HR0.out HR1.out) ?_
    exact ⟨by rw [steps9_flat, HF9.out]; rfl, HB9.out⟩
  case hdone =>
    rintro D S A hD hSD hS ⟨hr, hk⟩ hK
    have HF9 := Lib.hid (found_none hk)
    have f0 := frozen2 (hr.at (b := w.heap.size + 1) (o := strO ⟨#[]⟩) (by simp)) 0
    have f1 := frozen2 (hr.at (b := w.heap.size + 1 + 1) (o := errO 0) (by simp)) 0
    have z0 := cells1' (hr.at (b := w.heap.size + 1) (o := strO ⟨#[]⟩) (by simp))
    have z1 := cells1' (hr.at (b := w.heap.size + 1 + 1) (o := errO 0) (by simp))
    have hrt := hr.tell (by omega) ⟨by omega, by omega⟩ ⟨by omega, by omega⟩ ⟨#[]⟩ 0
    obtain ⟨hb9, hq9⟩ := hrt.mark hD (.deferred none)
    have HR0 := Lib.hid (hq9 (w.heap.size + 1, strO ⟨#[]⟩) (by simp))
    have HR1 := Lib.hid (hq9 (w.heap.size + 1 + 1, errO 0) (by simp))
    have HB9 := Lib.hid hb9
    have HK9 : Hid (((A.setCell ⟨w.heap.size + 1, 0, none⟩ (.string ⟨#[]⟩)).setCell ⟨w.heap.size + 1 + 1, 0, none⟩ (.int .i64 ((0 : Nat) : Int))).heap[D]? = some (.deferred (some []))) := Lib.hid (((Below.heap_setCell _ _ _ _ (by dsimp only; omega)).trans (Below.heap_setCell _ _ _ _ (by dsimp only; omega))).trans hK)
    clear hr hk hsq hI0 hrt hb9 hq9 hK
    gi_wp2_with fail
    refine rule_leaves (fn := Tryz.f89) HK9.out (wrongSteps_res rfl rfl HR0.out HR1.out) ?_
    exact ⟨by rw [steps9_flat, HF9.out]; rfl, HB9.out⟩
  case hbody =>
    rintro l S i hi b A0 A hz0' hSA hzA hnew hgv ⟨hr, hk⟩
    have hxi : (allS s)[i]? = some (allS s)[i] := List.getElem?_eq_getElem hi
    generalize (allS s)[i] = x at *
    obtain ⟨hm1, hm2⟩ := mem_allS hxi
    obtain ⟨sg, k⟩ := x
    obtain ⟨bp, bc⟩ := b
    obtain ⟨_, _, ega, hgin, hst⟩ := hgv
    have hst : RoStp u (.slice bp sg.steps.length bc) sg.steps := by unfold sgaA at ega; cases ega; exact hst
    have hsg : A.heap[A0.heap.size]? = some (.cells #[.string sg.name, .string sg.arg, .slice bp sg.steps.length bc] 44 (0, 0)) := (hnew _ (Nat.le_refl _)).trans (heap_alloc_new A0 _)
    obtain ⟨s0, s1, s2⟩ := cells3 hsg
    have hgI : GoesI (gStep9 s) (allS s) u w W3.heap.size [(w.heap.size + 1, strO ⟨#[]⟩), (w.heap.size + 1 + 1, errO 0), (w.heap.size, schO s p1 c1 p2 c2 p3 c3)] S i A := ⟨hr, hk⟩
    have HG := Lib.hid hgI
    have HXI := Lib.hid hxi
    have HKP := Lib.hid hr.kp
    have hm2 : k < sg.steps.length := hm2
    have i1 : (k : Int) < (sg.steps.length : Int) := by omega
    have i2 : (0 : Int) ≤ (k : Int) := by omega
    have HN1 : Hid (sg.name.size ≤ 1000000) := Lib.hid (by have := (HSM.out.g _ hm1).1; simp only at this; omega)
    have HK8 : Hid (k < 10) := Lib.hid (by have := HCN.out _ hm1; simp only at this; omega)
    have HKL : Hid (k < sg.steps.length) := Lib.hid hm2
    obtain ⟨B, cb, e5, hB, d0, d1, d2, hpin⟩ := stp_at (hst.kp hr.kp) hm2
    cases e5
    have HGX : Hid (gStep9 s (sg, k) = (fun y : Ip.Stp => if Ck.stepOk s sg y then none else some (Ck.dot sg.name (Ck.num k))) sg.steps[k]) := Lib.hid (by unfold gStep9; rw [show sg.steps.getD k noStp = sg.steps[k] from (by rw [List.getD_eq_getElem?_getD, List.getElem?_eq_getElem hm2, Option.getD_some]; try rfl)])
    generalize sg.steps[k] = x at d0 d1 d2 HGX hpin
    obtain ⟨xs, xm, xa⟩ := x
    obtain ⟨W1, hW1⟩ : ∃ W1, W1 = A.alloc (.cells #[.string xs, .string xm, .int .i64 xa] 48) := ⟨_, rfl⟩
    have hn1 : W1.heap[A.heap.size]? = some (.cells #[.string xs, .string xm, .int .i64 xa] 48 (0, 0)) := by rw [hW1]; exact heap_alloc_new A _
    have hb1 : Below A.heap.size A W1 := by rw [hW1]; exact tk_alloc A _
    obtain ⟨t0, t1, t2⟩ := cells3 hn1
    obtain ⟨x0, x1, x2, x3⟩ := cells4' (box_keep hb1 (hr.at (b := w.heap.size) (o := schO s p1 c1 p2 c2 p3 c3) (by simp)))
    have HSG := Lib.hid hsg
    have HN9 := Lib.hid hn1
    have HB1 := Lib.hid hb1
    have HPI := Lib.hid hpin.2.2
    have hbk : Kp u W1 := hr.kp.below hb1
    have HKP1 := Lib.hid hbk
    clear hr hk hxi hnew hzA hsg hsq hI0 hm1 hm2 hgI hn1 hb1 hbk hst hgin ega hpin hB
    gi_upto_region 5 with fail
    rw [← hW1]
    clear hW1 d0 d1 d2 s0 s1 s2
    gi_wp2_with fail
    refine ⟨trivial, ?_⟩
    refine (CallsIn.inRound l (callsIn_wide.2 (called_any H.out HKP1.out xs xm))).mono ?_
    rintro e w2 ⟨v, rfl, ⟨rfl, -⟩, hb2⟩
    have HB2 := Lib.hid (HB1.out.trans (hb2.mono HB1.out.size))
    have HN92 := Lib.hid (box_keep hb2 HN9.out)
    clear hb2 t0 t1 t2 x0 x1 x2 x3
    generalize ho : Ck.method s xs xm = o at HGX
    generalize hso : o.isSome = so
    generalize hgo : o.getD noMth = z
    obtain ⟨zn, za, zr, ze, zu⟩ := z
    unfold mthV
    simp only
    obtain ⟨W4, hW4⟩ : ∃ W4, W4 = w2.alloc (.cells #[.string zn, .string za, .int .u8 (zr : Nat), .string ze, .string zu] 100) := ⟨_, rfl⟩
    have hb4 : Below A.heap.size A W4 := by rw [hW4]; exact HB2.out.trans ((tk_alloc w2 _).mono HB2.out.size)
    have hn4 : W4.heap[w2.heap.size]? = some (.cells #[.string zn, .string za, .int .u8 (zr : Nat), .string ze, .string zu] 100 (0, 0)) := by rw [hW4]; exact heap_alloc_new w2 _
    have hn94 : W4.heap[A.heap.size]? = some (.cells #[.string xs, .string xm, .int .i64 xa] 48 (0, 0)) := by rw [hW4]; exact box_keep (tk_alloc w2 _) HN92.out
    obtain ⟨y0, y1, y2, y3, y4⟩ := cells5 hn4
    obtain ⟨t0, t1, t2⟩ := cells3 hn94
    obtain ⟨s0, s1, s2⟩ := cells3 (box_keep hb4 HSG.out)
    have HB4 := Lib.hid hb4
    clear hn4 hn94 hb4
    gi_upto_region 6 with fail
    rw [← hW4]
    clear hW4
    have HNK : Hid ((Ck.num k).size ≤ 1000000) := Lib.hid (num_small HK8.out)
    cases o with
    | none =>
      have hsf : so = false := hso.symm
      subst hsf
      have HGS : Hid (gStep9 s (sg, k) = some (Ck.dot sg.name (Ck.num k))) := Lib.hid (by rw [HGX.out]; unfold Ck.stepOk; simp only [ho]; rfl)
      clear ho hso hgo
      obtain ⟨z0, z1, f0, f1⟩ := HG.out.cells (X := W4) HB4.out
      have HSTOP := Lib.hid (HG.out.stop (e := 241) HXI.out HGS.out (HB4.out.drew) (by omega) ⟨by omega, by omega⟩ hus ⟨by omega, by omega⟩ (b := W0.heap.size) rfl)
      have mixed : Tryz.prog.follows .mixedOrders = true := by kernel_rfl
      gi_wp2_with fail
      refine wpIn_calm ?_
      gi_region_with_o (first | (refine ⟨trivial, ?_⟩; refine (CallsIn.inRound l (callsIn_wide.2 (itoa_any HK8.out W4.drew))).mono ?_; rintro e w8 ⟨rfl, hw8⟩; obtain rfl := hw8) | (refine ⟨trivial, ?_⟩; refine (CallsIn.inRound l (callsIn_wide.2 (place_any sg.name (Ck.num k) W4.drew HN1.out HNK.out))).mono ?_; rintro e w9 ⟨rfl, hw9⟩; obtain rfl := hw9))
      all_goals
        gi_wp2_with fail
        exact HSTOP.out
    | some m =>
      have hsf : so = true := hso.symm
      subst hsf
      have hz : m = ⟨zn, za, zr, ze, zu⟩ := hgo
      subst hz
      have HOK : Hid (Ck.stepOk s sg ⟨xs, xm, xa⟩ = (Ip.eqB za sg.arg && decide (0 ≤ xa) && decide (xa ≤ 3))) := Lib.hid (by unfold Ck.stepOk; simp only [ho])
      clear ho hso hgo
      have ha := eqB_list za sg.arg
      cases q1 : Ip.eqB za sg.arg with
      | false =>
        rw [q1] at ha
        have HGS : Hid (gStep9 s (sg, k) = some (Ck.dot sg.name (Ck.num k))) := Lib.hid (by rw [HGX.out]; show (if Ck.stepOk s sg ⟨xs, xm, xa⟩ then _ else _) = _; rw [HOK.out, q1]; rfl)
        clear q1
        obtain ⟨z0, z1, f0, f1⟩ := HG.out.cells (X := W4) HB4.out
        have HSTOP := Lib.hid (HG.out.stop (e := 241) HXI.out HGS.out (HB4.out.drew) (by omega) ⟨by omega, by omega⟩ hus ⟨by omega, by omega⟩ (b := W0.heap.size) rfl)
        have mixed : Tryz.prog.follows .mixedOrders = true := by kernel_rfl
        gi_wp2_with fail
        refine wpIn_calm ?_
        gi_region_with_o (first | (refine ⟨trivial, ?_⟩; refine (CallsIn.inRound l (callsIn_wide.2 (itoa_any HK8.out W4.drew))).mono ?_; rintro e w8 ⟨rfl, hw8⟩; obtain rfl := hw8) | (refine ⟨trivial, ?_⟩; refine (CallsIn.inRound l (callsIn_wide.2 (place_any sg.name (Ck.num k) W4.drew HN1.out HNK.out))).mono ?_; rintro e w9 ⟨rfl, hw9⟩; obtain rfl := hw9))
        all_goals
          gi_wp2_with fail
          exact HSTOP.out
      | true =>
        rw [q1] at ha
        by_cases h0 : xa < 0
        · have HGS : Hid (gStep9 s (sg, k) = some (Ck.dot sg.name (Ck.num k))) := Lib.hid (by rw [HGX.out]; show (if Ck.stepOk s sg ⟨xs, xm, xa⟩ then _ else _) = _; rw [HOK.out, q1, show decide (0 ≤ xa) = false by rw [decide_eq_false_iff_not]; omega]; rfl)
          clear q1
          obtain ⟨z0, z1, f0, f1⟩ := HG.out.cells (X := W4) HB4.out
          have HSTOP := Lib.hid (HG.out.stop (e := 241) HXI.out HGS.out (HB4.out.drew) (by omega) ⟨by omega, by omega⟩ hus ⟨by omega, by omega⟩ (b := W0.heap.size) rfl)
          have mixed : Tryz.prog.follows .mixedOrders = true := by kernel_rfl
          gi_wp2_with fail
          refine wpIn_calm ?_
          gi_region_with_o (first | (refine ⟨trivial, ?_⟩; refine (CallsIn.inRound l (callsIn_wide.2 (itoa_any HK8.out W4.drew))).mono ?_; rintro e w8 ⟨rfl, hw8⟩; obtain rfl := hw8) | (refine ⟨trivial, ?_⟩; refine (CallsIn.inRound l (callsIn_wide.2 (place_any sg.name (Ck.num k) W4.drew HN1.out HNK.out))).mono ?_; rintro e w9 ⟨rfl, hw9⟩; obtain rfl := hw9))
          all_goals
            gi_wp2_with fail
            exact HSTOP.out
        · by_cases h4 : 4 ≤ xa
          · have HGS : Hid (gStep9 s (sg, k) = some (Ck.dot sg.name (Ck.num k))) := Lib.hid (by rw [HGX.out]; show (if Ck.stepOk s sg ⟨xs, xm, xa⟩ then _ else _) = _; rw [HOK.out, q1, show decide (xa ≤ 3) = false by rw [decide_eq_false_iff_not]; omega, Bool.and_false]; rfl)
            clear q1
            obtain ⟨z0, z1, f0, f1⟩ := HG.out.cells (X := W4) HB4.out
            have HSTOP := Lib.hid (HG.out.stop (e := 241) HXI.out HGS.out (HB4.out.drew) (by omega) ⟨by omega, by omega⟩ hus ⟨by omega, by omega⟩ (b := W0.heap.size) rfl)
            have mixed : Tryz.prog.follows .mixedOrders = true := by kernel_rfl
            gi_wp2_with fail
            refine wpIn_calm ?_
            gi_region_with_o (first | (refine ⟨trivial, ?_⟩; refine (CallsIn.inRound l (callsIn_wide.2 (itoa_any HK8.out W4.drew))).mono ?_; rintro e w8 ⟨rfl, hw8⟩; obtain rfl := hw8) | (refine ⟨trivial, ?_⟩; refine (CallsIn.inRound l (callsIn_wide.2 (place_any sg.name (Ck.num k) W4.drew HN1.out HNK.out))).mono ?_; rintro e w9 ⟨rfl, hw9⟩; obtain rfl := hw9))
            all_goals
              gi_wp2_with fail
              exact HSTOP.out
          · have HGS : Hid (gStep9 s (sg, k) = none) := Lib.hid (by rw [HGX.out]; show (if Ck.stepOk s sg ⟨xs, xm, xa⟩ then _ else _) = _; rw [HOK.out, q1, show decide (xa ≤ 3) = true by rw [decide_eq_true_iff]; omega, show decide (0 ≤ xa) = true by rw [decide_eq_true_iff]; omega]; rfl)
            have HON := Lib.hid (HG.out.goOn HXI.out HGS.out HB4.out (b := W0.heap.size))
            clear q1
            gi_wp2_with fail
            exact HON.out
end Go.Proofs.YtnkdhmoocomjfaaGreatDoor
set_option linter.unusedSimpArgs false
set_option linter.unusedVariables false
namespace Go.Proofs.YtnkdhmoocomjfaaGreatDoor
open Go.RowKit
attribute [local go_sem] Oper.semAt_some

theorem found_none_at {s : Ip.Sch} (h : Ck.steps9 s = none) {i : Nat} {x : Ip.Sga × Nat} (hx : (allS s)[i]? = some x) : gStep9 s x = none := by
  rw [steps9_flat] at h
  exact List.findSome?_eq_none_iff.1 h x (List.mem_of_getElem? hx)
theorem noWayBack_res {W : World} {tmps : Array Value} {r0 r1 : Nat} {x : ByteArray} {e : Nat} (h2 : tmps[2]? = some (.pointer (some ⟨r0, 0, none⟩))) (h3 : tmps[3]? = some (.pointer (some ⟨r1, 0, none⟩))) (h0 : W.heap[r0]? = some (strO x)) (h1 : W.heap[r1]? = some (errO e)) :
    (results Tryz.f90 tmps).run Tryz.prog W = .ok (.tuple #[.string x, .int .i64 (e : Nat)]) W := by
  have c0 := cells1' h0
  have c1 := cells1' h1
  simp [results, Tryz.results90, h2, h3, go_sem, c0, c1]
set_option maxRecDepth 100000 in
set_option maxHeartbeats 8000000 in
theorem noWayBack_any {u w : World} {sv : Value} {s : Ip.Sch} (h : RoSch u sv s) (hu : Kp u w) (h9 : Ck.steps9 s = none) (hC : ∀ g ∈ s.sagas, g.steps.length ≤ 8) (hS : Ck.Small s) : Calls Tryz.prog 90 #[sv] w (Told (Ck.steps10 s) 133 w) := by
  obtain ⟨p1, c1, p2, c2, p3, c3, rfl, -, hr, hs, hg, l1, l2, l3⟩ := sch_parts h
  refine (callsIn_wide (n := 9)).1 ?_
  refine callsIn_of_wp_marks Tryz.func90 rfl trivial ?_ rfl
  simp only [Tryz.ntmps90, List.size_toArray, List.length_cons, List.length_nil, Nat.reduceAdd, Nat.reduceSub, Array.replicate_succ, Array.replicate_zero, List.push_toArray, List.append_toArray, List.nil_append, List.cons_append]
  obtain ⟨W0, hW0⟩ : ∃ W0, W0 = allocs w [schO s p1 c1 p2 c2 p3 c3, strO ⟨#[]⟩, errO 0] := ⟨_, rfl⟩
  have hz0 : w.heap.size + 3 ≤ W0.heap.size := by rw [hW0, allocs_size]; exact Nat.le_refl _
  have HX : Hid (∀ W, Below W0.heap.size W0 W → W.heap[w.heap.size]? = some (schO s p1 c1 p2 c2 p3 c3) ∧ W.heap[w.heap.size + 1]? = some (strO ⟨#[]⟩) ∧ W.heap[w.heap.size + 2]? = some (errO 0) ∧ Below w.heap.size w W) := Lib.hid (by subst hW0; exact fun W hW => ⟨allocs_box (i := 0) rfl hW, allocs_box (i := 1) rfl hW, allocs_box (i := 2) rfl hW, allocs_on hW⟩)
  obtain ⟨b0, -, -, B0⟩ := HX.out W0 (Below.refl _ _)
  obtain ⟨x0, x1, x2, x3⟩ := cells4' b0
  have HU := Lib.hid hu
  have H := Lib.hid h
  have HSV := Lib.hid hg
  have H9 := Lib.hid h9
  have HCN := Lib.hid hC
  have HSM := Lib.hid hS
  clear h hr hs hg hu h9 hC hS b0 B0
  simp only [allocs, schO, strO, errO] at hW0
  rw [show (((0 : Nat) : Int)) = 0 from rfl] at hW0
  gi_wp2_with fail
  rw [← hW0]
  clear hW0
  refine ⟨trivial, ?_⟩
  refine (callsIn_wide.2 (steps_any W0 rfl)).mono ?_
  rintro e w1 ⟨rfl, rfl⟩
  obtain ⟨W3, hW3⟩ : ∃ W3, W3 = W0.alloc (schO s p1 c1 p2 c2 p3 c3) := ⟨_, rfl⟩
  have hb3 : Below W0.heap.size W0 W3 := by rw [hW3]; exact tk_alloc W0 _
  have hn3 : W3.heap[W0.heap.size]? = some (schO s p1 c1 p2 c2 p3 c3) := by rw [hW3]; exact heap_alloc_new W0 _
  have hz3 : W0.heap.size + 1 ≤ W3.heap.size := by rw [hW3, World.size_alloc]; exact Nat.le_refl _
  obtain ⟨q0, q1, q2, q3⟩ := HX.out W3 hb3
  have hku : Kp u W3 := HU.out.below (q3.mono (Nat.le_refl _))
  have hus := HU.out.size
  have hsq := steps1_seq 8 HSV.out hku hn3
  have hI0 : GoesI (gStep10 s) (allS s) u w W3.heap.size [(w.heap.size + 1, strO ⟨#[]⟩), (w.heap.size + 1 + 1, errO 0), (w.heap.size, schO s p1 c1 p2 c2 p3 c3)] (fun _ => False) 0 W3 :=
    ⟨⟨fun k hk => hk.elim, Nat.le_refl _, q3.size, hku, by omega, q3, fun q hq => by
      simp only [List.mem_cons, List.not_mem_nil, or_false] at hq
      rcases hq with rfl | rfl | rfl
      · exact ⟨q1, by dsimp only; omega⟩
      · exact ⟨q2, by dsimp only; omega⟩
      · exact ⟨q0, by dsimp only; omega⟩⟩, fun j x _ hj => absurd hj (Nat.not_lt_zero _)⟩
  rw [← hW3]
  clear hW3 q0 q1 q2 q3 hn3 hb3 x0 x1 x2 x3
  gi_wp2_with fail
  apply wpIn_rangeV rfl (by omega) (gf := 175) (lb := #[.pointer (some ⟨W0.heap.size, 0, none⟩)]) rfl trivial (enters_of Tryz.func175 (by kernel_rfl) rfl)
    (encs := encS) (rel := relS u) (xs := allS s) (cap := fun k => k < u.heap.size ∨ k = W0.heap.size) hsq (fun k hk => by rcases hk with hk | hk <;> omega) (fun _ _ => rfl) (fun _ _ _ _ _ _ h _ _ => h)
    (fun S i A => GoesI (gStep10 s) (allS s) u w W3.heap.size [(w.heap.size + 1, strO ⟨#[]⟩), (w.heap.size + 1 + 1, errO 0), (w.heap.size, schO s p1 c1 p2 c2 p3 c3)] S i A)
    (fun c S i A => StopsI (gStep10 s) (allS s) 133 (w.heap.size + 1) (w.heap.size + 1 + 1) u w W3.heap.size c S i A)
    (fun S S' i A C hs st => hs.steps st) (fun c S S' i A C hs st => hs.steps st) hI0
    (w₁ := fun x b A => A.alloc (.cells #[.string x.1.name, .string x.1.arg, .slice b.1 x.1.steps.length b.2] 44))
    (hw₁ := fun x b A => tk_alloc A _)
  case hassign =>
    intro l x b W K hK
    simp only [encS, sgaA]
    gi_wp2
    exact hK
  case hstop =>
    rintro D S c i A hD hSD hS hi ⟨rfl, x, hf, hr⟩ hK
    have HF9 := Lib.hid hf
    obtain ⟨hb9, hq9⟩ := hr.mark hD (.deferred none)
    have HR0 := Lib.hid (hq9 (w.heap.size + 1, strO x) (by simp))
    have HR1 := Lib.hid (hq9 (w.heap.size + 1 + 1, errO 133) (by simp))
    have HB9 := Lib.hid hb9
    clear hf hr hb9 hq9 hsq hI0
    gi_wp2_with fail
    refine rule_leaves (fn := Tryz.f90) hK (noWayBack_res rfl rfl HR0.out HR1.out) ?_
    exact ⟨by rw [steps10_flat, HF9.out]; rfl, HB9.out⟩
  case hdone =>
    rintro D S A hD hSD hS ⟨hr, hk⟩ hK
    have HF9 := Lib.hid (found_none hk)
    have f0 := frozen2 (hr.at (b := w.heap.size + 1) (o := strO ⟨#[]⟩) (by simp)) 0
    have f1 := frozen2 (hr.at (b := w.heap.size + 1 + 1) (o := errO 0) (by simp)) 0
    have z0 := cells1' (hr.at (b := w.heap.size + 1) (o := strO ⟨#[]⟩) (by simp))
    have z1 := cells1' (hr.at (b := w.heap.size + 1 + 1) (o := errO 0) (by simp))
    have hrt := hr.tell (by omega) ⟨by omega, by omega⟩ ⟨by omega, by omega⟩ ⟨#[]⟩ 0
    obtain ⟨hb9, hq9⟩ := hrt.mark hD (.deferred none)
    have HR0 := Lib.hid (hq9 (w.heap.size + 1, strO ⟨#[]⟩) (by simp))
    have HR1 := Lib.hid (hq9 (w.heap.size + 1 + 1, errO 0) (by simp))
    have HB9 := Lib.hid hb9
    have HK9 : Hid (((A.setCell ⟨w.heap.size + 1, 0, none⟩ (.string ⟨#[]⟩)).setCell ⟨w.heap.size + 1 + 1, 0, none⟩ (.int .i64 ((0 : Nat) : Int))).heap[D]? = some (.deferred (some []))) := Lib.hid (((Below.heap_setCell _ _ _ _ (by dsimp only; omega)).trans (Below.heap_setCell _ _ _ _ (by dsimp only; omega))).trans hK)
    clear hr hk hsq hI0 hrt hb9 hq9 hK
    gi_wp2_with fail
    refine rule_leaves (fn := Tryz.f90) HK9.out (noWayBack_res rfl rfl HR0.out HR1.out) ?_
    exact ⟨by rw [steps10_flat, HF9.out]; rfl, HB9.out⟩
  case hbody =>
    rintro l S i hi b A0 A hz0' hSA hzA hnew hgv ⟨hr, hk⟩
    have hxi : (allS s)[i]? = some (allS s)[i] := List.getElem?_eq_getElem hi
    generalize (allS s)[i] = x at *
    obtain ⟨hm1, hm2⟩ := mem_allS hxi
    obtain ⟨sg, k⟩ := x
    obtain ⟨bp, bc⟩ := b
    obtain ⟨_, _, ega, hgin, hst⟩ := hgv
    have hst : RoStp u (.slice bp sg.steps.length bc) sg.steps := by unfold sgaA at ega; cases ega; exact hst
    have hsg : A.heap[A0.heap.size]? = some (.cells #[.string sg.name, .string sg.arg, .slice bp sg.steps.length bc] 44 (0, 0)) := (hnew _ (Nat.le_refl _)).trans (heap_alloc_new A0 _)
    obtain ⟨s0, s1, s2⟩ := cells3 hsg
    have hgI : GoesI (gStep10 s) (allS s) u w W3.heap.size [(w.heap.size + 1, strO ⟨#[]⟩), (w.heap.size + 1 + 1, errO 0), (w.heap.size, schO s p1 c1 p2 c2 p3 c3)] S i A := ⟨hr, hk⟩
    have HG := Lib.hid hgI
    have HXI := Lib.hid hxi
    have HKP := Lib.hid hr.kp
    have hm2 : k < sg.steps.length := hm2
    have i1 : (k : Int) < (sg.steps.length : Int) := by omega
    have i2 : (0 : Int) ≤ (k : Int) := by omega
    have HN1 : Hid (sg.name.size ≤ 1000000) := Lib.hid (by have := (HSM.out.g _ hm1).1; simp only at this; omega)
    have HK8 : Hid (k < 10) := Lib.hid (by have := HCN.out _ hm1; simp only at this; omega)
    have HLN : Hid (sg.steps.length ≤ 8) := Lib.hid (by have := HCN.out _ hm1; simp only at this; omega)
    have HKL : Hid (k < sg.steps.length) := Lib.hid hm2
    obtain ⟨B, cb, e5, hB, d0, d1, d2, hpin⟩ := stp_at (hst.kp hr.kp) hm2
    cases e5
    have HGX : Hid (gStep10 s (sg, k) = (fun y : Ip.Stp => if k + 1 = sg.steps.length ∨ Ck.hasUndo s y = true then none else some (Ck.dot sg.name (Ck.num k))) sg.steps[k]) := Lib.hid (by unfold gStep10; rw [show sg.steps.getD k noStp = sg.steps[k] from (by rw [List.getD_eq_getElem?_getD, List.getElem?_eq_getElem hm2, Option.getD_some]; try rfl)])
    have HOK9 : Hid (Ck.stepOk s sg sg.steps[k] = true) := Lib.hid (by
      have hn := found_none_at H9.out hxi
      unfold gStep9 at hn
      rw [show sg.steps.getD k noStp = sg.steps[k] from (by rw [List.getD_eq_getElem?_getD, List.getElem?_eq_getElem hm2, Option.getD_some]; try rfl)] at hn
      cases hq : Ck.stepOk s sg sg.steps[k] with
      | true => rfl
      | false => simp only [hq] at hn; cases hn)
    generalize sg.steps[k] = x at HOK9 d0 d1 d2 HGX hpin
    obtain ⟨xs, xm, xa⟩ := x
    obtain ⟨W1, hW1⟩ : ∃ W1, W1 = A.alloc (.cells #[.string xs, .string xm, .int .i64 xa] 48) := ⟨_, rfl⟩
    have hn1 : W1.heap[A.heap.size]? = some (.cells #[.string xs, .string xm, .int .i64 xa] 48 (0, 0)) := by rw [hW1]; exact heap_alloc_new A _
    have hb1 : Below A.heap.size A W1 := by rw [hW1]; exact tk_alloc A _
    obtain ⟨t0, t1, t2⟩ := cells3 hn1
    obtain ⟨x0, x1, x2, x3⟩ := cells4' (box_keep hb1 (hr.at (b := w.heap.size) (o := schO s p1 c1 p2 c2 p3 c3) (by simp)))
    have HSG := Lib.hid hsg
    have HN9 := Lib.hid hn1
    have HB1 := Lib.hid hb1
    have HPI := Lib.hid hpin.2.2
    have hbk : Kp u W1 := hr.kp.below hb1
    have HKP1 := Lib.hid hbk
    clear hr hk hxi hnew hzA hsg hsq hI0 hm1 hm2 hgI hn1 hb1 hbk hst hgin ega hpin hB
    gi_upto_region 5 with fail
    rw [← hW1]
    clear hW1 d0 d1 d2 s0 s1 s2
    gi_wp2_with fail
    refine ⟨trivial, ?_⟩
    refine (CallsIn.inRound l (callsIn_wide.2 (called_any H.out HKP1.out xs xm))).mono ?_
    rintro e w2 ⟨v, rfl, ⟨rfl, -⟩, hb2⟩
    have HB2 := Lib.hid (HB1.out.trans (hb2.mono HB1.out.size))
    have HN92 := Lib.hid (box_keep hb2 HN9.out)
    clear hb2 t0 t1 t2 x0 x1 x2 x3
    generalize ho : Ck.method s xs xm = o at HGX
    generalize hso : o.isSome = so
    generalize hgo : o.getD noMth = z
    obtain ⟨zn, za, zr, ze, zu⟩ := z
    unfold mthV
    simp only
    obtain ⟨W4, hW4⟩ : ∃ W4, W4 = w2.alloc (.cells #[.string zn, .string za, .int .u8 (zr : Nat), .string ze, .string zu] 100) := ⟨_, rfl⟩
    have hb4 : Below A.heap.size A W4 := by rw [hW4]; exact HB2.out.trans ((tk_alloc w2 _).mono HB2.out.size)
    have hn4 : W4.heap[w2.heap.size]? = some (.cells #[.string zn, .string za, .int .u8 (zr : Nat), .string ze, .string zu] 100 (0, 0)) := by rw [hW4]; exact heap_alloc_new w2 _
    have hn94 : W4.heap[A.heap.size]? = some (.cells #[.string xs, .string xm, .int .i64 xa] 48 (0, 0)) := by rw [hW4]; exact box_keep (tk_alloc w2 _) HN92.out
    obtain ⟨y0, y1, y2, y3, y4⟩ := cells5 hn4
    obtain ⟨t0, t1, t2⟩ := cells3 hn94
    obtain ⟨s0, s1, s2⟩ := cells3 (box_keep hb4 HSG.out)
    have HB4 := Lib.hid hb4
    clear hn4 hn94 hb4
    gi_upto_region 6 with fail
    rw [← hW4]
    clear hW4
    have HNK : Hid ((Ck.num k).size ≤ 1000000) := Lib.hid (num_small HK8.out)
    cases o with
    | none => exact absurd HOK9.out (by unfold Ck.stepOk; simp only [ho]; decide)
    | some m =>
      have hsf : so = true := hso.symm
      subst hsf
      have hz : m = ⟨zn, za, zr, ze, zu⟩ := hgo
      subst hz
      have HUN : Hid (Ck.hasUndo s ⟨xs, xm, xa⟩ = !Ck.empty zu) := Lib.hid (by unfold Ck.hasUndo; simp only [ho])
      clear ho hso hgo
      have hu := empty_is zu
      cases q1 : Ck.empty zu with
      | false =>
        rw [q1] at hu
        have HGS : Hid (gStep10 s (sg, k) = none) := Lib.hid (by rw [HGX.out]; show (if _ ∨ Ck.hasUndo s ⟨xs, xm, xa⟩ = true then _ else _) = _; rw [if_pos (.inr (by rw [HUN.out, q1]; rfl))])
        have HON := Lib.hid (HG.out.goOn HXI.out HGS.out HB4.out (b := W0.heap.size))
        clear q1
        gi_wp2_with fail
        exact HON.out
      | true =>
        rw [q1] at hu
        obtain ⟨nl, hnl⟩ : ∃ nl, nl = sg.steps.length := ⟨_, rfl⟩
        have hnl8 : nl ≤ 8 := by have := HLN.out; omega
        by_cases hl : k + 1 = sg.steps.length
        · have j1 : ¬ (k : Int) < (sg.steps.length : Int) - 1 := by omega
          have j2 : (sg.steps.length : Int) ≤ 8 := by omega
          have HGS : Hid (gStep10 s (sg, k) = none) := Lib.hid (by rw [HGX.out]; show (if _ ∨ _ then _ else _) = _; rw [if_pos (.inl hl)])
          have HON := Lib.hid (HG.out.goOn HXI.out HGS.out HB4.out (b := W0.heap.size))
          clear q1 hnl hl hnl8
          gi_wp2_with fail
          exact HON.out
        · have j1 : (k : Int) < (sg.steps.length : Int) - 1 := by have := HKL.out; omega
          have j2 : (sg.steps.length : Int) ≤ 8 := by omega
          have HGS : Hid (gStep10 s (sg, k) = some (Ck.dot sg.name (Ck.num k))) := Lib.hid (by rw [HGX.out]; show (if _ ∨ Ck.hasUndo s ⟨xs, xm, xa⟩ = true then _ else _) = _; rw [if_neg (by rw [HUN.out, q1]; rintro (e | e); exact hl e; cases e)])
          clear q1 hnl hl hnl8
          obtain ⟨z0, z1, f0, f1⟩ := HG.out.cells (X := W4) HB4.out
          have HSTOP := Lib.hid (HG.out.stop (e := 133) HXI.out HGS.out (HB4.out.drew) (by omega) ⟨by omega, by omega⟩ hus ⟨by omega, by omega⟩ (b := W0.heap.size) rfl)
          have mixed : Tryz.prog.follows .mixedOrders = true := by kernel_rfl
          gi_wp2_with fail
          refine wpIn_calm ?_
          gi_region_with_o (first | (refine ⟨trivial, ?_⟩; refine (CallsIn.inRound l (callsIn_wide.2 (itoa_any HK8.out W4.drew))).mono ?_; rintro e w8 ⟨rfl, hw8⟩; obtain rfl := hw8) | (refine ⟨trivial, ?_⟩; refine (CallsIn.inRound l (callsIn_wide.2 (place_any sg.name (Ck.num k) W4.drew HN1.out HNK.out))).mono ?_; rintro e w9 ⟨rfl, hw9⟩; obtain rfl := hw9))
          all_goals
            gi_wp2_with fail
            exact HSTOP.out
end Go.Proofs.YtnkdhmoocomjfaaGreatDoor
