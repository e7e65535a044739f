/-
  Walks over package check: rule 7: what undoes a method. Conditions: those in the theorems.
-/
import Derived.Test.YtiikccaaabcegaaGreatDoorCkEffects
import Derived.Shelf.RegionOpen
set_option linter.unusedSimpArgs false
set_option linter.unusedVariables false
namespace Go.Proofs.YtiikccaaabcegaaGreatDoor
open Go.RowKit
attribute [local go_sem] Oper.semAt_some

def gUndos (x : Ip.Srv × Ip.Mth) : Option ByteArray := if Ck.empty x.2.undo || Ck.undone x.1 x.2 then none else some (Ck.dot x.1.name x.2.name)
theorem find_congr {α β : Type} {f g : α → Option β} : ∀ {l : List α}, (∀ x ∈ l, f x = g x) → l.findSome? f = l.findSome? g
  | [], _ => rfl
  | x :: l, h => by rw [List.findSome?_cons, List.findSome?_cons, h x (by simp), find_congr fun y hy => h y (List.mem_cons_of_mem _ hy)]
theorem undos_flat {s : Ip.Sch} (hF : Ck.Four s) (he : Ck.effects s = none) : Ck.undos s = (allM s).findSome? gUndos := by
  unfold allM
  rw [some_flat]
  simp only [List.findSome?_map]
  exact find_congr fun v hv => find_congr fun m hm => by
    show _ = gUndos (v, m)
    unfold gUndos
    rw [hF.undo he hv hm]
theorem wrongUndos_res {W : World} {tmps : Array Value} {r0 r1 : Nat} {x : ByteArray} {e : Nat} (h2 : tmps[2]? = some (.pointer (some ⟨r0, 0, none⟩))) (h3 : tmps[3]? = some (.pointer (some ⟨r1, 0, none⟩))) (h0 : W.heap[r0]? = some (strO x)) (h1 : W.heap[r1]? = some (errO e)) :
    (results Tryz.f47 tmps).run Tryz.prog W = .ok (.tuple #[.string x, .int .i64 (e : Nat)]) W := by
  have c0 := cells1' h0
  have c1 := cells1' h1
  simp [results, Tryz.results47, h2, h3, go_sem, c0, c1]
set_option maxRecDepth 100000 in
set_option maxHeartbeats 8000000 in
theorem wrongUndos_any {u w : World} {sv : Value} {s : Ip.Sch} (h : RoSch u sv s) (hu : Kp u w) (hF : Ck.Four s) (he : Ck.effects s = none) (hS : Ck.Small s) : Calls Tryz.prog 47 #[sv] w (Told (Ck.undos s) 133 w) := by
  obtain ⟨p1, c1, p2, c2, p3, c3, rfl, -, hr, hs, hg, l1, l2, l3⟩ := sch_parts h
  refine (callsIn_wide (n := 9)).1 ?_
  refine callsIn_of_wp_marks Tryz.func47 rfl trivial ?_ rfl
  simp only [Tryz.ntmps47, List.size_toArray, List.length_cons, List.length_nil, Nat.reduceAdd, Nat.reduceSub, Array.replicate_succ, Array.replicate_zero, List.push_toArray, List.append_toArray, List.nil_append, List.cons_append]
  obtain ⟨W0, hW0⟩ : ∃ W0, W0 = allocs w [schO s p1 c1 p2 c2 p3 c3, strO ⟨#[]⟩, errO 0] := ⟨_, rfl⟩
  have hz0 : w.heap.size + 3 ≤ W0.heap.size := by rw [hW0, allocs_size]; exact Nat.le_refl _
  have HX : Hid (∀ W, Below W0.heap.size W0 W → W.heap[w.heap.size]? = some (schO s p1 c1 p2 c2 p3 c3) ∧ W.heap[w.heap.size + 1]? = some (strO ⟨#[]⟩) ∧ W.heap[w.heap.size + 2]? = some (errO 0) ∧ Below w.heap.size w W) := Lib.hid (by subst hW0; exact fun W hW => ⟨allocs_box (i := 0) rfl hW, allocs_box (i := 1) rfl hW, allocs_box (i := 2) rfl hW, allocs_on hW⟩)
  obtain ⟨b0, -, -, B0⟩ := HX.out W0 (Below.refl _ _)
  obtain ⟨x0, x1, x2, x3⟩ := cells4' b0
  have HU := Lib.hid hu
  have H := Lib.hid h
  have HSV := Lib.hid hs
  have HF := Lib.hid hF
  have HE := Lib.hid he
  have HSM := Lib.hid hS
  clear h hr hs hg hu hF he hS b0 B0
  simp only [allocs, schO, strO, errO] at hW0
  rw [show (((0 : Nat) : Int)) = 0 from rfl] at hW0
  gi_wp2_with fail
  rw [← hW0]
  clear hW0
  refine ⟨trivial, ?_⟩
  refine (callsIn_wide.2 (methods_any W0 rfl)).mono ?_
  rintro e w1 ⟨rfl, rfl⟩
  obtain ⟨W3, hW3⟩ : ∃ W3, W3 = W0.alloc (schO s p1 c1 p2 c2 p3 c3) := ⟨_, rfl⟩
  have hb3 : Below W0.heap.size W0 W3 := by rw [hW3]; exact tk_alloc W0 _
  have hn3 : W3.heap[W0.heap.size]? = some (schO s p1 c1 p2 c2 p3 c3) := by rw [hW3]; exact heap_alloc_new W0 _
  have hz3 : W0.heap.size + 1 ≤ W3.heap.size := by rw [hW3, World.size_alloc]; exact Nat.le_refl _
  obtain ⟨q0, q1, q2, q3⟩ := HX.out W3 hb3
  have hku : Kp u W3 := HU.out.below (q3.mono (Nat.le_refl _))
  have hus := HU.out.size
  have hsq := methods1_seq 8 HSV.out hku hn3
  have hI0 : GoesI (gUndos) (allM s) u w W3.heap.size [(w.heap.size + 1, strO ⟨#[]⟩), (w.heap.size + 1 + 1, errO 0), (w.heap.size, schO s p1 c1 p2 c2 p3 c3)] (fun _ => False) 0 W3 :=
    ⟨⟨fun k hk => hk.elim, Nat.le_refl _, q3.size, hku, by omega, q3, fun q hq => by
      simp only [List.mem_cons, List.not_mem_nil, or_false] at hq
      rcases hq with rfl | rfl | rfl
      · exact ⟨q1, by dsimp only; omega⟩
      · exact ⟨q2, by dsimp only; omega⟩
      · exact ⟨q0, by dsimp only; omega⟩⟩, fun j x _ hj => absurd hj (Nat.not_lt_zero _)⟩
  rw [← hW3]
  clear hW3 q0 q1 q2 q3 hn3 hb3 x0 x1 x2 x3
  gi_wp2_with fail
  apply wpIn_rangeV rfl (by omega) (gf := 113) (lb := #[.pointer (some ⟨W0.heap.size, 0, none⟩)]) rfl trivial (enters_of Tryz.func113 (by kernel_rfl) rfl)
    (encs := encM) (rel := relM u) (xs := allM s) (cap := fun k => k < u.heap.size ∨ k = W0.heap.size) hsq (fun k hk => by rcases hk with hk | hk <;> omega) (fun _ _ => rfl) (fun _ _ _ _ _ _ h _ _ => h)
    (fun S i A => GoesI (gUndos) (allM s) u w W3.heap.size [(w.heap.size + 1, strO ⟨#[]⟩), (w.heap.size + 1 + 1, errO 0), (w.heap.size, schO s p1 c1 p2 c2 p3 c3)] S i A)
    (fun c S i A => StopsI (gUndos) (allM s) 133 (w.heap.size + 1) (w.heap.size + 1 + 1) u w W3.heap.size c S i A)
    (fun S S' i A C hs st => hs.steps st) (fun c S S' i A C hs st => hs.steps st) hI0
    (w₁ := fun x b A => (A.alloc (.cells #[.string x.1.name, .slice b.1 x.1.methods.length b.2] 69)).alloc (.cells #[.string x.2.name, .string x.2.arg, .int .u8 (x.2.result : Nat), .string x.2.effect, .string x.2.undo] 38))
    (hw₁ := fun x b A => (tk_alloc A _).trans ((tk_alloc _ _).mono (by rw [World.size_alloc]; omega)))
  case hassign =>
    intro l x b W K hK
    simp only [encM, srvA, mthV]
    gi_wp2
    exact hK
  case hstop =>
    rintro D S c i A hD hSD hS hi ⟨rfl, x, hf, hr⟩ hK
    have HF9 := Lib.hid hf
    obtain ⟨hb9, hq9⟩ := hr.mark hD (.deferred none)
    have HR0 := Lib.hid (hq9 (w.heap.size + 1, strO x) (by simp))
    have HR1 := Lib.hid (hq9 (w.heap.size + 1 + 1, errO 133) (by simp))
    have HB9 := Lib.hid hb9
    clear hf hr hb9 hq9 hsq hI0
    gi_wp2_with fail
    refine rule_leaves (fn := Tryz.f47) hK (wrongUndos_res rfl rfl HR0.out HR1.out) ?_
    exact ⟨by rw [undos_flat HF.out HE.out, HF9.out]; rfl, HB9.out⟩
  case hdone =>
    rintro D S A hD hSD hS ⟨hr, hk⟩ hK
    have HF9 := Lib.hid (found_none hk)
    have f0 := frozen2 (hr.at (b := w.heap.size + 1) (o := strO ⟨#[]⟩) (by simp)) 0
    have f1 := frozen2 (hr.at (b := w.heap.size + 1 + 1) (o := errO 0) (by simp)) 0
    have z0 := cells1' (hr.at (b := w.heap.size + 1) (o := strO ⟨#[]⟩) (by simp))
    have z1 := cells1' (hr.at (b := w.heap.size + 1 + 1) (o := errO 0) (by simp))
    have hrt := hr.tell (by omega) ⟨by omega, by omega⟩ ⟨by omega, by omega⟩ ⟨#[]⟩ 0
    obtain ⟨hb9, hq9⟩ := hrt.mark hD (.deferred none)
    have HR0 := Lib.hid (hq9 (w.heap.size + 1, strO ⟨#[]⟩) (by simp))
    have HR1 := Lib.hid (hq9 (w.heap.size + 1 + 1, errO 0) (by simp))
    have HB9 := Lib.hid hb9
    have HK9 : Hid (((A.setCell ⟨w.heap.size + 1, 0, none⟩ (.string ⟨#[]⟩)).setCell ⟨w.heap.size + 1 + 1, 0, none⟩ (.int .i64 ((0 : Nat) : Int))).heap[D]? = some (.deferred (some []))) := Lib.hid (((Below.heap_setCell _ _ _ _ (by dsimp only; omega)).trans (Below.heap_setCell _ _ _ _ (by dsimp only; omega))).trans hK)
    clear hr hk hsq hI0 hrt hb9 hq9 hK
    gi_wp2_with fail
    refine rule_leaves (fn := Tryz.f47) HK9.out (wrongUndos_res rfl rfl HR0.out HR1.out) ?_
    exact ⟨by rw [undos_flat HF.out HE.out, HF9.out]; rfl, HB9.out⟩
  case hbody =>
    rintro l S i hi b A0 A hz0' hSA hzA hnew ⟨hsv, hmin⟩ ⟨hr, hk⟩
    have hxi : (allM s)[i]? = some (allM s)[i] := List.getElem?_eq_getElem hi
    generalize (allM s)[i] = x at *
    obtain ⟨hm1, hm2⟩ := mem_allM hxi
    obtain ⟨sv, m⟩ := x
    obtain ⟨bp, bc⟩ := b
    have hsg : A.heap[A0.heap.size]? = some (.cells #[.string sv.name, .slice bp sv.methods.length bc] 69 (0, 0)) := (hnew _ (Nat.le_refl _)).trans ((tk_alloc _ _).block _ (by rw [World.size_alloc]; omega) |>.trans (heap_alloc_new A0 _))
    have hmg : A.heap[A0.heap.size + 1]? = some (.cells #[.string m.name, .string m.arg, .int .u8 (m.result : Nat), .string m.effect, .string m.undo] 38 (0, 0)) := (hnew _ (by omega)).trans (by
      have := heap_alloc_new (A0.alloc (.cells #[.string sv.name, .slice bp sv.methods.length bc] 69)) (.cells #[.string m.name, .string m.arg, .int .u8 (m.result : Nat), .string m.effect, .string m.undo] 38)
      rw [World.size_alloc] at this; exact this)
    obtain ⟨s0, s1⟩ := cells2 hsg
    obtain ⟨m0, m1, m2', m3, m4⟩ := cells5 hmg
    obtain ⟨x0, x1, x2, x3⟩ := cells4' (hr.at (b := w.heap.size) (o := schO s p1 c1 p2 c2 p3 c3) (by simp))
    have HG : Hid (GoesI (gUndos) (allM s) u w W3.heap.size [(w.heap.size + 1, strO ⟨#[]⟩), (w.heap.size + 1 + 1, errO 0), (w.heap.size, schO s p1 c1 p2 c2 p3 c3)] S i A) := Lib.hid ⟨hr, hk⟩
    have HXI := Lib.hid hxi
    have HSG := Lib.hid hsg
    have HMG := Lib.hid hmg
    have HKP := Lib.hid hr.kp
    have HSV9 : Hid (SrvV u (.agg #[.string sv.name, .slice bp sv.methods.length bc]) sv) := Lib.hid hsv
    have HN1 : Hid (sv.name.size ≤ 1000000) := Lib.hid (by have := (HSM.out.v _ hm1).1; simp only at this; omega)
    have HN2 : Hid (m.name.size ≤ 1000000) := Lib.hid (by have := ((HSM.out.v _ hm1).2.2 _ hm2).1; simp only at this; omega)
    have HGX : Hid (gUndos (sv, m) = if Ck.empty m.undo || Ck.undone sv m then none else some (Ck.dot sv.name m.name)) := Lib.hid rfl
    clear hr hk hxi hnew hzA hsg hmg hsq hI0 hsv hmin hm1 hm2
    have hem := empty_is m.undo
    cases he : Ck.empty m.undo with
    | true =>
        rw [he] at hem
        have HGS : Hid (gUndos (sv, m) = none) := Lib.hid (by rw [HGX.out, he]; rfl)
        have HON := Lib.hid (HG.out.goOn HXI.out HGS.out (Below.refl _ _) (b := W0.heap.size))
        clear he
        gi_wp2_with fail
        refine ⟨trivial, ?_⟩
        gi_wp2_with fail
        exact HON.out
    | false =>
        rw [he] at hem
        have HGY : Hid (gUndos (sv, m) = if Ck.undone sv m then none else some (Ck.dot sv.name m.name)) := Lib.hid (by rw [HGX.out, he, Bool.false_or])
        clear he
        gi_wp2_with fail
        refine ⟨trivial, ?_⟩
        have HC := Lib.hid (undone_any HSV9.out HKP.out m)
        unfold mthV at HC
        refine (CallsIn.inRound l (callsIn_wide.2 HC.out)).mono ?_
        rintro e w2 ⟨rfl, hb2⟩
        have HB2 := Lib.hid hb2
        clear hb2 s0 s1 m0 m1 m2' m3 m4 x0 x1 x2 x3 hem
        cases ho : Ck.undone sv m with
        | true =>
          have HGS : Hid (gUndos (sv, m) = none) := Lib.hid (by rw [HGY.out, ho]; rfl)
          have HON := Lib.hid (HG.out.goOn HXI.out HGS.out HB2.out (b := W0.heap.size))
          clear ho
          gi_wp2_with fail
          exact HON.out
        | false =>
          have HGS : Hid (gUndos (sv, m) = some (Ck.dot sv.name m.name)) := Lib.hid (by rw [HGY.out, ho]; rfl)
          clear ho
          obtain ⟨z0, z1, f0, f1⟩ := HG.out.cells (X := w2) HB2.out
          obtain ⟨s0, s1⟩ := cells2 (box_keep HB2.out HSG.out)
          obtain ⟨m0, m1, m2', m3, m4⟩ := cells5 (box_keep HB2.out HMG.out)
          have HSTOP := Lib.hid (HG.out.stop (e := 133) HXI.out HGS.out HB2.out (by omega) ⟨by omega, by omega⟩ hus ⟨by omega, by omega⟩ (b := W0.heap.size) rfl)
          gi_wp2_with fail
          refine ⟨trivial, ?_⟩
          refine (CallsIn.inRound l (callsIn_wide.2 (place_any sv.name m.name w2 HN1.out HN2.out))).mono ?_
          rintro e w9 ⟨rfl, rfl⟩
          gi_wp2_with fail
          exact HSTOP.out
end Go.Proofs.YtiikccaaabcegaaGreatDoor
