/-
  Walks over package check: rule 1: names. Conditions: those in the theorems.
-/
import Derived.Test.YtiikccaaabcegaaGreatDoorCkMistyped
set_option linter.unusedSimpArgs false
set_option linter.unusedVariables false
namespace Go.Proofs.YtiikccaaabcegaaGreatDoor
open Go.RowKit
attribute [local go_sem] Oper.semAt_some

def gName (x : ByteArray × List ByteArray) : Option ByteArray := (Ck.nm x.1).or (x.2.findSome? Ck.nm)
theorem names_flat {s : Ip.Sch} (h : Tk.name s.name = true) : Ck.names s = (Ck.decls s).findSome? gName := by
  unfold Ck.names Ck.decls
  rw [if_pos h, List.findSome?_append, List.findSome?_append]
  simp only [List.findSome?_map]
  have e : ∀ g : Ip.Sga, (Ck.nm g.name).or (List.findSome? Ck.nm []) = Ck.nm g.name := fun g => by simp
  congr 1
  · exact find_congr fun r _ => by simp [gName, List.findSome?_map, Function.comp_def]
  · congr 1
    · exact find_congr fun r _ => by simp [gName, List.findSome?_map, Function.comp_def]
    · exact find_congr fun r _ => by simp [gName]
theorem cell_nt {W W' : World} (hn : NoTurn W W') {a : Addr} {v : Value} (h : W.cell? a = some v) : W'.cell? a = some v := by
  have hb : ¬ NoCells W a.block := fun hc => by
    unfold World.cell? at h
    split at h
    · rename_i cs T f hq
      exact hc _ _ _ hq
    · cases h
  have hlt : a.block < W.heap.size := tcell_block h
  rw [World.cell?_of_block (w := W) (hn.block a.block hlt hb)]
  exact h
theorem relD_nt {S S' : Nat → Prop} {W W' : World} {x : ByteArray × List ByteArray} {b : Option Addr × Nat} (h : relD S W x b) (hs : ∀ k, S k → S' k) (hn : NoTurn W W') : relD S' W' x b :=
  ⟨fun i hi => by
    obtain ⟨a, h1, h2, h3⟩ := h.1 i hi
    exact ⟨a, h1, Nat.lt_of_lt_of_le h2 hn.size, cell_nt hn h3⟩, h.2.1, h.2.2.1, fun a ha => hs _ (h.2.2.2 a ha)⟩
/-- Names of few letters. -/
def Short (x : ByteArray × List ByteArray) : Prop := x.1.size ≤ 200 ∧ x.2.length ≤ 40 ∧ ∀ n ∈ x.2, n.size ≤ 200
theorem decls_short {s : Ip.Sch} (h : Ck.Small s) {x : ByteArray × List ByteArray} (hx : x ∈ Ck.decls s) : Short x := by
  unfold Ck.decls at hx
  simp only [List.mem_append, List.mem_map] at hx
  rcases hx with ⟨r, hr, rfl⟩ | ⟨v, hv, rfl⟩ | ⟨g, hg, rfl⟩
  · exact ⟨(h.r r hr).1, by simpa using (h.r r hr).2.1, fun n hn => by
      obtain ⟨f, hf, rfl⟩ := List.mem_map.1 hn
      exact ((h.r r hr).2.2 f hf).1⟩
  · exact ⟨(h.v v hv).1, by simpa using (h.v v hv).2.1, fun n hn => by
      obtain ⟨f, hf, rfl⟩ := List.mem_map.1 hn
      exact ((h.v v hv).2.2 f hf).1⟩
  · exact ⟨(h.g g hg).1, by simp, fun n hn => by cases hn⟩
theorem kw_kp {u W : World} (h : KwIs u) (hk : Kp u W) : KwIs W := by
  obtain ⟨t, fr, h⟩ := h
  exact ⟨t, fr, hk.box h⟩
theorem nm_no {n : ByteArray} (h : Tk.name n = false) : Ck.nm n = some n := by unfold Ck.nm; rw [h]; rfl
theorem nm_yes {n : ByteArray} (h : Tk.name n = true) : Ck.nm n = none := by unfold Ck.nm; rw [h]; rfl
theorem misnamed_res {W : World} {tmps : Array Value} {r0 r1 : Nat} {x : ByteArray} {e : Nat} (h2 : tmps[2]? = some (.pointer (some ⟨r0, 0, none⟩))) (h3 : tmps[3]? = some (.pointer (some ⟨r1, 0, none⟩))) (h0 : W.heap[r0]? = some (strO x)) (h1 : W.heap[r1]? = some (errO e)) :
    (results Tryz.f41 tmps).run Tryz.prog W = .ok (.tuple #[.string x, .int .i64 (e : Nat)]) W := by
  have c0 := cells1' h0
  have c1 := cells1' h1
  simp [results, Tryz.results41, h2, h3, go_sem, c0, c1]
set_option maxRecDepth 100000 in
set_option maxHeartbeats 8000000 in
theorem misnamed_any {u w : World} {sv : Value} {s : Ip.Sch} (h : RoSch u sv s) (hu : Kp u w) (hkw : KwIs u) (hS : Ck.Small s) : Calls Tryz.prog 41 #[sv] w (Told (Ck.names s) 120 w) := by
  obtain ⟨p1, c1, p2, c2, p3, c3, rfl, -, hr, hs, hg, l1, l2, l3⟩ := sch_parts h
  refine (callsIn_wide (n := 9)).1 ?_
  refine callsIn_of_wp_marks Tryz.func41 rfl trivial ?_ rfl
  simp only [Tryz.ntmps41, List.size_toArray, List.length_cons, List.length_nil, Nat.reduceAdd, Nat.reduceSub, Array.replicate_succ, Array.replicate_zero, List.push_toArray, List.append_toArray, List.nil_append, List.cons_append]
  obtain ⟨W0, hW0⟩ : ∃ W0, W0 = allocs w [schO s p1 c1 p2 c2 p3 c3, strO ⟨#[]⟩, errO 0] := ⟨_, rfl⟩
  have hz0 : w.heap.size + 3 ≤ W0.heap.size := by rw [hW0, allocs_size]; exact Nat.le_refl _
  have HX : Hid (∀ W, Below W0.heap.size W0 W → W.heap[w.heap.size]? = some (schO s p1 c1 p2 c2 p3 c3) ∧ W.heap[w.heap.size + 1]? = some (strO ⟨#[]⟩) ∧ W.heap[w.heap.size + 2]? = some (errO 0) ∧ Below w.heap.size w W) := Lib.hid (by subst hW0; exact fun W hW => ⟨allocs_box (i := 0) rfl hW, allocs_box (i := 1) rfl hW, allocs_box (i := 2) rfl hW, allocs_on hW⟩)
  obtain ⟨b0, -, -, B0⟩ := HX.out W0 (Below.refl _ _)
  obtain ⟨x0, x1, x2, x3⟩ := cells4' b0
  have HU := Lib.hid hu
  have H := Lib.hid h
  have HSV := Lib.hid hs
  have HRC := Lib.hid hr
  have HSG3 := Lib.hid hg
  have HU0 := Lib.hid (hu.below B0)
  have HKW := Lib.hid hkw
  have HSM := Lib.hid hS
  clear h hr hs hg hu hkw hS b0 B0
  simp only [allocs, schO, strO, errO] at hW0
  rw [show (((0 : Nat) : Int)) = 0 from rfl] at hW0
  gi_upto_region 1 with fail
  rw [← hW0]
  clear hW0
  gi_wp2_with fail
  refine ⟨trivial, ?_⟩
  refine (callsIn_wide.2 (Name_any s.name W0 (by have := HSM.out.name; unfold maxLen; omega) (kw_kp HKW.out HU0.out))).mono ?_
  rintro e w9 ⟨rfl, hw9⟩
  obtain rfl := hw9.symm
  cases hnm : Tk.name s.name with
  | false =>
    have HT9 : Hid (Ck.names s = some ⟨#[]⟩) := Lib.hid (by unfold Ck.names; rw [if_neg (by rw [hnm]; decide)])
    obtain ⟨-, b1, b2, B3⟩ := HX.out W0 (Below.refl _ _)
    have c0 := cells1' b1
    have c1' := cells1' b2
    have f0 := frozen2 b1 0
    have f1 := frozen2 b2 0
    have HTC := Lib.hid (told_cells b1 b2 (by omega) ⟨#[]⟩ 120)
    have HBF : Hid (Below w.heap.size w ((W0.setCell ⟨w.heap.size + 1, 0, none⟩ (.string ⟨#[]⟩)).setCell ⟨w.heap.size + 1 + 1, 0, none⟩ (.int .i64 ((120 : Nat) : Int)))) := Lib.hid ((B3.setCell (by dsimp only; omega) _).setCell (by dsimp only; omega) _)
    clear hnm b1 b2 B3 x0 x1 x2 x3
    gi_wp2_with fail
    refine rule_ends (fn := Tryz.f41) (misnamed_res rfl rfl HTC.out.1 HTC.out.2) ?_
    exact ⟨by rw [HT9.out]; rfl, HBF.out⟩
  | true =>
    have HNM := Lib.hid hnm
    clear hnm
    gi_wp2_with fail
    refine ⟨trivial, ?_⟩
    refine (callsIn_wide.2 (declared_any W0 rfl)).mono ?_
    rintro e w1 ⟨rfl, rfl⟩
    obtain ⟨W3, hW3⟩ : ∃ W3, W3 = W0.alloc (schO s p1 c1 p2 c2 p3 c3) := ⟨_, rfl⟩
    have hb3 : Below W0.heap.size W0 W3 := by rw [hW3]; exact tk_alloc W0 _
    have hn3 : W3.heap[W0.heap.size]? = some (schO s p1 c1 p2 c2 p3 c3) := by rw [hW3]; exact heap_alloc_new W0 _
    have hz3 : W0.heap.size + 1 ≤ W3.heap.size := by rw [hW3, World.size_alloc]; exact Nat.le_refl _
    obtain ⟨q0, q1, q2, q3⟩ := HX.out W3 hb3
    have hku : Kp u W3 := HU.out.below (q3.mono (Nat.le_refl _))
    have hus := HU.out.size
    have hsq := declared1_seq 8 HRC.out HSV.out HSG3.out HSM.out hku hn3
    have hI0 : GoesI (gName) (Ck.decls s) u w W3.heap.size [(w.heap.size + 1, strO ⟨#[]⟩), (w.heap.size + 1 + 1, errO 0), (w.heap.size, schO s p1 c1 p2 c2 p3 c3)] (fun _ => False) 0 W3 :=
      ⟨⟨fun k hk => hk.elim, Nat.le_refl _, q3.size, hku, by omega, q3, fun q hq => by
        simp only [List.mem_cons, List.not_mem_nil, or_false] at hq
        rcases hq with rfl | rfl | rfl
        · exact ⟨q1, by dsimp only; omega⟩
        · exact ⟨q2, by dsimp only; omega⟩
        · exact ⟨q0, by dsimp only; omega⟩⟩, fun j x _ hj => absurd hj (Nat.not_lt_zero _)⟩
    rw [← hW3]
    clear hW3 q0 q1 q2 q3 hn3 hb3 x0 x1 x2 x3
    gi_wp2_with fail
    apply wpIn_rangeV rfl (by omega) (gf := 106) (lb := #[.pointer (some ⟨W0.heap.size, 0, none⟩)]) rfl trivial (enters_of Tryz.func106 (by kernel_rfl) rfl)
      (encs := encD) (rel := relD) (xs := Ck.decls s) (cap := fun k => k < u.heap.size ∨ k = W0.heap.size) hsq (fun k hk => by rcases hk with hk | hk <;> omega) (fun _ _ => rfl) (fun _ _ _ _ _ _ h hs hn => relD_nt h hs hn)
      (fun S i A => GoesI (gName) (Ck.decls s) u w W3.heap.size [(w.heap.size + 1, strO ⟨#[]⟩), (w.heap.size + 1 + 1, errO 0), (w.heap.size, schO s p1 c1 p2 c2 p3 c3)] S i A)
      (fun c S i A => StopsI (gName) (Ck.decls s) 120 (w.heap.size + 1) (w.heap.size + 1 + 1) u w W3.heap.size c S i A)
      (fun S S' i A C hs st => hs.steps st) (fun c S S' i A C hs st => hs.steps st) hI0
      (w₁ := fun x b A => A)
      (hw₁ := fun x b A => Below.refl _ _)
    case hassign =>
      intro l x b W K hK
      simp only [encD]
      gi_wp2
      exact hK
    case hstop =>
      rintro D S c i A hD hSD hS hi ⟨rfl, x, hf, hr⟩ hK
      have HF9 := Lib.hid hf
      obtain ⟨hb9, hq9⟩ := hr.mark hD (.deferred none)
      have HR0 := Lib.hid (hq9 (w.heap.size + 1, strO x) (by simp))
      have HR1 := Lib.hid (hq9 (w.heap.size + 1 + 1, errO 120) (by simp))
      have HB9 := Lib.hid hb9
      clear hf hr hb9 hq9 hsq hI0
      gi_wp2_with fail
      refine rule_leaves (fn := Tryz.f41) hK (misnamed_res rfl rfl HR0.out HR1.out) ?_
      exact ⟨by rw [names_flat HNM.out, HF9.out]; rfl, HB9.out⟩
    case hdone =>
      rintro D S A hD hSD hS ⟨hr, hk⟩ hK
      have HF9 := Lib.hid (found_none hk)
      have f0 := frozen2 (hr.at (b := w.heap.size + 1) (o := strO ⟨#[]⟩) (by simp)) 0
      have f1 := frozen2 (hr.at (b := w.heap.size + 1 + 1) (o := errO 0) (by simp)) 0
      have z0 := cells1' (hr.at (b := w.heap.size + 1) (o := strO ⟨#[]⟩) (by simp))
      have z1 := cells1' (hr.at (b := w.heap.size + 1 + 1) (o := errO 0) (by simp))
      have hrt := hr.tell (by omega) ⟨by omega, by omega⟩ ⟨by omega, by omega⟩ ⟨#[]⟩ 0
      obtain ⟨hb9, hq9⟩ := hrt.mark hD (.deferred none)
      have HR0 := Lib.hid (hq9 (w.heap.size + 1, strO ⟨#[]⟩) (by simp))
      have HR1 := Lib.hid (hq9 (w.heap.size + 1 + 1, errO 0) (by simp))
      have HB9 := Lib.hid hb9
      have HK9 : Hid (((A.setCell ⟨w.heap.size + 1, 0, none⟩ (.string ⟨#[]⟩)).setCell ⟨w.heap.size + 1 + 1, 0, none⟩ (.int .i64 ((0 : Nat) : Int))).heap[D]? = some (.deferred (some []))) := Lib.hid (((Below.heap_setCell _ _ _ _ (by dsimp only; omega)).trans (Below.heap_setCell _ _ _ _ (by dsimp only; omega))).trans hK)
      clear hr hk hsq hI0 hrt hb9 hq9 hK
      gi_wp2_with fail
      refine rule_leaves (fn := Tryz.f41) HK9.out (misnamed_res rfl rfl HR0.out HR1.out) ?_
      exact ⟨by rw [names_flat HNM.out, HF9.out]; rfl, HB9.out⟩
    case hbody =>
      rintro l S i hi b A0 A hz0' hSA hzA hnew hrel ⟨hr, hk⟩
      have hxi : (Ck.decls s)[i]? = some (Ck.decls s)[i] := List.getElem?_eq_getElem hi
      have hshort := decls_short HSM.out (List.getElem_mem hi)
      generalize (Ck.decls s)[i] = x at *
      obtain ⟨nm, ps⟩ := x
      obtain ⟨bp, bc⟩ := b
      obtain ⟨htx, hbc, hbm, -⟩ := hrel
      simp only at htx hbc hbm
      obtain ⟨hs1, hs2, hs3⟩ := hshort
      simp only at hs1 hs2 hs3
      have hgI : GoesI gName (Ck.decls s) u w W3.heap.size [(w.heap.size + 1, strO ⟨#[]⟩), (w.heap.size + 1 + 1, errO 0), (w.heap.size, schO s p1 c1 p2 c2 p3 c3)] S i A := ⟨hr, hk⟩
      have HG := Lib.hid hgI
      have HXI := Lib.hid hxi
      have HKP := Lib.hid hr.kp
      have HTX := Lib.hid htx
      have HS3 := Lib.hid hs3
      have HS1 : Hid (nm.size ≤ maxLen) := Lib.hid (by unfold maxLen; omega)
      clear hr hk hxi hnew hzA hsq hI0 hgI htx hs3 hs1
      gi_wp2_with fail
      refine ⟨trivial, ?_⟩
      refine (CallsIn.inRound l (callsIn_wide.2 (Name_any nm A HS1.out (kw_kp HKW.out HKP.out)))).mono ?_
      rintro e w9 ⟨rfl, hw9⟩
      obtain rfl := hw9.symm
      cases hq : Tk.name nm with
      | false =>
        have HGS : Hid (gName (nm, ps) = some nm) := Lib.hid (by unfold gName; rw [nm_no hq]; rfl)
        obtain ⟨z0, z1, f0, f1⟩ := HG.out.cells (X := A) (Below.refl _ _)
        have HSTOP := Lib.hid (HG.out.stop (e := 120) HXI.out HGS.out (Below.refl _ _) (by omega) ⟨by omega, by omega⟩ hus ⟨by omega, by omega⟩ (b := W0.heap.size) rfl)
        clear hq
        gi_wp2_with fail
        exact HSTOP.out
      | true =>
        have HGP : Hid (gName (nm, ps) = ps.findSome? Ck.nm) := Lib.hid (by unfold gName; rw [nm_yes hq]; rfl)
        clear hq
        gi_wp2_with fail
        gi_loopw [22] (fun kv wx => ∃ k : Nat, k ≤ ps.length ∧ kv = .int .i64 (k : Nat) ∧ wx = A ∧ Hid (∀ j n, ps[j]? = some n → j < k → Ck.nm n = none)) (fun kv _ => ps.length - (intOf kv).toNat)
        case atStart => exact ⟨0, Nat.zero_le _, rfl, rfl, Lib.hid fun j _ _ hj => absurd hj (Nat.not_lt_zero _)⟩
        case round =>
          obtain ⟨k, hk, rfl, hwx, HR⟩ := hrel
          obtain rfl := hwx.symm
          by_cases hlk : k < ps.length
          · have j1 : (k : Int) < (ps.length : Int) := by omega
            have j2 : (0 : Int) ≤ (k : Int) := by omega
            obtain ⟨B, e5, hB, d0⟩ := HTX.out k hlk
            cases e5
            have HXK := Lib.hid (List.getElem?_eq_getElem hlk)
            have HPS : Hid (ps[k].size ≤ maxLen) := Lib.hid (by have := HS3.out _ (List.getElem_mem hlk); unfold maxLen; omega)
            generalize ps[k] = pn at *
            gi_wp2_with fail
            refine ⟨trivial, ?_⟩
            refine (CallsIn.inRound l (callsIn_wide.2 (Name_any pn A HPS.out (kw_kp HKW.out HKP.out)))).mono ?_
            rintro e w9 ⟨rfl, hw9⟩
            obtain rfl := hw9.symm
            cases hq : Tk.name pn with
            | false =>
              have HGS : Hid (gName (nm, ps) = some pn) := Lib.hid (by rw [HGP.out]; exact found_at HR.out HXK.out (nm_no hq))
              obtain ⟨z0, z1, f0, f1⟩ := HG.out.cells (X := A) (Below.refl _ _)
              have HSTOP := Lib.hid (HG.out.stop (e := 120) HXI.out HGS.out (Below.refl _ _) (by omega) ⟨by omega, by omega⟩ hus ⟨by omega, by omega⟩ (b := W0.heap.size) rfl)
              clear hq
              gi_wp2_with fail
              exact HSTOP.out
            | true =>
              have HQ := Lib.hid (nm_yes hq)
              clear hq
              gi_wp2_with fail
              go_roundw
              case rel => exact ⟨k + 1, by omega, by go_num, trivial, Lib.hid (goes_next HR.out HXK.out HQ.out)⟩
              case measure => simp [intOf]; omega
          · obtain rfl : k = ps.length := by omega
            have j1 : ¬ (ps.length : Int) < (ps.length : Int) := by omega
            have HGS : Hid (gName (nm, ps) = none) := Lib.hid (by rw [HGP.out]; exact found_none HR.out)
            have HON := Lib.hid (HG.out.goOn HXI.out HGS.out (Below.refl _ _) (b := W0.heap.size))
            gi_wp2_with fail
            exact HON.out
end Go.Proofs.YtiikccaaabcegaaGreatDoor
