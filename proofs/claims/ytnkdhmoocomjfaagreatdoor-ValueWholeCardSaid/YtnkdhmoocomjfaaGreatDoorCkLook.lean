/-
  Walks over package check: record, methodOf, called: the first one of a name in a schema. Conditions: those in the theorems.
-/
import Derived.Test.YtnkdhmoocomjfaaGreatDoorCkFirst
set_option linter.unusedSimpArgs false
set_option linter.unusedVariables false
namespace Go.Proofs.YtnkdhmoocomjfaaGreatDoor
open Go.RowKit
theorem ckRecord_res {W : World} {tmps : Array Value} {b : Nat} {x0 x1 x2 x9 : Value} (h4 : tmps[4]? = some (.pointer (some ⟨b, 0, none⟩))) (h5 : tmps[5]? = some x9) (h : W.heap[b]? = some (.cells #[x0, x1, x2] 34 (0, 0))) :
    (results Tryz.f52 tmps).run Tryz.prog W = .ok (.tuple #[.agg #[x0, x1, x2], x9]) W := by
  obtain ⟨c0, c1, c2⟩ := cells3 h
  simp [results, Tryz.results52, h4, h5, go_sem, c0, c1, c2]
theorem methodOf_res {W : World} {tmps : Array Value} {b : Nat} {x0 x1 x2 x3 x4 x9 : Value} (h4 : tmps[4]? = some (.pointer (some ⟨b, 0, none⟩))) (h5 : tmps[5]? = some x9) (h : W.heap[b]? = some (.cells #[x0, x1, x2, x3, x4] 100 (0, 0))) :
    (results Tryz.f174 tmps).run Tryz.prog W = .ok (.tuple #[.agg #[x0, x1, x2, x3, x4], x9]) W := by
  obtain ⟨c0, c1, c2, c3, c4⟩ := cells5 h
  simp [results, Tryz.results174, h4, h5, go_sem, c0, c1, c2, c3, c4]
theorem called_res {W : World} {tmps : Array Value} {b : Nat} {x0 x1 x2 x3 x4 x9 : Value} (h4 : tmps[6]? = some (.pointer (some ⟨b, 0, none⟩))) (h5 : tmps[7]? = some x9) (h : W.heap[b]? = some (.cells #[x0, x1, x2, x3, x4] 100 (0, 0))) :
    (results Tryz.f134 tmps).run Tryz.prog W = .ok (.tuple #[.agg #[x0, x1, x2, x3, x4], x9]) W := by
  obtain ⟨c0, c1, c2, c3, c4⟩ := cells5 h
  simp [results, Tryz.results134, h4, h5, go_sem, c0, c1, c2, c3, c4]

def schC (a b c d : Value) : Obj := .cells #[a, b, c, d] 26 (0, 0)
/-- A schema that is read only: its rows' values. -/
theorem sch_parts {u : World} {sv : Value} {s : Ip.Sch} (h : RoSch u sv s) : ∃ p1 c1 p2 c2 p3 c3, sv = .agg #[.string s.name, .slice p1 s.records.length c1, .slice p2 s.services.length c2, .slice p3 s.sagas.length c3] ∧ Sm_ s.name ∧
    RoRcd u (.slice p1 s.records.length c1) s.records ∧ RoSrv u (.slice p2 s.services.length c2) s.services ∧ RoSga u (.slice p3 s.sagas.length c3) s.sagas ∧ s.records.length ≤ 9223372036854775807 ∧ s.services.length ≤ 9223372036854775807 ∧ s.sagas.length ≤ 9223372036854775807 := by
  obtain ⟨vr, vs, vg, e, h0, h1, h2, h3⟩ := h
  obtain ⟨p1, c1, rfl, l1⟩ := ro_len h1
  obtain ⟨p2, c2, rfl, l2⟩ := ro_len h2
  obtain ⟨p3, c3, rfl, l3⟩ := ro_len h3
  exact ⟨p1, c1, p2, c2, p3, c3, e, h0, h1, h2, h3, l1, l2, l3⟩
set_option maxRecDepth 100000 in
set_option maxHeartbeats 4000000 in
theorem ckRecord_any {u w : World} {sv : Value} {s : Ip.Sch} (h : RoSch u sv s) (hu : Kp u w) (n : ByteArray) : Calls Tryz.prog 52 #[sv, .string n] w (Fnd RcdV noRcd u (Ck.find s n) w) := by
  obtain ⟨p1, c1, p2, c2, p3, c3, rfl, -, hr, -, -, l1, l2, l3⟩ := sch_parts h
  obtain ⟨W0, hW0⟩ : ∃ W0, W0 = allocs w [.cells #[.string s.name, .slice p1 s.records.length c1, .slice p2 s.services.length c2, .slice p3 s.sagas.length c3] 26, .cells #[.string n] 9, .cells #[.string ⟨#[]⟩, .bool false, .slice none 0 0] 34] := ⟨_, rfl⟩
  have HX : Hid (∀ W, Below W0.heap.size W0 W → W.heap[w.heap.size]? = some (.cells #[.string s.name, .slice p1 s.records.length c1, .slice p2 s.services.length c2, .slice p3 s.sagas.length c3] 26 (0, 0)) ∧ W.heap[w.heap.size + 1]? = some (.cells #[.string n] 9 (0, 0)) ∧
      W.heap[w.heap.size + 2]? = some (.cells #[.string ⟨#[]⟩, .bool false, .slice none 0 0] 34 (0, 0)) ∧ Below w.heap.size w W) := Lib.hid (by subst hW0; exact fun W hW => ⟨allocs_box (i := 0) rfl hW, allocs_box (i := 1) rfl hW, allocs_box (i := 2) rfl hW, allocs_on hW⟩)
  have H := Lib.hid hr
  have HU := Lib.hid hu
  obtain ⟨b0, b1, b2, B0⟩ := HX.out W0 (Below.refl _ _)
  obtain ⟨x0, x1, x2, x3⟩ := cells4' b0
  have HB1 := Lib.hid b1
  have HU0 := Lib.hid (hu.below B0)
  clear h hr hu b0 b1 b2 B0
  simp only [allocs] at hW0
  go_enter Tryz.func52, Tryz.ntmps52
  go_upto_region 1 with fail
  rw [← hW0]
  clear hW0
  go_wp2_with fail
  refine (firstR_any H.out HU0.out n HB1.out).mono ?_
  rintro e w1 ⟨v, rfl, hv, hb1⟩
  obtain ⟨q, k, rfl, hin, hf⟩ := hv
  obtain ⟨-, -, hz, hB⟩ := HX.out _ hb1
  obtain ⟨z0, z1, z2⟩ := cells3 hz
  have f0 := frozen2 hz 0; have f1 := frozen2 hz 1; have f2 := frozen2 hz 2
  have HZ := Lib.hid hz
  have HB := Lib.hid hB
  have HI := Lib.hid hin
  have HF := Lib.hid hf
  clear hz hB hin hf hb1 x0 x1 x2 x3
  go_wp2_with fail
  refine bodyPost_ret (ckRecord_res rfl rfl (set_three _ _ _ HZ.out)) rfl ?_
  exact ⟨_, rfl, ⟨_, _, rfl, HI.out, HF.out⟩, (((HB.out).setCell (by dsimp only; omega) _).setCell (by dsimp only; omega) _).setCell (by dsimp only; omega) _⟩
set_option maxRecDepth 100000 in
set_option maxHeartbeats 4000000 in
theorem methodOf_any {u w : World} {vv : Value} {x : Ip.Srv} (h : SrvV u vv x) (hu : Kp u w) (n : ByteArray) : Calls Tryz.prog 174 #[vv, .string n] w (Fnd MthV noMth u (Ck.methodOf x n) w) := by
  obtain ⟨p1, c1, rfl, -, hr⟩ := h
  obtain ⟨_, _, e1, l1⟩ := ro_len hr
  cases e1
  obtain ⟨W0, hW0⟩ : ∃ W0, W0 = allocs w [.cells #[.string x.name, .slice p1 x.methods.length c1] 98, .cells #[.string n] 9, .cells #[.string ⟨#[]⟩, .string ⟨#[]⟩, .int .u8 0, .string ⟨#[]⟩, .string ⟨#[]⟩] 100] := ⟨_, rfl⟩
  have HX : Hid (∀ W, Below W0.heap.size W0 W → W.heap[w.heap.size]? = some (.cells #[.string x.name, .slice p1 x.methods.length c1] 98 (0, 0)) ∧ W.heap[w.heap.size + 1]? = some (.cells #[.string n] 9 (0, 0)) ∧
      W.heap[w.heap.size + 2]? = some (.cells #[.string ⟨#[]⟩, .string ⟨#[]⟩, .int .u8 0, .string ⟨#[]⟩, .string ⟨#[]⟩] 100 (0, 0)) ∧ Below w.heap.size w W) := Lib.hid (by subst hW0; exact fun W hW => ⟨allocs_box (i := 0) rfl hW, allocs_box (i := 1) rfl hW, allocs_box (i := 2) rfl hW, allocs_on hW⟩)
  have H := Lib.hid hr
  obtain ⟨b0, b1, b2, B0⟩ := HX.out W0 (Below.refl _ _)
  obtain ⟨x0, x1⟩ := cells2 b0
  have HB1 := Lib.hid b1
  have HU0 := Lib.hid (hu.below B0)
  clear hr hu b0 b1 b2 B0
  simp only [allocs] at hW0
  go_enter Tryz.func174, Tryz.ntmps174
  go_upto_region 1 with fail
  rw [← hW0]
  clear hW0
  go_wp2_with fail
  refine (firstM_any H.out HU0.out n HB1.out).mono ?_
  rintro e w1 ⟨v, rfl, ⟨rfl, hin⟩, hb1⟩
  obtain ⟨-, -, hz, hB⟩ := HX.out _ hb1
  obtain ⟨z0, z1, z2, z3, z4⟩ := cells5 hz
  have f0 := frozen2 hz 0; have f1 := frozen2 hz 1; have f2 := frozen2 hz 2; have f3 := frozen2 hz 3; have f4 := frozen2 hz 4
  have HZ := Lib.hid hz
  have HB := Lib.hid hB
  have HI := Lib.hid hin
  unfold mthV
  clear hz hB hin hb1 x0 x1
  go_wp2_with fail
  refine bodyPost_ret (methodOf_res rfl rfl (set_five _ _ _ _ _ HZ.out)) rfl ?_
  exact ⟨_, rfl, ⟨rfl, HI.out⟩, (((((HB.out).setCell (by dsimp only; omega) _).setCell (by dsimp only; omega) _).setCell (by dsimp only; omega) _).setCell (by dsimp only; omega) _).setCell (by dsimp only; omega) _⟩
theorem method_of (s : Ip.Sch) (a b : ByteArray) : Ck.method s a b = Ck.methodOf ((Ck.service s a).getD noSrv) b := by
  unfold Ck.method
  cases Ck.service s a <;> rfl
set_option maxRecDepth 100000 in
set_option maxHeartbeats 4000000 in
theorem called_any {u w : World} {sv : Value} {s : Ip.Sch} (h : RoSch u sv s) (hu : Kp u w) (n m : ByteArray) : Calls Tryz.prog 134 #[sv, .string n, .string m] w (Fnd MthV noMth u (Ck.method s n m) w) := by
  obtain ⟨p1, c1, p2, c2, p3, c3, rfl, -, -, hr, -, l1, l2, l3⟩ := sch_parts h
  obtain ⟨W0, hW0⟩ : ∃ W0, W0 = allocs w [.cells #[.string s.name, .slice p1 s.records.length c1, .slice p2 s.services.length c2, .slice p3 s.sagas.length c3] 26, .cells #[.string n] 9, .cells #[.string ⟨#[]⟩, .string ⟨#[]⟩, .int .u8 0, .string ⟨#[]⟩, .string ⟨#[]⟩] 100] := ⟨_, rfl⟩
  have HX : Hid (∀ W, Below W0.heap.size W0 W → W.heap[w.heap.size]? = some (.cells #[.string s.name, .slice p1 s.records.length c1, .slice p2 s.services.length c2, .slice p3 s.sagas.length c3] 26 (0, 0)) ∧ W.heap[w.heap.size + 1]? = some (.cells #[.string n] 9 (0, 0)) ∧
      W.heap[w.heap.size + 2]? = some (.cells #[.string ⟨#[]⟩, .string ⟨#[]⟩, .int .u8 0, .string ⟨#[]⟩, .string ⟨#[]⟩] 100 (0, 0)) ∧ Below w.heap.size w W) := Lib.hid (by subst hW0; exact fun W hW => ⟨allocs_box (i := 0) rfl hW, allocs_box (i := 1) rfl hW, allocs_box (i := 2) rfl hW, allocs_on hW⟩)
  have H := Lib.hid hr
  have HU := Lib.hid hu
  obtain ⟨b0, b1, b2, B0⟩ := HX.out W0 (Below.refl _ _)
  obtain ⟨x0, x1, x2, x3⟩ := cells4' b0
  have HB1 := Lib.hid b1
  have HU0 := Lib.hid (hu.below B0)
  clear h hr hu b0 b1 b2 B0
  simp only [allocs] at hW0
  rw [method_of]
  go_enter Tryz.func134, Tryz.ntmps134
  go_upto_region 1 with fail
  rw [← hW0]
  clear hW0
  go_wp2_with fail
  refine (firstV_any H.out HU0.out n HB1.out).mono ?_
  rintro e w1 ⟨v, rfl, hv, hb1⟩
  change SrvV u v ((Ck.service s n).getD noSrv) at hv
  generalize (Ck.service s n).getD noSrv = y at *
  generalize hso : (s.services.find? fun r => Ip.eqB r.name n).isSome = so
  obtain ⟨q, k, rfl, hin, hf⟩ := hv
  have HV : Hid (SrvV u (.agg #[.string y.name, .slice q y.methods.length k]) y) := Lib.hid ⟨q, k, rfl, hin, hf⟩
  obtain ⟨W2, hW2⟩ : ∃ W2, W2 = w1.alloc (.cells #[.string y.name, .slice q y.methods.length k] 98) := ⟨_, rfl⟩
  have hb2 : Below W0.heap.size W0 W2 := by rw [hW2]; exact hb1.trans ((tk_alloc w1 _).mono hb1.size)
  have hn2 : W2.heap[w1.heap.size]? = some (.cells #[.string y.name, .slice q y.methods.length k] 98 (0, 0)) := by rw [hW2]; exact heap_alloc_new w1 _
  obtain ⟨y0, y1⟩ := cells2 hn2
  have H2 := Lib.hid hb2
  clear hin hf hb1 hn2 hb2 x0 x1 x2 x3 hso
  go_upto_region 2 with fail
  rw [← hW2]
  clear hW2
  go_wp2_with fail
  refine (methodOf_any HV.out (HU0.out.below H2.out) m).mono ?_
  rintro e w3 ⟨v, rfl, ⟨rfl, hin⟩, hb3⟩
  obtain ⟨-, -, hz, hB⟩ := HX.out _ (H2.out.trans (hb3.mono H2.out.size))
  obtain ⟨z0, z1, z2, z3, z4⟩ := cells5 hz
  have f0 := frozen2 hz 0; have f1 := frozen2 hz 1; have f2 := frozen2 hz 2; have f3 := frozen2 hz 3; have f4 := frozen2 hz 4
  have HZ := Lib.hid hz
  have HB := Lib.hid hB
  have HI := Lib.hid hin
  unfold mthV
  clear hz hB hin hb3 y0 y1
  go_wp2_with fail
  refine bodyPost_ret (called_res rfl rfl (set_five _ _ _ _ _ HZ.out)) rfl ?_
  exact ⟨_, rfl, ⟨rfl, HI.out⟩, (((((HB.out).setCell (by dsimp only; omega) _).setCell (by dsimp only; omega) _).setCell (by dsimp only; omega) _).setCell (by dsimp only; omega) _).setCell (by dsimp only; omega) _⟩
end Go.Proofs.YtnkdhmoocomjfaaGreatDoor
