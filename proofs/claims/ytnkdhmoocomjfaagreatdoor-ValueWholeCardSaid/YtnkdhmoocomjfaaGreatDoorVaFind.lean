/-
  A map of the call's own from names to values of any kind. Conditions: those in the theorems.
  Walks over package value: records found by a closure over a map; which sorts are a type. Conditions: those in the theorems.
-/
import Derived.Test.YtnkdhmoocomjfaaGreatDoorCkMap
import Derived.Test.YtnkdhmoocomjfaaGreatDoorVaAt
import Derived.Test.YtnkdhmoocomjfaaGreatDoorCkCheck
set_option linter.unusedSimpArgs false
set_option linter.unusedVariables false
namespace Go.Proofs.YtnkdhmoocomjfaaGreatDoor
open Go.RowKit Go.Maps
/-- How an element reads: as it is. -/
def heldR (v : Value) : Option (DataW Value × List MemPlace) := some (.held v, [])
/-- Block b is a map of n names that has what g tells. -/
def MapIs (W : World) (b n : Nat) (g : ByteArray → Option Value) : Prop := ∃ D, W.ownsMap Tryz.prog 9 heldR b n D ∧ Maps.size D = n ∧ ∀ x : ByteArray, Maps.has D (.string x.data.toList) = (g x).isSome ∧ ∀ z, D.atKey (.string x.data.toList) (.held z) = .held ((g x).getD z)
theorem MapIs.made (w : World) : MapIs (w.alloc (.map #[] 0)) w.heap.size 0 fun _ => none := ⟨_, World.ownsMap_made w _ _ _, rfl, fun x => ⟨rfl, fun z => rfl⟩⟩
section
variable {W W' : World} {b n : Nat} {g : ByteArray → Option Value}
theorem MapIs.same (h : MapIs W b n g) (hb : W'.heap[b]? = W.heap[b]?) : MapIs W' b n g := by
  obtain ⟨D, ⟨es, clock, h1, h2⟩, h3⟩ := h
  exact ⟨D, ⟨es, clock, hb.trans h1, h2⟩, h3⟩
theorem MapIs.lt (h : MapIs W b n g) : b < W.heap.size := by
  obtain ⟨D, h1, -⟩ := h; exact h1.lt
theorem MapIs.below (h : MapIs W b n g) (hb : Below W.heap.size W W') : MapIs W' b n g := h.same (hb.block b h.lt)
theorem MapIs.len {t e : TypeId} (ht : Tryz.prog.underlying t = some (.map 9 e)) (h : MapIs W b n g) (ty : TypeId) : (Builtin.len_ #[t] ty #[.map (some b)]).run Tryz.prog W = .ok (.int .i64 (n : Nat)) W := by
  obtain ⟨D, h1, h2, -⟩ := h
  rw [h1.len ht, h2]
theorem heldR_inv {v : Value} {x : Value} {ps : List MemPlace} (h : heldR v = some (.held x, ps)) : v = x := by unfold heldR at h; cases h; rfl
theorem MapIs.look_ok {t e : TypeId} (ht : Tryz.prog.underlying t = some (.map 9 e)) {z : Value} (hz : ∀ W, (zeroValue e).run Tryz.prog W = .ok z W) (h : MapIs W b n g) {x : ByteArray} (hx : x.size ≤ maxLen) : (Instr.lookup t (.map (some b)) (.string x) true).run Tryz.prog W = .ok (.tuple #[(g x).getD z, .bool (g x).isSome]) W := by
  obtain ⟨D, h1, -, h3⟩ := h
  obtain ⟨v, ps, hrun, hv⟩ := h1.look_ok lawN ht (hz W) (zd := .held z) (zp := []) rfl (keyN hx)
  rw [(h3 x).2] at hv
  rw [hrun, (h3 x).1, heldR_inv hv]
theorem MapIs.look {t e : TypeId} (ht : Tryz.prog.underlying t = some (.map 9 e)) {z : Value} (hz : ∀ W, (zeroValue e).run Tryz.prog W = .ok z W) (h : MapIs W b n g) {x : ByteArray} (hx : x.size ≤ maxLen) : (Instr.lookup t (.map (some b)) (.string x) false).run Tryz.prog W = .ok ((g x).getD z) W := by
  obtain ⟨D, h1, -, h3⟩ := h
  obtain ⟨v, ps, hrun, hv⟩ := h1.lookup lawN ht (hz W) (zd := .held z) (zp := []) rfl (keyN hx)
  rw [(h3 x).2] at hv
  rw [hrun, heldR_inv hv]
theorem MapIs.put {t e : TypeId} (ht : Tryz.prog.underlying t = some (.map 9 e)) (h : MapIs W b n g) {x : ByteArray} (hx : x.size ≤ maxLen) (hl : n < 1000) (v : Value) : ∃ W', (Instr.mapUpdate t (.map (some b)) (.string x) v).run Tryz.prog W = .ok () W' ∧ MapIs W' b (if (g x).isSome = true then n else n + 1) (fun y => if Ip.eqB x y = true then some v else g y) ∧ W.grownBy W' (some b) := by
  obtain ⟨D, h1, h2, h3⟩ := h
  have hkl : WideAt.IsKeyLit (Lit.string x.data.toList) := by trivial
  obtain ⟨W', hrun, ho, hgt⟩ := h1.store lawN ht (by unfold maxLen; omega) (keyN hx) (val := v) (d := .held v) (ps := []) rfl
  have hlen : Maps.size (D.put (Lit.string x.data.toList) (.held v)) = (if (g x).isSome = true then n else n + 1) := by
    rw [Maps.size_put (h1.tidy lawN), (h3 x).1, h2]
  have hput : W'.ownsMap Tryz.prog 9 heldR b (if (g x).isSome = true then n else n + 1) (D.put (Lit.string x.data.toList) (.held v)) := by
    obtain ⟨es, clock, a1, a2, a3, a4⟩ := ho
    refine ⟨es, clock, a1, a2, ?_, a4⟩
    rw [← hlen, a4]
    simp [Maps.size, length_sorted]
  refine ⟨W', hrun, ⟨_, hput, hlen, fun y => ?_⟩, hgt.grown⟩
  show (_ = (if Ip.eqB x y = true then some v else g y).isSome) ∧ ∀ z, _ = DataW.held ((if Ip.eqB x y = true then some v else g y).getD z)
  by_cases e : x = y
  · subst e
    rw [Maps.has_put_same h1.isMap hkl, if_pos (Ip.eqB_iff.2 rfl)]
    exact ⟨rfl, fun z => Maps.atKey_put_same h1.isMap hkl _ _⟩
  · have hne : (Lit.string y.data.toList) ≠ Lit.string x.data.toList := fun h => e (by
      have := Lit.string.inj h
      have h2 : y.data = x.data := Array.toList_inj.1 this
      cases x; cases y; simp_all)
    rw [Maps.has_put_other hne, if_neg (fun q => e (Ip.eqB_iff.1 q))]
    exact ⟨(h3 y).1, fun z => (Maps.atKey_put_other hne _ _).trans ((h3 y).2 z)⟩
end
end Go.Proofs.YtnkdhmoocomjfaaGreatDoor
set_option linter.unusedSimpArgs false
set_option linter.unusedVariables false
namespace Go.Proofs.YtnkdhmoocomjfaaGreatDoor
open Go.RowKit
def Finds (u : World) (L : List Ip.Rcd) (g : ByteArray → Option Value) : Prop := ∀ x : ByteArray, match g x with
  | some v => ∃ r, L.find? (fun r => Ip.eqB r.name x) = some r ∧ RcdV u v r
  | none => L.find? (fun r => Ip.eqB r.name x) = none
/-- A function that finds the records of s. -/
def FinderIs (u : World) (s : Ip.Sch) (W : World) (fv : Value) : Prop := ∃ c b n g, fv = .func (.func 156) #[] #[.pointer (some ⟨c, 0, none⟩)] ∧ W.heap[c]? = some (.cells #[.map (some b)] 210 (0, 0)) ∧ MapIs W b n g ∧ Finds u s.records g
theorem FinderIs.below {u W W' : World} {s : Ip.Sch} {fv : Value} (h : FinderIs u s W fv) (hb : Below W.heap.size W W') : FinderIs u s W' fv := by
  obtain ⟨c, b, n, g, h1, h2, h3, h4⟩ := h
  exact ⟨c, b, n, g, h1, box_keep hb h2, h3.below hb, h4⟩
theorem Finds.nil (u : World) : Finds u [] fun _ => none := fun x => rfl
theorem Finds.snoc {u : World} {L : List Ip.Rcd} {g : ByteArray → Option Value} (h : Finds u L g) {r : Ip.Rcd} {v : Value} (hv : RcdV u v r) (hn : ∀ q ∈ L, q.name ≠ r.name) : Finds u (L ++ [r]) fun x => if Ip.eqB r.name x = true then some v else g x := fun x => by
  have hx := h x
  by_cases e : Ip.eqB r.name x = true
  · have en := Ip.eqB_iff.1 e
    have hno : L.find? (fun q => Ip.eqB q.name x) = none := List.find?_eq_none.2 fun q hq e2 => hn q hq ((Ip.eqB_iff.1 e2).trans en.symm)
    simp only [if_pos e]
    exact ⟨r, by rw [List.find?_append, hno]; simp [e], hv⟩
  · have e' : Ip.eqB r.name x = false := by cases hq : Ip.eqB r.name x with
      | true => exact absurd hq e
      | false => rfl
    simp only [if_neg e]
    rw [List.find?_append]
    cases hg : g x with
    | none =>
      rw [hg] at hx
      simp only at hx ⊢
      rw [hx]; simp [e']
    | some y =>
      rw [hg] at hx
      obtain ⟨q, h1, h2⟩ := hx
      exact ⟨q, by rw [h1]; rfl, h2⟩
theorem zeroRcd : ∀ W : World, (zeroValue 34).run Tryz.prog W = .ok (.agg #[.string ⟨#[]⟩, .bool false, .slice none 0 0]) W := fun W => by kernel_rfl
theorem find1_res {W : World} {tmps : Array Value} {b : Nat} {x0 x1 x2 x9 : Value} (h3 : tmps[3]? = some (.pointer (some ⟨b, 0, none⟩))) (h4 : tmps[4]? = some x9) (h : W.heap[b]? = some (.cells #[x0, x1, x2] 34 (0, 0))) :
    (results Tryz.f156 tmps).run Tryz.prog W = .ok (.tuple #[.agg #[x0, x1, x2], x9]) W := by
  obtain ⟨c0, c1, c2⟩ := cells3 h
  simp [results, Tryz.results156, h3, h4, go_sem, c0, c1, c2]
theorem Finds.at {u : World} {s : Ip.Sch} {g : ByteArray → Option Value} (h : Finds u s.records g) (x : ByteArray) : ∃ p c, (g x).getD (.agg #[.string ⟨#[]⟩, .bool false, .slice none 0 0]) = .agg #[.string ((Ck.find s x).getD noRcd).name, .bool ((Ck.find s x).getD noRcd).choice, .slice p ((Ck.find s x).getD noRcd).fields.length c] ∧
    RcdIn ((Ck.find s x).getD noRcd) ∧ RoFld u (.slice p ((Ck.find s x).getD noRcd).fields.length c) ((Ck.find s x).getD noRcd).fields ∧ (g x).isSome = (Ck.find s x).isSome := by
  have hx := h x
  cases hg : g x with
  | none =>
    rw [hg] at hx
    have e : Ck.find s x = none := hx
    rw [e]
    obtain ⟨p, c, e1, e2, e3⟩ := RcdV.none u
    exact ⟨p, c, e1, e2, e3, rfl⟩
  | some v =>
    rw [hg] at hx
    obtain ⟨r, h1, p, c, rfl, e2, e3⟩ := hx
    have e : Ck.find s x = some r := h1
    rw [e]
    exact ⟨p, c, rfl, e2, e3, rfl⟩
set_option maxRecDepth 100000 in
set_option maxHeartbeats 4000000 in
theorem find1_any {u W : World} {s : Ip.Sch} {c b n : Nat} {g : ByteArray → Option Value} (h2 : W.heap[c]? = some (.cells #[.map (some b)] 210 (0, 0))) (h3 : MapIs W b n g) (h4 : Finds u s.records g) {x : ByteArray} (hx : x.size ≤ maxLen) :
    Calls Tryz.prog 156 #[.string x, .pointer (some ⟨c, 0, none⟩)] W (Fnd RcdV noRcd u (Ck.find s x) W) := by
  obtain ⟨p, k, e1, e2, e3, e4⟩ := h4.at x
  generalize hr : (Ck.find s x).getD noRcd = r at *
  obtain ⟨W0, hW0⟩ : ∃ W0, W0 = allocs W [.cells #[.string ⟨#[]⟩, .bool false, .slice none 0 0] 34] := ⟨_, rfl⟩
  have HX : Hid (∀ V, Below W0.heap.size W0 V → V.heap[W.heap.size]? = some (.cells #[.string ⟨#[]⟩, .bool false, .slice none 0 0] 34 (0, 0)) ∧ Below W.heap.size W V) := Lib.hid (by subst hW0; exact fun V hV => ⟨allocs_box (i := 0) rfl hV, allocs_on hV⟩)
  have HS0 : Hid (W0.heap.size = W.heap.size + 1) := Lib.hid (by rw [hW0, allocs_size]; rfl)
  obtain ⟨b0, B0⟩ := HX.out W0 (Below.refl _ _)
  have hc := cells1' (box_keep B0 h2)
  have hl := (h3.below B0).look_ok Tryz.underlying210 zeroRcd hx
  rw [e1, e4] at hl
  obtain ⟨W1, hW1⟩ : ∃ V, V = W0.alloc (.cells #[.string r.name, .bool r.choice, .slice p r.fields.length k] 34) := ⟨_, rfl⟩
  have hB1 : Below W0.heap.size W0 W1 := by rw [hW1]; exact tk_alloc W0 _
  have HN1 : Hid (W1.heap[W0.heap.size]? = some (.cells #[.string r.name, .bool r.choice, .slice p r.fields.length k] 34 (0, 0))) := Lib.hid (by rw [hW1]; exact heap_alloc_new W0 _)
  have HZ1 := Lib.hid (HX.out W1 hB1).1
  have HB1 := Lib.hid (HX.out W1 hB1).2
  have HI := Lib.hid e2
  have HF := Lib.hid e3
  have HR := Lib.hid hr
  clear h2 h3 h4 hx b0 B0 hB1 e1 e2 e3 hr
  simp only [allocs] at hW0
  go_enter Tryz.func156, Tryz.ntmps156
  go_upto_region 1 with fail
  rw [← hW0]
  clear hW0
  go_upto_region 2 with fail
  rw [← hW1]
  clear hW1 hl hc
  obtain ⟨y0, y1, y2⟩ := cells3 HN1.out
  have hz := HZ1.out
  obtain ⟨z0, z1, z2⟩ := cells3 hz
  have f0 := frozen2 hz 0; have f1 := frozen2 hz 1; have f2 := frozen2 hz 2
  clear hz
  go_wp2_with fail
  refine bodyPost_ret (find1_res rfl rfl (set_three _ _ _ HZ1.out)) rfl ?_
  exact ⟨_, by first | rfl | rw [e4], ⟨_, _, by rw [HR.out], by rw [HR.out]; exact HI.out, by rw [HR.out]; exact HF.out⟩, (((HB1.out).setCell (by dsimp only; omega) _).setCell (by dsimp only; omega) _).setCell (by dsimp only; omega) _⟩
set_option maxRecDepth 100000 in
set_option maxHeartbeats 4000000 in
theorem find1_fix {W : World} {c b n : Nat} {g : ByteArray → Option Value} (h2 : W.heap[c]? = some (.cells #[.map (some b)] 210 (0, 0))) (h3 : MapIs W b n g) {x : ByteArray} (hx : x.size ≤ maxLen) {r : Ip.Rcd} {p : Option Addr} {k : Nat} {o : Bool} (e1 : (g x).getD (.agg #[.string ⟨#[]⟩, .bool false, .slice none 0 0]) = .agg #[.string r.name, .bool r.choice, .slice p r.fields.length k]) (e4 : (g x).isSome = o) :
    Calls Tryz.prog 156 #[.string x, .pointer (some ⟨c, 0, none⟩)] W fun e w' => e = .returned (.tuple #[.agg #[.string r.name, .bool r.choice, .slice p r.fields.length k], .bool o]) ∧ Below W.heap.size W w' := by
  obtain ⟨W0, hW0⟩ : ∃ W0, W0 = allocs W [.cells #[.string ⟨#[]⟩, .bool false, .slice none 0 0] 34] := ⟨_, rfl⟩
  have HX : Hid (∀ V, Below W0.heap.size W0 V → V.heap[W.heap.size]? = some (.cells #[.string ⟨#[]⟩, .bool false, .slice none 0 0] 34 (0, 0)) ∧ Below W.heap.size W V) := Lib.hid (by subst hW0; exact fun V hV => ⟨allocs_box (i := 0) rfl hV, allocs_on hV⟩)
  have HS0 : Hid (W0.heap.size = W.heap.size + 1) := Lib.hid (by rw [hW0, allocs_size]; rfl)
  obtain ⟨b0, B0⟩ := HX.out W0 (Below.refl _ _)
  have hc := cells1' (box_keep B0 h2)
  have hl := (h3.below B0).look_ok Tryz.underlying210 zeroRcd hx
  rw [e1, e4] at hl
  obtain ⟨W1, hW1⟩ : ∃ V, V = W0.alloc (.cells #[.string r.name, .bool r.choice, .slice p r.fields.length k] 34) := ⟨_, rfl⟩
  have hB1 : Below W0.heap.size W0 W1 := by rw [hW1]; exact tk_alloc W0 _
  have HN1 : Hid (W1.heap[W0.heap.size]? = some (.cells #[.string r.name, .bool r.choice, .slice p r.fields.length k] 34 (0, 0))) := Lib.hid (by rw [hW1]; exact heap_alloc_new W0 _)
  have HZ1 := Lib.hid (HX.out W1 hB1).1
  have HB1 := Lib.hid (HX.out W1 hB1).2
  clear h2 h3 hx b0 B0 hB1 e1
  simp only [allocs] at hW0
  go_enter Tryz.func156, Tryz.ntmps156
  go_upto_region 1 with fail
  rw [← hW0]
  clear hW0
  go_upto_region 2 with fail
  rw [← hW1]
  clear hW1 hl hc
  obtain ⟨y0, y1, y2⟩ := cells3 HN1.out
  have hz := HZ1.out
  obtain ⟨z0, z1, z2⟩ := cells3 hz
  have f0 := frozen2 hz 0; have f1 := frozen2 hz 1; have f2 := frozen2 hz 2
  clear hz
  go_wp2_with fail
  refine bodyPost_ret (find1_res rfl rfl (set_three _ _ _ HZ1.out)) rfl ?_
  exact ⟨rfl, (((HB1.out).setCell (by dsimp only; omega) _).setCell (by dsimp only; omega) _).setCell (by dsimp only; omega) _⟩
end Go.Proofs.YtnkdhmoocomjfaaGreatDoor
