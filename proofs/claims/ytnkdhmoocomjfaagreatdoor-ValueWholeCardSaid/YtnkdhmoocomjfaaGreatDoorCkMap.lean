/-
  A set of names in a map of the call's own. Conditions: those in the theorems.
-/
import Derived.Test.YtnkdhmoocomjfaaGreatDoorCkDecl
import Derived.Maps.Own
import Derived.Maps.OwnSet
import Derived.Maps.OwnIn
set_option linter.unusedSimpArgs false
set_option linter.unusedVariables false
namespace Go.Proofs.YtnkdhmoocomjfaaGreatDoor
open Go.RowKit Go.Maps
theorem lawN : Keyed Tryz.prog 9 := string_keyed Tryz.underlying9
theorem zeroN (w : World) : (zeroValue 227).run Tryz.prog w = .ok (.agg #[]) w := by kernel_rfl
theorem keyN {x : ByteArray} (hx : x.size ≤ maxLen) : keyOf Tryz.prog 9 (.string x) = some (.string x.data.toList) := Go.WideMaps.keyOf_string_mk Tryz.underlying9 hx
/-- Block b is a map that has the names of L. -/
def SetIs (W : World) (b : Nat) (L : List ByteArray) : Prop := ∃ D : DataW Unit, W.ownsMap Tryz.prog 9 unitElem b L.length D ∧ Maps.size D = L.length ∧ ∀ x : ByteArray, Maps.has D (.string x.data.toList) = Ck.inB L x
theorem SetIs.made (w : World) : SetIs (w.alloc (.map #[] 0)) w.heap.size [] := ⟨_, World.ownsMap_made w _ _ _, rfl, fun x => rfl⟩
theorem SetIs.same {W W' : World} {b : Nat} {L : List ByteArray} (h : SetIs W b L) (hb : W'.heap[b]? = W.heap[b]?) : SetIs W' b L := by
  obtain ⟨D, ⟨es, clock, h1, h2⟩, h3⟩ := h
  exact ⟨D, ⟨es, clock, hb.trans h1, h2⟩, h3⟩
theorem SetIs.lt {W : World} {b : Nat} {L : List ByteArray} (h : SetIs W b L) : b < W.heap.size := by
  obtain ⟨D, h1, -⟩ := h; exact h1.lt
theorem SetIs.below {W W' : World} {b : Nat} {L : List ByteArray} (h : SetIs W b L) (hb : Below W.heap.size W W') : SetIs W' b L := h.same (hb.block b h.lt)
theorem SetIs.len {W : World} {b : Nat} {L : List ByteArray} (h : SetIs W b L) (ty : TypeId) : (Builtin.len_ #[178] ty #[.map (some b)]).run Tryz.prog W = .ok (.int .i64 (L.length : Nat)) W := by
  obtain ⟨D, h1, h2, -⟩ := h
  rw [h1.len Tryz.underlying178, h2]
theorem SetIs.look {W : World} {b : Nat} {L : List ByteArray} (h : SetIs W b L) {x : ByteArray} (hx : x.size ≤ maxLen) : (Instr.lookup 178 (.map (some b)) (.string x) true).run Tryz.prog W = .ok (.tuple #[.agg #[], .bool (Ck.inB L x)]) W := by
  obtain ⟨D, h1, -, h3⟩ := h
  obtain ⟨v, ps, hrun, hv⟩ := h1.look_ok lawN Tryz.underlying178 (zeroN W) (zd := .agg []) (zp := []) unitElem_mk (keyN hx)
  obtain ⟨rfl, -⟩ := unitElem_inv hv
  rw [hrun, h3]
theorem inB_snoc (L : List ByteArray) (x y : ByteArray) : Ck.inB (L ++ [x]) y = (Ck.inB L y || Ip.eqB x y) := by
  unfold Ck.inB
  rw [List.any_append]
  simp
theorem SetIs.put {W : World} {b : Nat} {L : List ByteArray} (h : SetIs W b L) {x : ByteArray} (hx : x.size ≤ maxLen) (hl : L.length < 1000) : ∃ W', (Instr.mapUpdate 178 (.map (some b)) (.string x) (.agg #[])).run Tryz.prog W = .ok () W' ∧ SetIs W' b (if Ck.inB L x = true then L else L ++ [x]) ∧ W.grownBy W' (some b) := by
  obtain ⟨D, h1, h2, h3⟩ := h
  have hkl : WideAt.IsKeyLit (Lit.string x.data.toList) := by trivial
  obtain ⟨W', hrun, ho, ht⟩ := h1.store lawN Tryz.underlying178 (by unfold maxLen; omega) (keyN hx) (val := .agg #[]) (d := .agg []) (ps := []) unitElem_mk
  have hlen : Maps.size (D.put (Lit.string x.data.toList) (.agg [])) = (if Ck.inB L x = true then L else L ++ [x]).length := by
    rw [Maps.size_put (h1.tidy lawN), h3, h2]
    split <;> simp
  have hput : W'.ownsMap Tryz.prog 9 unitElem b (if Ck.inB L x = true then L else L ++ [x]).length (D.put (Lit.string x.data.toList) (.agg [])) := by
    obtain ⟨es, clock, a1, a2, a3, a4⟩ := ho
    refine ⟨es, clock, a1, a2, ?_, a4⟩
    rw [← hlen, a4]
    simp [Maps.size, length_sorted]
  refine ⟨W', hrun, ⟨_, hput, hlen, fun y => ?_⟩, ht.grown⟩
  by_cases e : x = y
  · subst e
    rw [Maps.has_put_same h1.isMap hkl]
    split
    · rename_i hi; exact hi.symm
    · rw [inB_snoc, Ip.eqB_iff.2 rfl, Bool.or_true]
  · have hne : (Lit.string y.data.toList) ≠ Lit.string x.data.toList := fun h => e (by
      have := Lit.string.inj h
      have h2 : y.data = x.data := Array.toList_inj.1 this
      cases x; cases y; simp_all)
    rw [Maps.has_put_other hne, h3]
    split
    · rfl
    · rw [inB_snoc]
      have : Ip.eqB x y = false := by
        cases hq : Ip.eqB x y with
        | false => rfl
        | true => exact absurd (Ip.eqB_iff.1 hq) e
      rw [this, Bool.or_false]
end Go.Proofs.YtnkdhmoocomjfaaGreatDoor
