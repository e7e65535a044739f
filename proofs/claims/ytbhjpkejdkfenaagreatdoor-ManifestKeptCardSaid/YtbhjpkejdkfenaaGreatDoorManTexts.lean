/-
  Rows of texts that a call builds by append. Conditions: those in the theorems.
-/
import Derived.Test.YtbhjpkejdkfenaaGreatDoorManApply
namespace Go.Proofs.YtbhjpkejdkfenaaGreatDoor
open Go.RowKit Go.Maps

def txCells (ss : List ByteArray) : List Value := ss.map Value.string
theorem txCells_length (ss : List ByteArray) : (txCells ss).length = ss.length * 1 := by unfold txCells; rw [List.length_map]; omega
theorem txCells_append (a b : List ByteArray) : txCells (a ++ b) = txCells a ++ txCells b := List.map_append
theorem txCells_one (ss : List ByteArray) : ∀ u ∈ txCells ss, u.oneCell' = true := fun u hu => by
  obtain ⟨s, -, rfl⟩ := List.mem_map.1 hu; rfl
theorem infoTx : (Tryz.prog.info? 9).map (fun i => (i.zero, i.size, i.bytes)) = some (some (.string ⟨#[]⟩), 1, 16) := by kernel_rfl
/-- v is a row of the texts ss, in a block of its own, not below base. -/
def OwnT (W : World) (base : Nat) (v : Value) (ss : List ByteArray) : Prop := W.ownsRow base 9 1 v ss.length (txCells ss)
section
variable {W C : World} {base : Nat} {v : Value} {xs : List ByteArray}
theorem OwnT.nil (W : World) (base : Nat) : OwnT W base (.slice none 0 0) [] := World.ownsRow_nil _ _ _ _
theorem OwnT.lt (h : OwnT W base v xs) : ∀ k, v.ownBlock = some k → base ≤ k ∧ k < W.heap.size := World.ownsRow.lt h
theorem OwnT.shape (h : OwnT W base v xs) : ∃ p cap, v = .slice p xs.length cap ∧ xs.length ≤ cap ∧ cap ≤ maxLen := by
  rcases h.2 with ⟨rfl, e⟩ | ⟨g, cap, cur, rfl, h2, h3, h4, h5, -⟩
  · rw [e]; exact ⟨none, 0, rfl, Nat.le_refl _, Nat.zero_le _⟩
  · exact ⟨_, _, rfl, h4, h5⟩
theorem OwnT.stays (h : OwnT W base v xs) (hb : ∀ k, k < W.heap.size → v.ownBlock = some k → C.heap[k]? = W.heap[k]?) : OwnT C base v xs := by
  refine ⟨h.1, ?_⟩
  rcases h.2 with hn | ⟨g, cap, cur, rfl, h1, h2, h3⟩
  · exact .inl hn
  · exact .inr ⟨g, cap, cur, rfl, h1, (hb g (Array.getElem?_eq_some_iff.1 h2).1 rfl).trans h2, h3⟩
theorem OwnT.below (h : OwnT W base v xs) (hb : Below W.heap.size W C) : OwnT C base v xs := h.stays fun k hk _ => hb.block k hk
theorem OwnT.mono {b' : Nat} (h : OwnT W base v xs) (hb : b' ≤ base) : OwnT W b' v xs := by
  refine ⟨h.1, ?_⟩
  rcases h.2 with hn | ⟨g, cap, cur, rfl, h1, h2⟩
  · exact .inl hn
  · exact .inr ⟨g, cap, cur, rfl, Nat.le_trans hb h1, h2⟩
end
/-- Texts that lie in memory. -/
def TxAt (W : World) (p : Option Addr) (ss : List ByteArray) : Prop := ∀ i (h : i < ss.length), ∃ A, p = some A ∧ A.block < W.heap.size ∧ W.cell? (A.add i) = some (.string ss[i])
theorem TxAt.below {W W' : World} {p : Option Addr} {ss : List ByteArray} (h : TxAt W p ss) (hb : Below W.heap.size W W') : TxAt W' p ss := fun i hi => by
  obtain ⟨A, h1, h2, h3⟩ := h i hi
  exact ⟨A, h1, Nat.lt_of_lt_of_le h2 hb.size, (hb.cell (by rw [madd_block]; exact h2)).trans h3⟩
theorem OwnT.texts {W : World} {base : Nat} {v : Value} {xs : List ByteArray} (h : OwnT W base v xs) : ∃ p cap, v = .slice p xs.length cap ∧ xs.length ≤ cap ∧ cap ≤ maxLen ∧ TxAt W p xs := by
  rcases h.2 with ⟨rfl, hn⟩ | ⟨g, cap, cur, rfl, h1, h2, h3, h4, h5, h6⟩
  · rw [hn]; exact ⟨none, 0, rfl, Nat.le_refl _, Nat.zero_le _, fun i hi => by omega⟩
  · refine ⟨some ⟨g, 0, none⟩, cap, rfl, h3, h4, fun i hi => ⟨_, rfl, (Array.getElem?_eq_some_iff.1 h2).1, ?_⟩⟩
    have hadd : (⟨g, 0, none⟩ : Addr).add i = ⟨g, i, none⟩ := by unfold Addr.add; split <;> simp_all
    have e := congrArg (·[i]?) h6
    simp only [List.getElem?_take, if_pos (show i < xs.length * 1 by omega), Array.getElem?_toList] at e
    rw [hadd, cell_of_row W g i cur _ _ h2, e]
    unfold txCells
    rw [List.getElem?_map, List.getElem?_eq_getElem hi]; rfl
/-- Texts that lie at A are appended; what the elder row held it holds still. -/
theorem t_append {W : World} {base : Nat} {v : Value} {l : List ByteArray} (h : OwnT W base v l) (A : Addr) (r : List ByteArray) (m c : Nat) (hm : r.length = m) (hnews : ∀ q u, (txCells r)[q]? = some u → W.cell? (A.add q) = some u) (hs : l.length + m ≤ 1000000) (hb : base ≤ W.heap.size) (ty : TypeId) :
    ∃ (pv : Option Addr) (cv : Nat) (W' : World), (Builtin.append_ #[118, 118] ty #[v, .slice (some A) m c]).run Tryz.prog W = .ok (.slice pv (l.length + m) cv) W' ∧
      OwnT W' base (.slice pv (l.length + m) cv) (l ++ r) ∧ OwnT W' base v l ∧ GrewF v (.slice pv (l.length + m) cv) W W' := by
  subst hm
  obtain ⟨i0, hi0, hz0, hz1, hz2⟩ := info_parts infoTx
  obtain ⟨v', W', hrun, ho, hg, -, hown⟩ := run_append_own_at (P := Tryz.prog) W base 118 ty 9 i0 _ 1 16 Tryz.underlying118 hi0 hz0 hz1 hz2 rfl (by decide) v _ _ h
    A r.length c (txCells r) (txCells_length r) hnews (txCells_one r) (by unfold maxLen; omega) (by omega) hb
  have ho2 : OwnT W' base v' (l ++ r) := by unfold OwnT; rw [txCells_append, List.length_append]; exact ho
  obtain ⟨pv, cv, rfl, -, -⟩ := ho2.shape
  rw [List.length_append] at hrun ho2 hown
  have hold : OwnT W' base v l := by
    rcases h.2 with ⟨rfl, e⟩ | ⟨g, cap, cur, rfl, h2, h3, h4, h5, h6, h7⟩
    · exact ⟨h.1, .inl ⟨rfl, e⟩⟩
    · by_cases hroom : l.length + r.length ≤ cap
      · have hrun2 := run_append_room (P := Tryz.prog) W 118 ty 9 i0 Tryz.underlying118 hi0 g l.length cap cur h3 A r.length c (txCells r) (by rw [hz1]; exact txCells_length r) hnews (txCells_one r) hroom (by rw [hz1, txCells_length, h6]; omega)
        rw [hrun] at hrun2
        simp only [Result.ok.injEq] at hrun2
        obtain ⟨-, e2⟩ := hrun2
        rw [hz1] at e2
        refine ⟨h.1, .inr ⟨g, cap, _, rfl, h2, by rw [e2]; exact setRow_heap W g cur _ _ _ h3, h4, h5, ?_, ?_⟩⟩
        · have hcl : cur.toList.length = cap * 1 := by rw [Array.length_toList, h6]
          simp only [List.size_toArray, List.length_append, List.length_take, List.length_drop, hcl, txCells_length]; omega
        · have hcl : cur.toList.length = cap * 1 := by rw [Array.length_toList, h6]
          have hll : (cur.toList.take (l.length * 1)).length = l.length * 1 := by rw [List.length_take, hcl]; omega
          rw [List.toList_toArray, List.append_assoc, List.take_left' hll]
          exact h7
      · have hrun2 := run_append_grow (P := Tryz.prog) W 118 ty 9 i0 _ Tryz.underlying118 hi0 hz0 ⟨g, 0, none⟩ l.length cap (txCells l) (by rw [hz1]; exact txCells_length l) (World.ownsRow.cells (g := g) h rfl) A r.length c (txCells r) (by rw [hz1]; exact txCells_length r) hnews (by omega) (by omega) (by rw [hz2]; exact growslice_fits (by omega) (by omega))
        rw [hrun] at hrun2
        simp only [Result.ok.injEq] at hrun2
        obtain ⟨-, e2⟩ := hrun2
        refine ⟨h.1, .inr ⟨g, cap, cur, rfl, h2, ?_, h4, h5, h6, h7⟩⟩
        have hlt := (Array.getElem?_eq_some_iff.1 h3).1
        rw [e2]
        exact (Below.heap_alloc W.drew _ g hlt).trans h3
  exact ⟨pv, cv, W', hrun, ho2, hold, hg.os, hg.tape, hg.output, hg.size, fun k hk hn => hg.block k hk fun e => hn e.symm, fun k hk => by
    rcases hown with e | e
    · exact .inl (e ▸ hk)
    · rw [e] at hk
      simp only [Option.some.injEq] at hk
      exact .inr (by omega)⟩
end Go.Proofs.YtbhjpkejdkfenaaGreatDoor
