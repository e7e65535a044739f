/-
  Rows of texts and of records as boxes beside a disk: what read keeps while it goes on. Conditions: those in the theorems.
-/
import Derived.Test.YtoecbkndbcblpaaGreatDoorWalFollow2
import Derived.Test.YtoecbkndbcblpaaGreatDoorWalFrames
namespace Go.Proofs.YtoecbkndbcblpaaGreatDoor
open Go.RowKit Go.Maps Go.Sort Go.Shelf

section
variable {w0 w w' : World} {a b : Nat} {D D' : Dm.Disk} {B C : List (Nat × Obj)} {v : Value} {R : List (Nat × Obj)}
/-- A row of texts in a box, or none. -/
def TextsIs (v : Value) (R : List (Nat × Obj)) (l : List (List UInt8)) : Prop :=
  (v = .slice none 0 0 ∧ l = [] ∧ R = []) ∨ ∃ g cap cur, v = .slice (some ⟨g, 0, none⟩) l.length cap ∧ R = [(g, .cells cur 9 (0, 0))] ∧ l.length ≤ cap ∧ cap ≤ maxLen ∧ cur.toList.take (l.length * 1) = l.map encStr
theorem TextsIs.shape {l : List (List UInt8)} (h : TextsIs v R l) : ∃ p cap, v = .slice p l.length cap ∧ l.length ≤ cap := by
  rcases h with ⟨rfl, rfl, -⟩ | ⟨g, cap, cur, rfl, rfl, h1, -⟩
  · exact ⟨none, 0, rfl, Nat.le_refl _⟩
  · exact ⟨_, _, rfl, h1⟩
theorem TextsIs.at {l : List (List UInt8)} (h : TextsIs v R l) (hb : ∀ p ∈ R, w.heap[p.1]? = some p.2) {i : Nat} (hi : i < l.length) : ∃ g cap, v = .slice (some ⟨g, 0, none⟩) l.length cap ∧ w.cell? ⟨g, i, none⟩ = some (.string ⟨l[i].toArray⟩) := by
  rcases h with ⟨rfl, rfl, -⟩ | ⟨g, cap, cur, rfl, rfl, h1, h2, h4⟩
  · exact absurd hi (Nat.not_lt_zero _)
  · refine ⟨g, cap, rfl, ?_⟩
    rw [cell_of_row w g i cur _ _ (hb _ List.mem_cons_self)]
    have e : (cur.toList.take (l.length * 1))[i]? = (l.map encStr)[i]? := by rw [h4]
    rw [List.getElem?_take, if_pos (by omega)] at e
    simpa [hi, encStr] using e
/-- A row that a call has made beside the disk becomes a box. -/
theorem Bx.texts {l : List (List UInt8)} (h : Bx w0 w a D B) (ho : w'.ownsRow w.heap.size 9 1 v l.length (l.map encStr)) (hb : Below w.heap.size w w') : ∃ R, Bx w0 w' a D (R ++ B) ∧ TextsIs v R l := by
  rcases ho.2 with ⟨rfl, e⟩ | ⟨g, cap, cur, rfl, hg, h3, h4, h5, h6, h7⟩
  · have hl : l = [] := List.length_eq_zero_iff.1 e
    subst hl
    exact ⟨[], h.same hb, .inl ⟨rfl, rfl, rfl⟩⟩
  · exact ⟨[(g, .cells cur 9 (0, 0))], h.gain (B := B) (turned_of_below (S := fun _ => False) hb) (fun _ e => e.elim) (List.Sublist.refl _) (fun _ _ e => e) hg h3, .inr ⟨g, cap, cur, rfl, rfl, h4, h5, h7⟩⟩

/-! ### records -/
def recCells (p : Nat × List UInt8) : List Value := [natV p.1, encStr p.2]
def recsCells (l : List (Nat × List UInt8)) : List Value := l.flatMap recCells
theorem recsCells_append (l m : List (Nat × List UInt8)) : recsCells (l ++ m) = recsCells l ++ recsCells m := by unfold recsCells; rw [List.flatMap_append]
theorem recsCells_length (l : List (Nat × List UInt8)) : (recsCells l).length = l.length * 2 := by
  induction l with
  | nil => rfl
  | cons p r ih => simp only [recsCells, List.flatMap_cons, List.length_append, List.length_cons] at *; rw [ih]; simp [recCells]; omega
/-- A row of records in a box, or none. -/
def RecIs (v : Value) (R : List (Nat × Obj)) (l : List (Nat × List UInt8)) : Prop :=
  (v = .slice none 0 0 ∧ l = [] ∧ R = []) ∨ ∃ g cap cur, v = .slice (some ⟨g, 0, none⟩) l.length cap ∧ R = [(g, .cells cur 35 (0, 0))] ∧ l.length ≤ cap ∧ cap ≤ maxLen ∧ cur.size = cap * 2 ∧ cur.toList.take (l.length * 2) = recsCells l
theorem RecIs.shape {l : List (Nat × List UInt8)} (h : RecIs v R l) : ∃ p cap, v = .slice p l.length cap ∧ l.length ≤ cap := by
  rcases h with ⟨rfl, rfl, -⟩ | ⟨g, cap, cur, rfl, rfl, h1, -⟩
  · exact ⟨none, 0, rfl, Nat.le_refl _⟩
  · exact ⟨_, _, rfl, h1⟩
theorem RecIs.owns {l : List (Nat × List UInt8)} (h : RecIs v R l) (hb : ∀ p ∈ R, w.heap[p.1]? = some p.2) : w.ownsRow 0 35 2 v l.length (recsCells l) := by
  rcases h with ⟨rfl, rfl, -⟩ | ⟨g, cap, cur, rfl, rfl, h1, h2, h3, h4⟩
  · exact World.ownsRow_nil _ _ _ _
  · exact ⟨recsCells_length l, .inr ⟨g, cap, cur, rfl, Nat.zero_le _, hb _ List.mem_cons_self, h1, h2, h3, h4⟩⟩
theorem infoR : (Tryz.prog.info? 35).map (fun i => (i.zero, i.size, i.bytes)) = some (some (.agg #[.int .i64 0, .string ⟨#[]⟩]), 2, 24) := by kernel_rfl
/-- A record is appended to a row of them. -/
theorem RecIs.push {l : List (Nat × List UInt8)} (h : Bx w0 w a D (R ++ C)) (hr : RecIs v R l) (n : Nat) (s : ByteArray) {z : Nat} {W1 : World} (hb : Below w.heap.size w W1) (hz : W1.heap[z]? = some (.cells #[natV n, .string s] 35 (0, 0))) (hl : l.length ≤ 1000000) (ty : TypeId) :
    ∃ (p : Option Addr) (cv : Nat) (W2 : World) (R' : List (Nat × Obj)), (Builtin.append_ #[25, 25] ty #[v, .slice (some ⟨z, 0, none⟩) 1 1]).run Tryz.prog W1 = .ok (.slice p (l.length + 1) cv) W2 ∧ Bx w0 W2 a D (R' ++ C) ∧ RecIs (.slice p (l.length + 1) cv) R' (l ++ [(n, s.data.toList)]) := by
  obtain ⟨i0, hi0, hz0, hz1, hz2⟩ := info_parts infoR
  have h1 := h.same hb
  have hown : W1.ownsRow 0 35 2 v l.length (recsCells l) := hr.owns fun p hp => h1.box p (List.mem_append_left _ hp)
  have hnews : ∀ j u, ([natV n, .string s] : List Value)[j]? = some u → W1.cell? ((⟨z, 0, none⟩ : Addr).add j) = some u := fun j u hu => by
    have hadd : (⟨z, 0, none⟩ : Addr).add j = ⟨z, j, none⟩ := by unfold Addr.add; split <;> simp_all
    rw [hadd, cell_of_row W1 z _ _ _ _ hz]
    simpa using hu
  obtain ⟨v', W2, hrun, ho, hg, hnil, hat⟩ := run_append_own_at (P := Tryz.prog) W1 0 25 ty 35 i0 _ 2 24 Tryz.underlying25 hi0 hz0 hz1 hz2 rfl (by decide) v _ _ hown
    ⟨z, 0, none⟩ 1 1 [natV n, .string s] rfl hnews (fun u hu => by simp at hu; rcases hu with rfl | rfl <;> rfl) (by unfold maxLen; omega) (by omega) (Nat.zero_le _)
  have e1 : recsCells l ++ [natV n, .string s] = recsCells (l ++ [(n, s.data.toList)]) := by rw [recsCells_append]; simp [recsCells, recCells, encStr]
  have e2 : l.length + 1 = (l ++ [(n, s.data.toList)]).length := by simp
  rw [e1] at ho
  rcases ho.2 with ⟨-, e⟩ | ⟨g, cap, cur, rfl, -, q1, q2, q3, q4, q5⟩
  · omega
  have hrow : RecIs (.slice (some ⟨g, 0, none⟩) (l.length + 1) cap) [(g, .cells cur 35 (0, 0))] (l ++ [(n, s.data.toList)]) := .inr ⟨g, cap, cur, by rw [e2], rfl, by rw [← e2]; exact q2, q3, q4, by rw [← e2]; exact q5⟩
  refine ⟨_, cap, W2, [(g, .cells cur 35 (0, 0))], hrun, ?_, hrow⟩
  have hT : Turned (fun k => k ∈ rowBlk v) W1 W2 := turned_grown (S := fun k => k ∈ rowBlk v) hg fun k hk => by
    unfold Value.ownBlock at hk; unfold rowBlk; split at hk <;> simp_all
  rcases hr with ⟨rfl, rfl, rfl⟩ | ⟨g0, cap0, cur0, rfl, rfl, -⟩
  · have hg1 : W1.heap.size ≤ g := by
      rcases hat with e | e
      · simp [Value.ownBlock] at e
      · have := Option.some.inj (show some g = some W1.heap.size from e); omega
    exact h1.gain (B := C) hT (fun k hk => nomatch hk) (List.Sublist.refl _) (fun p _ e => nomatch e) hg1 q1
  · have hnd := List.nodup_cons.1 h1.apart
    have hne : ∀ p ∈ C, ¬ p.1 ∈ rowBlk (.slice (some ⟨g0, 0, none⟩) l.length cap0) := fun p hp e => by
      rw [rowBlk_some] at e
      exact hnd.1 (List.mem_map.2 ⟨p, hp, List.mem_singleton.1 e⟩)
    rcases hat with e | e
    · have hgg : g = g0 := Option.some.inj (show some g = some g0 from e)
      subst hgg
      exact Bx.turn h1 (hT.mono fun k hk => by rw [rowBlk_some] at hk; exact List.mem_singleton.1 hk) q1
    · have := Option.some.inj (show some g = some W1.heap.size from e)
      exact h1.gain (B := C) hT (fun k hk => by rw [rowBlk_some] at hk; rw [List.mem_singleton.1 hk]; simp) (List.sublist_cons_self _ _) hne (by omega) q1
end
end Go.Proofs.YtoecbkndbcblpaaGreatDoor
