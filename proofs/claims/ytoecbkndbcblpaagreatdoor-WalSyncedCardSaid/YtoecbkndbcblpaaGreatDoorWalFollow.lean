/-
  Walks over package wal: follow. Conditions: those in the theorems.
-/
import Derived.Test.YtoecbkndbcblpaaGreatDoorWalCore
namespace Go.Proofs.YtoecbkndbcblpaaGreatDoor
open Go.RowKit Go.Maps Go.Sort Go.Shelf

section
variable {w0 w w' : World} {a b : Nat} {D D' : Dm.Disk} {B B0 : List (Nat × Obj)} {W : Wm.W} {v : Value} {R : List (Nat × Obj)}
/-- Some boxes are given up, and turn; the others stay. -/
theorem Bx.lose {S' : Nat → Prop} (h : Bx w0 w a D B0) (ht : Turned S' w w') (hS : ∀ k, S' k → k ∈ B0.map (·.1)) (hsub : B.Sublist B0) (hkeep : ∀ p ∈ B, ¬ S' p.1) : Bx w0 w' a D B := by
  obtain ⟨S, h1, h2, h3⟩ := h.ex
  have hnew : ∀ k, S' k → w0.heap.size ≤ k := fun k hk => by
    obtain ⟨p, hp, rfl⟩ := List.mem_map.1 (hS k hk); exact h.new p hp
  refine ⟨⟨S, h1.stay ht fun k hk e => ?_, fun k hk => ⟨(h2 k hk).1, Nat.lt_of_lt_of_le (h2 k hk).2 ht.size⟩, fun p hp => h3 p (hsub.subset hp)⟩, fun p hp => (ht.block _ (h.lt p (hsub.subset hp)) (hkeep p hp)).trans (h.box p (hsub.subset hp)), h.apart.sublist (hsub.map _), fun p hp => h.new p (hsub.subset hp), h.below.trans (ht.below h.below.size hnew)⟩
  obtain ⟨p, hp, rfl⟩ := List.mem_map.1 (hS k e)
  exact h3 p hp hk
/-- And one comes that is new. -/
theorem Bx.gain {S' : Nat → Prop} (h : Bx w0 w a D B0) (ht : Turned S' w w') (hS : ∀ k, S' k → k ∈ B0.map (·.1)) (hsub : B.Sublist B0) (hkeep : ∀ p ∈ B, ¬ S' p.1) {g : Nat} {o : Obj} (hg : w.heap.size ≤ g) (ho : w'.heap[g]? = some o) : Bx w0 w' a D ((g, o) :: B) := by
  obtain ⟨S, h1, h2, h3⟩ := h.ex
  have hnew : ∀ k, S' k → w0.heap.size ≤ k := fun k hk => by
    obtain ⟨p, hp, rfl⟩ := List.mem_map.1 (hS k hk); exact h.new p hp
  refine ⟨⟨S, h1.stay ht fun k hk e => ?_, fun k hk => ⟨(h2 k hk).1, Nat.lt_of_lt_of_le (h2 k hk).2 ht.size⟩, fun p hp => ?_⟩, fun p hp => ?_, ?_, fun p hp => ?_, h.below.trans (ht.below h.below.size hnew)⟩
  · obtain ⟨p, hp, rfl⟩ := List.mem_map.1 (hS k e)
    exact h3 p hp hk
  · rcases List.mem_cons.1 hp with rfl | hp
    · exact fun e => by have := (h2 _ e).2; simp only at this; omega
    · exact h3 p (hsub.subset hp)
  · rcases List.mem_cons.1 hp with rfl | hp
    · exact ho
    · exact (ht.block _ (h.lt p (hsub.subset hp)) (hkeep p hp)).trans (h.box p (hsub.subset hp))
  · rw [List.map_cons]
    refine List.nodup_cons.2 ⟨fun e => ?_, h.apart.sublist (hsub.map _)⟩
    obtain ⟨p, hp, e⟩ := List.mem_map.1 e
    have := h.lt p (hsub.subset hp)
    simp only at e; omega
  · rcases List.mem_cons.1 hp with rfl | hp
    · exact Nat.le_trans h.below.size hg
    · exact h.new p (hsub.subset hp)

theorem infoI : (Tryz.prog.info? 3).map (fun i => (i.zero, i.size, i.bytes)) = some (some (.int .i64 0), 1, 8) := by kernel_rfl
theorem rowBlk_some {g n c : Nat} : rowBlk (.slice (some ⟨g, 0, none⟩) n c) = [g] := rfl
/-- A number is appended to a log's row. -/
theorem RowIs.push {C : List (Nat × Obj)} {xs : List Nat} (h : Bx w0 w a D (R ++ C)) (hr : RowIs v R xs) (n : Nat) {z : Nat} {W1 : World} (hb : Below w.heap.size w W1) (hz : W1.heap[z]? = some (.cells #[natV n] 3 (0, 0))) (hl : xs.length ≤ 100000) (ty : TypeId) :
    ∃ (p : Option Addr) (cv : Nat) (W2 : World) (R' : List (Nat × Obj)), (Builtin.append_ #[41, 41] ty #[v, .slice (some ⟨z, 0, none⟩) 1 1]).run Tryz.prog W1 = .ok (.slice p (xs ++ [n]).length cv) W2 ∧ Bx w0 W2 a D (R' ++ C) ∧ RowIs (.slice p (xs ++ [n]).length cv) R' (xs ++ [n]) := by
  obtain ⟨i0, hi0, hz0, hz1, hz2⟩ := info_parts infoI
  have h1 := h.same hb
  have hown : W1.ownsRow 0 3 1 v xs.length (xs.map natV) := hr.owns fun p hp => h1.box p (List.mem_append_left _ hp)
  have hnews : ∀ j u, ([natV n] : List Value)[j]? = some u → W1.cell? ((⟨z, 0, none⟩ : Addr).add j) = some u := fun j u hu => by
    have hadd : (⟨z, 0, none⟩ : Addr).add j = ⟨z, j, none⟩ := by unfold Addr.add; split <;> simp_all
    rw [hadd, cell_of_row W1 z _ _ _ _ hz]
    simpa using hu
  obtain ⟨v', W2, hrun, ho, hg, hnil, hat⟩ := run_append_own_at (P := Tryz.prog) W1 0 41 ty 3 i0 _ 1 8 Tryz.underlying41 hi0 hz0 hz1 hz2 rfl (by decide) v _ _ hown
    ⟨z, 0, none⟩ 1 1 [natV n] rfl hnews (fun u hu => by simp at hu; subst hu; rfl) (by unfold maxLen; omega) (by omega) (Nat.zero_le _)
  have e1 : xs.map natV ++ [natV n] = (xs ++ [n]).map natV := by simp
  have e2 : xs.length + 1 = (xs ++ [n]).length := by simp
  rw [e1, e2] at ho
  rcases ho.2 with ⟨-, e⟩ | ⟨g, cap, cur, rfl, -, q1, q2, q3, q4, q5⟩
  · simp at e
  have hrow : RowIs (.slice (some ⟨g, 0, none⟩) (xs ++ [n]).length cap) [(g, .cells cur 3 (0, 0))] (xs ++ [n]) := .inr ⟨g, cap, cur, rfl, rfl, q2, q3, q4, q5⟩
  refine ⟨_, cap, W2, [(g, .cells cur 3 (0, 0))], hrun, ?_, hrow⟩
  have hT : Turned (fun k => k ∈ rowBlk v) W1 W2 := turned_grown (S := fun k => k ∈ rowBlk v) hg fun k hk => by
    unfold Value.ownBlock at hk; unfold rowBlk; split at hk <;> simp_all
  rcases hr with ⟨rfl, rfl, rfl⟩ | ⟨g0, cap0, cur0, rfl, rfl, -⟩
  · have hg1 : W1.heap.size ≤ g := by
      rcases hat with e | e
      · simp [Value.ownBlock] at e
      · have := Option.some.inj (show some g = some W1.heap.size from e); omega
    exact h1.gain (B := C) hT (fun k hk => nomatch hk) (List.Sublist.refl _) (fun p _ e => nomatch e) hg1 q1
  · have hnd := List.nodup_cons.1 h1.apart
    have hne : ∀ p ∈ C, ¬ p.1 ∈ rowBlk (.slice (some ⟨g0, 0, none⟩) xs.length cap0) := fun p hp e => by
      rw [rowBlk_some] at e
      exact hnd.1 (List.mem_map.2 ⟨p, hp, List.mem_singleton.1 e⟩)
    rcases hat with e | e
    · have hgg : g = g0 := Option.some.inj (show some g = some g0 from e)
      subst hgg
      exact Bx.turn h1 (hT.mono fun k hk => by rw [rowBlk_some] at hk; exact List.mem_singleton.1 hk) q1
    · have := Option.some.inj (show some g = some W1.heap.size from e)
      exact h1.gain (B := C) hT (fun k hk => by rw [rowBlk_some] at hk; rw [List.mem_singleton.1 hk]; simp) (List.sublist_cons_self _ _) hne (by omega) q1
end
end Go.Proofs.YtoecbkndbcblpaaGreatDoor
