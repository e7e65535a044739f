/-
  Walks over package disk: slices.Clone of bytes, bytes.Equal. Conditions: those in the theorems.
-/
import Derived.Test.YteolagmlghalgaaDiskWalkO
import Derived.WalkLawsBesides
import Derived.Lib.SliceRun
namespace Go.Proofs.Yteolagmlghalgaa
open Go.RowKit Go.Maps Go.Sort Go.Shelf

theorem equal_any {w : World} {p q : Option Addr} {n m c d : Nat} {l k : List UInt8} (h1 : w.ownsRow 0 5 1 (.slice p n c) l.length (l.map byteV)) (h2 : w.ownsRow 0 5 1 (.slice q m d) k.length (k.map byteV)) :
    Calls Try.prog 53 #[.slice p n c, .slice q m d] w fun e w' => e = .returned (.bool (l == k)) ∧ w = w' := by
  have t1 := text_of_row h1
  have t2 := text_of_row h2
  clear h1 h2
  go_enter Try.func53, Try.ntmps53
  go_wp2
  go_ret
  exact ⟨rfl, rfl⟩
set_option maxRecDepth 100000 in
theorem clone_row {w : World} {p : Option Addr} {n c : Nat} {l : List UInt8} (h : w.ownsRow 0 5 1 (.slice p n c) l.length (l.map byteV)) (hl : l.length ≤ 1048576) :
    Calls Try.prog 48 #[.slice p n c] w fun e w' => ∃ v, e = .returned v ∧ w'.ownsRow w.heap.size 5 1 v l.length (l.map byteV) ∧ Below w.heap.size w w' := by
  have hnil := fun W => Lib.run_eql_slice_nil (P := Try.prog) W 38 5 p n c 0 0 Try.underlying38
  obtain ⟨i0, hi0, hz0, hz1, hz2⟩ := info_parts infoB
  rcases h.2 with ⟨h1, h2⟩ | ⟨g, cap, cur, h1, h2, h3, h4, h5, h6, h7⟩
  · cases h1
    have := List.eq_nil_of_length_eq_zero h2
    subst this
    clear h
    go_enter Try.func48, Try.ntmps48
    go_wp2
    go_ret
    exact ⟨_, rfl, World.ownsRow_nil _ _ _ _, Below.refl _ _⟩
  · cases h1
    have hcells := Lib.hid (World.ownsRow.cells (g := g) h rfl)
    clear h h7
    go_enter Try.func48, Try.ntmps48
    have hg := (Array.getElem?_eq_some_iff.1 h3).1
    have hmade := World.ownsRow_made (base := w.heap.size) (e := 5) (size := 1) w #[] 0 (Nat.le_refl _) (Nat.zero_le _) rfl
    clear h3
    go_wp2_with (first
      | (at_builtin; refine wpList_append_own _ rfl _ _ 38 rfl w.heap.size 5 i0 (.int .u8 0) 1 1 Try.underlying38 hi0 hz0 hz1 hz2 rfl (by decide) _ _ _ rfl hmade ⟨g, 0, none⟩ l.length c (l.map byteV) rfl (by simp) (fun j u hj => by rw [World.cell?_of_block (Below.heap_alloc w _ _ (by rw [add_blk]; exact hg))]; exact hcells.out j u hj) (fun u hu => by obtain ⟨b, -, rfl⟩ := List.mem_map.1 hu; rfl) (by unfold maxLen; omega) (by omega) (by simp) ?_; intro v' w1 ho hgr hnl)
      | go_in)
    go_ret
    refine ⟨v', rfl, by simpa using ho, ?_⟩
    exact ((Below.refl _ w).alloc (Nat.le_refl _) _).grown hgr (by simp) fun k hk => by cases hk; exact Nat.le_refl _
end Go.Proofs.Yteolagmlghalgaa
