/-
  Walks over package disk: List, cut. Conditions: those in the theorems.
-/
import Derived.Test.YtoecbkndbcblpaaGreatDoorDiskWalkL
namespace Go.Proofs.YtoecbkndbcblpaaGreatDoor
open Go.RowKit Go.Maps Go.Sort Go.Shelf

theorem List_nil (w : World) : Calls Tryz.prog 17 #[.pointer none] w fun e w' => e = .returned (.slice none 0 0) ∧ w = w' := by
  go_enter Tryz.func17, Tryz.ntmps17
  go_wp2
  go_ret
  exact ⟨rfl, rfl⟩

theorem name_size {D : Dm.Disk} (h : Dm.Right D) {k : List UInt8} (hk : k ∈ Dm.keys D.files) : (⟨k.toArray⟩ : ByteArray).size ≤ 32 := by
  obtain ⟨p, hp, rfl⟩ := List.mem_map.1 hk
  have := Dm.isName_len (h.names p hp)
  show p.1.toArray.size ≤ 32
  simp; omega

/-- v is a new list of the texts ks. -/
def Listed (w : World) (ks : List (List UInt8)) (v : Value) (w' : World) : Prop :=
  w'.ownsRow w.heap.size 9 1 v ks.length (ks.map encStr) ∧ (v = .slice none 0 0 ↔ ks = []) ∧ Below w.heap.size w w'

set_option maxRecDepth 100000 in
set_option maxHeartbeats 2000000 in
theorem List_disk {w : World} {a : Nat} {D : Dm.Disk} {S : Nat → Prop} (h : Disk w a D S) :
    Calls Tryz.prog 17 #[.pointer (some ⟨a, 0, none⟩)] w fun e w' => ∃ v, e = .returned v ∧ Listed w (Dm.keys D.files) v w' := by
  obtain ⟨m, T, hR, -⟩ := h
  have hnm := names_rep hR
  have hns := fun k hk => name_size hR.right (k := k) hk
  have hfew : (Dm.keys D.files).length ≤ 256 := by rw [Dm.keys, List.length_map]; exact hR.right.few
  clear hR
  generalize Dm.keys D.files = ks at *
  have HN := Lib.hid hns
  clear hns
  go_enter Tryz.func17, Tryz.ntmps17
  go_wp2_with fail
  refine hnm.mono ?_
  rintro e w1 ⟨v, rfl, hrow, hnil, hb⟩
  by_cases hks : ks = []
  · have hv := hnil.2 hks
    subst hks hv
    have HR := Lib.hid hrow
    have HB := Lib.hid hb
    clear hrow hb hnil
    go_wp2_with fail
    refine wp_loop_rounds 1 ?_
    rw [rounds_succ]
    go_wp2
    go_ret
    exact ⟨_, rfl, HR.out, ⟨fun _ => rfl, fun _ => rfl⟩, HB.out⟩
  · obtain ⟨g, cap, rfl⟩ : ∃ g cap, v = .slice (some ⟨g, 0, none⟩) ks.length cap := by
      rcases hrow.2 with ⟨h1, h2⟩ | ⟨g, cap, _, h1, _⟩
      · exact absurd (hnil.1 h1) hks
      · exact ⟨g, cap, h1⟩
    have hg := hrow.lt g rfl
    clear hnil
    go_wp2_with fail
    go_loopw [12] (fun i wr => ∃ k : Nat, k ≤ ks.length ∧ i = .int .i64 (k : Nat) ∧ wr.ownsRow w.heap.size 9 1 (.slice (some ⟨g, 0, none⟩) ks.length cap) ks.length (ks.map encStr) ∧ Below w.heap.size w wr) (fun i _ => ks.length - (intOf i).toNat)
    case atStart => exact ⟨0, Nat.zero_le _, rfl, hrow, hb⟩
    case round =>
      obtain ⟨k, hk, rfl, hrow2, hb2⟩ := hrel
      by_cases hlt : k < ks.length
      · have i1 : (k : Int) < (ks.length : Int) := by omega
        have i2 : (0 : Int) ≤ (k : Int) := by omega
        have hck : wr.cell? ⟨g, k, none⟩ = some (encStr ks[k]) := by rw [hrow2.cellAt k (by omega), List.getElem?_map, List.getElem?_eq_getElem hlt]; rfl
        have hfk := hrow2.frozenAt k
        have hsz : (⟨ks[k].toArray⟩ : ByteArray).size ≤ 281474976710656 := Nat.le_trans (HN.out _ (List.getElem_mem hlt)) (by omega)
        have hgr := hrow2.lt g rfl
        generalize hname : ks[k] = nm at hck hsz
        have HNM := Lib.hid hname
        clear hname
        simp only [encStr] at hck
        go_wp2_with fail
        refine (clone_any _ _ hsz).mono ?_
        rintro e w2 ⟨rfl, hb3⟩
        have hc2 : w2.cell? ⟨g, k, none⟩ = some (.string ⟨nm.toArray⟩) := (hb3.cell (p := ⟨g, k, none⟩) hgr.2).trans hck
        have hf2 : w2.frozen? ⟨g, k, none⟩ = false := (hb3.frozen (p := ⟨g, k, none⟩) hgr.2).trans hfk
        have hrow3 := hrow2.kept (w' := w2) (row := none) ⟨hb3.os, hb3.tape, hb3.output, hb3.size, fun k hk _ => hb3.block k hk⟩ (by simp [Value.ownBlock])
        have hst := hrow3.stored k (.string ⟨nm.toArray⟩)
        have hset : (ks.map encStr).set k (.string ⟨nm.toArray⟩) = ks.map encStr := by
          rw [← HNM.out]
          apply List.ext_getElem?
          intro j
          rw [List.getElem?_set]
          split
          · rename_i e; subst e; simp [hlt]
          · rfl
        rw [hset] at hst
        have HST := Lib.hid hst.1
        have HB := Lib.hid ((hb2.trans (hb3.mono hb2.size)).setCell (p := ⟨g, k, none⟩) hgr.1 (.string ⟨nm.toArray⟩))
        clear hst hset hrow3 hb3 hrow2 hb2 hck hfk
        go_wp2
        go_roundw
        case rel => exact ⟨k + 1, by omega, rfl, HST.out, HB.out⟩
        case measure => simp [intOf]; omega
      · obtain rfl : k = ks.length := by omega
        have i1 : ¬ (ks.length : Int) < (ks.length : Int) := by omega
        have HR := Lib.hid hrow2
        have HB := Lib.hid hb2
        clear hrow2 hb2
        go_wp2
        go_ret
        exact ⟨_, rfl, HR.out, ⟨(fun e => nomatch e), fun e => absurd e hks⟩, HB.out⟩
end Go.Proofs.YtoecbkndbcblpaaGreatDoor
