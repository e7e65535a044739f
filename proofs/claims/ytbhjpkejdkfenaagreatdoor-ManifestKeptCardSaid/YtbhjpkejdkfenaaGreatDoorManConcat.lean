/-
  Walks over package manifest: the library's Grow of none and Concat of two rows of tables. Conditions: those in the theorems.
-/
import Derived.Test.YtbhjpkejdkfenaaGreatDoorManWithout
set_option linter.unusedSimpArgs false
set_option linter.unusedVariables false
namespace Go.Proofs.YtbhjpkejdkfenaaGreatDoor
open Go.RowKit Go.Maps
open Mf (File)

theorem infoInt : (Tryz.prog.info? 29).isSome = true := by kernel_rfl
set_option maxRecDepth 100000 in
set_option maxHeartbeats 4000000 in
theorem GrowF_any (n : Nat) (hn : n ≤ 1000000) (w : World) :
    Calls Tryz.prog 91 #[.slice none 0 0, .int .i64 (n : Nat)] w fun e w' => ∃ v, e = .returned v ∧ OwnFis w' w.heap.size v [] ∧ Below w.heap.size w w' := by
  by_cases h0 : n = 0
  · subst h0
    go_enter Tryz.func91, Tryz.ntmps91
    go_wp2_with fail
    go_ret
    exact ⟨_, rfl, OwnFis.nil _ _, Below.refl _ _⟩
  · have hpos : 0 < n := by omega
    obtain ⟨i0, hi0, hz0, hz1, hz2⟩ := info_parts infoFi
    have hrun := Lib.run_append_nil_zeros (P := Tryz.prog) w 22 3 22 29 i0 _ .i64 .i64 Tryz.underlying22 Tryz.underlying3 hi0 hz0 n hpos (by omega) (by omega) (by rw [hz2]; omega)
    have hge := grownCap_ge w n 0 29
    have hle := grownCap_le_maxLen w n 0 29 (by unfold maxLen; omega)
    obtain ⟨cur, hcur⟩ : ∃ cur, cur = Builtin.zeroCells (Value.agg #[.int .i64 0, .int .i64 0, .int .i64 0, .string ⟨#[]⟩, .string ⟨#[]⟩]).cells n ++ Builtin.zeroCells (Value.agg #[.int .i64 0, .int .i64 0, .int .i64 0, .string ⟨#[]⟩, .string ⟨#[]⟩]).cells (grownCap w n 0 29 - n) := ⟨_, rfl⟩
    have hcs : cur.size = grownCap w n 0 29 * 5 := by
      rw [hcur, Array.size_append, size_zeroCells, size_zeroCells]
      show n * 5 + (grownCap w n 0 29 - n) * 5 = _
      omega
    rw [← hcur] at hrun
    generalize grownCap w n 0 29 = cap at *
    have HO : Hid (OwnFis (w.drew.alloc (.cells cur 29)) w.heap.size (.slice (some ⟨w.heap.size, 0, none⟩) 0 cap) []) :=
      Lib.hid ⟨rfl, .inr ⟨w.heap.size, cap, cur, rfl, Nat.le_refl _, heap_alloc_new w.drew _, Nat.zero_le _, hle, hcs, by simp [fisCells]⟩⟩
    have HB : Hid (Below w.heap.size w (w.drew.alloc (.cells cur 29))) := Lib.hid ((Below.refl _ w).drew.alloc (Nat.le_refl _) _)
    have i1 : (0 : Int) < (n : Int) := by omega
    have i2 : ¬ (n : Int) < 0 := by omega
    have i3 : (0 : Int) ≤ (cap : Int) := by omega
    clear hcur hcs hle hge
    go_enter Tryz.func91, Tryz.ntmps91
    go_wp2_with (at_builtin; refine Lib.wpList_append_run _ rfl (.tmp 20) (.tmp 21) _ _ rfl _ _ rfl rfl _ _ hrun ?_)
    go_ret
    exact ⟨_, rfl, HO.out, HB.out⟩
def partsF (l m : List File) : Nat → List File
  | 0 => []
  | 1 => l
  | _ => l ++ m
def sizesF (l m : List File) : Nat → Nat
  | 0 => 0
  | 1 => l.length
  | _ => l.length + m.length
set_option maxRecDepth 100000 in
set_option maxHeartbeats 8000000 in
theorem ConcatF_any {w : World} {b cl cm : Nat} {p q : Option Addr} {l m : List File} (hb : w.heap[b]? = some (.cells #[.slice p l.length cl, .slice q m.length cm] 22 (0, 0))) (hl : FilesAt w p l) (hm : FilesAt w q m) (hs : l.length + m.length ≤ 1000000) :
    Calls Tryz.prog 71 #[.slice (some ⟨b, 0, none⟩) 2 2] w fun e w' => ∃ v, e = .returned v ∧ OwnFis w' w.heap.size v (l ++ m) ∧ Below w.heap.size w w' := by
  have HL := Lib.hid hl
  have HM := Lib.hid hm
  have c0 : w.cell? ⟨b, 0, none⟩ = some (.slice p l.length cl) := by rw [cell_of_row w b _ _ _ _ hb]; rfl
  have c1 : w.cell? ⟨b, 1, none⟩ = some (.slice q m.length cm) := by rw [cell_of_row w b _ _ _ _ hb]; rfl
  have HCE : Hid (∀ W, Below w.heap.size w W → W.cell? ⟨b, 0, none⟩ = some (.slice p l.length cl) ∧ W.cell? ⟨b, 1, none⟩ = some (.slice q m.length cm)) := Lib.hid fun W hW => ⟨(hW.cell (mcell_block c0)).trans c0, (hW.cell (mcell_block c1)).trans c1⟩
  clear hl hm hb c0 c1
  go_enter Tryz.func71, Tryz.ntmps71
  go_wp2_with fail
  go_loopw [3, 11] (fun sv kv wr => ∃ k : Nat, k ≤ 2 ∧ kv = .int .i64 (k : Nat) ∧ sv = .int .i64 (sizesF l m k : Nat) ∧ Hid (Below w.heap.size w wr)) (fun _ kv _ => 2 - (intOf kv).toNat)
  case atStart => exact ⟨0, by omega, rfl, rfl, Lib.hid (Below.refl _ _)⟩
  case round =>
    obtain ⟨k, hk, rfl, rfl, H⟩ := hrel
    obtain ⟨c0, c1⟩ := HCE.out _ H.out
    have h3 : k = 0 ∨ k = 1 ∨ k = 2 := by omega
    rcases h3 with rfl | rfl | rfl
    · simp only [sizesF]
      go_wp2_with fail
      go_roundw
      case rel => exact ⟨1, by omega, rfl, by simp [sizesF], H⟩
      case measure => simp [intOf]
    · simp only [sizesF]
      go_wp2_with fail
      go_roundw
      case rel => exact ⟨2, by omega, rfl, by simp only [sizesF]; go_num, H⟩
      case measure => simp [intOf]
    · simp only [sizesF]
      clear c0 c1
      go_wp2_with fail
      try rw [← Int.natCast_add]
      refine (GrowF_any (l.length + m.length) hs _).mono ?_
      rintro e w2 ⟨v, rfl, ho, hb2⟩
      have HO : Hid (OwnFis w2 w.heap.size v []) := Lib.hid (ho.mono H.out.size)
      have HB := Lib.hid (H.out.trans (hb2.mono H.out.size))
      clear ho hb2
      go_wp2_with fail
      go_loopw [6, 27] (fun rv kv wr2 => ∃ k : Nat, k ≤ 2 ∧ kv = .int .i64 (k : Nat) ∧ Hid (OwnFis wr2 w.heap.size rv (partsF l m k) ∧ Below w.heap.size w wr2)) (fun _ kv _ => 2 - (intOf kv).toNat)
      case atStart => exact ⟨0, by omega, rfl, Lib.hid ⟨HO.out, HB.out⟩⟩
      case round =>
        obtain ⟨k, hk, rfl, H2⟩ := hrel
        obtain ⟨c0, c1⟩ := HCE.out _ H2.out.2
        have hz := H2.out.2.size
        have h3 : k = 0 ∨ k = 1 ∨ k = 2 := by omega
        rcases h3 with rfl | rfl | rfl
        · obtain ⟨pv, cv, W', hrun, ho, hg⟩ := l_append (cap0 := cl) H2.out.1 (Below.refl _ _) (HL.out.below H2.out.2) (by simp [partsF]; omega) hz 22
          have HN : Hid (OwnFis W' w.heap.size (.slice pv ((partsF l m 0).length + l.length) cv) (partsF l m 1) ∧ Below w.heap.size w W') := Lib.hid ⟨ho, hg.below H2.out.2 hz fun k hk => (H2.out.1.lt k hk).1⟩
          clear ho hg
          go_wp2_with (at_builtin; refine Lib.wpList_append_run _ rfl (.tmp 31) (.tmp 32) _ _ rfl _ _ rfl rfl _ _ hrun ?_)
          go_roundw
          case rel => exact ⟨1, by omega, rfl, HN⟩
          case measure => simp [intOf]
        · obtain ⟨pv, cv, W', hrun, ho, hg⟩ := l_append (cap0 := cm) H2.out.1 (Below.refl _ _) (HM.out.below H2.out.2) (by simp [partsF]; omega) hz 22
          have HN : Hid (OwnFis W' w.heap.size (.slice pv ((partsF l m 1).length + m.length) cv) (partsF l m 2) ∧ Below w.heap.size w W') := Lib.hid ⟨ho, hg.below H2.out.2 hz fun k hk => (H2.out.1.lt k hk).1⟩
          clear ho hg
          go_wp2_with (at_builtin; refine Lib.wpList_append_run _ rfl (.tmp 31) (.tmp 32) _ _ rfl _ _ rfl rfl _ _ hrun ?_)
          go_roundw
          case rel => exact ⟨2, by omega, rfl, HN⟩
          case measure => simp [intOf]
        · clear c0 c1
          go_wp2_with fail
          go_ret
          exact ⟨_, rfl, H2.out.1, H2.out.2⟩
end Go.Proofs.YtbhjpkejdkfenaaGreatDoor
