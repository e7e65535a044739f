/-
  Walks over package manifest: Open. Conditions: those in the theorems.
  Walks over package manifest: Commit. Conditions: those in the theorems.
  Walks over package manifest: Commit of a manifest that is down or lost; none, and one that Open did not make. Conditions: those in the theorems.
  Plain facts on a disk that has just a manifest's file main, or none: what Open, keep, the power's going make of it; a manifest of such a disk: opened, committed, opened again. Conditions: those in the theorems.
-/
import Derived.Test.YtbhjpkejdkfenaaGreatDoorManFind
import Derived.Deep.Cut
import Derived.Deep.CutRange
set_option linter.unusedSimpArgs false
set_option linter.unusedVariables false
namespace Go.Proofs.YtbhjpkejdkfenaaGreatDoor
open Go.RowKit Go.Shelf
open Mf (File State)
section
variable {w0 w : World} {a b : Nat} {D D' : Dm.Disk} {B : List (Nat × Obj)} {t : ByteArray} {dead : Bool}
theorem manOpen_nil (w : World) : Calls Tryz.prog 13 #[.pointer none] w fun e w' => e = .returned (.tuple #[.pointer none, .int .i64 2]) ∧ w' = w := by
  go_enter Tryz.func13, Tryz.ntmps13
  go_wp2_with fail
  exact bodyPost_ret (v := .tuple #[.pointer none, .int .i64 2]) (by simp [results, Tryz.results13, go_sem]) rfl ⟨rfl, rfl⟩
theorem manOpen_down (h : Bx w0 w a D B) (hd : D.down = true) : Calls Tryz.prog 13 #[.pointer (some ⟨a, 0, none⟩)] w fun e w' => e = .returned (.tuple #[.pointer none, .int .i64 7]) ∧ Bx w0 w' a D B := by
  have H := Lib.hid h
  have HD := Lib.hid (down_b h hd)
  clear h hd
  go_enter Tryz.func13, Tryz.ntmps13
  go_wp2_with fail
  refine HD.out.mono ?_
  rintro e w2 ⟨rfl, rfl⟩
  go_wp2_with fail
  exact bodyPost_ret (v := .tuple #[.pointer none, .int .i64 7]) (by simp [results, Tryz.results13, go_sem]) rfl ⟨rfl, H.out⟩
theorem fresh_man (h : Bx w0 w a D B) : Bx w0 (w.alloc (.cells #[.pointer (some ⟨a, 0, none⟩), .string ⟨#[]⟩, .bool false] 50)) a D ((w.heap.size, manO a ⟨#[]⟩ false) :: B) := by
  unfold manO
  exact h.alloc _
set_option maxRecDepth 100000 in
set_option maxHeartbeats 4000000 in
theorem manOpen_ok (h : Bx w0 w a D B) (hd : D.down = false)
    (hf : ∀ w1 b, Bx w0 w1 a D ((b, manO a ⟨#[]⟩ false) :: B) → Calls Tryz.prog 49 #[.pointer (some ⟨b, 0, none⟩)] w1 fun e w' => e = .returned (.int .i64 0) ∧ Bx w0 w' a D ((b, manO a t false) :: B))
    {c : Nat} (hs : settleC D = (c, D')) :
    Calls Tryz.prog 13 #[.pointer (some ⟨a, 0, none⟩)] w fun e w' => (c = 0 → ∃ b, e = .returned (.tuple #[.pointer (some ⟨b, 0, none⟩), .int .i64 0]) ∧ Bx w0 w' a D' ((b, manO a t false) :: B)) ∧ (c ≠ 0 → e = .returned (.tuple #[.pointer none, .int .i64 (c : Nat)]) ∧ Bx w0 w' a D' B) := by
  have H := Lib.hid h
  have HD := Lib.hid (down_b h hd)
  have HF := Lib.hid hf
  have HS := Lib.hid hs
  have i0 : (0 : Int) ≤ (c : Int) := by omega
  clear h hd hf hs
  go_enter Tryz.func13, Tryz.ntmps13
  go_wp2_with fail
  refine HD.out.mono ?_
  rintro e w2 ⟨rfl, rfl⟩
  have HA := Lib.hid (fresh_man H.out)
  clear HD
  go_wp2_with fail
  refine (HF.out _ _ HA.out).mono ?_
  rintro e w3 ⟨rfl, h3⟩
  have H3 := Lib.hid (settle_b h3 HS.out)
  clear h3 HF
  go_wp2_with fail
  refine H3.out.mono ?_
  rintro e w4 ⟨rfl, h4⟩
  have H4 := Lib.hid h4
  clear h4 H3
  by_cases hc : c = 0
  · have g1 : ((c : Int) != 0) = false := by rw [hc]; rfl
    have HC := Lib.hid hc
    clear hc
    go_wp2_with fail
    refine bodyPost_ret (v := .tuple #[.pointer (some ⟨w.heap.size, 0, none⟩), .int .i64 0]) (by simp [results, Tryz.results13, go_sem]) rfl ⟨fun _ => ⟨_, rfl, H4.out⟩, fun k => absurd HC.out k⟩
  · have g1 : ((c : Int) != 0) = true := by rw [bne_iff_ne]; omega
    have HC := Lib.hid hc
    clear hc
    go_wp2_with fail
    exact bodyPost_ret (v := .tuple #[.pointer none, .int .i64 (c : Nat)]) (by simp [results, Tryz.results13, go_sem]) rfl ⟨fun k => absurd k HC.out, fun _ => ⟨rfl, H4.out.sub (List.sublist_cons_self _ _)⟩⟩
end
end Go.Proofs.YtbhjpkejdkfenaaGreatDoor
namespace Go.Proofs.YtbhjpkejdkfenaaGreatDoor
open Go.RowKit Go.Shelf
open Mf (File State Edit)
theorem apply_codes (s : State) (e : Edit) : (Mf.apply s e).1 = 0 ∧ Mf.Right (Mf.apply s e).2 ∨ (Mf.apply s e).1 = 1 ∨ (Mf.apply s e).1 = 4 ∨ (Mf.apply s e).1 = 5 := by
  unfold Mf.apply
  split
  · exact .inr (.inl rfl)
  · split
    · exact .inr (.inr (.inl rfl))
    · split
      · exact .inr (.inr (.inr rfl))
      · split
        · exact .inr (.inl rfl)
        · rename_i h
          exact .inl ⟨rfl, Classical.not_not.1 h⟩
section
variable {w0 w : World} {a b : Nat} {D D' : Dm.Disk} {B : List (Nat × Obj)} {t : ByteArray} {dead : Bool}
theorem man_dead {x : Bool} (h : Bx w0 w a D ((b, manO a t dead) :: B)) : Bx w0 (w.setCell ⟨b, 2, none⟩ (.bool x)) a D ((b, manO a t x) :: B) := by
  unfold manO at h ⊢
  exact h.set 2 (.bool x)
set_option maxRecDepth 100000 in
set_option maxHeartbeats 8000000 in
theorem Commit_b {q r : Option Addr} {capd capa : Nat} {l add : List File} {ds : List Int} {nx lg enx elg : Int} (h : Bx w0 w a D ((b, manO a t false) :: B)) (hk : Keeps t ⟨nx, lg, l⟩) (hlost : lostC D t = false)
    (hd : IntsM w q ds) (ha : FilesAt w r add) (hdn : ds.length ≤ 1000) (han : add.length ≤ 1000) (i3 : I64 enx) (i4 : I64 elg) {o : Nat × State} (ho : Mf.apply ⟨nx, lg, l⟩ ⟨ds, add, enx, elg⟩ = o) (hsp : o.1 = 0 → SpeltS w o.2) :
    Calls Tryz.prog 17 #[.pointer (some ⟨b, 0, none⟩), edV q ds.length capd r add.length capa enx elg] w fun e w' => ∃ c : Nat, e = .returned (.int .i64 (c : Nat)) ∧ (o.1 ≠ 0 → c = o.1 ∧ Bx w0 w' a D ((b, manO a t false) :: B)) ∧
      (o.1 = 0 → ∃ D' z, KeepW D (textS o.2).data.toList c D' z ∧ Bx w0 w' a D' ((b, manO a (if z then textS o.2 else t) (decide (c = 7))) :: B)) := by
  obtain ⟨W1, hW1⟩ : ∃ W1, W1 = w.alloc (.cells #[.slice q ds.length capd, .slice r add.length capa, .int .i64 enx, .int .i64 elg] 33) := ⟨_, rfl⟩
  have hb1 : Below w.heap.size w W1 := by rw [hW1]; exact mbelow_alloc _ _
  have he1 : W1.heap[w.heap.size]? = some (edO q ds.length capd r add.length capa enx elg) := by rw [hW1]; exact heap_alloc_new _ _
  have h1 := h.same hb1
  obtain ⟨k0, k1, k2, k3⟩ := man_cells h1.man
  have k4 := k3 2
  have hm := made_b h1.man
  have HLO := Lib.hid (lost_b h1 (keeps_size hk))
  rw [hlost] at HLO
  have H1 := Lib.hid h1
  have HK := Lib.hid hk
  have HE1 := Lib.hid he1
  have HD := Lib.hid (hd.below hb1)
  have HA := Lib.hid (ha.below hb1)
  have HN := Lib.hid (And.intro hdn han)
  have HI := Lib.hid (And.intro i3 i4)
  have HO := Lib.hid ho
  have HSP : Hid (o.1 = 0 → SpeltS W1 o.2) := Lib.hid fun h => (hsp h).on hb1
  have HEC : Hid (∀ W, Below W1.heap.size W1 W → W.cell? ⟨w.heap.size, 0, none⟩ = some (.slice q ds.length capd) ∧ W.cell? ⟨w.heap.size, 1, none⟩ = some (.slice r add.length capa) ∧ W.cell? ⟨w.heap.size, 2, none⟩ = some (.int .i64 enx) ∧ W.cell? ⟨w.heap.size, 3, none⟩ = some (.int .i64 elg) ∧ Below W1.heap.size W1 W) := Lib.hid fun W hW => by
    obtain ⟨e0, e1, e2, e3⟩ := ed_cells ((hW.block _ (Array.getElem?_eq_some_iff.1 he1).1).trans he1)
    exact ⟨e0, e1, e2, e3, hW⟩
  have HST : Hid (∀ W, Below W1.heap.size W1 W → Calls Tryz.prog 18 #[.pointer (some ⟨b, 0, none⟩)] W fun e w' => ∃ pv cv, e = .returned (stV nx lg pv l.length cv) ∧ l.length ≤ cv ∧ cv ≤ maxLen ∧ FilesAt w' pv l ∧ Below W.heap.size W w') := Lib.hid fun W hW => by
    refine (State_b ((hW.block _ (Array.getElem?_eq_some_iff.1 h1.man).1).trans h1.man) hk).mono ?_
    rintro e w' ⟨v, rfl, ho, hb⟩
    obtain ⟨pv, cv, rfl, h1, h2, h3⟩ := ho.files (right_fi hk.1)
    exact ⟨pv, cv, rfl, h1, h2, h3, hb⟩
  have HAP : Hid (∀ W pv cv, Below W1.heap.size W1 W → FilesAt W pv l → l.length ≤ cv → cv ≤ maxLen → Calls Tryz.prog 8 #[stV nx lg pv l.length cv, edV q ds.length capd r add.length capa enx elg] W fun e w' => ∃ pw cw, e = .returned (.tuple #[stV o.2.next o.2.log pw o.2.files.length cw, .int .i64 (o.1 : Nat)]) ∧ OwnFis w' W.heap.size (.slice pw o.2.files.length cw) o.2.files ∧ Below W.heap.size W w') := Lib.hid fun W pv cv hW hf h1 h2 => by
    have hl : l.length ≤ 200 := hk.1.few
    have hnx := hk.1.next
    have hlg := hk.1.log
    simp only at hnx hlg
    have := Apply_any hf h1 h2 ((hd.below hb1).below hW) ((ha.below hb1).below hW) (by omega) hdn han (capd := capd) (capa := capa) (nx := nx) (lg := lg) (by unfold I64; omega) (by unfold I64; omega) i3 i4
    rw [ho] at this
    refine this.mono ?_
    rintro e w' ⟨v, rfl, ho, hb⟩
    obtain ⟨pw, cw, rfl, -, -⟩ := ho.shape
    exact ⟨pw, cw, rfl, ho, hb⟩
  unfold edV stV at *
  clear h hk hlost hd ha hdn han i3 i4 ho hsp h1 he1 hb1
  go_enter Tryz.func17, Tryz.ntmps17
  go_wp2_with fail
  rw [← hW1]
  clear hW1
  refine hm.mono ?_
  rintro e w1 ⟨rfl, rfl⟩
  go_wp2_with fail
  refine HLO.out.mono ?_
  rintro e w2 ⟨rfl, rfl⟩
  go_upto_region 6 with fail
  rw [setCell_same k2]
  clear k0 k1 k2 k3 k4 hm HLO
  have hB0 : Below w2.heap.size w2 w2.drew := (Below.refl _ _).drew
  go_cut [5, 6] from 25 to 31 (fun sv ev wc => ∃ (x : Nat) (pw : Option Addr) (cw : Nat), sv = .pointer (some ⟨x, 0, none⟩) ∧ ev = .int .i64 (o.1 : Nat) ∧ Hid (wc.heap[x]? = some (stO o.2.next o.2.log pw o.2.files.length cw) ∧ OwnFis wc w2.heap.size (.slice pw o.2.files.length cw) o.2.files ∧ Below w2.heap.size w2 wc))
  case first =>
    refine wp_region_held_drew (S := fun W => W.cell? ⟨w.heap.size, 0, none⟩ = some (.slice q ds.length capd) ∧ W.cell? ⟨w.heap.size, 1, none⟩ = some (.slice r add.length capa) ∧ W.cell? ⟨w.heap.size, 2, none⟩ = some (.int .i64 enx) ∧ W.cell? ⟨w.heap.size, 3, none⟩ = some (.int .i64 elg) ∧ Below w2.heap.size w2 W) (by kernel_rfl) (HEC.out _ hB0) (fun hHeld => ?_)
    refine wpAnyH_take (i := 0) (oi := _) (v := ?_) rfl (by kernel_rfl) (by kernel_rfl) (by kernel_rfl) (fun _ _ _ h => h) (Or.inl ⟨by rfl, ?_⟩) hHeld ?_
    rotate_left 1
    · (intro w hSw; obtain ⟨g0, g1, g2, g3, -⟩ := hSw; go_simp; (try with_reducible rfl))
    try simp only [Act.put, List.setIfInBounds_toArray, List.set_cons_zero, List.set_cons_succ]
    refine wpAnyH_take (i := 2) (oi := _) (v := ?_) rfl (by kernel_rfl) (by kernel_rfl) (by kernel_rfl) (fun _ _ _ h => h) (Or.inl ⟨by rfl, ?_⟩) hHeld ?_
    rotate_left 1
    · (intro w hSw; obtain ⟨g0, g1, g2, g3, -⟩ := hSw; go_simp; (try with_reducible rfl))
    try simp only [Act.put, List.setIfInBounds_toArray, List.set_cons_zero, List.set_cons_succ]
    refine wpAnyH_ready (rs := [1, 7]) (by kernel_rfl) (by simp) ?_
    refine AllReadyH.cons (o := _) rfl (fun K hK => ?_) (AllReadyH.cons (o := _) rfl (fun K hK => ?_) AllReadyH.nil)
    · go_simp
      refine (HST.out _ hB0).mono ?_
      rintro e w3 ⟨pv, cv, rfl, q1, q2, qf, hb3⟩
      have hB3 := hB0.trans (hb3.mono hB0.size)
      refine hK.out _ _ (HEC.out _ hB3) (fun hH3 => ?_)
      clear hK K
      try simp only [Act.put, List.setIfInBounds_toArray, List.set_cons_zero, List.set_cons_succ]
      refine wpAnyH_ready (rs := [3, 7]) (by kernel_rfl) (by simp) ?_
      refine AllReadyH.cons (o := _) rfl (fun K hK => ?_) (AllReadyH.cons (o := _) rfl (fun K hK => ?_) AllReadyH.nil)
      · go_simp
        refine (HAP.out _ pv cv hB3 qf q1 q2).mono ?_
        rintro e w4 ⟨pw, cw, rfl, ho4, hb4⟩
        have hB4 := hB3.trans (hb4.mono hB3.size)
        refine hK.out _ _ (HEC.out _ hB4) (fun hH4 => ?_)
        clear hK K
        try simp only [Act.put, List.setIfInBounds_toArray, List.set_cons_zero, List.set_cons_succ]
        refine wpAnyH_take (i := 4) (oi := _) (v := ?_) rfl (by kernel_rfl) (by kernel_rfl) (by kernel_rfl) (fun _ _ _ h => h) (Or.inl ⟨by rfl, ?_⟩) hH4 ?_
        rotate_left 1
        · (intro w hSw; obtain ⟨g0, g1, g2, g3, -⟩ := hSw; go_simp; (try with_reducible rfl))
        try simp only [Act.put, List.setIfInBounds_toArray, List.set_cons_zero, List.set_cons_succ]
        refine wpAnyH_take (i := 5) (oi := _) (v := ?_) rfl (by kernel_rfl) (by kernel_rfl) (by kernel_rfl) (fun _ _ _ h => h) (Or.inl ⟨by rfl, ?_⟩) hH4 ?_
        rotate_left 1
        · (intro w hSw; obtain ⟨g0, g1, g2, g3, -⟩ := hSw; go_simp; (try with_reducible rfl))
        try simp only [Act.put, List.setIfInBounds_toArray, List.set_cons_zero, List.set_cons_succ]
        refine wpAnyH_take (i := 6) (oi := _) (v := ?_) rfl (by kernel_rfl) (by kernel_rfl) (by kernel_rfl) (fun _ _ _ h => h) (Or.inl ⟨by rfl, ?_⟩) hH4 ?_
        rotate_left 1
        · (intro w hSw; obtain ⟨g0, g1, g2, g3, -⟩ := hSw; go_simp; (try with_reducible rfl))
        try simp only [Act.put, List.setIfInBounds_toArray, List.set_cons_zero, List.set_cons_succ]
        refine wpAnyH_ready (rs := [7]) (by kernel_rfl) (by simp) ?_
        refine AllReadyH.cons (o := _) rfl (fun K hK => ?_) AllReadyH.nil
        have hx5 : (w4.alloc (.cells #[.int .i64 0, .int .i64 0, .slice none 0 0] 24)).heap[w4.heap.size]? = some (stO 0 0 none 0 0) := heap_alloc_new _ _
        have hB5 : Below w2.heap.size w2 (w4.alloc (.cells #[.int .i64 0, .int .i64 0, .slice none 0 0] 24)) := hB4.alloc hB4.size _
        have hbe5 := mbelow_alloc w4 (.cells #[.int .i64 0, .int .i64 0, .slice none 0 0] 24)
        have hge5 : w2.heap.size ≤ w4.heap.size := hB4.size
        go_simp
        refine hK.out _ _ (HEC.out _ hB5) (fun hH5 => ?_)
        clear hK K
        try simp only [Act.put, List.setIfInBounds_toArray, List.set_cons_zero, List.set_cons_succ]
        refine wpAnyH_ready (rs := [8]) (by kernel_rfl) (by simp) ?_
        refine AllReadyH.cons (o := _) rfl (fun K hK => ?_) AllReadyH.nil
        have hBz : Below w2.heap.size w2 (w4.alloc (.cells #[.int .i64 o.2.next, .int .i64 o.2.log, .slice pw o.2.files.length cw] 24)) := hB4.alloc hB4.size _
        have hown : OwnFis (w4.alloc (.cells #[.int .i64 o.2.next, .int .i64 o.2.log, .slice pw o.2.files.length cw] 24)) w2.heap.size (.slice pw o.2.files.length cw) o.2.files := (ho4.below (mbelow_alloc _ _)).mono hB3.size
        have K4 : (w4.alloc (.cells #[.int .i64 o.2.next, .int .i64 o.2.log, .slice pw o.2.files.length cw] 24)).heap[w4.heap.size]? = some (stO o.2.next o.2.log pw o.2.files.length cw) := heap_alloc_new _ _
        go_simp
        refine hK.out _ _ (HEC.out _ hBz) (fun hHz => ?_)
        clear hK K
        try simp only [Act.put, List.setIfInBounds_toArray, List.set_cons_zero, List.set_cons_succ]
        refine wpAnyH_ready (rs := [9]) (by kernel_rfl) (by simp) ?_
        refine AllReadyH.cons (o := _) rfl (fun K hK => ?_) AllReadyH.nil
        go_simp
        refine hK.out _ _ (HEC.out _ hBz) (fun hHy => ?_)
        clear hK K
        try simp only [Act.put, List.setIfInBounds_toArray, List.set_cons_zero, List.set_cons_succ]
        refine wpAnyH_done (by kernel_rfl) ?_ _
        have HF : Hid _ := Lib.hid (And.intro K4 (And.intro hown hBz))
        go_wp2_with fail
        go_meet
        case rel => exact ⟨_, pw, cw, rfl, rfl, HF⟩
      · have hx5 : (w3.alloc (.cells #[.int .i64 0, .int .i64 0, .slice none 0 0] 24)).heap[w3.heap.size]? = some (stO 0 0 none 0 0) := heap_alloc_new _ _
        have hB5 : Below w2.heap.size w2 (w3.alloc (.cells #[.int .i64 0, .int .i64 0, .slice none 0 0] 24)) := hB3.alloc hB3.size _
        have hbe5 := mbelow_alloc w3 (.cells #[.int .i64 0, .int .i64 0, .slice none 0 0] 24)
        have hge5 : w2.heap.size ≤ w3.heap.size := hB3.size
        go_simp
        refine hK.out _ _ (HEC.out _ hB5) (fun hH5 => ?_)
        clear hK K
        try simp only [Act.put, List.setIfInBounds_toArray, List.set_cons_zero, List.set_cons_succ]
        refine wpAnyH_ready (rs := [3]) (by kernel_rfl) (by simp) ?_
        refine AllReadyH.cons (o := _) rfl (fun K hK => ?_) AllReadyH.nil
        go_simp
        refine (HAP.out _ pv cv hB5 (qf.below hbe5) q1 q2).mono ?_
        rintro e w4 ⟨pw, cw, rfl, ho4, hb4⟩
        have hB4 := hB5.trans (hb4.mono hB5.size)
        refine hK.out _ _ (HEC.out _ hB4) (fun hH4 => ?_)
        clear hK K
        try simp only [Act.put, List.setIfInBounds_toArray, List.set_cons_zero, List.set_cons_succ]
        have hown := ho4.mono hB5.size
        refine wpAnyH_take (i := 4) (oi := _) (v := ?_) rfl (by kernel_rfl) (by kernel_rfl) (by kernel_rfl) (fun _ _ _ h => h) (Or.inl ⟨by rfl, ?_⟩) hH4 ?_
        rotate_left 1
        · (intro w hSw; obtain ⟨g0, g1, g2, g3, -⟩ := hSw; go_simp; (try with_reducible rfl))
        try simp only [Act.put, List.setIfInBounds_toArray, List.set_cons_zero, List.set_cons_succ]
        refine wpAnyH_take (i := 5) (oi := _) (v := ?_) rfl (by kernel_rfl) (by kernel_rfl) (by kernel_rfl) (fun _ _ _ h => h) (Or.inl ⟨by rfl, ?_⟩) hH4 ?_
        rotate_left 1
        · (intro w hSw; obtain ⟨g0, g1, g2, g3, -⟩ := hSw; go_simp; (try with_reducible rfl))
        try simp only [Act.put, List.setIfInBounds_toArray, List.set_cons_zero, List.set_cons_succ]
        refine wpAnyH_take (i := 6) (oi := _) (v := ?_) rfl (by kernel_rfl) (by kernel_rfl) (by kernel_rfl) (fun _ _ _ h => h) (Or.inl ⟨by rfl, ?_⟩) hH4 ?_
        rotate_left 1
        · (intro w hSw; obtain ⟨g0, g1, g2, g3, -⟩ := hSw; go_simp; (try with_reducible rfl))
        try simp only [Act.put, List.setIfInBounds_toArray, List.set_cons_zero, List.set_cons_succ]
        refine wpAnyH_ready (rs := [8]) (by kernel_rfl) (by simp) ?_
        refine AllReadyH.cons (o := _) rfl (fun K hK => ?_) AllReadyH.nil
        have hxx : w4.heap[w3.heap.size]? = some (stO 0 0 none 0 0) := ((hb4.block _ (Array.getElem?_eq_some_iff.1 hx5).1).trans hx5)
        obtain ⟨d0, d1, d2⟩ := st_cells hxx
        have f0 := st_frozen hxx 0
        have f1 := st_frozen hxx 1
        have f2 := st_frozen hxx 2
        have K4 := Lib.hid (st_set (nx' := o.2.next) (lg' := o.2.log) (p' := pw) (n' := o.2.files.length) (cap' := cw) hxx)
        have hBz := st_below (x := .int .i64 o.2.next) (y := .int .i64 o.2.log) (z := .slice pw o.2.files.length cw) hB4 (a := w3.heap.size) (by first | omega | assumption)
        clear hxx
        go_simp
        refine hK.out _ _ (HEC.out _ hBz) (fun hHz => ?_)
        clear hK K
        try simp only [Act.put, List.setIfInBounds_toArray, List.set_cons_zero, List.set_cons_succ]
        refine wpAnyH_ready (rs := [9]) (by kernel_rfl) (by simp) ?_
        refine AllReadyH.cons (o := _) rfl (fun K hK => ?_) AllReadyH.nil
        go_simp
        refine hK.out _ _ (HEC.out _ hBz) (fun hHy => ?_)
        clear hK K
        try simp only [Act.put, List.setIfInBounds_toArray, List.set_cons_zero, List.set_cons_succ]
        refine wpAnyH_done (by kernel_rfl) ?_ _
        have HF : Hid _ := Lib.hid (And.intro K4.out (And.intro hown hBz))
        go_wp2_with fail
        go_meet
        case rel =>
          refine ⟨_, pw, cw, rfl, rfl, Lib.hid ⟨HF.out.1, (HF.out.2.1.stays fun j _ hj => ?_).mono (Nat.le_refl _), HF.out.2.2⟩⟩
          have hne : j ≠ w3.heap.size := by have := (ho4.lt j hj).1; have := (Array.getElem?_eq_some_iff.1 hx5).1; omega
          exact (Below.heap_setCell _ _ _ _ hne).trans ((Below.heap_setCell _ _ _ _ hne).trans (Below.heap_setCell _ _ _ _ hne))
    · have hx5 : (w2.drew.alloc (.cells #[.int .i64 0, .int .i64 0, .slice none 0 0] 24)).heap[w2.drew.heap.size]? = some (stO 0 0 none 0 0) := heap_alloc_new _ _
      have hB5 : Below w2.heap.size w2 (w2.drew.alloc (.cells #[.int .i64 0, .int .i64 0, .slice none 0 0] 24)) := hB0.alloc hB0.size _
      have hbe5 := mbelow_alloc w2.drew (.cells #[.int .i64 0, .int .i64 0, .slice none 0 0] 24)
      have hge5 : w2.heap.size ≤ w2.drew.heap.size := hB0.size
      go_simp
      refine hK.out _ _ (HEC.out _ hB5) (fun hH5 => ?_)
      clear hK K
      try simp only [Act.put, List.setIfInBounds_toArray, List.set_cons_zero, List.set_cons_succ]
      refine wpAnyH_ready (rs := [1]) (by kernel_rfl) (by simp) ?_
      refine AllReadyH.cons (o := _) rfl (fun K hK => ?_) AllReadyH.nil
      go_simp
      refine (HST.out _ hB5).mono ?_
      rintro e w3 ⟨pv, cv, rfl, q1, q2, qf, hb3⟩
      have hB3 := hB5.trans (hb3.mono hB5.size)
      refine hK.out _ _ (HEC.out _ hB3) (fun hH3 => ?_)
      clear hK K
      try simp only [Act.put, List.setIfInBounds_toArray, List.set_cons_zero, List.set_cons_succ]
      refine wpAnyH_ready (rs := [3]) (by kernel_rfl) (by simp) ?_
      refine AllReadyH.cons (o := _) rfl (fun K hK => ?_) AllReadyH.nil
      go_simp
      refine (HAP.out _ pv cv hB3 qf q1 q2).mono ?_
      rintro e w4 ⟨pw, cw, rfl, ho4, hb4⟩
      have hB4 := hB3.trans (hb4.mono hB3.size)
      refine hK.out _ _ (HEC.out _ hB4) (fun hH4 => ?_)
      clear hK K
      try simp only [Act.put, List.setIfInBounds_toArray, List.set_cons_zero, List.set_cons_succ]
      have hown := ho4.mono hB3.size
      refine wpAnyH_take (i := 4) (oi := _) (v := ?_) rfl (by kernel_rfl) (by kernel_rfl) (by kernel_rfl) (fun _ _ _ h => h) (Or.inl ⟨by rfl, ?_⟩) hH4 ?_
      rotate_left 1
      · (intro w hSw; obtain ⟨g0, g1, g2, g3, -⟩ := hSw; go_simp; (try with_reducible rfl))
      try simp only [Act.put, List.setIfInBounds_toArray, List.set_cons_zero, List.set_cons_succ]
      refine wpAnyH_take (i := 5) (oi := _) (v := ?_) rfl (by kernel_rfl) (by kernel_rfl) (by kernel_rfl) (fun _ _ _ h => h) (Or.inl ⟨by rfl, ?_⟩) hH4 ?_
      rotate_left 1
      · (intro w hSw; obtain ⟨g0, g1, g2, g3, -⟩ := hSw; go_simp; (try with_reducible rfl))
      try simp only [Act.put, List.setIfInBounds_toArray, List.set_cons_zero, List.set_cons_succ]
      refine wpAnyH_take (i := 6) (oi := _) (v := ?_) rfl (by kernel_rfl) (by kernel_rfl) (by kernel_rfl) (fun _ _ _ h => h) (Or.inl ⟨by rfl, ?_⟩) hH4 ?_
      rotate_left 1
      · (intro w hSw; obtain ⟨g0, g1, g2, g3, -⟩ := hSw; go_simp; (try with_reducible rfl))
      try simp only [Act.put, List.setIfInBounds_toArray, List.set_cons_zero, List.set_cons_succ]
      refine wpAnyH_ready (rs := [8]) (by kernel_rfl) (by simp) ?_
      refine AllReadyH.cons (o := _) rfl (fun K hK => ?_) AllReadyH.nil
      have hxx : w4.heap[w2.heap.size]? = some (stO 0 0 none 0 0) := ((hb4.block _ (Array.getElem?_eq_some_iff.1 ((hb3.block _ (Array.getElem?_eq_some_iff.1 hx5).1).trans hx5)).1).trans ((hb3.block _ (Array.getElem?_eq_some_iff.1 hx5).1).trans hx5))
      obtain ⟨d0, d1, d2⟩ := st_cells hxx
      have f0 := st_frozen hxx 0
      have f1 := st_frozen hxx 1
      have f2 := st_frozen hxx 2
      have K4 := Lib.hid (st_set (nx' := o.2.next) (lg' := o.2.log) (p' := pw) (n' := o.2.files.length) (cap' := cw) hxx)
      have hBz := st_below (x := .int .i64 o.2.next) (y := .int .i64 o.2.log) (z := .slice pw o.2.files.length cw) hB4 (a := w2.heap.size) (by first | omega | assumption)
      clear hxx
      go_simp
      refine hK.out _ _ (HEC.out _ hBz) (fun hHz => ?_)
      clear hK K
      try simp only [Act.put, List.setIfInBounds_toArray, List.set_cons_zero, List.set_cons_succ]
      refine wpAnyH_ready (rs := [9]) (by kernel_rfl) (by simp) ?_
      refine AllReadyH.cons (o := _) rfl (fun K hK => ?_) AllReadyH.nil
      go_simp
      refine hK.out _ _ (HEC.out _ hBz) (fun hHy => ?_)
      clear hK K
      try simp only [Act.put, List.setIfInBounds_toArray, List.set_cons_zero, List.set_cons_succ]
      refine wpAnyH_done (by kernel_rfl) ?_ _
      have HF : Hid _ := Lib.hid (And.intro K4.out (And.intro hown hBz))
      go_wp2_with fail
      go_meet
      case rel =>
        refine ⟨_, pw, cw, rfl, rfl, Lib.hid ⟨HF.out.1, (HF.out.2.1.stays fun j _ hj => ?_).mono (Nat.le_refl _), HF.out.2.2⟩⟩
        have hne : j ≠ w2.heap.size := by have h1 := (ho4.lt j hj).1; have h2 := (Array.getElem?_eq_some_iff.1 hx5).1; have h3 := hb3.size; omega
        exact (Below.heap_setCell _ _ _ _ hne).trans ((Below.heap_setCell _ _ _ _ hne).trans (Below.heap_setCell _ _ _ _ hne))
  case rest =>
    obtain ⟨x, pw, cw, rfl, rfl, HX⟩ := hcut
    have HB5 := Lib.hid (H1.out.same HX.out.2.2)
    by_cases h0 : o.1 = 0
    case neg =>
      have g0 : ((o.1 : Int) == 0) = false := by rw [beq_eq_false_iff_ne]; omega
      have g7 : ((o.1 : Int) == 7) = false := by
        rw [beq_eq_false_iff_ne]
        have := apply_codes ⟨nx, lg, l⟩ ⟨ds, add, enx, elg⟩
        rw [HO.out] at this
        omega
      obtain ⟨-, -, k2, k3⟩ := man_cells HB5.out.man
      have k4 := k3 2
      have H0 := Lib.hid h0
      have HSM := Lib.hid (setCell_same k2)
      clear h0 k3
      go_wp2_with fail
      refine bodyPost_ret (v := .int .i64 (o.1 : Nat)) (by simp [results, Tryz.results17, go_sem]) rfl ⟨o.1, rfl, fun _ => ⟨rfl, ?_⟩, fun k => absurd k H0.out⟩
      rw [HSM.out]
      exact HB5.out
    case pos =>
      have hr : Mf.Right o.2 := by
        have := apply_codes ⟨nx, lg, l⟩ ⟨ds, add, enx, elg⟩
        rw [HO.out] at this
        rcases this with h | h | h | h
        · exact h.2
        · omega
        · omega
        · omega
      obtain ⟨pw', cw', hv, hc1, hc2, hfi⟩ := HX.out.2.1.files (right_fi hr)
      cases hv
      obtain ⟨d0, d1, d2⟩ := st_cells HX.out.1
      have HTX := Lib.hid (text_any (cap := cw) hfi hr ((HSP.out h0).on HX.out.2.2))
      have HSZ := Lib.hid (show (textS o.2).size ≤ maxLen by have := textS_size hr; unfold maxLen; omega)
      have HZ := Lib.hid h0
      have g0 : ((o.1 : Int) == 0) = true := by rw [h0]; rfl
      clear h0 hr hc1 hc2 hfi
      unfold stV at HTX
      go_wp2_with fail
      refine HTX.out.mono ?_
      rintro e w6 ⟨rfl, hb6⟩
      have HKE := Lib.hid (keep_b (textS o.2) (HB5.out.same hb6) HSZ.out)
      clear hb6 d0 d1 d2 g0
      go_wp2_with fail
      refine HKE.out.mono ?_
      rintro e w7 ⟨c, D2, z, rfl, hw, h7⟩
      obtain ⟨-, -, k2, k3⟩ := man_cells h7.man
      have k4 := k3 2
      obtain ⟨dd, hdd⟩ : ∃ dd, dd = decide (c = 7) := ⟨_, rfl⟩
      have g7 : ((c : Int) == 7) = dd := by
        rw [hdd]
        by_cases h : c = 7
        · rw [h]; rfl
        · rw [decide_eq_false h, beq_eq_false_iff_ne]; omega
      have HW := Lib.hid hw
      have H7 := Lib.hid (man_dead (x := dd) h7)
      have HDD := Lib.hid hdd
      clear hw h7 k3 hdd
      go_wp2_with fail
      refine bodyPost_ret (v := .int .i64 (c : Nat)) (by simp [results, Tryz.results17, go_sem]) rfl ⟨c, rfl, fun k => absurd HZ.out k, fun _ => ⟨D2, z, HW.out, ?_⟩⟩
      rw [← HDD.out]
      exact H7.out
end
end Go.Proofs.YtbhjpkejdkfenaaGreatDoor
namespace Go.Proofs.YtbhjpkejdkfenaaGreatDoor
open Go.RowKit Go.Shelf
open Mf (File State Edit)
section
variable {w0 w : World} {a b : Nat} {D D' : Dm.Disk} {B : List (Nat × Obj)} {t : ByteArray} {dead : Bool}
variable {q r : Option Addr} {nd cd na ca : Nat} {enx elg : Int}
set_option maxHeartbeats 2000000 in
theorem Commit_dead (h : Bx w0 w a D ((b, manO a t true) :: B)) :
    Calls Tryz.prog 17 #[.pointer (some ⟨b, 0, none⟩), edV q nd cd r na ca enx elg] w fun e w' => e = .returned (.int .i64 7) ∧ Bx w0 w' a D ((b, manO a t true) :: B) := by
  obtain ⟨W1, hW1⟩ : ∃ W1, W1 = w.alloc (.cells #[.slice q nd cd, .slice r na ca, .int .i64 enx, .int .i64 elg] 33) := ⟨_, rfl⟩
  have hb1 : Below w.heap.size w W1 := by rw [hW1]; exact mbelow_alloc _ _
  have h1 := h.same hb1
  obtain ⟨k0, k1, k2, k3⟩ := man_cells h1.man
  have k4 := k3 2
  have HM := Lib.hid (made_b h1.man)
  have H1 := Lib.hid h1
  have HSM := Lib.hid (setCell_same k2)
  unfold edV
  clear h h1 hb1 k3
  go_enter Tryz.func17, Tryz.ntmps17
  go_wp2_with fail
  rw [← hW1]
  clear hW1
  refine HM.out.mono ?_
  rintro e w1 ⟨rfl, rfl⟩
  go_wp2_with fail
  refine bodyPost_ret (v := .int .i64 7) (by simp [results, Tryz.results17, go_sem]) rfl ⟨rfl, ?_⟩
  rw [HSM.out]
  exact H1.out
set_option maxHeartbeats 2000000 in
theorem Commit_lost (h : Bx w0 w a D ((b, manO a t false) :: B)) (ht : t.size ≤ maxLen) (hl : lostC D t = true) :
    Calls Tryz.prog 17 #[.pointer (some ⟨b, 0, none⟩), edV q nd cd r na ca enx elg] w fun e w' => e = .returned (.int .i64 7) ∧ Bx w0 w' a D ((b, manO a t true) :: B) := by
  obtain ⟨W1, hW1⟩ : ∃ W1, W1 = w.alloc (.cells #[.slice q nd cd, .slice r na ca, .int .i64 enx, .int .i64 elg] 33) := ⟨_, rfl⟩
  have hb1 : Below w.heap.size w W1 := by rw [hW1]; exact mbelow_alloc _ _
  have h1 := h.same hb1
  obtain ⟨k0, k1, k2, k3⟩ := man_cells h1.man
  have k4 := k3 2
  have HM := Lib.hid (made_b h1.man)
  have HLO := Lib.hid (lost_b h1 ht)
  rw [hl] at HLO
  have H1 := Lib.hid (man_dead (x := true) h1)
  unfold edV
  clear h h1 hb1 k3 hl
  go_enter Tryz.func17, Tryz.ntmps17
  go_wp2_with fail
  rw [← hW1]
  clear hW1
  refine HM.out.mono ?_
  rintro e w1 ⟨rfl, rfl⟩
  go_wp2_with fail
  refine HLO.out.mono ?_
  rintro e w2 ⟨rfl, rfl⟩
  go_wp2_with fail
  exact bodyPost_ret (v := .int .i64 7) (by simp [results, Tryz.results17, go_sem]) rfl ⟨rfl, H1.out⟩
theorem made_none (w : World) : Calls Tryz.prog 52 #[.pointer none] w fun e w' => e = .returned (.bool false) ∧ w' = w := by
  go_enter Tryz.func52, Tryz.ntmps52
  go_wp2_with fail
  go_ret
  exact ⟨rfl, rfl⟩
theorem made_empty (h : w.cell? ⟨b, 0, none⟩ = some (.pointer none)) : Calls Tryz.prog 52 #[.pointer (some ⟨b, 0, none⟩)] w fun e w' => e = .returned (.bool false) ∧ w' = w := by
  go_enter Tryz.func52, Tryz.ntmps52
  go_wp2_with fail
  go_ret
  exact ⟨rfl, rfl⟩
theorem Commit_none (w : World) : Calls Tryz.prog 17 #[.pointer none, edV q nd cd r na ca enx elg] w fun e w' => e = .returned (.int .i64 2) ∧ Below w.heap.size w w' := by
  have HB := Lib.hid (mbelow_alloc w (.cells #[.slice q nd cd, .slice r na ca, .int .i64 enx, .int .i64 elg] 33))
  unfold edV
  go_enter Tryz.func17, Tryz.ntmps17
  go_wp2_with fail
  refine (made_none _).mono ?_
  rintro e w1 ⟨rfl, rfl⟩
  go_wp2_with fail
  exact bodyPost_ret (v := .int .i64 2) (by simp [results, Tryz.results17, go_sem]) rfl ⟨rfl, HB.out⟩
theorem Commit_empty (h : ∀ W, Below w.heap.size w W → W.cell? ⟨b, 0, none⟩ = some (.pointer none)) : Calls Tryz.prog 17 #[.pointer (some ⟨b, 0, none⟩), edV q nd cd r na ca enx elg] w fun e w' => e = .returned (.int .i64 2) ∧ Below w.heap.size w w' := by
  have HB := Lib.hid (mbelow_alloc w (.cells #[.slice q nd cd, .slice r na ca, .int .i64 enx, .int .i64 elg] 33))
  have HM := Lib.hid (made_empty (h _ HB.out))
  unfold edV
  clear h
  go_enter Tryz.func17, Tryz.ntmps17
  go_wp2_with fail
  refine HM.out.mono ?_
  rintro e w1 ⟨rfl, rfl⟩
  go_wp2_with fail
  exact bodyPost_ret (v := .int .i64 2) (by simp [results, Tryz.results17, go_sem]) rfl ⟨rfl, HB.out⟩
theorem State_none (w : World) : Calls Tryz.prog 18 #[.pointer none] w fun e w' => e = .returned (stV 0 0 none 0 0) ∧ Below w.heap.size w w' := by
  have HB := Lib.hid (mbelow_alloc w (.cells #[.int .i64 0, .int .i64 0, .slice none 0 0] 24))
  have hz : (w.alloc (.cells #[.int .i64 0, .int .i64 0, .slice none 0 0] 24)).heap[w.heap.size]? = some (stO 0 0 none 0 0) := heap_alloc_new _ _
  have HZ := Lib.hid hz
  clear hz
  go_enter Tryz.func18, Tryz.ntmps18
  go_wp2_with fail
  refine (made_none _).mono ?_
  rintro e w1 ⟨rfl, rfl⟩
  go_wp2_with fail
  exact bodyPost_ret (state_res rfl HZ.out) rfl ⟨rfl, HB.out⟩
end
end Go.Proofs.YtbhjpkejdkfenaaGreatDoor
namespace Go.Proofs.YtbhjpkejdkfenaaGreatDoor
open Go.RowKit Go.Shelf
open Mf (File State Edit)
/-- A disk whose only file is main, all of it synced. -/
def oneM (dn : Bool) (d : List UInt8) : Dm.Disk := ⟨dn, 0, false, 0, [(mainL, ⟨d, d.length⟩)]⟩
theorem main_ne : (mainL = spareL) = False := eq_false (by decide)
theorem spare_ne : (spareL = mainL) = False := eq_false (by decide)
theorem sweep_new : sweepC Dm.new = (0, Dm.new) := by simp [sweepC, Dm.remove, Dm.new, Dm.get]
theorem settle_new : settleC Dm.new = (0, Dm.new) := by
  unfold settleC
  rw [sweep_new]
  simp [Dm.sync, Dm.new, Dm.get]
theorem sweep_oneM (d : List UInt8) : sweepC (oneM false d) = (0, oneM false d) := by simp [sweepC, Dm.remove, oneM, Dm.get, main_ne]
theorem settle_oneM (d : List UInt8) : settleC (oneM false d) = (0, oneM false d) := by
  unfold settleC
  rw [sweep_oneM]
  simp [Dm.sync, oneM, Dm.get, Dm.change, Dm.syncs, Dm.upd]
theorem read_new : Dm.read Dm.new mainL = ([], 4) := by simp [Dm.read, Dm.new, Dm.get]
theorem read_oneM (d : List UInt8) : Dm.read (oneM false d) mainL = (d, 0) := by simp [Dm.read, oneM, Dm.get]
theorem lost_new : lostC Dm.new ⟨#[]⟩ = false := by unfold lostC; rw [read_new]; decide
theorem lost_oneM (t : ByteArray) : lostC (oneM false t.data.toList) t = false := by
  unfold lostC
  rw [read_oneM]
  have h : (⟨t.data.toList.toArray⟩ : ByteArray) = t := by apply ByteArray.ext; simp
  simp [h]
theorem keepW_all {D D' D2 : Dm.Disk} {tx : List UInt8} {c : Nat} {z : Bool} (h : KeepW D tx 0 D' true) (g : KeepW D tx c D2 z) : c = 0 ∧ D2 = D' ∧ z = true := by
  have a := keepC_way h
  rw [keepC_way g] at a
  simp only [Prod.mk.injEq] at a
  exact a
theorem keep_new {tx : List UInt8} (h : tx.length ≤ 1048576) : KeepW Dm.new tx 0 (oneM false tx) true := by
  have e : (1048576 < tx.length) = False := eq_false (by omega)
  have n1 : Dm.isName spareL = true := by decide
  have n2 : Dm.isName mainL = true := by decide
  refine .all (D1 := Dm.new) (D2 := ⟨false, 0, false, 0, [(spareL, ⟨[], 0⟩)]⟩) (D3 := ⟨false, 0, false, 0, [(spareL, ⟨tx, 0⟩)]⟩) (D4 := ⟨false, 0, false, 0, [(spareL, ⟨tx, tx.length⟩)]⟩) sweep_new ?_ ?_ ?_ ?_
  · simp [Dm.create, Dm.new, n1, Dm.get, Dm.change, Dm.put, Dm.del, Dm.ins]
  · simp [Dm.append, Dm.get, Dm.change, Dm.adds, Dm.upd, e]
  · simp [Dm.sync, Dm.get, Dm.change, Dm.syncs, Dm.upd]
  · simp [Dm.rename, Dm.get, n2, Dm.change, Dm.put, Dm.del, Dm.ins, oneM]
theorem before_main : bytesBefore mainL spareL = true := by decide
theorem before_spare : bytesBefore spareL mainL = false := by decide
theorem keep_oneM (d : List UInt8) {tx : List UInt8} (h : tx.length ≤ 1048576) : KeepW (oneM false d) tx 0 (oneM false tx) true := by
  have e : (1048576 < tx.length) = False := eq_false (by omega)
  have n1 : Dm.isName spareL = true := by decide
  have n2 : Dm.isName mainL = true := by decide
  refine .all (D1 := oneM false d) (D2 := ⟨false, 0, false, 0, [(mainL, ⟨d, d.length⟩), (spareL, ⟨[], 0⟩)]⟩) (D3 := ⟨false, 0, false, 0, [(mainL, ⟨d, d.length⟩), (spareL, ⟨tx, 0⟩)]⟩) (D4 := ⟨false, 0, false, 0, [(mainL, ⟨d, d.length⟩), (spareL, ⟨tx, tx.length⟩)]⟩) (sweep_oneM d) ?_ ?_ ?_ ?_
  · simp [Dm.create, oneM, n1, Dm.get, Dm.change, Dm.put, Dm.del, Dm.ins, main_ne, spare_ne, before_main, before_spare]
  · simp [Dm.append, Dm.get, Dm.change, Dm.adds, Dm.upd, e, main_ne, spare_ne]
  · simp [Dm.sync, Dm.get, Dm.change, Dm.syncs, Dm.upd, main_ne, spare_ne]
  · simp [Dm.rename, Dm.get, n2, Dm.change, Dm.put, Dm.del, Dm.ins, oneM, main_ne, spare_ne]
theorem crash_oneM (d : List UInt8) (keep : List Int) : Dm.crash (oneM false d) keep = oneM true d := by simp [Dm.crash, oneM, Dm.cut, Dm.cutOne]
theorem start_oneM (d : List UInt8) : Dm.start (oneM true d) = oneM false d := by simp [Dm.start, oneM, Dm.cut, Dm.cutOne]
theorem tame_oneM (d : List UInt8) : ∀ k ∈ Dm.keys (oneM false d).files, Tame k := fun k hk => .inr (.inl (List.mem_singleton.1 hk))
section
variable {w0 w : World} {a b : Nat} {D D' : Dm.Disk} {B : List (Nat × Obj)} {t : ByteArray} {dead : Bool}
/-- A manifest of an empty disk. -/
theorem open_newM (h : Bx w0 w a Dm.new B) : Calls Tryz.prog 13 #[.pointer (some ⟨a, 0, none⟩)] w fun e w' => ∃ b, e = .returned (.tuple #[.pointer (some ⟨b, 0, none⟩), .int .i64 0]) ∧ Bx w0 w' a Dm.new ((b, manO a ⟨#[]⟩ false) :: B) := by
  refine (manOpen_ok (t := ⟨#[]⟩) h rfl (fun w1 b h1 => find_none h1 (fun k hk => nomatch hk) (Nat.zero_le _) read_new) settle_new).mono ?_
  rintro e w' ⟨h1, -⟩
  exact h1 rfl
/-- A manifest of a disk that keeps a state. -/
theorem open_oneM {nx lg : Int} {l : List File} (h : Bx w0 w a (oneM false (textS ⟨nx, lg, l⟩).data.toList) B) (hr : Mf.Right ⟨nx, lg, l⟩) (hs : SpeltS w0 ⟨nx, lg, l⟩) : Calls Tryz.prog 13 #[.pointer (some ⟨a, 0, none⟩)] w fun e w' => ∃ b, e = .returned (.tuple #[.pointer (some ⟨b, 0, none⟩), .int .i64 0]) ∧ Bx w0 w' a (oneM false (textS ⟨nx, lg, l⟩).data.toList) ((b, manO a (textS ⟨nx, lg, l⟩) false) :: B) := by
  refine (manOpen_ok (t := textS ⟨nx, lg, l⟩) h rfl (fun w1 b h1 => find_some h1 (tame_oneM _) (by unfold Dm.keys oneM; simp) hr (hs.on h1.below) (read_oneM _)) (settle_oneM _)).mono ?_
  rintro e w' ⟨h1, -⟩
  exact h1 rfl
end
end Go.Proofs.YtbhjpkejdkfenaaGreatDoor
