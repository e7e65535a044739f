/-
  Walks over the laws of package manifest: touches, apart. Conditions: those in the theorems.
-/
import Derived.Test.YtbhjpkejdkfenaaGreatDoorManHelp8
set_option linter.unusedSimpArgs false
set_option linter.unusedVariables false
namespace Go.Proofs.YtbhjpkejdkfenaaGreatDoor
open Go.RowKit Go.Shelf
open Mf (File State Edit)
theorem IntsM.at {w W : World} {p : Option Addr} {xs : List Int} (h : IntsM w p xs) (hb : Below w.heap.size w W) {i : Nat} (hi : i < xs.length) : ∃ A, p = some A ∧ W.cell? (A.add i) = some (.int .i64 xs[i]) ∧ I64 xs[i] := by
  obtain ⟨A, h1, h2, h3, h4⟩ := h i hi
  exact ⟨A, h1, (hb.cell (by rw [madd_block]; exact h2)).trans h3, h4⟩
set_option maxRecDepth 100000 in
set_option maxHeartbeats 4000000 in
theorem touches8_any {w : World} {q r : Option Addr} {cd ca : Nat} {ds : List Int} {add : List File} {enx elg n : Int} (hd : IntsM w q ds) (ha : FilesAt w r add) (hdn : ds.length ≤ 1000) (han : add.length ≤ 1000) :
    Calls Tryz.prog 66 #[edV q ds.length cd r add.length ca enx elg, .int .i64 n] w (Tells (Mf.Touches ⟨ds, add, enx, elg⟩ n) w) := by
  obtain ⟨W1, hW1⟩ : ∃ W1, W1 = w.alloc (.cells #[.slice q ds.length cd, .slice r add.length ca, .int .i64 enx, .int .i64 elg] 33) := ⟨_, rfl⟩
  have hb1 : Below w.heap.size w W1 := by rw [hW1]; exact mbelow_alloc _ _
  have h1 : W1.heap[w.heap.size]? = some (edO q ds.length cd r add.length ca enx elg) := by rw [hW1]; exact heap_alloc_new w _
  have HD := Lib.hid (hd.below hb1)
  have HA := Lib.hid (ha.below hb1)
  have HB1 := Lib.hid hb1
  have HN := Lib.hid (And.intro hdn han)
  have HX : Hid (∀ W, Below W1.heap.size W1 W → W.heap[w.heap.size]? = some (edO q ds.length cd r add.length ca enx elg)) := Lib.hid fun W hW => (hW.block _ (Array.getElem?_eq_some_iff.1 h1).1).trans h1
  unfold edV
  clear hd ha hb1 h1 hdn han
  go_enter Tryz.func66, Tryz.ntmps66
  go_wp2_with fail
  rw [← hW1]
  clear hW1
  go_loopw [5] (fun kv wr => ∃ k : Nat, k ≤ ds.length ∧ kv = .int .i64 (k : Nat) ∧ Hid ((∀ d ∈ ds.take k, d ≠ n) ∧ Below W1.heap.size W1 wr)) (fun kv _ => ds.length - (intOf kv).toNat)
  case atStart => exact ⟨0, Nat.zero_le _, rfl, Lib.hid ⟨(fun _ h => nomatch h), Below.refl _ _⟩⟩
  case round =>
    obtain ⟨k, hk, rfl, H⟩ := hrel
    have hk9 : k ≤ 1000 := by have := HN.out; omega
    obtain ⟨c0, c1, c2, c3⟩ := ed_cells (HX.out _ H.out.2)
    by_cases hlt : k < ds.length
    · have i1 : (k : Int) < (ds.length : Int) := by omega
      have i2 : (0 : Int) ≤ (k : Int) := by omega
      obtain ⟨A, rfl, y0, -⟩ := HD.out.at H.out.2 hlt
      by_cases e1 : ds[k] = n
      · have HE : Hid (Mf.Touches ⟨ds, add, enx, elg⟩ n) := Lib.hid (.inl (by show n ∈ ds; rw [← e1]; exact List.getElem_mem hlt))
        have q1 : (ds[k] == n) = true := by rw [beq_iff_eq]; exact e1
        generalize ds[k] = d at *
        clear e1
        go_wp2_with fail
        go_ret
        exact tells true (by simp only [true_iff]; exact HE.out) (HB1.out.trans (H.out.2.mono HB1.out.size))
      · have HT : Hid (∀ d ∈ ds.take (k + 1), d ≠ n) := Lib.hid (by
          rw [List.take_succ_eq_append_getElem hlt]
          intro d hd
          rcases List.mem_append.1 hd with h | h
          · exact H.out.1 d h
          · rw [List.mem_singleton.1 h]; exact e1)
        have q1 : (ds[k] == n) = false := by rw [beq_eq_false_iff_ne]; exact e1
        generalize ds[k] = d at *
        clear e1
        go_wp2_with fail
        go_roundw
        case rel => exact ⟨k + 1, by omega, by go_num, Lib.hid ⟨HT.out, H.out.2⟩⟩
        case measure => simp [intOf]; omega
    · obtain rfl : k = ds.length := by omega
      have i1 : ¬ (ds.length : Int) < (ds.length : Int) := by omega
      have HND : Hid (n ∉ ds) := Lib.hid fun h => H.out.1 n (by rw [List.take_length]; exact h) rfl
      have HB2 := Lib.hid H.out.2
      go_wp2_with fail
      clear c0 c1 c2 c3
      go_loopw [6] (fun kv wr2 => ∃ k : Nat, k ≤ add.length ∧ kv = .int .i64 (k : Nat) ∧ Hid ((∀ f ∈ add.take k, f.n ≠ n) ∧ Below W1.heap.size W1 wr2)) (fun kv _ => add.length - (intOf kv).toNat)
      case atStart => exact ⟨0, Nat.zero_le _, rfl, Lib.hid ⟨(fun _ h => nomatch h), HB2.out⟩⟩
      case round =>
        obtain ⟨m, hm, rfl, H3⟩ := hrel
        have hm9 : m ≤ 1000 := by have := HN.out; omega
        obtain ⟨c0, c1, c2, c3⟩ := ed_cells (HX.out _ H3.out.2)
        by_cases hlt2 : m < add.length
        · have i1 : (m : Int) < (add.length : Int) := by omega
          have i2 : (0 : Int) ≤ (m : Int) := by omega
          obtain ⟨A, rfl, y0, -⟩ := HA.out.at H3.out.2 hlt2
          by_cases e1 : add[m].n = n
          · have HE : Hid (Mf.Touches ⟨ds, add, enx, elg⟩ n) := Lib.hid (.inr ⟨add[m], List.getElem_mem hlt2, e1⟩)
            have q1 : (add[m].n == n) = true := by rw [beq_iff_eq]; exact e1
            generalize add[m].n = d at *
            clear e1
            go_wp2_with fail
            go_ret
            exact tells true (by simp only [true_iff]; exact HE.out) (HB1.out.trans (H3.out.2.mono HB1.out.size))
          · have HT : Hid (∀ d ∈ add.take (m + 1), d.n ≠ n) := Lib.hid (by
              rw [List.take_succ_eq_append_getElem hlt2]
              intro d hd
              rcases List.mem_append.1 hd with h | h
              · exact H3.out.1 d h
              · rw [List.mem_singleton.1 h]; exact e1)
            have q1 : (add[m].n == n) = false := by rw [beq_eq_false_iff_ne]; exact e1
            generalize add[m].n = d at *
            clear e1
            go_wp2_with fail
            go_roundw
            case rel => exact ⟨m + 1, by omega, by go_num, Lib.hid ⟨HT.out, H3.out.2⟩⟩
            case measure => simp [intOf]; omega
        · obtain rfl : m = add.length := by omega
          have i1 : ¬ (add.length : Int) < (add.length : Int) := by omega
          have HE : Hid (¬ Mf.Touches ⟨ds, add, enx, elg⟩ n) := Lib.hid (by
            rintro (h | ⟨f, hf, h⟩)
            · exact HND.out h
            · exact H3.out.1 f (by rw [List.take_length]; exact hf) h)
          go_wp2_with fail
          go_ret
          exact tells false (by simp only [Bool.false_eq_true, false_iff]; exact HE.out) (HB1.out.trans (H3.out.2.mono HB1.out.size))
set_option maxRecDepth 100000 in
set_option maxHeartbeats 8000000 in
theorem apart8_any {w : World} {q r q2 r2 : Option Addr} {cd ca cd2 ca2 : Nat} {ds ds2 : List Int} {add add2 : List File} {enx elg enx2 elg2 : Int} (hd : IntsM w q ds) (ha : FilesAt w r add) (hdn : ds.length ≤ 1000) (han : add.length ≤ 1000) (hd2 : IntsM w q2 ds2) (ha2 : FilesAt w r2 add2) (hdn2 : ds2.length ≤ 1000) (han2 : add2.length ≤ 1000) :
    Calls Tryz.prog 36 #[edV q ds.length cd r add.length ca enx elg, edV q2 ds2.length cd2 r2 add2.length ca2 enx2 elg2] w (Tells (Mf.Apart ⟨ds, add, enx, elg⟩ ⟨ds2, add2, enx2, elg2⟩) w) := by
  obtain ⟨W1, hW1⟩ : ∃ W1, W1 = (w.alloc (.cells #[.slice q ds.length cd, .slice r add.length ca, .int .i64 enx, .int .i64 elg] 33)).alloc (.cells #[.slice q2 ds2.length cd2, .slice r2 add2.length ca2, .int .i64 enx2, .int .i64 elg2] 33) := ⟨_, rfl⟩
  have hb1 : Below w.heap.size w W1 := by rw [hW1]; exact ((Below.refl _ w).alloc (Nat.le_refl _) _).alloc (by simp) _
  have h1 : W1.heap[w.heap.size]? = some (edO q ds.length cd r add.length ca enx elg) := by rw [hW1, Below.heap_alloc _ _ _ (by simp)]; exact heap_alloc_new w _
  have h2 : W1.heap[w.heap.size + 1]? = some (edO q2 ds2.length cd2 r2 add2.length ca2 enx2 elg2) := by
    rw [hW1]
    have := heap_alloc_new (w.alloc (.cells #[.slice q ds.length cd, .slice r add.length ca, .int .i64 enx, .int .i64 elg] 33)) (.cells #[.slice q2 ds2.length cd2, .slice r2 add2.length ca2, .int .i64 enx2, .int .i64 elg2] 33)
    rwa [World.size_alloc] at this
  have HD := Lib.hid (hd.below hb1)
  have HA := Lib.hid (ha.below hb1)
  have HB1 := Lib.hid hb1
  have HN := Lib.hid (And.intro hdn han)
  have HX : Hid (∀ W, Below W1.heap.size W1 W → W.heap[w.heap.size]? = some (edO q ds.length cd r add.length ca enx elg) ∧ W.heap[w.heap.size + 1]? = some (edO q2 ds2.length cd2 r2 add2.length ca2 enx2 elg2)) :=
    Lib.hid fun W hW => ⟨(hW.block _ (Array.getElem?_eq_some_iff.1 h1).1).trans h1, (hW.block _ (Array.getElem?_eq_some_iff.1 h2).1).trans h2⟩
  have HT : Hid (∀ (W : World) (n : Int), Below W1.heap.size W1 W → Calls Tryz.prog 66 #[.agg #[.slice q2 ds2.length cd2, .slice r2 add2.length ca2, .int .i64 enx2, .int .i64 elg2], .int .i64 n] W.drew fun e w' => ∃ b : Bool, e = .returned (.bool b) ∧ Below W.heap.size W w' ∧ Hid (b = true ↔ Mf.Touches ⟨ds2, add2, enx2, elg2⟩ n)) := Lib.hid fun W n hW => by
    refine (touches8_any (hd2.below (hb1.trans (hW.drew.mono hb1.size))) (ha2.below (hb1.trans (hW.drew.mono hb1.size))) hdn2 han2).mono ?_
    rintro e w' ⟨b, rfl, hi, hb⟩
    exact ⟨b, rfl, (Below.refl W.heap.size W).drew.trans hb, Lib.hid hi⟩
  have HGO : Hid (Mf.Apart ⟨ds, add, enx, elg⟩ ⟨ds2, add2, enx2, elg2⟩ ↔ (∀ n ∈ ds, ¬ Mf.Touches ⟨ds2, add2, enx2, elg2⟩ n) ∧ ∀ f ∈ add, ¬ Mf.Touches ⟨ds2, add2, enx2, elg2⟩ f.n) := Lib.hid Iff.rfl
  generalize Mf.Apart ⟨ds, add, enx, elg⟩ ⟨ds2, add2, enx2, elg2⟩ = G at *
  generalize (⟨ds2, add2, enx2, elg2⟩ : Edit) = E2 at *
  unfold edV
  clear hd ha hb1 h1 h2 hdn han hd2 ha2 hdn2 han2
  go_enter Tryz.func36, Tryz.ntmps36
  go_wp2_with fail
  rw [← hW1]
  clear hW1
  go_loopw [5] (fun kv wr => ∃ k : Nat, k ≤ ds.length ∧ kv = .int .i64 (k : Nat) ∧ Hid ((∀ d ∈ ds.take k, ¬ Mf.Touches E2 d) ∧ Below W1.heap.size W1 wr)) (fun kv _ => ds.length - (intOf kv).toNat)
  case atStart => exact ⟨0, Nat.zero_le _, rfl, Lib.hid ⟨(fun _ h => nomatch h), Below.refl _ _⟩⟩
  case round =>
    obtain ⟨k, hk, rfl, H⟩ := hrel
    have hk9 : k ≤ 1000 := by have := HN.out; omega
    obtain ⟨x1, x2⟩ := HX.out _ H.out.2
    obtain ⟨c0, c1, c2, c3⟩ := ed_cells x1
    obtain ⟨d0, d1, d2, d3⟩ := ed_cells x2
    clear x1 x2
    by_cases hlt : k < ds.length
    · have i1 : (k : Int) < (ds.length : Int) := by omega
      have i2 : (0 : Int) ≤ (k : Int) := by omega
      obtain ⟨A, rfl, y0, -⟩ := HD.out.at H.out.2 hlt
      have HEL : Hid (∀ e : Int, e = ds[k] → ¬ Mf.Touches E2 e → ∀ d ∈ ds.take (k + 1), ¬ Mf.Touches E2 d) := Lib.hid fun e he h => by
        rw [List.take_succ_eq_append_getElem hlt]
        intro d hd
        rcases List.mem_append.1 hd with h2 | h2
        · exact H.out.1 d h2
        · rw [List.mem_singleton.1 h2, ← he]; exact h
      have HME : Hid (∀ e : Int, e = ds[k] → Mf.Touches E2 e → ¬ G) := Lib.hid fun e he h hG => (HGO.out.1 hG).1 e (by rw [he]; exact List.getElem_mem hlt) h
      obtain ⟨d, hd⟩ : ∃ d, d = ds[k] := ⟨_, rfl⟩
      rw [← hd] at y0
      have HM := Lib.hid (HME.out d hd)
      have HE2 := Lib.hid (HEL.out d hd)
      have HBW := Lib.hid H.out.2
      clear hd HME HEL H
      have hS0 : Hid (wr.drew.cell? ⟨w.heap.size, 0, none⟩ = some (.slice (some A) ds.length cd) ∧ wr.drew.cell? ⟨w.heap.size + 1, 0, none⟩ = some (.slice q2 ds2.length cd2) ∧ wr.drew.cell? ⟨w.heap.size + 1, 1, none⟩ = some (.slice r2 add2.length ca2) ∧ wr.drew.cell? ⟨w.heap.size + 1, 2, none⟩ = some (.int .i64 enx2) ∧ wr.drew.cell? ⟨w.heap.size + 1, 3, none⟩ = some (.int .i64 elg2) ∧ wr.drew.cell? (A.add k) = some (.int .i64 d)) := Lib.hid ⟨c0, d0, d1, d2, d3, y0⟩
      have hS1 : Hid (∀ W, Below wr.heap.size wr W → W.cell? ⟨w.heap.size, 0, none⟩ = some (.slice (some A) ds.length cd) ∧ W.cell? ⟨w.heap.size + 1, 0, none⟩ = some (.slice q2 ds2.length cd2) ∧ W.cell? ⟨w.heap.size + 1, 1, none⟩ = some (.slice r2 add2.length ca2) ∧ W.cell? ⟨w.heap.size + 1, 2, none⟩ = some (.int .i64 enx2) ∧ W.cell? ⟨w.heap.size + 1, 3, none⟩ = some (.int .i64 elg2) ∧ W.cell? (A.add k) = some (.int .i64 d)) := Lib.hid fun W hW => ⟨(hW.cell (mcell_block c0)).trans c0, (hW.cell (mcell_block d0)).trans d0, (hW.cell (mcell_block d1)).trans d1, (hW.cell (mcell_block d2)).trans d2, (hW.cell (mcell_block d3)).trans d3, (hW.cell (mcell_block y0)).trans y0⟩
      have HTW := Lib.hid (HT.out wr d HBW.out)
      go_wp2_with fail
      go_region_held3 (fun W => W.cell? ⟨w.heap.size, 0, none⟩ = some (.slice (some A) ds.length cd) ∧ W.cell? ⟨w.heap.size + 1, 0, none⟩ = some (.slice q2 ds2.length cd2) ∧ W.cell? ⟨w.heap.size + 1, 1, none⟩ = some (.slice r2 add2.length ca2) ∧ W.cell? ⟨w.heap.size + 1, 2, none⟩ = some (.int .i64 enx2) ∧ W.cell? ⟨w.heap.size + 1, 3, none⟩ = some (.int .i64 elg2) ∧ W.cell? (A.add k) = some (.int .i64 d))
        (first | exact hS0.out | exact hS1.out _ (by assumption))
        (first
          | (go_at_call 66; (with_reducible refine HTW.out.mono ?_); rintro e w3 ⟨b, rfl, hb3, HE⟩)
          | fail)
      have HB3 := Lib.hid (HBW.out.trans (hb3.mono HBW.out.size))
      cases b with
      | true =>
        have HG := Lib.hid (HM.out (HE.out.1 rfl))
        go_wp2_with fail
        go_ret
        exact tells false (by simp only [Bool.false_eq_true, false_iff]; exact HG.out) (HB1.out.trans (HB3.out.mono HB1.out.size))
      | false =>
        have HG := Lib.hid (HE2.out fun h => by have := HE.out.2 h; cases this)
        go_wp2_with fail
        go_roundw
        case rel => exact ⟨k + 1, by omega, by go_num, Lib.hid ⟨HG.out, HB3.out⟩⟩
        case measure => simp [intOf]; omega
    · obtain rfl : k = ds.length := by omega
      have i1 : ¬ (ds.length : Int) < (ds.length : Int) := by omega
      have HND : Hid (∀ n ∈ ds, ¬ Mf.Touches E2 n) := Lib.hid (by have := H.out.1; rwa [List.take_length] at this)
      have HB2 := Lib.hid H.out.2
      go_wp2_with fail
      clear c0 c1 c2 c3 d0 d1 d2 d3
      go_loopw [6] (fun kv wr2 => ∃ k : Nat, k ≤ add.length ∧ kv = .int .i64 (k : Nat) ∧ Hid ((∀ f ∈ add.take k, ¬ Mf.Touches E2 f.n) ∧ Below W1.heap.size W1 wr2)) (fun kv _ => add.length - (intOf kv).toNat)
      case atStart => exact ⟨0, Nat.zero_le _, rfl, Lib.hid ⟨(fun _ h => nomatch h), HB2.out⟩⟩
      case round =>
        obtain ⟨m, hm, rfl, H3⟩ := hrel
        have hm9 : m ≤ 1000 := by have := HN.out; omega
        obtain ⟨x1, x2⟩ := HX.out _ H3.out.2
        obtain ⟨c0, c1, c2, c3⟩ := ed_cells x1
        obtain ⟨d0, d1, d2, d3⟩ := ed_cells x2
        clear x1 x2
        by_cases hlt2 : m < add.length
        · have i1 : (m : Int) < (add.length : Int) := by omega
          have i2 : (0 : Int) ≤ (m : Int) := by omega
          obtain ⟨A, rfl, y0, -⟩ := HA.out.at H3.out.2 hlt2
          have HEL : Hid (∀ e : Int, e = add[m].n → ¬ Mf.Touches E2 e → ∀ f ∈ add.take (m + 1), ¬ Mf.Touches E2 f.n) := Lib.hid fun e he h => by
            rw [List.take_succ_eq_append_getElem hlt2]
            intro f hf
            rcases List.mem_append.1 hf with h2 | h2
            · exact H3.out.1 f h2
            · rw [List.mem_singleton.1 h2, ← he]; exact h
          have HME : Hid (∀ e : Int, e = add[m].n → Mf.Touches E2 e → ¬ G) := Lib.hid fun e he h hG => (HGO.out.1 hG).2 add[m] (List.getElem_mem hlt2) (by rw [← he]; exact h)
          obtain ⟨d, hd⟩ : ∃ d, d = add[m].n := ⟨_, rfl⟩
          rw [← hd] at y0
          have HM := Lib.hid (HME.out d hd)
          have HE2 := Lib.hid (HEL.out d hd)
          have HBW := Lib.hid H3.out.2
          clear hd HME HEL H3
          have hS0 : Hid (wr.drew.cell? ⟨w.heap.size, 1, none⟩ = some (.slice (some A) add.length ca) ∧ wr.drew.cell? ⟨w.heap.size + 1, 0, none⟩ = some (.slice q2 ds2.length cd2) ∧ wr.drew.cell? ⟨w.heap.size + 1, 1, none⟩ = some (.slice r2 add2.length ca2) ∧ wr.drew.cell? ⟨w.heap.size + 1, 2, none⟩ = some (.int .i64 enx2) ∧ wr.drew.cell? ⟨w.heap.size + 1, 3, none⟩ = some (.int .i64 elg2) ∧ wr.drew.cell? (A.add (m * 5)) = some (.int .i64 d)) := Lib.hid ⟨c1, d0, d1, d2, d3, y0⟩
          have hS1 : Hid (∀ W, Below wr.heap.size wr W → W.cell? ⟨w.heap.size, 1, none⟩ = some (.slice (some A) add.length ca) ∧ W.cell? ⟨w.heap.size + 1, 0, none⟩ = some (.slice q2 ds2.length cd2) ∧ W.cell? ⟨w.heap.size + 1, 1, none⟩ = some (.slice r2 add2.length ca2) ∧ W.cell? ⟨w.heap.size + 1, 2, none⟩ = some (.int .i64 enx2) ∧ W.cell? ⟨w.heap.size + 1, 3, none⟩ = some (.int .i64 elg2) ∧ W.cell? (A.add (m * 5)) = some (.int .i64 d)) := Lib.hid fun W hW => ⟨(hW.cell (mcell_block c1)).trans c1, (hW.cell (mcell_block d0)).trans d0, (hW.cell (mcell_block d1)).trans d1, (hW.cell (mcell_block d2)).trans d2, (hW.cell (mcell_block d3)).trans d3, (hW.cell (mcell_block y0)).trans y0⟩
          have HTW := Lib.hid (HT.out wr d HBW.out)
          go_wp2_with fail
          go_region_held3 (fun W => W.cell? ⟨w.heap.size, 1, none⟩ = some (.slice (some A) add.length ca) ∧ W.cell? ⟨w.heap.size + 1, 0, none⟩ = some (.slice q2 ds2.length cd2) ∧ W.cell? ⟨w.heap.size + 1, 1, none⟩ = some (.slice r2 add2.length ca2) ∧ W.cell? ⟨w.heap.size + 1, 2, none⟩ = some (.int .i64 enx2) ∧ W.cell? ⟨w.heap.size + 1, 3, none⟩ = some (.int .i64 elg2) ∧ W.cell? (A.add (m * 5)) = some (.int .i64 d))
            (first | exact hS0.out | exact hS1.out _ (by assumption))
            (first
              | (go_at_call 66; (with_reducible refine HTW.out.mono ?_); rintro e w3 ⟨b, rfl, hb3, HE⟩)
              | fail)
          have HB3 := Lib.hid (HBW.out.trans (hb3.mono HBW.out.size))
          cases b with
          | true =>
            have HG := Lib.hid (HM.out (HE.out.1 rfl))
            go_wp2_with fail
            go_ret
            exact tells false (by simp only [Bool.false_eq_true, false_iff]; exact HG.out) (HB1.out.trans (HB3.out.mono HB1.out.size))
          | false =>
            have HG := Lib.hid (HE2.out fun h => by have := HE.out.2 h; cases this)
            go_wp2_with fail
            go_roundw
            case rel => exact ⟨m + 1, by omega, by go_num, Lib.hid ⟨HG.out, HB3.out⟩⟩
            case measure => simp [intOf]; omega
        · obtain rfl : m = add.length := by omega
          have i1 : ¬ (add.length : Int) < (add.length : Int) := by omega
          have HG : Hid G := Lib.hid (HGO.out.2 ⟨HND.out, by have := H3.out.1; rwa [List.take_length] at this⟩)
          go_wp2_with fail
          go_ret
          exact tells true (by simp only [true_iff]; exact HG.out) (HB1.out.trans (H3.out.2.mono HB1.out.size))
end Go.Proofs.YtbhjpkejdkfenaaGreatDoor
