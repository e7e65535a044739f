/-
  The law ManifestKept, walked. Conditions: those in the theorems.
-/
import Derived.Test.YtbhjpkejdkfenaaGreatDoorManKept
import Derived.Test.YtbhjpkejdkfenaaGreatDoorManEdits
set_option linter.unusedSimpArgs false
set_option linter.unusedVariables false
namespace Go.Proofs.YtbhjpkejdkfenaaGreatDoor
open Go.RowKit Go.Shelf
open Mf (File State Edit)
theorem kept_codes (s : State) (e : Edit) : (Mf.apply s e).1 ≠ 7 := by
  unfold Mf.apply
  split
  · simp
  · split
    · simp
    · split
      · simp
      · split <;> simp
set_option maxRecDepth 100000 in
set_option maxHeartbeats 16000000 in
theorem manKept_any {w : World} {p q r pk : Option Addr} {cap cd ca ck : Nat} {xs : List EdT} {ds ks : List Int} {add : List File} {enx elg n : Int}
    (hx : EdsAt w p xs) (ha : EdArg w (edV q ds.length cd r add.length ca enx elg) q cd ds r ca add enx elg) (hn : I64 n) (hks : IntsM w pk ks) (hck : ks.length ≤ ck)
    (ht : Lib.TabIs Tryz.prog w "internal/strconv.uint64pow10" .u64 Lib.pow10Tab) :
    Calls Tryz.prog 6 #[.slice p xs.length cap, edV q ds.length cd r add.length ca enx elg, .int .i64 n, .slice pk ks.length ck] w fun e w' => e = .returned (.bool true) ∧ Below w.heap.size w w' := by
  obtain ⟨-, had, haf, hac, hacc, hax, hag⟩ := ha
  obtain ⟨W1, hW1⟩ : ∃ W1, W1 = w.alloc (.cells #[.slice q ds.length cd, .slice r add.length ca, .int .i64 enx, .int .i64 elg] 33) := ⟨_, rfl⟩
  have HA : Hid (∀ W, Below W1.heap.size W1 W → W.cell? ⟨w.heap.size, 0, none⟩ = some (.slice q ds.length cd) ∧ W.cell? ⟨w.heap.size, 1, none⟩ = some (.slice r add.length ca) ∧ W.cell? ⟨w.heap.size, 2, none⟩ = some (.int .i64 enx) ∧ W.cell? ⟨w.heap.size, 3, none⟩ = some (.int .i64 elg)) := Lib.hid fun W hW => ed_boxk hW1 hW
  have HB1 : Hid (Below w.heap.size w W1) := Lib.hid (by rw [hW1]; exact mbelow_alloc _ _)
  have HT1 : Hid (∀ W, Below w.heap.size w W → ∀ s, Sane s → SpeltS W s) := Lib.hid fun W hW s hs => spelt_sane (Go.Joins.var_stays (g := 0) (by kernel_rfl) ht hW (Nat.le_refl _)) hs
  have EDS := Lib.hid hx
  have FD := Lib.hid had
  have FA := Lib.hid haf
  have KS := Lib.hid hks
  have HI := Lib.hid (And.intro hax hag)
  have HCK := Lib.hid hck
  have HFN := Lib.hid hn
  unfold edV
  clear hx had haf hac hacc hax hag hn hks hck ht
  go_enter Tryz.func6, Tryz.ntmps6
  go_wp2_with fail
  rw [← hW1]
  clear hW1
  refine (awake8_any W1).mono ?_
  rintro e w2 ⟨rfl, hb2⟩
  have HB2 : Hid (Below W1.heap.size W1 w2) := Lib.hid hb2
  obtain ⟨d0, d1, d2, d3⟩ := HA.out _ hb2
  have HG := Lib.hid (great8_any (w := w2) (p := none) (q := q) (r := r) (n := 0) (nd := ds.length) (na := add.length) (cap := 0) (cd := cd) (ca := ca) (nx := 0) (lg := 0) (enx := enx) (elg := elg))
  unfold stV edV at HG
  clear hb2
  by_cases h40 : 40 < xs.length
  case pos =>
    have i1 : (40 : Int) < (xs.length : Int) := by omega
    go_wp2_with fail
    go_ret
    exact ⟨rfl, HB1.out.trans (HB2.out.mono HB1.out.size)⟩
  have i1 : ¬ (40 : Int) < (xs.length : Int) := by omega
  go_wp2_with fail
  refine HG.out.mono ?_
  rintro e w3 ⟨b, rfl, hi, hb3⟩
  have HB3 : Hid (Below W1.heap.size W1 w3) := Lib.hid (HB2.out.trans (hb3.mono HB2.out.size))
  clear d0 d1 d2 d3 HG HB2 hb3
  cases b with
  | true =>
    clear hi
    go_wp2_with fail
    go_ret
    exact ⟨rfl, HB1.out.trans (HB3.out.mono HB1.out.size)⟩
  | false =>
    have HN : Hid (add.length ≤ 300 ∧ ds.length ≤ 300) := Lib.hid (by
      have h1 : ¬ (300 < 0 ∨ 300 < add.length ∨ 300 < ds.length) := fun h => by have := hi.2 h; cases this
      omega)
    clear hi
    by_cases hk1 : 1000 < ks.length
    case pos =>
      have i2 : (1000 : Int) < (ks.length : Int) := by omega
      go_wp2_with fail
      go_ret
      exact ⟨rfl, HB1.out.trans (HB3.out.mono HB1.out.size)⟩
    have i2 : ¬ (1000 : Int) < (ks.length : Int) := by omega
    have HX40 : Hid (xs.length ≤ 40) := Lib.hid (by omega)
    clear hk1 h40
    go_wp2_with fail
    clear i1 i2
    go_loopw [9] (fun iv wr => ∃ k : Nat, k ≤ xs.length ∧ iv = .int .i64 (k : Nat) ∧ Hid ((∀ e ∈ xs.take k, e.add.length ≤ 300 ∧ e.ds.length ≤ 300) ∧ Below W1.heap.size W1 wr)) (fun iv _ => xs.length - (intOf iv).toNat)
    case atStart => exact ⟨0, Nat.zero_le _, rfl, Lib.hid ⟨(fun _ h => nomatch h), HB3.out⟩⟩
    case round =>
      obtain ⟨k, hk, rfl, H⟩ := hrel
      by_cases hlt : k < xs.length
      · have i1 : (k : Int) < (xs.length : Int) := by omega
        have i2 : (0 : Int) ≤ (k : Int) := by omega
        have hk9 : k < 1000000 := by have := HX40.out; omega
        obtain ⟨A, eA, c0, c1, c2, c3, -⟩ := EDS.out.at (HB1.out.trans (H.out.2.mono HB1.out.size)) hlt
        have HST : Hid ((xs[k].add.length ≤ 300 ∧ xs[k].ds.length ≤ 300) → ∀ e ∈ xs.take (k + 1), e.add.length ≤ 300 ∧ e.ds.length ≤ 300) := Lib.hid fun h e he => by
          rw [List.take_succ_eq_append_getElem hlt] at he
          rcases List.mem_append.1 he with h1 | h1
          · exact H.out.1 e h1
          · rw [List.mem_singleton.1 h1]; exact h
        have HG := Lib.hid (great8_any (w := wr) (p := none) (q := xs[k].q) (r := xs[k].r) (n := 0) (nd := xs[k].ds.length) (na := xs[k].add.length) (cap := 0) (cd := xs[k].cd) (ca := xs[k].ca) (nx := 0) (lg := 0) (enx := xs[k].nx) (elg := xs[k].lg))
        unfold stV edV at HG
        generalize xs[k] = ed at *
        subst eA
        go_wp2_with fail
        refine HG.out.mono ?_
        rintro e w5 ⟨b, rfl, hi, hb5⟩
        have HB5 : Hid (Below W1.heap.size W1 w5) := Lib.hid (H.out.2.trans (hb5.mono H.out.2.size))
        clear c0 c1 c2 c3 HG hb5
        cases b with
        | true =>
          clear hi
          go_wp2_with fail
          go_ret
          exact ⟨rfl, HB1.out.trans (HB5.out.mono HB1.out.size)⟩
        | false =>
          have HNE : Hid (ed.add.length ≤ 300 ∧ ed.ds.length ≤ 300) := Lib.hid (by
            have h1 : ¬ (300 < 0 ∨ 300 < ed.add.length ∨ 300 < ed.ds.length) := fun h => by have := hi.2 h; cases this
            omega)
          clear hi
          go_wp2_with fail
          go_roundw
          case rel => exact ⟨k + 1, by omega, by go_num, Lib.hid ⟨HST.out HNE.out, HB5.out⟩⟩
          case measure => simp [intOf]; omega
      · obtain rfl : k = xs.length := by omega
        have i1 : ¬ (xs.length : Int) < (xs.length : Int) := by omega
        have HGR : Hid (∀ e ∈ xs, e.add.length ≤ 300 ∧ e.ds.length ≤ 300) := Lib.hid fun e he => H.out.1 e (by rw [List.take_length]; exact he)
        have HBR := Lib.hid H.out.2
        clear H hk HB3
        go_wp2_with fail
        refine (new_b (w0 := W1) HBR.out).mono ?_
        rintro e w6 ⟨a, rfl, h6⟩
        have HO := Lib.hid (open_newM h6)
        clear h6 HBR
        go_wp2_with fail
        refine HO.out.mono ?_
        rintro e w7 ⟨b, rfl, h7⟩
        have HC := Lib.hid (create_b h7 otherN (by decide) kd_new)
        unfold otherN at HC
        clear h7 HO
        go_wp2_with fail
        refine HC.out.mono ?_
        rintro e w8 ⟨rfl, h8⟩
        have H8 := Lib.hid h8
        clear h8 HC
        go_wp2_with fail
        clear i1
        go_loopw [13] (fun iv wr => ∃ (k : Nat) (m : Option (List UInt8)) (t : ByteArray) (s : State), k ≤ xs.length ∧ iv = .int .i64 (k : Nat) ∧ Hid (KdIs m t s ∧ Bx W1 wr a (kd false 0 m none) [(b, manO a t false)])) (fun iv _ => xs.length - (intOf iv).toNat)
        case atStart => exact ⟨0, none, ⟨#[]⟩, ⟨1, 0, []⟩, Nat.zero_le _, rfl, Lib.hid ⟨KdIs.new, H8.out⟩⟩
        case round =>
          obtain ⟨k, m, t, s, hk, rfl, H⟩ := hrel
          obtain ⟨nx, lg, l⟩ := s
          by_cases hlt : k < xs.length
          · have i1 : (k : Int) < (xs.length : Int) := by omega
            have i2 : (0 : Int) ≤ (k : Int) := by omega
            have hk9 : k < 1000000 := by have := HX40.out; omega
            obtain ⟨A, eA, -, -, -, -, -⟩ := EDS.out.at (HB1.out.trans (H.out.2.below.mono HB1.out.size)) hlt
            obtain ⟨ed, hed⟩ : ∃ x, x = xs[k] := ⟨_, rfl⟩
            obtain ⟨q2, cd2, ds2, r2, ca2, add2, nx2, lg2⟩ := ed
            have HE : Hid (∀ W, Below W1.heap.size W1 W → (W.cell? (A.add (k * 4)) = some (.slice q2 ds2.length cd2) ∧ W.cell? ⟨(A.add (k * 4)).block, (A.add (k * 4)).off + 1, none⟩ = some (.slice r2 add2.length ca2) ∧ W.cell? ⟨(A.add (k * 4)).block, (A.add (k * 4)).off + 2, none⟩ = some (.int .i64 nx2) ∧ W.cell? ⟨(A.add (k * 4)).block, (A.add (k * 4)).off + 3, none⟩ = some (.int .i64 lg2)) ∧ EdIn W ⟨q2, cd2, ds2, r2, ca2, add2, nx2, lg2⟩) := Lib.hid fun W hW => by
              obtain ⟨A', eA', c0, c1, c2, c3, h⟩ := EDS.out.at (HB1.out.trans (hW.mono HB1.out.size)) hlt
              cases eA.symm.trans eA'
              rw [← hed] at c0 c1 c2 c3 h
              exact ⟨⟨c0, c1, c2, c3⟩, h⟩
            have HNE : Hid (add2.length ≤ 300 ∧ ds2.length ≤ 300) := Lib.hid (by have := HGR.out xs[k] (List.getElem_mem hlt); rw [← hed] at this; exact this)
            clear hed
            subst eA
            obtain ⟨⟨c, ⟨nx', lg', l'⟩⟩, ho⟩ : ∃ o, o = Mf.apply ⟨nx, lg, l⟩ ⟨ds2, add2, nx2, lg2⟩ := ⟨_, rfl⟩
            have HO := Lib.hid ho.symm
            have HSA : Hid (Sane ⟨nx', lg', l'⟩) := Lib.hid (by have := apply_sane ⟨nx, lg, l⟩ ⟨ds2, add2, nx2, lg2⟩; rw [← ho] at this; exact this)
            have HSN := Lib.hid (sane_right H.out.1.1)
            have HLN : Hid (l.length ≤ 200) := Lib.hid HSN.out.few
            have HS7 := Lib.hid (State_kd H.out.2 H.out.1)
            have HKD := Lib.hid H.out.1
            clear H ho
            go_wp2_with fail
            refine HS7.out.mono ?_
            rintro e w9 ⟨pv, cv, R, rfl, HR, HCV, h9⟩
            obtain ⟨W10, hW10⟩ : ∃ x, x = w9.alloc (.cells #[.int .i64 nx, .int .i64 lg, .slice pv l.length cv] 24) := ⟨_, rfl⟩
            obtain ⟨z, hz⟩ : ∃ z, z = w9.heap.size := ⟨_, rfl⟩
            obtain ⟨Bl, hBl⟩ : ∃ x, x = (z, stO nx lg pv l.length cv) :: (R ++ []) := ⟨_, rfl⟩
            have H10 : Hid (Bx W1 W10 a (kd false 0 m none) ((b, manO a t false) :: Bl)) := Lib.hid (by rw [hBl, hz, hW10]; exact (h9.alloc _).perm (List.Perm.swap _ _ _))
            have HLK : Hid (∀ W D o, Bx W1 W a D ((b, o) :: Bl) → W.heap[z]? = some (stO nx lg pv l.length cv) ∧ FilesAt W pv l) := Lib.hid fun W D o h => by
              subst hBl
              exact ⟨h.box _ (List.mem_cons_of_mem _ List.mem_cons_self), HR.out.files (fun x hx => h.box _ (List.mem_cons_of_mem _ (List.mem_cons_of_mem _ (List.mem_append_left _ hx)))) (right_fi HKD.out.1)⟩
            clear h9 hBl HS7
            go_upto_region 18 with fail
            rw [← hW10, ← hz]
            clear hW10 hz
            obtain ⟨⟨c0, c1, c2, c3⟩, hed⟩ := HE.out _ H10.out.below
            have HED := Lib.hid hed
            have HCM := Lib.hid (Commit_kd (fu := 0) (q := q2) (r := r2) (ds := ds2) (add := add2) (enx := nx2) (elg := lg2) (capd := cd2) (capa := ca2) H10.out HKD.out HED.out.ints HED.out.files (by have := HNE.out; omega) (by have := HNE.out; omega) HED.out.nx HED.out.lg HO.out (fun _ => HT1.out _ (HB1.out.trans (H10.out.below.mono HB1.out.size)) _ HSA.out))
            unfold edV at HCM
            clear hed
            go_wp2_with fail
            refine HCM.out.mono ?_
            rintro e w11 ⟨c9, rfl, hc⟩
            have HW : Hid (c = c9 ∧ ∃ m2 t2 s2, KdIs m2 t2 s2 ∧ Bx W1 w11 a (kd false 0 m2 none) ((b, manO a t2 false) :: Bl) ∧ ((c ≠ 0 ∧ s2 = ⟨nx, lg, l⟩) ∨ (c = 0 ∧ s2 = ⟨nx', lg', l'⟩))) := Lib.hid (by
              rcases hc with ⟨h1, h2, h3⟩ | ⟨h1, h2, h3, fu', h4, h5⟩ | ⟨_, _, h3, _⟩
              · exact ⟨h2.symm, m, t, _, HKD.out, h3, .inl ⟨h1, rfl⟩⟩
              · obtain rfl := h4 (by simp)
                exact ⟨h1.trans h2.symm, _, _, _, h3, h5, .inr ⟨h1, rfl⟩⟩
              · exact absurd rfl h3)
            obtain ⟨rfl, m2, t2, ⟨nx3, lg3, l3⟩, hk2, hb2, hs2⟩ := HW.out
            have H11 := Lib.hid hb2
            have HK2 := Lib.hid hk2
            have HS2 := Lib.hid hs2
            clear hc hk2 hb2 hs2 HW HCM HED c0 c1 c2 c3 H10
            have HS9 : Hid (∀ W, Below w11.heap.size w11 W → (W.cell? ⟨z, 0, none⟩ = some (.int .i64 nx) ∧ W.cell? ⟨z, 1, none⟩ = some (.int .i64 lg) ∧ W.cell? ⟨z, 2, none⟩ = some (.slice pv l.length cv)) ∧ W.cell? (A.add (k * 4)) = some (.slice q2 ds2.length cd2) ∧ W.cell? ⟨(A.add (k * 4)).block, (A.add (k * 4)).off + 1, none⟩ = some (.slice r2 add2.length ca2) ∧ W.cell? ⟨(A.add (k * 4)).block, (A.add (k * 4)).off + 2, none⟩ = some (.int .i64 nx2) ∧ W.cell? ⟨(A.add (k * 4)).block, (A.add (k * 4)).off + 3, none⟩ = some (.int .i64 lg2)) := Lib.hid fun W hW => by
              have hbx := H11.out.same hW
              obtain ⟨hz1, -⟩ := HLK.out _ _ _ hbx
              obtain ⟨⟨c0, c1, c2, c3⟩, -⟩ := HE.out _ hbx.below
              exact ⟨st_cells hz1, c0, c1, c2, c3⟩
            go_upto_region 19 with fail
            go_cut [16, 17] from 81 to 89 (fun zv fv wx => ∃ (z2 : Nat) (pw : Option Addr) (cw : Nat), zv = .pointer (some ⟨z2, 0, none⟩) ∧ fv = .int .i64 (c : Nat) ∧ Hid (wx.heap[z2]? = some (stO nx' lg' pw l'.length cw) ∧ FilesAt wx pw l' ∧ Below w11.heap.size w11 wx))
            case first =>
              have HS9' := HS9
              clear HS9
              have HS9 : Hid (∀ W, Below w11.heap.size w11 W → W.cell? ⟨z, 0, none⟩ = some (.int .i64 nx) ∧ W.cell? ⟨z, 1, none⟩ = some (.int .i64 lg) ∧ W.cell? ⟨z, 2, none⟩ = some (.slice pv l.length cv) ∧ W.cell? (A.add (k * 4)) = some (.slice q2 ds2.length cd2) ∧ W.cell? ⟨(A.add (k * 4)).block, (A.add (k * 4)).off + 1, none⟩ = some (.slice r2 add2.length ca2) ∧ W.cell? ⟨(A.add (k * 4)).block, (A.add (k * 4)).off + 2, none⟩ = some (.int .i64 nx2) ∧ W.cell? ⟨(A.add (k * 4)).block, (A.add (k * 4)).off + 3, none⟩ = some (.int .i64 lg2)) := Lib.hid fun W hW => by
                obtain ⟨⟨a0, a1, a2⟩, a3, a4, a5, a6⟩ := HS9'.out W hW
                exact ⟨a0, a1, a2, a3, a4, a5, a6⟩
              clear HS9'
              have QA : Hid (∀ W, Below w11.heap.size w11 W → Calls Tryz.prog 8 #[.agg #[.int .i64 nx, .int .i64 lg, .slice pv l.length cv], .agg #[.slice q2 ds2.length cd2, .slice r2 add2.length ca2, .int .i64 nx2, .int .i64 lg2]] W fun e w' =>
                  ∃ pw cw, e = .returned (.tuple #[.agg #[.int .i64 nx', .int .i64 lg', .slice pw l'.length cw], .int .i64 (c : Nat)]) ∧ OwnFis w' W.heap.size (.slice pw l'.length cw) l' ∧ Below W.heap.size W w') := Lib.hid fun W hW => by
                have hbx := H11.out.same hW
                obtain ⟨-, hfl⟩ := HLK.out _ _ _ hbx
                obtain ⟨-, hed⟩ := HE.out _ hbx.below
                refine (applyK (q := q2) (r := r2) (ds := ds2) (add := add2) (enx := nx2) (elg := lg2) (cd := cd2) (ca := ca2) hfl HCV.out hed.ints hed.files (by have := HLN.out; omega) (by have := HNE.out; omega) (by have := HNE.out; omega) HSN.out.next HSN.out.log hed.nx hed.lg HO.out).mono ?_
                rintro e w' ⟨pw, cw, rfl, -, h1, h2⟩
                exact ⟨pw, cw, rfl, h1, h2⟩
              refine wp_region_held_drew (S := fun W => W.cell? ⟨z, 0, none⟩ = some (.int .i64 nx) ∧ W.cell? ⟨z, 1, none⟩ = some (.int .i64 lg) ∧ W.cell? ⟨z, 2, none⟩ = some (.slice pv l.length cv) ∧ W.cell? (A.add (k * 4)) = some (.slice q2 ds2.length cd2) ∧ W.cell? ⟨(A.add (k * 4)).block, (A.add (k * 4)).off + 1, none⟩ = some (.slice r2 add2.length ca2) ∧ W.cell? ⟨(A.add (k * 4)).block, (A.add (k * 4)).off + 2, none⟩ = some (.int .i64 nx2) ∧ W.cell? ⟨(A.add (k * 4)).block, (A.add (k * 4)).off + 3, none⟩ = some (.int .i64 lg2)) (by kernel_rfl) (HS9.out _ (Below.refl _ _).drew) (fun hHeld => ?_)
              have HB := Lib.hid ((Below.refl w11.heap.size w11).drew)
              generalize w11.drew = w0_ at *
              refine take_tok (some 82) (i := 0) (oi := _) (v := ?_) rfl rfl (by kernel_rfl) (by kernel_rfl) (by kernel_rfl) (fun _ _ _ h => h) (Or.inl ⟨by kernel_rfl, ?_⟩) hHeld ?_
              rotate_left 1
              · (intro w hSw; obtain ⟨g0, g1, g2, g3, g4, g5, g6⟩ := hSw; go_simp; (try with_reducible rfl))
              try simp only [Act.put, List.setIfInBounds_toArray, List.set_cons_zero, List.set_cons_succ]
              refine take_tok (some 83) (i := 1) (oi := _) (v := ?_) rfl rfl (by kernel_rfl) (by kernel_rfl) (by kernel_rfl) (fun _ _ _ h => h) (Or.inl ⟨by kernel_rfl, ?_⟩) hHeld ?_
              rotate_left 1
              · (intro w hSw; obtain ⟨g0, g1, g2, g3, g4, g5, g6⟩ := hSw; go_simp; (try with_reducible rfl))
              try simp only [Act.put, List.setIfInBounds_toArray, List.set_cons_zero, List.set_cons_succ]
              refine take_tok (some 84) (i := 2) (oi := _) (v := ?_) rfl rfl (by kernel_rfl) (by kernel_rfl) (by kernel_rfl) (fun _ _ _ h => h) (Or.inl ⟨by kernel_rfl, ?_⟩) hHeld ?_
              rotate_left 1
              · (intro w hSw; obtain ⟨g0, g1, g2, g3, g4, g5, g6⟩ := hSw; go_simp; (try with_reducible rfl))
              try simp only [Act.put, List.setIfInBounds_toArray, List.set_cons_zero, List.set_cons_succ]
              refine take_tok (some 85) (i := 3) (oi := _) (v := ?_) rfl rfl (by kernel_rfl) (by kernel_rfl) (by kernel_rfl) (fun _ _ _ h => h) (Or.inl ⟨by kernel_rfl, ?_⟩) hHeld ?_
              rotate_left 1
              · (intro w hSw; obtain ⟨g0, g1, g2, g3, g4, g5, g6⟩ := hSw; go_simp; (try with_reducible rfl))
              try simp only [Act.put, List.setIfInBounds_toArray, List.set_cons_zero, List.set_cons_succ]
              refine take_tok (some 86) (i := 4) (oi := _) (v := ?_) rfl rfl (by kernel_rfl) (by kernel_rfl) (by kernel_rfl) (fun _ _ _ h => h) (Or.inl ⟨by kernel_rfl, ?_⟩) hHeld ?_
              rotate_left 1
              · (intro w hSw; obtain ⟨g0, g1, g2, g3, g4, g5, g6⟩ := hSw; go_simp; (try with_reducible rfl))
              try simp only [Act.put, List.setIfInBounds_toArray, List.set_cons_zero, List.set_cons_succ]
              refine wpAnyH_ready (rs := [5, 9]) (by kernel_rfl) (by simp) ?_
              refine AllReadyH.cons (o := _) rfl (fun K hK => ?_) (AllReadyH.cons (o := _) rfl (fun K hK => ?_) AllReadyH.nil)
              · go_simp
                refine (QA.out w0_ HB.out).mono ?_
                rintro e wa1 ⟨pw, cw, rfl, HOW, hb⟩
                have HB_ := Lib.hid (HB.out.trans (hb.mono HB.out.size))
                clear HB
                have HB := HB_
                clear HB_ hb
                refine hK.out _ _ (HS9.out _ HB.out) (fun qa2 => ?_)
                clear hK K
                try simp only [Act.put, List.setIfInBounds_toArray, List.set_cons_zero, List.set_cons_succ]
                refine take_tok (some 81) (i := 6) (oi := _) (v := ?_) rfl rfl (by kernel_rfl) (by kernel_rfl) (by kernel_rfl) (fun _ _ _ h => h) (Or.inl ⟨by kernel_rfl, ?_⟩) qa2 ?_
                rotate_left 1
                · (intro w hSw; obtain ⟨g0, g1, g2, g3, g4, g5, g6⟩ := hSw; go_simp; (try with_reducible rfl))
                try simp only [Act.put, List.setIfInBounds_toArray, List.set_cons_zero, List.set_cons_succ]
                refine take_tok (some 88) (i := 7) (oi := _) (v := ?_) rfl rfl (by kernel_rfl) (by kernel_rfl) (by kernel_rfl) (fun _ _ _ h => h) (Or.inl ⟨by kernel_rfl, ?_⟩) qa2 ?_
                rotate_left 1
                · (intro w hSw; obtain ⟨g0, g1, g2, g3, g4, g5, g6⟩ := hSw; go_simp; (try with_reducible rfl))
                try simp only [Act.put, List.setIfInBounds_toArray, List.set_cons_zero, List.set_cons_succ]
                refine take_tok (some 89) (i := 8) (oi := _) (v := ?_) rfl rfl (by kernel_rfl) (by kernel_rfl) (by kernel_rfl) (fun _ _ _ h => h) (Or.inl ⟨by kernel_rfl, ?_⟩) qa2 ?_
                rotate_left 1
                · (intro w hSw; obtain ⟨g0, g1, g2, g3, g4, g5, g6⟩ := hSw; go_simp; (try with_reducible rfl))
                try simp only [Act.put, List.setIfInBounds_toArray, List.set_cons_zero, List.set_cons_succ]
                refine wpAnyH_ready (rs := [9]) (by kernel_rfl) (by simp) ?_
                refine AllReadyH.cons (o := _) rfl (fun K hK => ?_) AllReadyH.nil
                have HZN := Lib.hid (show w11.heap.size ≤ wa1.heap.size from HB.out.size)
                go_simp
                obtain ⟨wa3, ha4⟩ : ∃ x, x = wa1.alloc (.cells #[.int .i64 0, .int .i64 0, .slice none 0 0] 24) := ⟨_, rfl⟩
                rw [← ha4]
                have hb : Below wa1.heap.size wa1 wa3 := by rw [ha4]; exact mbelow_alloc _ _
                have HOW_ := HOW.below hb
                clear HOW
                have HOW := HOW_
                clear HOW_
                have HZ := (by rw [ha4]; exact heap_alloc_new wa1 _ : wa3.heap[wa1.heap.size]? = some (stO 0 0 none 0 0))
                have HB_ := Lib.hid (HB.out.trans (hb.mono HB.out.size))
                clear HB
                have HB := HB_
                clear HB_ hb ha4
                generalize wa1.heap.size = zb at *
                refine hK.out _ _ (HS9.out _ HB.out) (fun qa5 => ?_)
                clear hK K
                try simp only [Act.put, List.setIfInBounds_toArray, List.set_cons_zero, List.set_cons_succ]
                refine wpAnyH_ready (rs := [10]) (by kernel_rfl) (by simp) ?_
                refine AllReadyH.cons (o := _) rfl (fun K hK => ?_) AllReadyH.nil
                obtain ⟨z0, z1, z2⟩ := st_cells HZ
                have zf0 := st_frozen HZ 0
                have zf1 := st_frozen HZ 1
                have zf2 := st_frozen HZ 2
                have HE9 := Lib.hid (stored_k (nx := nx') (lg := lg') HZ HOW HZN.out HB.out)
                go_simp
                refine hK.out _ _ (HS9.out _ HE9.out.2.2) (fun qa6 => ?_)
                clear hK K
                try simp only [Act.put, List.setIfInBounds_toArray, List.set_cons_zero, List.set_cons_succ]
                refine take_tok (some 17) (i := 11) (oi := _) (v := ?_) rfl rfl (by kernel_rfl) (by kernel_rfl) (by kernel_rfl) (fun _ _ _ h => h) (Or.inl ⟨by kernel_rfl, ?_⟩) qa6 ?_
                rotate_left 1
                · (intro w hSw; obtain ⟨g0, g1, g2, g3, g4, g5, g6⟩ := hSw; go_simp; (try with_reducible rfl))
                try simp only [Act.put, List.setIfInBounds_toArray, List.set_cons_zero, List.set_cons_succ]
                refine wpAnyH_done (by kernel_rfl) ?_ _
                go_wp2_with fail
                go_meet
                obtain ⟨p9, c9, e9, -, -, hf9⟩ := HE9.out.2.1.files HSA.out.files
                cases e9
                exact ⟨zb, pw, cw, rfl, rfl, Lib.hid ⟨HE9.out.1, hf9, HE9.out.2.2⟩⟩
              · have HZN := Lib.hid (show w11.heap.size ≤ w0_.heap.size from HB.out.size)
                go_simp
                obtain ⟨wa7, ha8⟩ : ∃ x, x = w0_.alloc (.cells #[.int .i64 0, .int .i64 0, .slice none 0 0] 24) := ⟨_, rfl⟩
                rw [← ha8]
                have hb : Below w0_.heap.size w0_ wa7 := by rw [ha8]; exact mbelow_alloc _ _
                have HZ := (by rw [ha8]; exact heap_alloc_new w0_ _ : wa7.heap[w0_.heap.size]? = some (stO 0 0 none 0 0))
                have HB_ := Lib.hid (HB.out.trans (hb.mono HB.out.size))
                clear HB
                have HB := HB_
                clear HB_ hb ha8
                generalize w0_.heap.size = zb at *
                refine hK.out _ _ (HS9.out _ HB.out) (fun qa9 => ?_)
                clear hK K
                try simp only [Act.put, List.setIfInBounds_toArray, List.set_cons_zero, List.set_cons_succ]
                refine wpAnyH_ready (rs := [5]) (by kernel_rfl) (by simp) ?_
                refine AllReadyH.cons (o := _) rfl (fun K hK => ?_) AllReadyH.nil
                go_simp
                refine (QA.out wa7 HB.out).mono ?_
                rintro e wa10 ⟨pw, cw, rfl, HOW, hb⟩
                have HZ_ := (hb.block _ (Array.getElem?_eq_some_iff.1 HZ).1).trans HZ
                clear HZ
                have HZ := HZ_
                clear HZ_
                have HB_ := Lib.hid (HB.out.trans (hb.mono HB.out.size))
                clear HB
                have HB := HB_
                clear HB_ hb
                refine hK.out _ _ (HS9.out _ HB.out) (fun qa11 => ?_)
                clear hK K
                try simp only [Act.put, List.setIfInBounds_toArray, List.set_cons_zero, List.set_cons_succ]
                refine take_tok (some 81) (i := 6) (oi := _) (v := ?_) rfl rfl (by kernel_rfl) (by kernel_rfl) (by kernel_rfl) (fun _ _ _ h => h) (Or.inl ⟨by kernel_rfl, ?_⟩) qa11 ?_
                rotate_left 1
                · (intro w hSw; obtain ⟨g0, g1, g2, g3, g4, g5, g6⟩ := hSw; go_simp; (try with_reducible rfl))
                try simp only [Act.put, List.setIfInBounds_toArray, List.set_cons_zero, List.set_cons_succ]
                refine take_tok (some 88) (i := 7) (oi := _) (v := ?_) rfl rfl (by kernel_rfl) (by kernel_rfl) (by kernel_rfl) (fun _ _ _ h => h) (Or.inl ⟨by kernel_rfl, ?_⟩) qa11 ?_
                rotate_left 1
                · (intro w hSw; obtain ⟨g0, g1, g2, g3, g4, g5, g6⟩ := hSw; go_simp; (try with_reducible rfl))
                try simp only [Act.put, List.setIfInBounds_toArray, List.set_cons_zero, List.set_cons_succ]
                refine take_tok (some 89) (i := 8) (oi := _) (v := ?_) rfl rfl (by kernel_rfl) (by kernel_rfl) (by kernel_rfl) (fun _ _ _ h => h) (Or.inl ⟨by kernel_rfl, ?_⟩) qa11 ?_
                rotate_left 1
                · (intro w hSw; obtain ⟨g0, g1, g2, g3, g4, g5, g6⟩ := hSw; go_simp; (try with_reducible rfl))
                try simp only [Act.put, List.setIfInBounds_toArray, List.set_cons_zero, List.set_cons_succ]
                refine wpAnyH_ready (rs := [10]) (by kernel_rfl) (by simp) ?_
                refine AllReadyH.cons (o := _) rfl (fun K hK => ?_) AllReadyH.nil
                obtain ⟨z0, z1, z2⟩ := st_cells HZ
                have zf0 := st_frozen HZ 0
                have zf1 := st_frozen HZ 1
                have zf2 := st_frozen HZ 2
                have HE9 := Lib.hid (stored_k (nx := nx') (lg := lg') HZ HOW HZN.out HB.out)
                go_simp
                refine hK.out _ _ (HS9.out _ HE9.out.2.2) (fun qa12 => ?_)
                clear hK K
                try simp only [Act.put, List.setIfInBounds_toArray, List.set_cons_zero, List.set_cons_succ]
                refine take_tok (some 17) (i := 11) (oi := _) (v := ?_) rfl rfl (by kernel_rfl) (by kernel_rfl) (by kernel_rfl) (fun _ _ _ h => h) (Or.inl ⟨by kernel_rfl, ?_⟩) qa12 ?_
                rotate_left 1
                · (intro w hSw; obtain ⟨g0, g1, g2, g3, g4, g5, g6⟩ := hSw; go_simp; (try with_reducible rfl))
                try simp only [Act.put, List.setIfInBounds_toArray, List.set_cons_zero, List.set_cons_succ]
                refine wpAnyH_done (by kernel_rfl) ?_ _
                go_wp2_with fail
                go_meet
                obtain ⟨p9, c9, e9, -, -, hf9⟩ := HE9.out.2.1.files HSA.out.files
                cases e9
                exact ⟨zb, pw, cw, rfl, rfl, Lib.hid ⟨HE9.out.1, hf9, HE9.out.2.2⟩⟩
            case rest =>
              obtain ⟨z2, pw, cw, rfl, rfl, H12⟩ := hcut
              have H13 := Lib.hid (H11.out.same H12.out.2.2)
              clear HS9 HE HO
              have HS9 : Hid (∀ W, Below wc.heap.size wc W → W.cell? ⟨z, 0, none⟩ = some (.int .i64 nx) ∧ W.cell? ⟨z, 1, none⟩ = some (.int .i64 lg) ∧ W.cell? ⟨z, 2, none⟩ = some (.slice pv l.length cv) ∧ W.cell? ⟨z2, 0, none⟩ = some (.int .i64 nx') ∧ W.cell? ⟨z2, 1, none⟩ = some (.int .i64 lg') ∧ W.cell? ⟨z2, 2, none⟩ = some (.slice pw l'.length cw)) := Lib.hid fun W hW => by
                obtain ⟨hz1, -⟩ := HLK.out _ _ _ (H13.out.same hW)
                obtain ⟨a0, a1, a2⟩ := st_cells hz1
                obtain ⟨a3, a4, a5⟩ := st_cells ((hW.block _ (Array.getElem?_eq_some_iff.1 H12.out.1).1).trans H12.out.1)
                exact ⟨a0, a1, a2, a3, a4, a5⟩
              have QS : Hid (∀ W, Below wc.heap.size wc W → Calls Tryz.prog 18 #[.pointer (some ⟨b, 0, none⟩)] W fun e w' => ∃ ps cs, e = .returned (.agg #[.int .i64 nx3, .int .i64 lg3, .slice ps l3.length cs]) ∧ Hid (FilesAt w' ps l3) ∧ Hid (l3.length ≤ cs ∧ cs ≤ maxLen) ∧ Below W.heap.size W w') := Lib.hid fun W hW => State_look ((H13.out.same hW).man) HK2.out
              have QC : Hid (∀ W ps cs, Hid (FilesAt W ps l3) → Hid (l3.length ≤ cs ∧ cs ≤ maxLen) → Below wc.heap.size wc W → Calls Tryz.prog 12 #[.agg #[.int .i64 nx3, .int .i64 lg3, .slice ps l3.length cs]] W fun e w' => e = .returned (.int .i64 0) ∧ Below W.heap.size W w') := Lib.hid fun W ps cs h1 h2 _ => check_yes h1.out h2.out HK2.out.1
              have hcc : ((c : Int) != (c : Int)) = false := by simp
              have hL3 : Hid (l3.length ≤ 200) := Lib.hid (sane_right HK2.out.1).few
              go_upto_region 20 with fail
              go_cut [120] from 90 to 120 (fun bv wx => bv = .bool false ∧ Hid (Below wc.heap.size wc wx))
              case first =>
                rcases HS2.out with ⟨h0, he⟩ | ⟨h0, he⟩
                · have QL : Hid (∀ W ps cs, Hid (FilesAt W ps l3) → Below wc.heap.size wc W → Calls Tryz.prog 32 #[.agg #[.int .i64 nx3, .int .i64 lg3, .slice ps l3.length cs], .agg #[.int .i64 nx, .int .i64 lg, .slice pv l.length cv]] W fun e w' => e = .returned (.bool true) ∧ Below W.heap.size W w') := Lib.hid fun W ps cs h1 hW => alike_yes h1.out (HLK.out _ _ _ (H13.out.same hW)).2 (by have := hL3.out; omega) he
                  have hc0 : ((c : Int) != 0) = true := by rw [bne_iff_ne]; omega
                  have hc1 : ((c : Int) == 0) = false := by rw [beq_eq_false_iff_ne]; omega
                  have hc2 : ¬ ((c : Int) = 0) := by omega
                  clear h0 he HS2
                  refine wp_region_held_drew (S := fun W => W.cell? ⟨z, 0, none⟩ = some (.int .i64 nx) ∧ W.cell? ⟨z, 1, none⟩ = some (.int .i64 lg) ∧ W.cell? ⟨z, 2, none⟩ = some (.slice pv l.length cv) ∧ W.cell? ⟨z2, 0, none⟩ = some (.int .i64 nx') ∧ W.cell? ⟨z2, 1, none⟩ = some (.int .i64 lg') ∧ W.cell? ⟨z2, 2, none⟩ = some (.slice pw l'.length cw)) (by kernel_rfl) (HS9.out _ (Below.refl _ _).drew) (fun hHeld => ?_)
                  have HB := Lib.hid ((Below.refl wc.heap.size wc).drew)
                  generalize wc.drew = w0_ at *
                  refine take_tok (some 90) (i := 0) (oi := _) (v := ?_) rfl rfl (by kernel_rfl) (by kernel_rfl) (by kernel_rfl) (fun _ _ _ h => h) (Or.inl ⟨by kernel_rfl, ?_⟩) hHeld ?_
                  rotate_left 1
                  · (intro w hSw; obtain ⟨g0, g1, g2, g3, g4, g5⟩ := hSw; go_simp; (try with_reducible rfl))
                  try simp only [Act.put, List.setIfInBounds_toArray, List.set_cons_zero, List.set_cons_succ]
                  refine take_tok (some 91) (i := 1) (oi := _) (v := ?_) rfl rfl (by kernel_rfl) (by kernel_rfl) (by kernel_rfl) (fun _ _ _ h => h) (Or.inl ⟨by kernel_rfl, ?_⟩) hHeld ?_
                  rotate_left 1
                  · (intro w hSw; obtain ⟨g0, g1, g2, g3, g4, g5⟩ := hSw; go_simp; (try with_reducible rfl))
                  try simp only [Act.put, List.setIfInBounds_toArray, List.set_cons_zero, List.set_cons_succ]
                  refine take_tok (some 92) (i := 2) (oi := _) (v := ?_) rfl rfl (by kernel_rfl) (by kernel_rfl) (by kernel_rfl) (fun _ _ _ h => h) (Or.inl ⟨by kernel_rfl, ?_⟩) hHeld ?_
                  rotate_left 1
                  · (intro w hSw; obtain ⟨g0, g1, g2, g3, g4, g5⟩ := hSw; go_simp; (try with_reducible rfl))
                  try simp only [Act.put, List.setIfInBounds_toArray, List.set_cons_zero, List.set_cons_succ]
                  refine take_tok (some 93) (i := 3) (oi := _) (v := ?_) rfl rfl (by kernel_rfl) (by kernel_rfl) (by kernel_rfl) (fun _ _ _ h => h) (Or.inl ⟨by kernel_rfl, ?_⟩) hHeld ?_
                  rotate_left 1
                  · (intro w hSw; obtain ⟨g0, g1, g2, g3, g4, g5⟩ := hSw; go_simp; (try with_reducible rfl))
                  try simp only [Act.put, List.setIfInBounds_toArray, List.set_cons_zero, List.set_cons_succ]
                  refine take_tok (some 94) (i := 4) (oi := _) (v := ?_) rfl rfl (by kernel_rfl) (by kernel_rfl) (by kernel_rfl) (fun _ _ _ h => h) (Or.inl ⟨by kernel_rfl, ?_⟩) hHeld ?_
                  rotate_left 1
                  · (intro w hSw; obtain ⟨g0, g1, g2, g3, g4, g5⟩ := hSw; go_simp; (try with_reducible rfl))
                  try simp only [Act.put, List.setIfInBounds_toArray, List.set_cons_zero, List.set_cons_succ]
                  refine take_tok (some 95) (i := 5) (oi := _) (v := ?_) rfl rfl (by kernel_rfl) (by kernel_rfl) (by kernel_rfl) (fun _ _ _ h => h) (Or.inl ⟨by kernel_rfl, ?_⟩) hHeld ?_
                  rotate_left 1
                  · (intro w hSw; obtain ⟨g0, g1, g2, g3, g4, g5⟩ := hSw; go_simp; (try with_reducible rfl))
                  try simp only [Act.put, List.setIfInBounds_toArray, List.set_cons_zero, List.set_cons_succ]
                  refine take_tok (some 96) (i := 6) (oi := _) (v := ?_) rfl rfl (by kernel_rfl) (by kernel_rfl) (by kernel_rfl) (fun _ _ _ h => h) (Or.inl ⟨by kernel_rfl, ?_⟩) hHeld ?_
                  rotate_left 1
                  · (intro w hSw; obtain ⟨g0, g1, g2, g3, g4, g5⟩ := hSw; go_simp; (try with_reducible rfl))
                  try simp only [Act.put, List.setIfInBounds_toArray, List.set_cons_zero, List.set_cons_succ]
                  refine take_tok (some 97) (i := 7) (oi := _) (v := ?_) rfl rfl (by kernel_rfl) (by kernel_rfl) (by kernel_rfl) (fun _ _ _ h => h) (Or.inl ⟨by kernel_rfl, ?_⟩) hHeld ?_
                  rotate_left 1
                  · (intro w hSw; obtain ⟨g0, g1, g2, g3, g4, g5⟩ := hSw; go_simp; (try with_reducible rfl))
                  try simp only [Act.put, List.setIfInBounds_toArray, List.set_cons_zero, List.set_cons_succ]
                  refine take_tok (some 99) (i := 9) (oi := _) (v := ?_) rfl rfl (by kernel_rfl) (by kernel_rfl) (by kernel_rfl) (fun _ _ _ h => h) (Or.inl ⟨by kernel_rfl, ?_⟩) hHeld ?_
                  rotate_left 1
                  · (intro w hSw; obtain ⟨g0, g1, g2, g3, g4, g5⟩ := hSw; go_simp; (try with_reducible rfl))
                  try simp only [Act.put, List.setIfInBounds_toArray, List.set_cons_zero, List.set_cons_succ]
                  refine wpAnyH_ready (rs := [8]) (by kernel_rfl) (by simp) ?_
                  refine AllReadyH.cons (o := _) rfl (fun K hK => ?_) AllReadyH.nil
                  go_simp
                  refine (QS.out w0_ HB.out).mono ?_
                  rintro e wb1 ⟨ps, cs, rfl, HFS, HCS, hb⟩
                  have HB_ := Lib.hid (HB.out.trans (hb.mono HB.out.size))
                  clear HB
                  have HB := HB_
                  clear HB_ hb
                  refine hK.out _ _ (HS9.out _ HB.out) (fun qb2 => ?_)
                  clear hK K
                  try simp only [Act.put, List.setIfInBounds_toArray, List.set_cons_zero, List.set_cons_succ]
                  refine wpAnyH_ready (rs := [10]) (by kernel_rfl) (by simp) ?_
                  refine AllReadyH.cons (o := _) rfl (fun K hK => ?_) AllReadyH.nil
                  go_simp
                  refine (QL.out wb1 _ _ HFS HB.out).mono ?_
                  rintro e wb3 ⟨rfl, hb⟩
                  have HB_ := Lib.hid (HB.out.trans (hb.mono HB.out.size))
                  clear HB
                  have HB := HB_
                  clear HB_ hb
                  refine hK.out _ _ (HS9.out _ HB.out) (fun qb4 => ?_)
                  clear hK K
                  try simp only [Act.put, List.setIfInBounds_toArray, List.set_cons_zero, List.set_cons_succ]
                  refine take_tok (some 101) (i := 11) (oi := _) (v := ?_) rfl rfl (by kernel_rfl) (by kernel_rfl) (by kernel_rfl) (fun _ _ _ h => h) (Or.inl ⟨by kernel_rfl, ?_⟩) qb4 ?_
                  rotate_left 1
                  · (intro w hSw; obtain ⟨g0, g1, g2, g3, g4, g5⟩ := hSw; go_simp; (try with_reducible rfl))
                  try simp only [Act.put, List.setIfInBounds_toArray, List.set_cons_zero, List.set_cons_succ]
                  refine take_tok (some 102) (i := 12) (oi := _) (v := ?_) rfl rfl (by kernel_rfl) (by kernel_rfl) (by kernel_rfl) (fun _ _ _ h => h) (Or.inl ⟨by kernel_rfl, ?_⟩) qb4 ?_
                  rotate_left 1
                  · (intro w hSw; obtain ⟨g0, g1, g2, g3, g4, g5⟩ := hSw; go_simp; (try with_reducible rfl))
                  try simp only [Act.put, List.setIfInBounds_toArray, List.set_cons_zero, List.set_cons_succ]
                  refine take_tok (some 103) (i := 13) (oi := _) (v := ?_) rfl rfl (by kernel_rfl) (by kernel_rfl) (by kernel_rfl) (fun _ _ _ h => h) (Or.inl ⟨by kernel_rfl, ?_⟩) qb4 ?_
                  rotate_left 1
                  · (intro w hSw; obtain ⟨g0, g1, g2, g3, g4, g5⟩ := hSw; go_simp; (try with_reducible rfl))
                  try simp only [Act.put, List.setIfInBounds_toArray, List.set_cons_zero, List.set_cons_succ]
                  refine take_tok (some 104) (i := 14) (oi := _) (v := ?_) rfl rfl (by kernel_rfl) (by kernel_rfl) (by kernel_rfl) (fun _ _ _ h => h) (Or.inl ⟨by kernel_rfl, ?_⟩) qb4 ?_
                  rotate_left 1
                  · (intro w hSw; obtain ⟨g0, g1, g2, g3, g4, g5⟩ := hSw; go_simp; (try with_reducible rfl))
                  try simp only [Act.put, List.setIfInBounds_toArray, List.set_cons_zero, List.set_cons_succ]
                  refine take_tok (some 105) (i := 15) (oi := _) (v := ?_) rfl rfl (by kernel_rfl) (by kernel_rfl) (by kernel_rfl) (fun _ _ _ h => h) (Or.inl ⟨by kernel_rfl, ?_⟩) qb4 ?_
                  rotate_left 1
                  · (intro w hSw; obtain ⟨g0, g1, g2, g3, g4, g5⟩ := hSw; go_simp; (try with_reducible rfl))
                  try simp only [Act.put, List.setIfInBounds_toArray, List.set_cons_zero, List.set_cons_succ]
                  refine take_tok (some 106) (i := 16) (oi := _) (v := ?_) rfl rfl (by kernel_rfl) (by kernel_rfl) (by kernel_rfl) (fun _ _ _ h => h) (Or.inl ⟨by kernel_rfl, ?_⟩) qb4 ?_
                  rotate_left 1
                  · (intro w hSw; obtain ⟨g0, g1, g2, g3, g4, g5⟩ := hSw; go_simp; (try with_reducible rfl))
                  try simp only [Act.put, List.setIfInBounds_toArray, List.set_cons_zero, List.set_cons_succ]
                  refine take_tok (some 107) (i := 17) (oi := _) (v := ?_) rfl rfl (by kernel_rfl) (by kernel_rfl) (by kernel_rfl) (fun _ _ _ h => h) (Or.inl ⟨by kernel_rfl, ?_⟩) qb4 ?_
                  rotate_left 1
                  · (intro w hSw; obtain ⟨g0, g1, g2, g3, g4, g5⟩ := hSw; go_simp; (try with_reducible rfl))
                  try simp only [Act.put, List.setIfInBounds_toArray, List.set_cons_zero, List.set_cons_succ]
                  refine take_tok (some 108) (i := 18) (oi := _) (v := undef) rfl rfl (by kernel_rfl) (by kernel_rfl) (by kernel_rfl) (fun _ _ _ h => h) (Or.inr ⟨by kernel_rfl, rfl⟩) qb4 ?_
                  try simp only [Act.put, List.setIfInBounds_toArray, List.set_cons_zero, List.set_cons_succ]
                  refine take_tok (some 110) (i := 20) (oi := _) (v := undef) rfl rfl (by kernel_rfl) (by kernel_rfl) (by kernel_rfl) (fun _ _ _ h => h) (Or.inr ⟨by kernel_rfl, rfl⟩) qb4 ?_
                  try simp only [Act.put, List.setIfInBounds_toArray, List.set_cons_zero, List.set_cons_succ]
                  refine take_tok (some 109) (i := 19) (oi := _) (v := undef) rfl rfl (by kernel_rfl) (by kernel_rfl) (by kernel_rfl) (fun _ _ _ h => h) (Or.inr ⟨by kernel_rfl, rfl⟩) qb4 ?_
                  try simp only [Act.put, List.setIfInBounds_toArray, List.set_cons_zero, List.set_cons_succ]
                  refine take_tok (some 111) (i := 21) (oi := _) (v := undef) rfl rfl (by kernel_rfl) (by kernel_rfl) (by kernel_rfl) (fun _ _ _ h => h) (Or.inr ⟨by kernel_rfl, rfl⟩) qb4 ?_
                  try simp only [Act.put, List.setIfInBounds_toArray, List.set_cons_zero, List.set_cons_succ]
                  refine take_tok (some 112) (i := 22) (oi := _) (v := undef) rfl rfl (by kernel_rfl) (by kernel_rfl) (by kernel_rfl) (fun _ _ _ h => h) (Or.inr ⟨by kernel_rfl, rfl⟩) qb4 ?_
                  try simp only [Act.put, List.setIfInBounds_toArray, List.set_cons_zero, List.set_cons_succ]
                  refine take_tok (some 113) (i := 23) (oi := _) (v := ?_) rfl rfl (by kernel_rfl) (by kernel_rfl) (by kernel_rfl) (fun _ _ _ h => h) (Or.inl ⟨by kernel_rfl, ?_⟩) qb4 ?_
                  rotate_left 1
                  · (intro w hSw; obtain ⟨g0, g1, g2, g3, g4, g5⟩ := hSw; go_simp; (try with_reducible rfl))
                  try simp only [Act.put, List.setIfInBounds_toArray, List.set_cons_zero, List.set_cons_succ]
                  refine take_tok (some 114) (i := 24) (oi := _) (v := ?_) rfl rfl (by kernel_rfl) (by kernel_rfl) (by kernel_rfl) (fun _ _ _ h => h) (Or.inl ⟨by kernel_rfl, ?_⟩) qb4 ?_
                  rotate_left 1
                  · (intro w hSw; obtain ⟨g0, g1, g2, g3, g4, g5⟩ := hSw; go_simp; (try with_reducible rfl))
                  try simp only [Act.put, List.setIfInBounds_toArray, List.set_cons_zero, List.set_cons_succ]
                  refine take_tok (some 115) (i := 25) (oi := _) (v := ?_) rfl rfl (by kernel_rfl) (by kernel_rfl) (by kernel_rfl) (fun _ _ _ h => h) (Or.inl ⟨by kernel_rfl, ?_⟩) qb4 ?_
                  rotate_left 1
                  · (intro w hSw; obtain ⟨g0, g1, g2, g3, g4, g5⟩ := hSw; go_simp; (try with_reducible rfl))
                  try simp only [Act.put, List.setIfInBounds_toArray, List.set_cons_zero, List.set_cons_succ]
                  refine take_tok (some 116) (i := 26) (oi := _) (v := ?_) rfl rfl (by kernel_rfl) (by kernel_rfl) (by kernel_rfl) (fun _ _ _ h => h) (Or.inl ⟨by kernel_rfl, ?_⟩) qb4 ?_
                  rotate_left 1
                  · (intro w hSw; obtain ⟨g0, g1, g2, g3, g4, g5⟩ := hSw; go_simp; (try with_reducible rfl))
                  try simp only [Act.put, List.setIfInBounds_toArray, List.set_cons_zero, List.set_cons_succ]
                  refine wpAnyH_ready (rs := [27]) (by kernel_rfl) (by simp) ?_
                  refine AllReadyH.cons (o := _) rfl (fun K hK => ?_) AllReadyH.nil
                  go_simp
                  refine (QS.out wb3 HB.out).mono ?_
                  rintro e wb5 ⟨ps, cs, rfl, HFS, HCS, hb⟩
                  have HB_ := Lib.hid (HB.out.trans (hb.mono HB.out.size))
                  clear HB
                  have HB := HB_
                  clear HB_ hb
                  refine hK.out _ _ (HS9.out _ HB.out) (fun qb6 => ?_)
                  clear hK K
                  try simp only [Act.put, List.setIfInBounds_toArray, List.set_cons_zero, List.set_cons_succ]
                  refine wpAnyH_ready (rs := [28]) (by kernel_rfl) (by simp) ?_
                  refine AllReadyH.cons (o := _) rfl (fun K hK => ?_) AllReadyH.nil
                  go_simp
                  refine (QC.out wb5 _ _ HFS HCS HB.out).mono ?_
                  rintro e wb7 ⟨rfl, hb⟩
                  have HB_ := Lib.hid (HB.out.trans (hb.mono HB.out.size))
                  clear HB
                  have HB := HB_
                  clear HB_ hb
                  refine hK.out _ _ (HS9.out _ HB.out) (fun qb8 => ?_)
                  clear hK K
                  try simp only [Act.put, List.setIfInBounds_toArray, List.set_cons_zero, List.set_cons_succ]
                  refine take_tok (some 119) (i := 29) (oi := _) (v := ?_) rfl rfl (by kernel_rfl) (by kernel_rfl) (by kernel_rfl) (fun _ _ _ h => h) (Or.inl ⟨by kernel_rfl, ?_⟩) qb8 ?_
                  rotate_left 1
                  · (intro w hSw; obtain ⟨g0, g1, g2, g3, g4, g5⟩ := hSw; go_simp; (try with_reducible rfl))
                  try simp only [Act.put, List.setIfInBounds_toArray, List.set_cons_zero, List.set_cons_succ]
                  refine take_tok (some 120) (i := 30) (oi := _) (v := ?_) rfl rfl (by kernel_rfl) (by kernel_rfl) (by kernel_rfl) (fun _ _ _ h => h) (Or.inl ⟨by kernel_rfl, ?_⟩) qb8 ?_
                  rotate_left 1
                  · (intro w hSw; obtain ⟨g0, g1, g2, g3, g4, g5⟩ := hSw; go_simp; (try with_reducible rfl))
                  try simp only [Act.put, List.setIfInBounds_toArray, List.set_cons_zero, List.set_cons_succ]
                  refine wpAnyH_done (by kernel_rfl) ?_ _
                  go_wp2_with fail
                  go_meet
                  exact ⟨rfl, HB⟩
                · have QL : Hid (∀ W ps cs, Hid (FilesAt W ps l3) → Below wc.heap.size wc W → Calls Tryz.prog 32 #[.agg #[.int .i64 nx3, .int .i64 lg3, .slice ps l3.length cs], .agg #[.int .i64 nx', .int .i64 lg', .slice pw l'.length cw]] W fun e w' => e = .returned (.bool true) ∧ Below W.heap.size W w') := Lib.hid fun W ps cs h1 hW => alike_yes h1.out (H12.out.2.1.below hW) (by have := hL3.out; omega) he
                  subst h0
                  clear he HS2
                  refine wp_region_held_drew (S := fun W => W.cell? ⟨z, 0, none⟩ = some (.int .i64 nx) ∧ W.cell? ⟨z, 1, none⟩ = some (.int .i64 lg) ∧ W.cell? ⟨z, 2, none⟩ = some (.slice pv l.length cv) ∧ W.cell? ⟨z2, 0, none⟩ = some (.int .i64 nx') ∧ W.cell? ⟨z2, 1, none⟩ = some (.int .i64 lg') ∧ W.cell? ⟨z2, 2, none⟩ = some (.slice pw l'.length cw)) (by kernel_rfl) (HS9.out _ (Below.refl _ _).drew) (fun hHeld => ?_)
                  have HB := Lib.hid ((Below.refl wc.heap.size wc).drew)
                  generalize wc.drew = w0_ at *
                  refine take_tok (some 90) (i := 0) (oi := _) (v := ?_) rfl rfl (by kernel_rfl) (by kernel_rfl) (by kernel_rfl) (fun _ _ _ h => h) (Or.inl ⟨by kernel_rfl, ?_⟩) hHeld ?_
                  rotate_left 1
                  · (intro w hSw; obtain ⟨g0, g1, g2, g3, g4, g5⟩ := hSw; go_simp; (try with_reducible rfl))
                  try simp only [Act.put, List.setIfInBounds_toArray, List.set_cons_zero, List.set_cons_succ]
                  refine take_tok (some 91) (i := 1) (oi := _) (v := ?_) rfl rfl (by kernel_rfl) (by kernel_rfl) (by kernel_rfl) (fun _ _ _ h => h) (Or.inl ⟨by kernel_rfl, ?_⟩) hHeld ?_
                  rotate_left 1
                  · (intro w hSw; obtain ⟨g0, g1, g2, g3, g4, g5⟩ := hSw; go_simp; (try with_reducible rfl))
                  try simp only [Act.put, List.setIfInBounds_toArray, List.set_cons_zero, List.set_cons_succ]
                  refine take_tok (some 92) (i := 2) (oi := _) (v := ?_) rfl rfl (by kernel_rfl) (by kernel_rfl) (by kernel_rfl) (fun _ _ _ h => h) (Or.inl ⟨by kernel_rfl, ?_⟩) hHeld ?_
                  rotate_left 1
                  · (intro w hSw; obtain ⟨g0, g1, g2, g3, g4, g5⟩ := hSw; go_simp; (try with_reducible rfl))
                  try simp only [Act.put, List.setIfInBounds_toArray, List.set_cons_zero, List.set_cons_succ]
                  refine take_tok (some 93) (i := 3) (oi := _) (v := ?_) rfl rfl (by kernel_rfl) (by kernel_rfl) (by kernel_rfl) (fun _ _ _ h => h) (Or.inl ⟨by kernel_rfl, ?_⟩) hHeld ?_
                  rotate_left 1
                  · (intro w hSw; obtain ⟨g0, g1, g2, g3, g4, g5⟩ := hSw; go_simp; (try with_reducible rfl))
                  try simp only [Act.put, List.setIfInBounds_toArray, List.set_cons_zero, List.set_cons_succ]
                  refine take_tok (some 94) (i := 4) (oi := _) (v := ?_) rfl rfl (by kernel_rfl) (by kernel_rfl) (by kernel_rfl) (fun _ _ _ h => h) (Or.inl ⟨by kernel_rfl, ?_⟩) hHeld ?_
                  rotate_left 1
                  · (intro w hSw; obtain ⟨g0, g1, g2, g3, g4, g5⟩ := hSw; go_simp; (try with_reducible rfl))
                  try simp only [Act.put, List.setIfInBounds_toArray, List.set_cons_zero, List.set_cons_succ]
                  refine take_tok (some 95) (i := 5) (oi := _) (v := ?_) rfl rfl (by kernel_rfl) (by kernel_rfl) (by kernel_rfl) (fun _ _ _ h => h) (Or.inl ⟨by kernel_rfl, ?_⟩) hHeld ?_
                  rotate_left 1
                  · (intro w hSw; obtain ⟨g0, g1, g2, g3, g4, g5⟩ := hSw; go_simp; (try with_reducible rfl))
                  try simp only [Act.put, List.setIfInBounds_toArray, List.set_cons_zero, List.set_cons_succ]
                  refine take_tok (some 96) (i := 6) (oi := _) (v := ?_) rfl rfl (by kernel_rfl) (by kernel_rfl) (by kernel_rfl) (fun _ _ _ h => h) (Or.inl ⟨by kernel_rfl, ?_⟩) hHeld ?_
                  rotate_left 1
                  · (intro w hSw; obtain ⟨g0, g1, g2, g3, g4, g5⟩ := hSw; go_simp; (try with_reducible rfl))
                  try simp only [Act.put, List.setIfInBounds_toArray, List.set_cons_zero, List.set_cons_succ]
                  refine take_tok (some 97) (i := 7) (oi := _) (v := undef) rfl rfl (by kernel_rfl) (by kernel_rfl) (by kernel_rfl) (fun _ _ _ h => h) (Or.inr ⟨by kernel_rfl, rfl⟩) hHeld ?_
                  try simp only [Act.put, List.setIfInBounds_toArray, List.set_cons_zero, List.set_cons_succ]
                  refine take_tok (some 99) (i := 9) (oi := _) (v := undef) rfl rfl (by kernel_rfl) (by kernel_rfl) (by kernel_rfl) (fun _ _ _ h => h) (Or.inr ⟨by kernel_rfl, rfl⟩) hHeld ?_
                  try simp only [Act.put, List.setIfInBounds_toArray, List.set_cons_zero, List.set_cons_succ]
                  refine take_tok (some 98) (i := 8) (oi := _) (v := undef) rfl rfl (by kernel_rfl) (by kernel_rfl) (by kernel_rfl) (fun _ _ _ h => h) (Or.inr ⟨by kernel_rfl, rfl⟩) hHeld ?_
                  try simp only [Act.put, List.setIfInBounds_toArray, List.set_cons_zero, List.set_cons_succ]
                  refine take_tok (some 100) (i := 10) (oi := _) (v := undef) rfl rfl (by kernel_rfl) (by kernel_rfl) (by kernel_rfl) (fun _ _ _ h => h) (Or.inr ⟨by kernel_rfl, rfl⟩) hHeld ?_
                  try simp only [Act.put, List.setIfInBounds_toArray, List.set_cons_zero, List.set_cons_succ]
                  refine take_tok (some 101) (i := 11) (oi := _) (v := undef) rfl rfl (by kernel_rfl) (by kernel_rfl) (by kernel_rfl) (fun _ _ _ h => h) (Or.inr ⟨by kernel_rfl, rfl⟩) hHeld ?_
                  try simp only [Act.put, List.setIfInBounds_toArray, List.set_cons_zero, List.set_cons_succ]
                  refine take_tok (some 102) (i := 12) (oi := _) (v := ?_) rfl rfl (by kernel_rfl) (by kernel_rfl) (by kernel_rfl) (fun _ _ _ h => h) (Or.inl ⟨by kernel_rfl, ?_⟩) hHeld ?_
                  rotate_left 1
                  · (intro w hSw; obtain ⟨g0, g1, g2, g3, g4, g5⟩ := hSw; go_simp; (try with_reducible rfl))
                  try simp only [Act.put, List.setIfInBounds_toArray, List.set_cons_zero, List.set_cons_succ]
                  refine take_tok (some 103) (i := 13) (oi := _) (v := ?_) rfl rfl (by kernel_rfl) (by kernel_rfl) (by kernel_rfl) (fun _ _ _ h => h) (Or.inl ⟨by kernel_rfl, ?_⟩) hHeld ?_
                  rotate_left 1
                  · (intro w hSw; obtain ⟨g0, g1, g2, g3, g4, g5⟩ := hSw; go_simp; (try with_reducible rfl))
                  try simp only [Act.put, List.setIfInBounds_toArray, List.set_cons_zero, List.set_cons_succ]
                  refine take_tok (some 104) (i := 14) (oi := _) (v := ?_) rfl rfl (by kernel_rfl) (by kernel_rfl) (by kernel_rfl) (fun _ _ _ h => h) (Or.inl ⟨by kernel_rfl, ?_⟩) hHeld ?_
                  rotate_left 1
                  · (intro w hSw; obtain ⟨g0, g1, g2, g3, g4, g5⟩ := hSw; go_simp; (try with_reducible rfl))
                  try simp only [Act.put, List.setIfInBounds_toArray, List.set_cons_zero, List.set_cons_succ]
                  refine take_tok (some 105) (i := 15) (oi := _) (v := ?_) rfl rfl (by kernel_rfl) (by kernel_rfl) (by kernel_rfl) (fun _ _ _ h => h) (Or.inl ⟨by kernel_rfl, ?_⟩) hHeld ?_
                  rotate_left 1
                  · (intro w hSw; obtain ⟨g0, g1, g2, g3, g4, g5⟩ := hSw; go_simp; (try with_reducible rfl))
                  try simp only [Act.put, List.setIfInBounds_toArray, List.set_cons_zero, List.set_cons_succ]
                  refine take_tok (some 106) (i := 16) (oi := _) (v := ?_) rfl rfl (by kernel_rfl) (by kernel_rfl) (by kernel_rfl) (fun _ _ _ h => h) (Or.inl ⟨by kernel_rfl, ?_⟩) hHeld ?_
                  rotate_left 1
                  · (intro w hSw; obtain ⟨g0, g1, g2, g3, g4, g5⟩ := hSw; go_simp; (try with_reducible rfl))
                  try simp only [Act.put, List.setIfInBounds_toArray, List.set_cons_zero, List.set_cons_succ]
                  refine take_tok (some 107) (i := 17) (oi := _) (v := ?_) rfl rfl (by kernel_rfl) (by kernel_rfl) (by kernel_rfl) (fun _ _ _ h => h) (Or.inl ⟨by kernel_rfl, ?_⟩) hHeld ?_
                  rotate_left 1
                  · (intro w hSw; obtain ⟨g0, g1, g2, g3, g4, g5⟩ := hSw; go_simp; (try with_reducible rfl))
                  try simp only [Act.put, List.setIfInBounds_toArray, List.set_cons_zero, List.set_cons_succ]
                  refine take_tok (some 108) (i := 18) (oi := _) (v := ?_) rfl rfl (by kernel_rfl) (by kernel_rfl) (by kernel_rfl) (fun _ _ _ h => h) (Or.inl ⟨by kernel_rfl, ?_⟩) hHeld ?_
                  rotate_left 1
                  · (intro w hSw; obtain ⟨g0, g1, g2, g3, g4, g5⟩ := hSw; go_simp; (try with_reducible rfl))
                  try simp only [Act.put, List.setIfInBounds_toArray, List.set_cons_zero, List.set_cons_succ]
                  refine take_tok (some 110) (i := 20) (oi := _) (v := ?_) rfl rfl (by kernel_rfl) (by kernel_rfl) (by kernel_rfl) (fun _ _ _ h => h) (Or.inl ⟨by kernel_rfl, ?_⟩) hHeld ?_
                  rotate_left 1
                  · (intro w hSw; obtain ⟨g0, g1, g2, g3, g4, g5⟩ := hSw; go_simp; (try with_reducible rfl))
                  try simp only [Act.put, List.setIfInBounds_toArray, List.set_cons_zero, List.set_cons_succ]
                  refine wpAnyH_ready (rs := [19]) (by kernel_rfl) (by simp) ?_
                  refine AllReadyH.cons (o := _) rfl (fun K hK => ?_) AllReadyH.nil
                  go_simp
                  refine (QS.out w0_ HB.out).mono ?_
                  rintro e wb1 ⟨ps, cs, rfl, HFS, HCS, hb⟩
                  have HB_ := Lib.hid (HB.out.trans (hb.mono HB.out.size))
                  clear HB
                  have HB := HB_
                  clear HB_ hb
                  refine hK.out _ _ (HS9.out _ HB.out) (fun qb2 => ?_)
                  clear hK K
                  try simp only [Act.put, List.setIfInBounds_toArray, List.set_cons_zero, List.set_cons_succ]
                  refine wpAnyH_ready (rs := [21]) (by kernel_rfl) (by simp) ?_
                  refine AllReadyH.cons (o := _) rfl (fun K hK => ?_) AllReadyH.nil
                  go_simp
                  refine (QL.out wb1 _ _ HFS HB.out).mono ?_
                  rintro e wb3 ⟨rfl, hb⟩
                  have HB_ := Lib.hid (HB.out.trans (hb.mono HB.out.size))
                  clear HB
                  have HB := HB_
                  clear HB_ hb
                  refine hK.out _ _ (HS9.out _ HB.out) (fun qb4 => ?_)
                  clear hK K
                  try simp only [Act.put, List.setIfInBounds_toArray, List.set_cons_zero, List.set_cons_succ]
                  refine take_tok (some 112) (i := 22) (oi := _) (v := ?_) rfl rfl (by kernel_rfl) (by kernel_rfl) (by kernel_rfl) (fun _ _ _ h => h) (Or.inl ⟨by kernel_rfl, ?_⟩) qb4 ?_
                  rotate_left 1
                  · (intro w hSw; obtain ⟨g0, g1, g2, g3, g4, g5⟩ := hSw; go_simp; (try with_reducible rfl))
                  try simp only [Act.put, List.setIfInBounds_toArray, List.set_cons_zero, List.set_cons_succ]
                  refine take_tok (some 113) (i := 23) (oi := _) (v := ?_) rfl rfl (by kernel_rfl) (by kernel_rfl) (by kernel_rfl) (fun _ _ _ h => h) (Or.inl ⟨by kernel_rfl, ?_⟩) qb4 ?_
                  rotate_left 1
                  · (intro w hSw; obtain ⟨g0, g1, g2, g3, g4, g5⟩ := hSw; go_simp; (try with_reducible rfl))
                  try simp only [Act.put, List.setIfInBounds_toArray, List.set_cons_zero, List.set_cons_succ]
                  refine take_tok (some 114) (i := 24) (oi := _) (v := ?_) rfl rfl (by kernel_rfl) (by kernel_rfl) (by kernel_rfl) (fun _ _ _ h => h) (Or.inl ⟨by kernel_rfl, ?_⟩) qb4 ?_
                  rotate_left 1
                  · (intro w hSw; obtain ⟨g0, g1, g2, g3, g4, g5⟩ := hSw; go_simp; (try with_reducible rfl))
                  try simp only [Act.put, List.setIfInBounds_toArray, List.set_cons_zero, List.set_cons_succ]
                  refine take_tok (some 115) (i := 25) (oi := _) (v := ?_) rfl rfl (by kernel_rfl) (by kernel_rfl) (by kernel_rfl) (fun _ _ _ h => h) (Or.inl ⟨by kernel_rfl, ?_⟩) qb4 ?_
                  rotate_left 1
                  · (intro w hSw; obtain ⟨g0, g1, g2, g3, g4, g5⟩ := hSw; go_simp; (try with_reducible rfl))
                  try simp only [Act.put, List.setIfInBounds_toArray, List.set_cons_zero, List.set_cons_succ]
                  refine take_tok (some 116) (i := 26) (oi := _) (v := ?_) rfl rfl (by kernel_rfl) (by kernel_rfl) (by kernel_rfl) (fun _ _ _ h => h) (Or.inl ⟨by kernel_rfl, ?_⟩) qb4 ?_
                  rotate_left 1
                  · (intro w hSw; obtain ⟨g0, g1, g2, g3, g4, g5⟩ := hSw; go_simp; (try with_reducible rfl))
                  try simp only [Act.put, List.setIfInBounds_toArray, List.set_cons_zero, List.set_cons_succ]
                  refine wpAnyH_ready (rs := [27]) (by kernel_rfl) (by simp) ?_
                  refine AllReadyH.cons (o := _) rfl (fun K hK => ?_) AllReadyH.nil
                  go_simp
                  refine (QS.out wb3 HB.out).mono ?_
                  rintro e wb5 ⟨ps, cs, rfl, HFS, HCS, hb⟩
                  have HB_ := Lib.hid (HB.out.trans (hb.mono HB.out.size))
                  clear HB
                  have HB := HB_
                  clear HB_ hb
                  refine hK.out _ _ (HS9.out _ HB.out) (fun qb6 => ?_)
                  clear hK K
                  try simp only [Act.put, List.setIfInBounds_toArray, List.set_cons_zero, List.set_cons_succ]
                  refine wpAnyH_ready (rs := [28]) (by kernel_rfl) (by simp) ?_
                  refine AllReadyH.cons (o := _) rfl (fun K hK => ?_) AllReadyH.nil
                  go_simp
                  refine (QC.out wb5 _ _ HFS HCS HB.out).mono ?_
                  rintro e wb7 ⟨rfl, hb⟩
                  have HB_ := Lib.hid (HB.out.trans (hb.mono HB.out.size))
                  clear HB
                  have HB := HB_
                  clear HB_ hb
                  refine hK.out _ _ (HS9.out _ HB.out) (fun qb8 => ?_)
                  clear hK K
                  try simp only [Act.put, List.setIfInBounds_toArray, List.set_cons_zero, List.set_cons_succ]
                  refine take_tok (some 119) (i := 29) (oi := _) (v := ?_) rfl rfl (by kernel_rfl) (by kernel_rfl) (by kernel_rfl) (fun _ _ _ h => h) (Or.inl ⟨by kernel_rfl, ?_⟩) qb8 ?_
                  rotate_left 1
                  · (intro w hSw; obtain ⟨g0, g1, g2, g3, g4, g5⟩ := hSw; go_simp; (try with_reducible rfl))
                  try simp only [Act.put, List.setIfInBounds_toArray, List.set_cons_zero, List.set_cons_succ]
                  refine take_tok (some 120) (i := 30) (oi := _) (v := ?_) rfl rfl (by kernel_rfl) (by kernel_rfl) (by kernel_rfl) (fun _ _ _ h => h) (Or.inl ⟨by kernel_rfl, ?_⟩) qb8 ?_
                  rotate_left 1
                  · (intro w hSw; obtain ⟨g0, g1, g2, g3, g4, g5⟩ := hSw; go_simp; (try with_reducible rfl))
                  try simp only [Act.put, List.setIfInBounds_toArray, List.set_cons_zero, List.set_cons_succ]
                  refine wpAnyH_done (by kernel_rfl) ?_ _
                  go_wp2_with fail
                  go_meet
                  exact ⟨rfl, HB⟩
              case rest =>
                obtain ⟨rfl, H14⟩ := hcut
                have HX := Lib.hid ((H13.out.same H14.out).sub (B' := [(b, manO a t2 false)]) (List.Sublist.cons_cons _ (List.nil_sublist _)))
                clear HS9 QS QC hcc H14 H13 H12 HS2 HLK H11
                go_wp2_with fail
                go_roundw
                case rel => exact ⟨k + 1, m2, t2, ⟨nx3, lg3, l3⟩, by omega, by go_num, Lib.hid ⟨HK2.out, HX.out⟩⟩
                case measure => simp [intOf]; omega
          · obtain rfl : k = xs.length := by omega
            have i1 : ¬ (xs.length : Int) < (xs.length : Int) := by omega
            obtain ⟨⟨c, ⟨nx', lg', l'⟩⟩, ho⟩ : ∃ o, o = Mf.apply ⟨nx, lg, l⟩ ⟨ds, add, enx, elg⟩ := ⟨_, rfl⟩
            have HO := Lib.hid ho.symm
            have HC7 : Hid (c ≠ 7) := Lib.hid (by have := kept_codes ⟨nx, lg, l⟩ ⟨ds, add, enx, elg⟩; rw [← ho] at this; exact this)
            have HSA : Hid (Sane ⟨nx', lg', l'⟩) := Lib.hid (by have := apply_sane ⟨nx, lg, l⟩ ⟨ds, add, enx, elg⟩; rw [← ho] at this; exact this)
            have HSN := Lib.hid (sane_right H.out.1.1)
            have HLN : Hid (l.length ≤ 200) := Lib.hid HSN.out.few
            have HLN' : Hid (l'.length ≤ 200) := Lib.hid HSA.out.few
            have HS7 := Lib.hid (State_kd H.out.2 H.out.1)
            have HKD := Lib.hid H.out.1
            clear H ho hk
            go_wp2_with fail
            refine HS7.out.mono ?_
            rintro e w9 ⟨pv, cv, R, rfl, HR, HCV, h9⟩
            obtain ⟨W10, hW10⟩ : ∃ x, x = w9.alloc (.cells #[.int .i64 nx, .int .i64 lg, .slice pv l.length cv] 24) := ⟨_, rfl⟩
            obtain ⟨z, hz⟩ : ∃ z, z = w9.heap.size := ⟨_, rfl⟩
            obtain ⟨Bl, hBl⟩ : ∃ x, x = (z, stO nx lg pv l.length cv) :: (R ++ []) := ⟨_, rfl⟩
            have H10 : Hid (Bx W1 W10 a (kd false 0 m none) ((b, manO a t false) :: Bl)) := Lib.hid (by rw [hBl, hz, hW10]; exact (h9.alloc _).perm (List.Perm.swap _ _ _))
            have HLK : Hid (∀ W D X, Bx W1 W a D X → (∀ x ∈ Bl, x ∈ X) → W.heap[z]? = some (stO nx lg pv l.length cv) ∧ FilesAt W pv l) := Lib.hid fun W D X h hs => by
              subst hBl
              exact ⟨h.box _ (hs _ List.mem_cons_self), HR.out.files (fun x hx => h.box _ (hs _ (List.mem_cons_of_mem _ (List.mem_append_left _ hx)))) (right_fi HKD.out.1)⟩
            clear h9 hBl HS7
            go_upto_region 23 with fail
            rw [← hW10, ← hz]
            clear hW10 hz
            have HWX : Hid (Below w.heap.size w W10) := Lib.hid (HB1.out.trans (H10.out.below.mono HB1.out.size))
            obtain ⟨hz1, hfl⟩ := HLK.out _ _ _ H10.out (fun _ h => List.mem_cons_of_mem _ h)
            obtain ⟨a0, a1, a2⟩ := st_cells hz1
            obtain ⟨d0, d1, d2, d3⟩ := HA.out _ H10.out.below
            have HAP := Lib.hid (applyK (cd := cd) (ca := ca) hfl HCV.out (FD.out.below HWX.out) (FA.out.below HWX.out) (by have := HLN.out; omega) (by have := HN.out; omega) (by have := HN.out; omega) HSN.out.next HSN.out.log HI.out.1 HI.out.2 HO.out)
            clear hz1 hfl
            go_wp2_with fail
            refine HAP.out.mono ?_
            rintro e w11 ⟨pw, cw, rfl, HCW, how, hb11⟩
            obtain ⟨R2, hR2, h11⟩ := H10.out.rowIs hb11 how rfl
            have HR2 := Lib.hid hR2
            obtain ⟨W12, hW12⟩ : ∃ x, x = w11.alloc (.cells #[.int .i64 nx', .int .i64 lg', .slice pw l'.length cw] 24) := ⟨_, rfl⟩
            obtain ⟨z2, hz2⟩ : ∃ z, z = w11.heap.size := ⟨_, rfl⟩
            obtain ⟨Bm, hBm⟩ : ∃ x, x = (z2, stO nx' lg' pw l'.length cw) :: (R2 ++ Bl) := ⟨_, rfl⟩
            have H12 : Hid (Bx W1 W12 a (kd false 0 m none) ((b, manO a t false) :: Bm)) := Lib.hid (by rw [hBm, hz2, hW12]; exact (h11.alloc _).perm ((List.Perm.swap _ _ _).trans (List.Perm.cons _ List.perm_middle.symm)))
            have HLM : Hid (∀ W D X, Bx W1 W a D X → (∀ x ∈ Bm, x ∈ X) → W.heap[z]? = some (stO nx lg pv l.length cv) ∧ FilesAt W pv l ∧ W.heap[z2]? = some (stO nx' lg' pw l'.length cw) ∧ FilesAt W pw l') := Lib.hid fun W D X h hs => by
              subst hBm
              obtain ⟨h1, h2⟩ := HLK.out W D X h (fun x hx => hs _ (List.mem_cons_of_mem _ (List.mem_append_right _ hx)))
              exact ⟨h1, h2, h.box _ (hs _ List.mem_cons_self), HR2.out.files (fun x hx => h.box _ (hs _ (List.mem_cons_of_mem _ (List.mem_append_left _ hx)))) HSA.out.files⟩
            clear h11 hBm how hb11 hR2 HAP H10 HLK HWX a0 a1 a2 d0 d1 d2 d3
            go_upto_region 24 with fail
            rw [← hW12, ← hz2]
            clear hW12 hz2
            have HFU := Lib.hid (fuse_b H12.out n HFN.out.2)
            rw [kd_fuse] at HFU
            go_wp2_with fail
            refine HFU.out.mono ?_
            rintro e w13 ⟨rfl, h13⟩
            have H13 := Lib.hid h13
            have HWX : Hid (Below w.heap.size w w13) := Lib.hid (HB1.out.trans (h13.below.mono HB1.out.size))
            obtain ⟨d0, d1, d2, d3⟩ := HA.out _ h13.below
            have HCM := Lib.hid (Commit_kd (capd := cd) (capa := ca) h13 HKD.out (FD.out.below HWX.out) (FA.out.below HWX.out) (by have := HN.out; omega) (by have := HN.out; omega) HI.out.1 HI.out.2 HO.out (fun _ => HT1.out _ HWX.out _ HSA.out))
            unfold edV at HCM
            clear h13 HFU
            go_wp2_with fail
            refine HCM.out.mono ?_
            rintro e w14 ⟨c9, rfl, hc⟩
            have HW : Hid (∃ m2 t2 s2 fu dn x dead, KdIs m2 t2 s2 ∧ Bx W1 w14 a (kd dn fu m2 x) ((b, manO a t2 dead) :: Bm) ∧ ((c ≠ 0 ∧ c9 = c ∧ s2 = ⟨nx, lg, l⟩) ∨ (c = 0 ∧ c9 = 0 ∧ s2 = ⟨nx', lg', l'⟩) ∨ (c = 0 ∧ c9 = 7 ∧ dn = true ∧ s2 = ⟨nx, lg, l⟩))) := Lib.hid (by
              rcases hc with ⟨h1, h2, h3⟩ | ⟨h1, h2, h3, fu', -, h5⟩ | ⟨h1, h2, -, x, h5⟩
              · exact ⟨m, t, _, _, _, _, _, HKD.out, h3, .inl ⟨h1, h2, rfl⟩⟩
              · exact ⟨_, _, _, _, _, _, _, h3, h5, .inr (.inl ⟨h1, h2, rfl⟩)⟩
              · exact ⟨m, t, _, _, _, _, _, HKD.out, h5, .inr (.inr ⟨h1, h2, rfl, rfl⟩)⟩)
            obtain ⟨m2, t2, ⟨nx3, lg3, l3⟩, fu, dn, x, dead, hk2, hb2, hs2⟩ := HW.out
            have H14 := Lib.hid hb2
            have HK2 := Lib.hid hk2
            have HS2 := Lib.hid hs2
            clear hc hk2 hb2 hs2 HW HCM d0 d1 d2 d3 H13 H12 HWX
            go_upto_region 26 with fail
            go_cut [150] from 135 to 150 (fun bv wx => bv = .bool false ∧ wx = w14)
            case first =>
              rcases HS2.out with ⟨h0, rfl, -⟩ | ⟨rfl, rfl, -⟩ | ⟨rfl, rfl, rfl, -⟩
              · have hcc : ((c9 : Int) != (c9 : Int)) = false := by simp
                clear h0
                go_wp2_with fail
                go_meet
                exact ⟨rfl, rfl⟩
              · go_wp2_with fail
                go_meet
                exact ⟨rfl, rfl⟩
              · have HD := Lib.hid (down_b H14.out (b := true) rfl)
                go_wp2_with fail
                refine HD.out.mono ?_
                rintro e w' ⟨rfl, rfl⟩
                go_wp2_with fail
                go_meet
                exact ⟨rfl, rfl⟩
            case rest =>
              obtain ⟨rfl, rfl⟩ := hcut
              have HCR := Lib.hid (crash_kd H14.out HCK.out KS.out (HB1.out.trans (H14.out.below.mono HB1.out.size)) HB1.out.size)
              go_wp2_with fail
              refine HCR.out.mono ?_
              rintro e w15 ⟨rfl, h15⟩
              have HSR := Lib.hid (start_b h15)
              obtain ⟨x', hx'⟩ := kd_again dn fu m2 x ks
              rw [hx'] at HSR
              clear hx' h15 HCR
              go_wp2_with fail
              refine HSR.out.mono ?_
              rintro e w16 ⟨rfl, h16⟩
              have HS3 := Lib.hid (HT1.out _ HB1.out _ (sane_right HK2.out.1))
              have HOP := Lib.hid (open_kd h16 HK2.out HS3.out)
              clear h16 HSR
              go_wp2_with fail
              refine HOP.out.mono ?_
              rintro e w17 ⟨b2, rfl, h17⟩
              have HS8 := Lib.hid (State_kd h17 HK2.out)
              clear h17 HOP
              go_wp2_with fail
              refine HS8.out.mono ?_
              rintro e w18 ⟨ps, cs, R3, rfl, HR3, HC3, h18⟩
              obtain ⟨W19, hW19⟩ : ∃ x, x = w18.alloc (.cells #[.int .i64 nx3, .int .i64 lg3, .slice ps l3.length cs] 24) := ⟨_, rfl⟩
              obtain ⟨z3, hz3⟩ : ∃ z, z = w18.heap.size := ⟨_, rfl⟩
              obtain ⟨Bo, hBo⟩ : ∃ x, x = (z3, stO nx3 lg3 ps l3.length cs) :: (R3 ++ ((b, manO a t2 dead) :: Bm)) := ⟨_, rfl⟩
              have H19 : Hid (Bx W1 W19 a (kd false 0 m2 none) ((b2, manO a t2 false) :: Bo)) := Lib.hid (by rw [hBo, hz3, hW19]; exact (h18.alloc _).perm (List.Perm.swap _ _ _))
              have HLO : Hid (∀ W D X, Bx W1 W a D X → (∀ x ∈ Bo, x ∈ X) → (W.heap[z3]? = some (stO nx3 lg3 ps l3.length cs) ∧ FilesAt W ps l3) ∧ W.heap[z]? = some (stO nx lg pv l.length cv) ∧ FilesAt W pv l ∧ W.heap[z2]? = some (stO nx' lg' pw l'.length cw) ∧ FilesAt W pw l') := Lib.hid fun W D X h hs => by
                subst hBo
                exact ⟨⟨h.box _ (hs _ List.mem_cons_self), HR3.out.files (fun x hx => h.box _ (hs _ (List.mem_cons_of_mem _ (List.mem_append_left _ hx)))) (right_fi HK2.out.1)⟩, HLM.out W D X h (fun x hx => hs _ (List.mem_cons_of_mem _ (List.mem_append_right _ (List.mem_cons_of_mem _ hx))))⟩
              have HL3 : Hid (l3.length ≤ 200) := Lib.hid (sane_right HK2.out.1).few
              clear h18 hBo HS8 HLM H14
              go_upto_region 34 with fail
              rw [← hW19, ← hz3]
              clear hW19 hz3
              have HM : Hid (∀ W, Below W19.heap.size W19 W → (W.heap[z3]? = some (stO nx3 lg3 ps l3.length cs) ∧ FilesAt W ps l3) ∧ W.heap[z]? = some (stO nx lg pv l.length cv) ∧ FilesAt W pv l ∧ W.heap[z2]? = some (stO nx' lg' pw l'.length cw) ∧ FilesAt W pw l') := Lib.hid fun W hW => HLO.out W _ _ (H19.out.same hW) (fun _ h => List.mem_cons_of_mem _ h)
              go_cut [202] from 165 to 202 (fun bv wx => bv = .bool false ∧ Hid (Below W19.heap.size W19 wx))
              case first =>
                obtain ⟨⟨hz3, hf3⟩, hz1, hf1, hz2, hf2⟩ := HM.out _ (Below.refl _ _)
                obtain ⟨g0, g1, g2⟩ := st_cells hz3
                obtain ⟨g3, g4, g5⟩ := st_cells hz1
                obtain ⟨g6, g7, g8⟩ := st_cells hz2
                rcases HS2.out with ⟨h0, rfl, he⟩ | ⟨rfl, rfl, he⟩ | ⟨rfl, rfl, rfl, he⟩
                · have HQ := Lib.hid (alike_yes (nx := nx3) (lg := lg3) (nx2 := nx) (lg2 := lg) (cap := cs) (cap2 := cv) hf3 hf1 (by have := HL3.out; omega) he)
                  have q0 : ((c9 : Int) == 0) = false := by rw [beq_eq_false_iff_ne]; omega
                  have q1 : ((c9 : Int) != 0) = true := by rw [bne_iff_ne]; omega
                  have q2 : ((c9 : Int) == 7) = false := by rw [beq_eq_false_iff_ne]; have := HC7.out; omega
                  have q3 : ((c9 : Int) != 7) = true := by rw [bne_iff_ne]; have := HC7.out; omega
                  have q4 : ¬ ((c9 : Int) = 0) := by omega
                  have q5 : ¬ ((c9 : Int) = 7) := by have := HC7.out; omega
                  clear hz1 hz2 hz3 hf1 hf2 hf3 he h0
                  go_wp2_with fail
                  refine HQ.out.mono ?_
                  rintro e w20 ⟨rfl, hb20⟩
                  go_wp2_with fail
                  go_meet
                  exact ⟨rfl, Lib.hid hb20⟩
                · have HQ := Lib.hid (alike_yes (nx := nx3) (lg := lg3) (nx2 := nx') (lg2 := lg') (cap := cs) (cap2 := cw) hf3 hf2 (by have := HL3.out; omega) he)
                  clear hz1 hz2 hz3 hf1 hf2 hf3 he
                  go_wp2_with fail
                  refine HQ.out.mono ?_
                  rintro e w20 ⟨rfl, hb20⟩
                  go_wp2_with fail
                  go_meet
                  exact ⟨rfl, Lib.hid hb20⟩
                · have HQ := Lib.hid (alike8_any (nx := nx3) (lg := lg3) (nx2 := nx') (lg2 := lg') (cap := cs) (cap2 := cw) hf3 hf2 (by have := HL3.out; omega) (by have := HLN'.out; omega))
                  unfold stV at HQ
                  have HE2 := Lib.hid he
                  clear hz1 hz2 hz3 hf1 hf2 hf3 he
                  go_wp2_with fail
                  refine HQ.out.mono ?_
                  rintro e w20 ⟨br, rfl, -, hb20⟩
                  have HB20 := Lib.hid hb20
                  clear hb20 HQ g0 g1 g2 g3 g4 g5 g6 g7 g8
                  cases br with
                  | true =>
                    go_wp2_with fail
                    go_meet
                    exact ⟨rfl, HB20⟩
                  | false =>
                    obtain ⟨⟨hz3, hf3⟩, hz1, hf1, hz2, hf2⟩ := HM.out _ HB20.out
                    obtain ⟨g0, g1, g2⟩ := st_cells hz3
                    obtain ⟨g3, g4, g5⟩ := st_cells hz1
                    have HQ := Lib.hid (alike_yes (nx := nx3) (lg := lg3) (nx2 := nx) (lg2 := lg) (cap := cs) (cap2 := cv) hf3 hf1 (by have := HL3.out; omega) HE2.out)
                    clear hz1 hz2 hz3 hf1 hf2 hf3
                    go_wp2_with fail
                    refine HQ.out.mono ?_
                    rintro e w21 ⟨rfl, hb21⟩
                    go_wp2_with fail
                    go_meet
                    exact ⟨rfl, Lib.hid (HB20.out.trans (hb21.mono HB20.out.size))⟩
              case rest =>
                obtain ⟨rfl, H20⟩ := hcut
                have HCR := Lib.hid (crash_b0 (H19.out.same H20.out))
                clear H20 HM H19
                go_wp2_with fail
                refine HCR.out.mono ?_
                rintro e w22 ⟨rfl, h22⟩
                have HSR := Lib.hid (start_b h22)
                obtain ⟨x2, hx2⟩ := kd_again false 0 m2 none []
                rw [hx2] at HSR
                clear hx2 h22 HCR
                go_wp2_with fail
                refine HSR.out.mono ?_
                rintro e w23 ⟨rfl, h23⟩
                have HOP := Lib.hid (open_kd h23 HK2.out HS3.out)
                clear h23 HSR
                go_wp2_with fail
                refine HOP.out.mono ?_
                rintro e w24 ⟨b3, rfl, h24⟩
                have H24 := Lib.hid h24
                have HRD : Hid (Calls Tryz.prog 35 #[.pointer (some ⟨a, 0, none⟩), .string ⟨#[111, 116, 104, 101, 114]⟩] w24 fun e w' => e = .returned (.tuple #[.string ⟨#[]⟩, .int .i64 0]) ∧ w24 = w') := Lib.hid (read_b h24 otherN (by decide) (kd_read_other 0 m2 none))
                clear h24 HOP
                go_wp2_with fail
                refine HRD.out.mono ?_
                rintro e w25 ⟨rfl, rfl⟩
                obtain ⟨Bp, hBp⟩ : ∃ x, x = (b2, manO a t2 false) :: Bo := ⟨_, rfl⟩
                rw [← hBp] at H24
                have HS9 : Hid (∀ W D o, Bx W1 W a D ((b3, o) :: Bp) → W.cell? ⟨z3, 0, none⟩ = some (.int .i64 nx3) ∧ W.cell? ⟨z3, 1, none⟩ = some (.int .i64 lg3) ∧ W.cell? ⟨z3, 2, none⟩ = some (.slice ps l3.length cs)) := Lib.hid fun W D o h => by
                  obtain ⟨⟨h1, -⟩, -⟩ := HLO.out W D _ h (fun x hx => by rw [hBp]; exact List.mem_cons_of_mem _ (List.mem_cons_of_mem _ hx))
                  exact st_cells h1
                have QS : Hid (∀ W, Bx W1 W a (kd false 0 m2 none) ((b3, manO a t2 false) :: Bp) → Calls Tryz.prog 18 #[.pointer (some ⟨b3, 0, none⟩)] W fun e w' => ∃ pn cn, e = .returned (.agg #[.int .i64 nx3, .int .i64 lg3, .slice pn l3.length cn]) ∧ Hid (FilesAt w' pn l3) ∧ Below W.heap.size W w') := Lib.hid fun W hW => by
                  refine (State_look hW.man HK2.out).mono ?_
                  rintro e w' ⟨pn, cn, rfl, h1, -, h2⟩
                  exact ⟨pn, cn, rfl, h1, h2⟩
                have HKT : Hid (KdIs (some (textS ⟨nx3, lg3, l3⟩).data.toList) (textS ⟨nx3, lg3, l3⟩) ⟨nx3, lg3, l3⟩) := Lib.hid (KdIs.text HK2.out.1)
                have QT : Hid (∀ W, Bx W1 W a (kd false 0 (some (textS ⟨nx3, lg3, l3⟩).data.toList) none) ((b3, manO a (textS ⟨nx3, lg3, l3⟩) false) :: Bp) → Calls Tryz.prog 18 #[.pointer (some ⟨b3, 0, none⟩)] W fun e w' => ∃ pn cn, e = .returned (.agg #[.int .i64 nx3, .int .i64 lg3, .slice pn l3.length cn]) ∧ Hid (FilesAt w' pn l3) ∧ Below W.heap.size W w') := Lib.hid fun W hW => by
                  refine (State_look hW.man HKT.out).mono ?_
                  rintro e w' ⟨pn, cn, rfl, h1, -, h2⟩
                  exact ⟨pn, cn, rfl, h1, h2⟩
                have QL : Hid (∀ W D o pn cn, Hid (FilesAt W pn l3) → Bx W1 W a D ((b3, o) :: Bp) → Calls Tryz.prog 32 #[.agg #[.int .i64 nx3, .int .i64 lg3, .slice pn l3.length cn], .agg #[.int .i64 nx3, .int .i64 lg3, .slice ps l3.length cs]] W fun e w' => e = .returned (.bool true) ∧ Below W.heap.size W w') := Lib.hid fun W D o pn cn h1 h => by
                  obtain ⟨⟨-, h2⟩, -⟩ := HLO.out W D _ h (fun x hx => by rw [hBp]; exact List.mem_cons_of_mem _ (List.mem_cons_of_mem _ hx))
                  exact alike_yes h1.out h2 (by have := HL3.out; omega) rfl
                have QM : Hid (∀ W, Bx W1 W a (kd false 0 m2 none) ((b3, manO a t2 false) :: Bp) → Calls Tryz.prog 17 #[.pointer (some ⟨b3, 0, none⟩), .agg #[.slice none 0 0, .slice none 0 0, .int .i64 0, .int .i64 0]] W fun e w' => e = .returned (.int .i64 0) ∧ Bx W1 w' a (kd false 0 (some (textS ⟨nx3, lg3, l3⟩).data.toList) none) ((b3, manO a (textS ⟨nx3, lg3, l3⟩) false) :: Bp)) := Lib.hid fun W hW => by
                  refine (Commit_kd (q := none) (r := none) (capd := 0) (capa := 0) (ds := []) (add := []) (enx := 0) (elg := 0) hW HK2.out (IntsM.nil _ _) (FilesAt.nil _ _) (by decide) (by decide) ⟨by decide, by decide⟩ ⟨by decide, by decide⟩ (Mf.apply_empty HK2.out.1) (fun _ => HT1.out _ (HB1.out.trans (hW.below.mono HB1.out.size)) _ (sane_right HK2.out.1))).mono ?_
                  rintro e w' ⟨c8, rfl, hc⟩
                  rcases hc with ⟨h1, -⟩ | ⟨-, rfl, -, fu', h4, h5⟩ | ⟨-, -, h3, -⟩
                  · exact absurd rfl h1
                  · obtain rfl := h4 rfl
                    exact ⟨rfl, h5⟩
                  · exact absurd rfl h3
                clear HRD HLO hBp
                go_upto_region 40 with fail
                have hB0 := H24.out.drew
                have hS0 := Lib.hid (HS9.out _ _ _ hB0)
                refine wp_region_held_drew (S := fun W => W.cell? ⟨z3, 0, none⟩ = some (.int .i64 nx3) ∧ W.cell? ⟨z3, 1, none⟩ = some (.int .i64 lg3) ∧ W.cell? ⟨z3, 2, none⟩ = some (.slice ps l3.length cs)) (by kernel_rfl) hS0.out (fun hHeld => ?_)
                have HB := Lib.hid hB0
                clear hB0 hS0 H24
                generalize w24.drew = w0_ at *
                refine take_tok (some 217) (i := 0) (oi := _) (v := ?_) rfl rfl (by kernel_rfl) (by kernel_rfl) (by kernel_rfl) (fun _ _ _ h => h) (Or.inl ⟨by kernel_rfl, ?_⟩) hHeld ?_
                rotate_left 1
                · (intro w hSw; obtain ⟨g0, g1, g2⟩ := hSw; go_simp; (try with_reducible rfl))
                try simp only [Act.put, List.setIfInBounds_toArray, List.set_cons_zero, List.set_cons_succ]
                refine take_tok (some 218) (i := 1) (oi := _) (v := ?_) rfl rfl (by kernel_rfl) (by kernel_rfl) (by kernel_rfl) (fun _ _ _ h => h) (Or.inl ⟨by kernel_rfl, ?_⟩) hHeld ?_
                rotate_left 1
                · (intro w hSw; obtain ⟨g0, g1, g2⟩ := hSw; go_simp; (try with_reducible rfl))
                try simp only [Act.put, List.setIfInBounds_toArray, List.set_cons_zero, List.set_cons_succ]
                refine take_tok (some 219) (i := 2) (oi := _) (v := ?_) rfl rfl (by kernel_rfl) (by kernel_rfl) (by kernel_rfl) (fun _ _ _ h => h) (Or.inl ⟨by kernel_rfl, ?_⟩) hHeld ?_
                rotate_left 1
                · (intro w hSw; obtain ⟨g0, g1, g2⟩ := hSw; go_simp; (try with_reducible rfl))
                try simp only [Act.put, List.setIfInBounds_toArray, List.set_cons_zero, List.set_cons_succ]
                refine take_tok (some 220) (i := 3) (oi := _) (v := ?_) rfl rfl (by kernel_rfl) (by kernel_rfl) (by kernel_rfl) (fun _ _ _ h => h) (Or.inl ⟨by kernel_rfl, ?_⟩) hHeld ?_
                rotate_left 1
                · (intro w hSw; obtain ⟨g0, g1, g2⟩ := hSw; go_simp; (try with_reducible rfl))
                try simp only [Act.put, List.setIfInBounds_toArray, List.set_cons_zero, List.set_cons_succ]
                refine take_tok (some 222) (i := 5) (oi := _) (v := ?_) rfl rfl (by kernel_rfl) (by kernel_rfl) (by kernel_rfl) (fun _ _ _ h => h) (Or.inl ⟨by kernel_rfl, ?_⟩) hHeld ?_
                rotate_left 1
                · (intro w hSw; obtain ⟨g0, g1, g2⟩ := hSw; go_simp; (try with_reducible rfl))
                try simp only [Act.put, List.setIfInBounds_toArray, List.set_cons_zero, List.set_cons_succ]
                refine wpAnyH_ready (rs := [4]) (by kernel_rfl) (by simp) ?_
                refine AllReadyH.cons (o := _) rfl (fun K hK => ?_) AllReadyH.nil
                go_simp
                refine (QS.out w0_ HB.out).mono ?_
                rintro e wd1 ⟨pn, cn, rfl, HFN2, hb⟩
                have HB_ := Lib.hid (HB.out.same hb)
                clear HB
                have HB := HB_
                clear HB_ hb
                refine hK.out _ _ (HS9.out _ _ _ HB.out) (fun qd2 => ?_)
                clear hK K
                try simp only [Act.put, List.setIfInBounds_toArray, List.set_cons_zero, List.set_cons_succ]
                refine wpAnyH_ready (rs := [6]) (by kernel_rfl) (by simp) ?_
                refine AllReadyH.cons (o := _) rfl (fun K hK => ?_) AllReadyH.nil
                go_simp
                refine (QL.out wd1 _ _ _ _ HFN2 HB.out).mono ?_
                rintro e wd3 ⟨rfl, hb⟩
                have HB_ := Lib.hid (HB.out.same hb)
                clear HB
                have HB := HB_
                clear HB_ hb
                refine hK.out _ _ (HS9.out _ _ _ HB.out) (fun qd4 => ?_)
                clear hK K
                try simp only [Act.put, List.setIfInBounds_toArray, List.set_cons_zero, List.set_cons_succ]
                refine take_tok (some 224) (i := 7) (oi := _) (v := ?_) rfl rfl (by kernel_rfl) (by kernel_rfl) (by kernel_rfl) (fun _ _ _ h => h) (Or.inl ⟨by kernel_rfl, ?_⟩) qd4 ?_
                rotate_left 1
                · (intro w hSw; obtain ⟨g0, g1, g2⟩ := hSw; go_simp; (try with_reducible rfl))
                try simp only [Act.put, List.setIfInBounds_toArray, List.set_cons_zero, List.set_cons_succ]
                refine take_tok (some 225) (i := 8) (oi := _) (v := ?_) rfl rfl (by kernel_rfl) (by kernel_rfl) (by kernel_rfl) (fun _ _ _ h => h) (Or.inl ⟨by kernel_rfl, ?_⟩) qd4 ?_
                rotate_left 1
                · (intro w hSw; obtain ⟨g0, g1, g2⟩ := hSw; go_simp; (try with_reducible rfl))
                try simp only [Act.put, List.setIfInBounds_toArray, List.set_cons_zero, List.set_cons_succ]
                refine take_tok (some 226) (i := 9) (oi := _) (v := ?_) rfl rfl (by kernel_rfl) (by kernel_rfl) (by kernel_rfl) (fun _ _ _ h => h) (Or.inl ⟨by kernel_rfl, ?_⟩) qd4 ?_
                rotate_left 1
                · (intro w hSw; obtain ⟨g0, g1, g2⟩ := hSw; go_simp; (try with_reducible rfl))
                try simp only [Act.put, List.setIfInBounds_toArray, List.set_cons_zero, List.set_cons_succ]
                refine take_tok (some 227) (i := 10) (oi := _) (v := ?_) rfl rfl (by kernel_rfl) (by kernel_rfl) (by kernel_rfl) (fun _ _ _ h => h) (Or.inl ⟨by kernel_rfl, ?_⟩) qd4 ?_
                rotate_left 1
                · (intro w hSw; obtain ⟨g0, g1, g2⟩ := hSw; go_simp; (try with_reducible rfl))
                try simp only [Act.put, List.setIfInBounds_toArray, List.set_cons_zero, List.set_cons_succ]
                refine take_tok (some 228) (i := 11) (oi := _) (v := ?_) rfl rfl (by kernel_rfl) (by kernel_rfl) (by kernel_rfl) (fun _ _ _ h => h) (Or.inl ⟨by kernel_rfl, ?_⟩) qd4 ?_
                rotate_left 1
                · (intro w hSw; obtain ⟨g0, g1, g2⟩ := hSw; go_simp; (try with_reducible rfl))
                try simp only [Act.put, List.setIfInBounds_toArray, List.set_cons_zero, List.set_cons_succ]
                refine take_tok (some 229) (i := 12) (oi := _) (v := ?_) rfl rfl (by kernel_rfl) (by kernel_rfl) (by kernel_rfl) (fun _ _ _ h => h) (Or.inl ⟨by kernel_rfl, ?_⟩) qd4 ?_
                rotate_left 1
                · (intro w hSw; obtain ⟨g0, g1, g2⟩ := hSw; go_simp; (try with_reducible rfl))
                try simp only [Act.put, List.setIfInBounds_toArray, List.set_cons_zero, List.set_cons_succ]
                refine take_tok (some 230) (i := 13) (oi := _) (v := ?_) rfl rfl (by kernel_rfl) (by kernel_rfl) (by kernel_rfl) (fun _ _ _ h => h) (Or.inl ⟨by kernel_rfl, ?_⟩) qd4 ?_
                rotate_left 1
                · (intro w hSw; obtain ⟨g0, g1, g2⟩ := hSw; go_simp; (try with_reducible rfl))
                try simp only [Act.put, List.setIfInBounds_toArray, List.set_cons_zero, List.set_cons_succ]
                refine take_tok (some 231) (i := 14) (oi := _) (v := ?_) rfl rfl (by kernel_rfl) (by kernel_rfl) (by kernel_rfl) (fun _ _ _ h => h) (Or.inl ⟨by kernel_rfl, ?_⟩) qd4 ?_
                rotate_left 1
                · (intro w hSw; obtain ⟨g0, g1, g2⟩ := hSw; go_simp; (try with_reducible rfl))
                try simp only [Act.put, List.setIfInBounds_toArray, List.set_cons_zero, List.set_cons_succ]
                refine take_tok (some 232) (i := 15) (oi := _) (v := ?_) rfl rfl (by kernel_rfl) (by kernel_rfl) (by kernel_rfl) (fun _ _ _ h => h) (Or.inl ⟨by kernel_rfl, ?_⟩) qd4 ?_
                rotate_left 1
                · (intro w hSw; obtain ⟨g0, g1, g2⟩ := hSw; go_simp; (try with_reducible rfl))
                try simp only [Act.put, List.setIfInBounds_toArray, List.set_cons_zero, List.set_cons_succ]
                refine take_tok (some 233) (i := 16) (oi := _) (v := ?_) rfl rfl (by kernel_rfl) (by kernel_rfl) (by kernel_rfl) (fun _ _ _ h => h) (Or.inl ⟨by kernel_rfl, ?_⟩) qd4 ?_
                rotate_left 1
                · (intro w hSw; obtain ⟨g0, g1, g2⟩ := hSw; go_simp; (try with_reducible rfl))
                try simp only [Act.put, List.setIfInBounds_toArray, List.set_cons_zero, List.set_cons_succ]
                refine take_tok (some 234) (i := 17) (oi := _) (v := ?_) rfl rfl (by kernel_rfl) (by kernel_rfl) (by kernel_rfl) (fun _ _ _ h => h) (Or.inl ⟨by kernel_rfl, ?_⟩) qd4 ?_
                rotate_left 1
                · (intro w hSw; obtain ⟨g0, g1, g2⟩ := hSw; go_simp; (try with_reducible rfl))
                try simp only [Act.put, List.setIfInBounds_toArray, List.set_cons_zero, List.set_cons_succ]
                refine take_tok (some 235) (i := 18) (oi := _) (v := ?_) rfl rfl (by kernel_rfl) (by kernel_rfl) (by kernel_rfl) (fun _ _ _ h => h) (Or.inl ⟨by kernel_rfl, ?_⟩) qd4 ?_
                rotate_left 1
                · (intro w hSw; obtain ⟨g0, g1, g2⟩ := hSw; go_simp; (try with_reducible rfl))
                try simp only [Act.put, List.setIfInBounds_toArray, List.set_cons_zero, List.set_cons_succ]
                refine wpAnyH_ready (rs := [19]) (by kernel_rfl) (by simp) ?_
                refine AllReadyH.cons (o := _) rfl (fun K hK => ?_) AllReadyH.nil
                go_simp
                refine (QM.out wd3 HB.out).mono ?_
                rintro e wd5 ⟨rfl, hb⟩
                have HB_ := Lib.hid hb
                clear HB
                have HB := HB_
                clear HB_ hb
                refine hK.out _ _ (HS9.out _ _ _ HB.out) (fun qd6 => ?_)
                clear hK K
                try simp only [Act.put, List.setIfInBounds_toArray, List.set_cons_zero, List.set_cons_succ]
                refine take_tok (some 237) (i := 20) (oi := _) (v := ?_) rfl rfl (by kernel_rfl) (by kernel_rfl) (by kernel_rfl) (fun _ _ _ h => h) (Or.inl ⟨by kernel_rfl, ?_⟩) qd6 ?_
                rotate_left 1
                · (intro w hSw; obtain ⟨g0, g1, g2⟩ := hSw; go_simp; (try with_reducible rfl))
                try simp only [Act.put, List.setIfInBounds_toArray, List.set_cons_zero, List.set_cons_succ]
                refine take_tok (some 238) (i := 21) (oi := _) (v := ?_) rfl rfl (by kernel_rfl) (by kernel_rfl) (by kernel_rfl) (fun _ _ _ h => h) (Or.inl ⟨by kernel_rfl, ?_⟩) qd6 ?_
                rotate_left 1
                · (intro w hSw; obtain ⟨g0, g1, g2⟩ := hSw; go_simp; (try with_reducible rfl))
                try simp only [Act.put, List.setIfInBounds_toArray, List.set_cons_zero, List.set_cons_succ]
                refine take_tok (some 239) (i := 22) (oi := _) (v := ?_) rfl rfl (by kernel_rfl) (by kernel_rfl) (by kernel_rfl) (fun _ _ _ h => h) (Or.inl ⟨by kernel_rfl, ?_⟩) qd6 ?_
                rotate_left 1
                · (intro w hSw; obtain ⟨g0, g1, g2⟩ := hSw; go_simp; (try with_reducible rfl))
                try simp only [Act.put, List.setIfInBounds_toArray, List.set_cons_zero, List.set_cons_succ]
                refine take_tok (some 240) (i := 23) (oi := _) (v := ?_) rfl rfl (by kernel_rfl) (by kernel_rfl) (by kernel_rfl) (fun _ _ _ h => h) (Or.inl ⟨by kernel_rfl, ?_⟩) qd6 ?_
                rotate_left 1
                · (intro w hSw; obtain ⟨g0, g1, g2⟩ := hSw; go_simp; (try with_reducible rfl))
                try simp only [Act.put, List.setIfInBounds_toArray, List.set_cons_zero, List.set_cons_succ]
                refine take_tok (some 242) (i := 25) (oi := _) (v := ?_) rfl rfl (by kernel_rfl) (by kernel_rfl) (by kernel_rfl) (fun _ _ _ h => h) (Or.inl ⟨by kernel_rfl, ?_⟩) qd6 ?_
                rotate_left 1
                · (intro w hSw; obtain ⟨g0, g1, g2⟩ := hSw; go_simp; (try with_reducible rfl))
                try simp only [Act.put, List.setIfInBounds_toArray, List.set_cons_zero, List.set_cons_succ]
                refine wpAnyH_ready (rs := [24]) (by kernel_rfl) (by simp) ?_
                refine AllReadyH.cons (o := _) rfl (fun K hK => ?_) AllReadyH.nil
                go_simp
                refine (QT.out wd5 HB.out).mono ?_
                rintro e wd7 ⟨pn2, cn2, rfl, HFN3, hb⟩
                have HB_ := Lib.hid (HB.out.same hb)
                clear HB
                have HB := HB_
                clear HB_ hb
                refine hK.out _ _ (HS9.out _ _ _ HB.out) (fun qd8 => ?_)
                clear hK K
                try simp only [Act.put, List.setIfInBounds_toArray, List.set_cons_zero, List.set_cons_succ]
                refine wpAnyH_ready (rs := [26]) (by kernel_rfl) (by simp) ?_
                refine AllReadyH.cons (o := _) rfl (fun K hK => ?_) AllReadyH.nil
                go_simp
                refine (QL.out wd7 _ _ _ _ HFN3 HB.out).mono ?_
                rintro e wd9 ⟨rfl, hb⟩
                have HB_ := Lib.hid (HB.out.same hb)
                clear HB
                have HB := HB_
                clear HB_ hb
                refine hK.out _ _ (HS9.out _ _ _ HB.out) (fun qd10 => ?_)
                clear hK K
                try simp only [Act.put, List.setIfInBounds_toArray, List.set_cons_zero, List.set_cons_succ]
                refine take_tok (some 244) (i := 27) (oi := _) (v := ?_) rfl rfl (by kernel_rfl) (by kernel_rfl) (by kernel_rfl) (fun _ _ _ h => h) (Or.inl ⟨by kernel_rfl, ?_⟩) qd10 ?_
                rotate_left 1
                · (intro w hSw; obtain ⟨g0, g1, g2⟩ := hSw; go_simp; (try with_reducible rfl))
                try simp only [Act.put, List.setIfInBounds_toArray, List.set_cons_zero, List.set_cons_succ]
                refine take_tok (some 8) (i := 28) (oi := _) (v := ?_) rfl rfl (by kernel_rfl) (by kernel_rfl) (by kernel_rfl) (fun _ _ _ h => h) (Or.inl ⟨by kernel_rfl, ?_⟩) qd10 ?_
                rotate_left 1
                · (intro w hSw; obtain ⟨g0, g1, g2⟩ := hSw; go_simp; (try with_reducible rfl))
                try simp only [Act.put, List.setIfInBounds_toArray, List.set_cons_zero, List.set_cons_succ]
                refine wpAnyH_done (by kernel_rfl) ?_ _
                go_wp2_with fail
                go_ret
                exact ⟨rfl, HB1.out.trans (HB.out.below.mono HB1.out.size)⟩
end Go.Proofs.YtbhjpkejdkfenaaGreatDoor
