/-
  Walks over package manifest: text. Conditions: those in the theorems.
-/
import Derived.Test.YtbhjpkejdkfenaaGreatDoorManTexts
import Derived.Test.YtbhjpkejdkfenaaGreatDoorManTextMath
import Derived.Test.YtbhjpkejdkfenaaGreatDoorManBuilder
import Derived.Test.YtbhjpkejdkfenaaGreatDoorSumWalkD
import Derived.Deep.RegionHeldLaw
import Derived.Deep.Cut
import Derived.Deep.CutRange
import Derived.Deep.LoopGhost
set_option linter.unusedSimpArgs false
set_option linter.unusedVariables false
namespace Go.Proofs.YtbhjpkejdkfenaaGreatDoor
open Go.RowKit Go.Shelf Go.Sort
open Mf (File State)

/-- A number is spelt, in each world that has grown out of w. -/
def Spelt (w : World) (n : Int) : Prop := ∀ W, Below w.heap.size w W → Calls Tryz.prog 84 #[.int .i64 n] W fun e w' => e = .returned (.string (numB n)) ∧ Below W.heap.size W w'
/-- All numbers of a state are. -/
def SpeltS (w : World) (s : State) : Prop := Spelt w s.next ∧ Spelt w s.log ∧ Spelt w s.files.length ∧ ∀ f ∈ s.files, Spelt w f.n ∧ Spelt w f.level ∧ Spelt w f.count
theorem Spelt.on {w W : World} {n : Int} (h : Spelt w n) (hb : Below w.heap.size w W) : Spelt W n := fun W2 h2 => h W2 (hb.trans (h2.mono hb.size))
theorem SpeltS.on {w W : World} {s : State} (h : SpeltS w s) (hb : Below w.heap.size w W) : SpeltS W s := ⟨h.1.on hb, h.2.1.on hb, h.2.2.1.on hb, fun f hf => ⟨(h.2.2.2 f hf).1.on hb, (h.2.2.2 f hf).2.1.on hb, (h.2.2.2 f hf).2.2.on hb⟩⟩
theorem spelt_small (w : World) {n : Int} (h0 : 0 ≤ n) (h1 : n < 100) : Spelt w n := fun W _ => by
  obtain ⟨i, rfl⟩ := Int.eq_ofNat_of_zero_le h0
  refine (ml_strconv_Itoa_small i (by omega) W).mono ?_
  rintro e w' ⟨rfl, rfl⟩
  refine ⟨?_, Below.refl _ _⟩
  unfold numB Lib.itoa
  rw [if_neg (by omega), Int.toNat_natCast]
theorem spelt_tab {w : World} (ht : ∀ W, Below w.heap.size w W → Lib.TabIs Tryz.prog W "internal/strconv.uint64pow10" .u64 Lib.pow10Tab) {n : Int} (h0 : -9223372036854775808 ≤ n) (h1 : n ≤ 9223372036854775807) : Spelt w n := fun W hW => by
  refine (ml_strconv_Itoa n h0 h1 W (ht W hW)).mono ?_
  rintro e w' ⟨rfl, k, os, rfl⟩
  exact ⟨rfl, (mbelow_drewN k).trans ⟨rfl, rfl, rfl, by simp [grow], fun i hi => by
    show ((W.drewN k).heap ++ os)[i]? = _
    rw [Array.getElem?_append_left (by exact hi)]⟩⟩
/-- The operation is an append. -/
theorem mchk {P : Program} {ops : Array Oper} {o : Oper} {a : Act} {w : World} {K : Act → World → Prop} {Q : Exit → Act → World → Prop} {E : Prop} (s x : Operand) (t tn : TypeId)
    (_ho : o.op = .call { callee := .builtin .append, args := #[s, x], argTypes := #[t, tn] }) (h : if Region.wanted o (yielded ops a.tmps) = true then Oper.wp P o a w K Q else E) : if Region.wanted o (yielded ops a.tmps) = true then Oper.wp P o a w K Q else E := h
/-- append, its run known, at a step of a region that draws its order. -/
theorem mtab_append_run {P : Program} {ops : Array Oper} {o : Oper} {a : Act} {w : World} {K : Act → World → Prop} {Q : Exit → Act → World → Prop} {E : Prop}
    (hg : o.guard = none) (s x : Operand) (t tn : TypeId) (ho : o.op = .call { callee := .builtin .append, args := #[s, x], argTypes := #[t, tn] }) (vs vx : Value) (hs : a.eval s = vs) (hx : a.eval x = vx)
    (v' : Value) (w' : World) (hr : (Builtin.append_ #[t, tn] o.type #[vs, vx]).run P w = .ok v' w') (hK : K (a.put o.dst v') w') :
    if Region.wanted o (yielded ops a.tmps) = true then Oper.wp P o a w K Q else E := by
  have hw : Region.wanted o (yielded ops a.tmps) = true := by simp [Region.wanted, hg]
  rw [if_pos hw]
  exact Lib.wp_append_run w s x t tn ho vs vx hs hx v' w' hr hK
theorem builder_below {T E : TypeId} {B b : Nat} {bs : List Value} {w w' : World} (h : Lib.IsBuilder T E B b bs w) (hb : Below w.heap.size w w') : Lib.IsBuilder T E B b bs w' := by
  have key : ∀ p, Lib.BuilderAt T E B b p bs w → Lib.BuilderAt T E B b p bs w' := fun p ⟨h1, v, h2, h3, h4⟩ => by
    refine ⟨h1, v, (hb.block b (Array.getElem?_eq_some_iff.1 h2).1).trans h2, ⟨h3.1, ?_⟩, h4⟩
    rcases h3.2 with hn | ⟨g, cap, cur, rfl, k1, k2, k3⟩
    · exact .inl hn
    · exact .inr ⟨g, cap, cur, rfl, k1, (hb.block g (Array.getElem?_eq_some_iff.1 k2).1).trans k2, k3⟩
  exact h.imp (key _) (key _)
def filesBodies (l : List File) : List ByteArray := l.flatMap fileBodies
set_option maxRecDepth 100000 in
set_option maxHeartbeats 16000000 in
theorem text_any {w : World} {p : Option Addr} {cap : Nat} {l : List File} {nx lg : Int} (hl : FilesAt w p l) (hr : Mf.Right ⟨nx, lg, l⟩) (hs : SpeltS w ⟨nx, lg, l⟩) :
    Calls Tryz.prog 55 #[stV nx lg p l.length cap] w fun e w' => e = .returned (.string (textS ⟨nx, lg, l⟩)) ∧ Below w.heap.size w w' := by
  have hfew : l.length ≤ 200 := hr.few
  obtain ⟨W1, hW1⟩ : ∃ W1, W1 = w.alloc (.cells #[.int .i64 nx, .int .i64 lg, .slice p l.length cap] 24) := ⟨_, rfl⟩
  have hb1 : Below w.heap.size w W1 := by rw [hW1]; exact mbelow_alloc _ _
  have haW : W1.heap[w.heap.size]? = some (stO nx lg p l.length cap) := by rw [hW1]; exact heap_alloc_new _ _
  have HS := Lib.hid (hs.on hb1)
  have HL := Lib.hid (hl.below hb1)
  have HR := Lib.hid hr
  have HB1 := Lib.hid hb1
  have HCE : Hid (∀ W, Below W1.heap.size W1 W → W.cell? ⟨w.heap.size, 0, none⟩ = some (.int .i64 nx) ∧ W.cell? ⟨w.heap.size, 1, none⟩ = some (.int .i64 lg) ∧ W.cell? ⟨w.heap.size, 2, none⟩ = some (.slice p l.length cap)) :=
    Lib.hid fun W hW => st_cells ((hW.block _ (Array.getElem?_eq_some_iff.1 haW).1).trans haW)
  have HZ : Hid (W1.heap.size = w.heap.size + 1) := Lib.hid (by rw [hW1]; simp)
  unfold stV
  clear hb1 hs hl hr haW
  go_enter Tryz.func55, Tryz.ntmps55
  go_upto_region 1 with fail
  rw [← hW1]
  clear hW1
  go_cut [3] from 11 to 21 (fun lv wc => ∃ b : Nat, lv = .slice (some ⟨b, 0, none⟩) 3 3 ∧ Hid (wc.heap[b]? = some (.cells #[.string (numB nx), .string (numB lg), .string (numB (l.length : Int))] 9 (0, 0)) ∧ W1.heap.size ≤ b ∧ Below W1.heap.size W1 wc))
  case first =>
    obtain ⟨c0, c1, c2⟩ := HCE.out W1.drew ((Below.refl _ _).drew)
    have HK : Hid (∀ W W2, (W.cell? ⟨w.heap.size, 0, none⟩ = some (.int .i64 nx) ∧ W.cell? ⟨w.heap.size, 1, none⟩ = some (.int .i64 lg) ∧ W.cell? ⟨w.heap.size, 2, none⟩ = some (.slice p l.length cap) ∧ Below W1.heap.size W1 W) → Below W.heap.size W W2 →
        (W2.cell? ⟨w.heap.size, 0, none⟩ = some (.int .i64 nx) ∧ W2.cell? ⟨w.heap.size, 1, none⟩ = some (.int .i64 lg) ∧ W2.cell? ⟨w.heap.size, 2, none⟩ = some (.slice p l.length cap) ∧ Below W1.heap.size W1 W2)) :=
      Lib.hid fun W W2 ⟨k0, k1, k2, k3⟩ hb => ⟨(hb.cell (mcell_block k0)).trans k0, (hb.cell (mcell_block k1)).trans k1, (hb.cell (mcell_block k2)).trans k2, k3.trans (hb.mono k3.size)⟩
    have H0 : Hid (Below W1.heap.size W1 W1.drew) := Lib.hid (Below.refl _ _).drew
    have HBO : Hid (∀ W, (W.cell? ⟨w.heap.size, 0, none⟩ = some (.int .i64 nx) ∧ W.cell? ⟨w.heap.size, 1, none⟩ = some (.int .i64 lg) ∧ W.cell? ⟨w.heap.size, 2, none⟩ = some (.slice p l.length cap) ∧ Below W1.heap.size W1 W) → Below W1.heap.size W1 W) := Lib.hid fun W h => h.2.2.2
    have HS1 : Hid (∀ W, (W.cell? ⟨w.heap.size, 0, none⟩ = some (.int .i64 nx) ∧ W.cell? ⟨w.heap.size, 1, none⟩ = some (.int .i64 lg) ∧ W.cell? ⟨w.heap.size, 2, none⟩ = some (.slice p l.length cap) ∧ Below W1.heap.size W1 W) → Calls Tryz.prog 84 #[.int .i64 nx] W fun e w' => e = .returned (.string (numB nx)) ∧ Below W.heap.size W w') := Lib.hid fun W h => HS.out.1 W h.2.2.2
    have HS2 : Hid (∀ W, (W.cell? ⟨w.heap.size, 0, none⟩ = some (.int .i64 nx) ∧ W.cell? ⟨w.heap.size, 1, none⟩ = some (.int .i64 lg) ∧ W.cell? ⟨w.heap.size, 2, none⟩ = some (.slice p l.length cap) ∧ Below W1.heap.size W1 W) → Calls Tryz.prog 84 #[.int .i64 lg] W fun e w' => e = .returned (.string (numB lg)) ∧ Below W.heap.size W w') := Lib.hid fun W h => HS.out.2.1 W h.2.2.2
    have HS3 : Hid (∀ W, (W.cell? ⟨w.heap.size, 0, none⟩ = some (.int .i64 nx) ∧ W.cell? ⟨w.heap.size, 1, none⟩ = some (.int .i64 lg) ∧ W.cell? ⟨w.heap.size, 2, none⟩ = some (.slice p l.length cap) ∧ Below W1.heap.size W1 W) → Calls Tryz.prog 84 #[.int .i64 (l.length : Int)] W fun e w' => e = .returned (.string (numB (l.length : Int))) ∧ Below W.heap.size W w') := Lib.hid fun W h => HS.out.2.2.1 W h.2.2.2
    go_region_held_law (fun W => W.cell? ⟨w.heap.size, 0, none⟩ = some (.int .i64 nx) ∧ W.cell? ⟨w.heap.size, 1, none⟩ = some (.int .i64 lg) ∧ W.cell? ⟨w.heap.size, 2, none⟩ = some (.slice p l.length cap) ∧ Below W1.heap.size W1 W)
      (first | exact ⟨c0, c1, c2, H0.out⟩ | (refine HK.out _ _ ?_ hb3; assumption) | (refine HK.out _ _ ?_ (mbelow_alloc _ _); assumption))
      (first
        | (go_at_call 84; (with_reducible refine (HS1.out _ ?_).mono ?_); (assumption); rintro e w3 ⟨rfl, hb3⟩)
        | (go_at_call 84; (with_reducible refine (HS2.out _ ?_).mono ?_); (assumption); rintro e w3 ⟨rfl, hb3⟩)
        | (go_at_call 84; (with_reducible refine (HS3.out _ ?_).mono ?_); (assumption); rintro e w3 ⟨rfl, hb3⟩)
        | fail)
    all_goals
      have HN : Hid ((w3.alloc (.cells #[.string (numB nx), .string (numB lg), .string (numB (l.length : Int))] 9)).heap[w3.heap.size]? = some (.cells #[.string (numB nx), .string (numB lg), .string (numB (l.length : Int))] 9 (0, 0))) := Lib.hid (heap_alloc_new _ _)
      have HE : Hid (Below W1.heap.size W1 (w3.alloc (.cells #[.string (numB nx), .string (numB lg), .string (numB (l.length : Int))] 9))) := Lib.hid (HBO.out _ (by assumption))
      have HE2 : Hid (W1.heap.size ≤ w3.heap.size) := Lib.hid (by
        have h1 := HE.out.size
        have h2 := HZ.out
        have h3 : w3.heap.size ≠ w.heap.size := fun e => by
          have h4 := (HCE.out _ HE.out).1
          rw [← e, cell_of_row _ _ _ _ _ _ HN.out] at h4
          cases h4
        rw [World.size_alloc] at h1
        omega)
      go_wp2_with fail
      go_meet
      case rel => exact ⟨_, rfl, Lib.hid ⟨HN.out, HE2.out, HE.out⟩⟩
  case rest =>
    obtain ⟨b, rfl, H1⟩ := hcut
    have HO1 : Hid (OwnT wc W1.heap.size (.slice (some ⟨b, 0, none⟩) 3 3) (headBodies ⟨nx, lg, l⟩)) := Lib.hid ⟨rfl, .inr ⟨b, 3, _, rfl, H1.out.2.1, H1.out.1, Nat.le_refl _, by unfold maxLen; omega, rfl, rfl⟩⟩
    obtain ⟨c0, c1, c2⟩ := HCE.out _ H1.out.2.2
    go_wp2_with fail
    clear c0 c1 c2
    go_loopw [3, 25] (fun lv kv wr => ∃ k : Nat, k ≤ l.length ∧ kv = .int .i64 (k : Nat) ∧ Hid (OwnT wr W1.heap.size lv (headBodies ⟨nx, lg, l⟩ ++ filesBodies (l.take k)) ∧ Below W1.heap.size W1 wr)) (fun _ kv _ => l.length - (intOf kv).toNat)
    case atStart => exact ⟨0, Nat.zero_le _, rfl, Lib.hid ⟨by simpa [filesBodies] using HO1.out, H1.out.2.2⟩⟩
    case round =>
      obtain ⟨k, hk, rfl, H⟩ := hrel
      by_cases hlt : k < l.length
      · have i1 : (k : Int) < (l.length : Int) := by omega
        have i2 : (0 : Int) ≤ (k : Int) := by omega
        obtain ⟨A, rfl, c0, c1, c2, c3, c4, -⟩ := HL.out.at H.out.2 hlt
        have HSP : Hid (Spelt W1 l[k].n ∧ Spelt W1 l[k].level ∧ Spelt W1 l[k].count) := Lib.hid (HS.out.2.2.2 _ (List.getElem_mem hlt))
        have HTK : Hid (headBodies ⟨nx, lg, l⟩ ++ filesBodies (l.take (k + 1)) = (headBodies ⟨nx, lg, l⟩ ++ filesBodies (l.take k)) ++ [numB l[k].n, numB l[k].level, numB l[k].count, l[k].first, l[k].last]) := Lib.hid (by
          rw [List.take_succ_eq_append_getElem hlt]; unfold filesBodies; rw [List.flatMap_append, List.append_assoc]; simp [fileBodies])
        have hLl : (headBodies ⟨nx, lg, l⟩ ++ filesBodies (l.take k)).length ≤ 2000 := by
          rw [List.length_append]; unfold filesBodies; rw [flat_len, List.length_take]
          have : (headBodies ⟨nx, lg, l⟩).length = 3 := rfl
          omega
        generalize l[k] = y at *
        obtain ⟨fn, fl, fc, ff, ft⟩ := y
        simp only at c0 c1 c2 c3 c4 HSP HTK
        generalize headBodies ⟨nx, lg, l⟩ ++ filesBodies (l.take k) = L at *
        obtain ⟨pl, cl, e, -, -⟩ := H.out.1.shape
        subst e
        obtain ⟨b5, hb5⟩ : ∃ b5, b5 = wr.heap.size := ⟨_, rfl⟩
        obtain ⟨wb, hwb⟩ : ∃ wb, wb = wr.alloc (.cells #[.int .i64 fn, .int .i64 fl, .int .i64 fc, .string ff, .string ft] 29) := ⟨_, rfl⟩
        have hrow : wb.heap[b5]? = some (.cells #[.int .i64 fn, .int .i64 fl, .int .i64 fc, .string ff, .string ft] 29 (0, 0)) := by rw [hwb, hb5]; exact heap_alloc_new _ _
        obtain ⟨d0, d1, d2, d3, d4⟩ := mcells5 hrow
        have hbb : Below wr.heap.size wr wb := by rw [hwb]; exact mbelow_alloc _ _
        have HS0 : Hid (wb.drew.cell? ⟨b5, 0, none⟩ = some (.int .i64 fn) ∧ wb.drew.cell? ⟨b5, 1, none⟩ = some (.int .i64 fl) ∧ wb.drew.cell? ⟨b5, 2, none⟩ = some (.int .i64 fc) ∧ wb.drew.cell? ⟨b5, 3, none⟩ = some (.string ff) ∧ wb.drew.cell? ⟨b5, 4, none⟩ = some (.string ft) ∧ OwnT wb.drew W1.heap.size (.slice pl L.length cl) L ∧ Below W1.heap.size W1 wb.drew) := Lib.hid ⟨d0, d1, d2, d3, d4, (H.out.1.below hbb).below (Below.refl _ _).drew, (H.out.2.trans (hbb.mono H.out.2.size)).drew⟩
        have HBK : Hid (∀ j, (Value.slice pl L.length cl).ownBlock = some j → j ≠ b5) := Lib.hid fun j hj => by have := (H.out.1.lt j hj).2; omega
        have HK5 : Hid (∀ W W2 : World, (W.cell? ⟨b5, 0, none⟩ = some (.int .i64 fn) ∧ W.cell? ⟨b5, 1, none⟩ = some (.int .i64 fl) ∧ W.cell? ⟨b5, 2, none⟩ = some (.int .i64 fc) ∧ W.cell? ⟨b5, 3, none⟩ = some (.string ff) ∧ W.cell? ⟨b5, 4, none⟩ = some (.string ft) ∧ OwnT W W1.heap.size (.slice pl L.length cl) L ∧ Below W1.heap.size W1 W) → Below W.heap.size W W2 → (W2.cell? ⟨b5, 0, none⟩ = some (.int .i64 fn) ∧ W2.cell? ⟨b5, 1, none⟩ = some (.int .i64 fl) ∧ W2.cell? ⟨b5, 2, none⟩ = some (.int .i64 fc) ∧ W2.cell? ⟨b5, 3, none⟩ = some (.string ff) ∧ W2.cell? ⟨b5, 4, none⟩ = some (.string ft) ∧ OwnT W2 W1.heap.size (.slice pl L.length cl) L ∧ Below W1.heap.size W1 W2)) := Lib.hid fun W W2 ⟨k0, k1, k2, k3, k4, k5, k6⟩ hb =>
          ⟨(hb.cell (mcell_block k0)).trans k0, (hb.cell (mcell_block k1)).trans k1, (hb.cell (mcell_block k2)).trans k2, (hb.cell (mcell_block k3)).trans k3, (hb.cell (mcell_block k4)).trans k4, k5.below hb, k6.trans (hb.mono k6.size)⟩
        have HT1 : Hid (∀ W : World, (W.cell? ⟨b5, 0, none⟩ = some (.int .i64 fn) ∧ W.cell? ⟨b5, 1, none⟩ = some (.int .i64 fl) ∧ W.cell? ⟨b5, 2, none⟩ = some (.int .i64 fc) ∧ W.cell? ⟨b5, 3, none⟩ = some (.string ff) ∧ W.cell? ⟨b5, 4, none⟩ = some (.string ft) ∧ OwnT W W1.heap.size (.slice pl L.length cl) L ∧ Below W1.heap.size W1 W) → Calls Tryz.prog 84 #[.int .i64 fn] W fun e w' => e = .returned (.string (numB fn)) ∧ Below W.heap.size W w') := Lib.hid fun W h => HSP.out.1 W h.2.2.2.2.2.2
        have HT2 : Hid (∀ W : World, (W.cell? ⟨b5, 0, none⟩ = some (.int .i64 fn) ∧ W.cell? ⟨b5, 1, none⟩ = some (.int .i64 fl) ∧ W.cell? ⟨b5, 2, none⟩ = some (.int .i64 fc) ∧ W.cell? ⟨b5, 3, none⟩ = some (.string ff) ∧ W.cell? ⟨b5, 4, none⟩ = some (.string ft) ∧ OwnT W W1.heap.size (.slice pl L.length cl) L ∧ Below W1.heap.size W1 W) → Calls Tryz.prog 84 #[.int .i64 fl] W fun e w' => e = .returned (.string (numB fl)) ∧ Below W.heap.size W w') := Lib.hid fun W h => HSP.out.2.1 W h.2.2.2.2.2.2
        have HT3 : Hid (∀ W : World, (W.cell? ⟨b5, 0, none⟩ = some (.int .i64 fn) ∧ W.cell? ⟨b5, 1, none⟩ = some (.int .i64 fl) ∧ W.cell? ⟨b5, 2, none⟩ = some (.int .i64 fc) ∧ W.cell? ⟨b5, 3, none⟩ = some (.string ff) ∧ W.cell? ⟨b5, 4, none⟩ = some (.string ft) ∧ OwnT W W1.heap.size (.slice pl L.length cl) L ∧ Below W1.heap.size W1 W) → Calls Tryz.prog 84 #[.int .i64 fc] W fun e w' => e = .returned (.string (numB fc)) ∧ Below W.heap.size W w') := Lib.hid fun W h => HSP.out.2.2 W h.2.2.2.2.2.2
        have HAP : Hid (∀ W : World, ((W.alloc (.cells #[.string (numB fn), .string (numB fl), .string (numB fc), .string ff, .string ft] 9)).cell? ⟨b5, 0, none⟩ = some (.int .i64 fn) ∧ (W.alloc (.cells #[.string (numB fn), .string (numB fl), .string (numB fc), .string ff, .string ft] 9)).cell? ⟨b5, 1, none⟩ = some (.int .i64 fl) ∧ (W.alloc (.cells #[.string (numB fn), .string (numB fl), .string (numB fc), .string ff, .string ft] 9)).cell? ⟨b5, 2, none⟩ = some (.int .i64 fc) ∧ (W.alloc (.cells #[.string (numB fn), .string (numB fl), .string (numB fc), .string ff, .string ft] 9)).cell? ⟨b5, 3, none⟩ = some (.string ff) ∧ (W.alloc (.cells #[.string (numB fn), .string (numB fl), .string (numB fc), .string ff, .string ft] 9)).cell? ⟨b5, 4, none⟩ = some (.string ft) ∧ OwnT (W.alloc (.cells #[.string (numB fn), .string (numB fl), .string (numB fc), .string ff, .string ft] 9)) W1.heap.size (.slice pl L.length cl) L ∧ Below W1.heap.size W1 (W.alloc (.cells #[.string (numB fn), .string (numB fl), .string (numB fc), .string ff, .string ft] 9))) → ∃ (pv : Option Addr) (cv : Nat) (W' : World), (Builtin.append_ #[118, 118] 118 #[.slice pl L.length cl, .slice (some ⟨W.heap.size, 0, none⟩) 5 5]).run Tryz.prog (W.alloc (.cells #[.string (numB fn), .string (numB fl), .string (numB fc), .string ff, .string ft] 9)) = .ok (.slice pv (L.length + 5) cv) W' ∧
            (W'.cell? ⟨b5, 0, none⟩ = some (.int .i64 fn) ∧ W'.cell? ⟨b5, 1, none⟩ = some (.int .i64 fl) ∧ W'.cell? ⟨b5, 2, none⟩ = some (.int .i64 fc) ∧ W'.cell? ⟨b5, 3, none⟩ = some (.string ff) ∧ W'.cell? ⟨b5, 4, none⟩ = some (.string ft) ∧ OwnT W' W1.heap.size (.slice pl L.length cl) L ∧ Below W1.heap.size W1 W') ∧ OwnT W' W1.heap.size (.slice pv (L.length + 5) cv) (L ++ [numB fn, numB fl, numB fc, ff, ft])) := Lib.hid fun W ⟨k0, k1, k2, k3, k4, k5, k6⟩ => by
          obtain ⟨pv, cv, W', hrun, ho, hold, hg⟩ := t_append k5 ⟨W.heap.size, 0, none⟩ [numB fn, numB fl, numB fc, ff, ft] 5 5 rfl (news_five W _ _ _ _ _ _) (by omega) k6.size 118
          have kb : ∀ j v, (W.alloc (.cells #[.string (numB fn), .string (numB fl), .string (numB fc), .string ff, .string ft] 9)).cell? ⟨b5, j, none⟩ = some v → W'.cell? ⟨b5, j, none⟩ = some v := fun j v h => by
            have hlt := mcell_block h
            have e := hg.block b5 hlt fun e => HBK.out b5 e rfl
            unfold World.cell? at h ⊢
            rw [e]; exact h
          exact ⟨pv, cv, W', hrun, ⟨kb 0 _ k0, kb 1 _ k1, kb 2 _ k2, kb 3 _ k3, kb 4 _ k4, hold, hg.below k6 k6.size fun j hj => (k5.lt j hj).1⟩, ho⟩
        clear HSP hrow d0 d1 d2 d3 d4 hbb H HBK HS HL HR HB1 HCE HZ HO1 H1
        go_upto_region 5 with fail
        rw [← hwb]
        rw [← hb5]
        clear hwb hb5 c0 c1 c2 c3 c4
        go_region_held_law (fun W => W.cell? ⟨b5, 0, none⟩ = some (.int .i64 fn) ∧ W.cell? ⟨b5, 1, none⟩ = some (.int .i64 fl) ∧ W.cell? ⟨b5, 2, none⟩ = some (.int .i64 fc) ∧ W.cell? ⟨b5, 3, none⟩ = some (.string ff) ∧ W.cell? ⟨b5, 4, none⟩ = some (.string ft) ∧ OwnT W W1.heap.size (.slice pl L.length cl) L ∧ Below W1.heap.size W1 W)
          (first | (with_reducible exact HS0.out) | (with_reducible exact hS') | (with_reducible refine HK5.out _ _ ?_ hb3; (with_reducible assumption)) | (with_reducible refine HK5.out _ _ ?_ (mbelow_alloc _ _); (with_reducible assumption)))
          (first
            | (refine mchk _ _ _ _ rfl ?_; obtain ⟨pv, cv, W', hrun, hS', ho'⟩ := HAP.out _ (by with_reducible assumption); refine mtab_append_run rfl (.tmp 29) (.tmp 43) _ _ rfl _ _ rfl rfl _ _ hrun ?_)
            | (go_at_call 84; (with_reducible refine (HT1.out _ ?_).mono ?_); (with_reducible assumption); rintro e w3 ⟨rfl, hb3⟩)
            | (go_at_call 84; (with_reducible refine (HT2.out _ ?_).mono ?_); (with_reducible assumption); rintro e w3 ⟨rfl, hb3⟩)
            | (go_at_call 84; (with_reducible refine (HT3.out _ ?_).mono ?_); (with_reducible assumption); rintro e w3 ⟨rfl, hb3⟩)
            | fail)
        all_goals
          have HE := Lib.hid (And.intro hS'.2.2.2.2.2.2 ho')
          go_wp2_with fail
          go_roundw
          case rel => exact ⟨k + 1, by omega, by go_num, Lib.hid ⟨by rw [HTK.out]; simpa using HE.out.2, HE.out.1⟩⟩
          case measure => simp [intOf]; omega
      · obtain rfl : k = l.length := by omega
        have i1 : ¬ (l.length : Int) < (l.length : Int) := by omega
        rw [List.take_length] at H
        obtain ⟨w8, hw8⟩ : ∃ w8, w8 = wr := ⟨_, rfl⟩
        subst hw8
        obtain ⟨bs, hbs⟩ : ∃ bs, bs = bodiesS ⟨nx, lg, l⟩ := ⟨_, rfl⟩
        have hot := H.out.1
        have hq : headBodies ⟨nx, lg, l⟩ ++ filesBodies l = bs := by rw [hbs]; rfl
        rw [hq] at hot
        have HSM : Hid (∀ x ∈ bs, x.size ≤ 128) := Lib.hid (by rw [hbs]; exact bodies_small HR.out)
        have HTS : Hid (textS ⟨nx, lg, l⟩ = ⟨(textL bs).toArray⟩) := Lib.hid (by rw [hbs]; rfl)
        have hbl : bs.length ≤ 1100 := by
          rw [hbs]; unfold bodiesS; rw [List.length_append, flat_len]
          have : (headBodies ⟨nx, lg, l⟩).length = 3 := rfl
          show _ + l.length * 5 ≤ 1100
          omega
        obtain ⟨pt, ct, elv, -, -, hta⟩ := hot.texts
        subst elv
        have HTA := Lib.hid hta
        have HBW := Lib.hid H.out.2
        obtain ⟨bb, hbb⟩ : ∃ bb, bb = w8.heap.size := ⟨_, rfl⟩
        have HI : Hid (Lib.IsBuilder 124 5 bb bb (Lib.byteCells []) (w8.alloc (.cells #[.pointer none, .slice none 0 0] 124)) ∧ Below w8.heap.size w8 (w8.alloc (.cells #[.pointer none, .slice none 0 0] 124))) :=
          Lib.hid ⟨.inl ⟨Nat.le_refl _, _, by rw [hbb]; exact heap_alloc_new _ _, World.ownsRow_nil _ _ _ _, by simp [Value.ownBlock]⟩, mbelow_alloc _ _⟩
        have HBB := Lib.hid hbb
        clear hbs hot hta H HO1 H1 hq
        go_wp2_with fail
        rw [← hbb]
        clear hbb
        go_loopw [48] (fun kv wr2 => ∃ k : Nat, k ≤ bs.length ∧ kv = .int .i64 (k : Nat) ∧ Hid (Lib.IsBuilder 124 5 bb bb (Lib.byteCells (textL (bs.take k))) wr2 ∧ Below w8.heap.size w8 wr2)) (fun kv _ => bs.length - (intOf kv).toNat)
        case atStart => exact ⟨0, Nat.zero_le _, rfl, HI⟩
        case round =>
          obtain ⟨k, hk, rfl, H2⟩ := hrel
          by_cases hlt : k < bs.length
          · have i1 : (k : Int) < (bs.length : Int) := by omega
            have i2 : (0 : Int) ≤ (k : Int) := by omega
            obtain ⟨A, rfl, hA, hc⟩ := HTA.out k hlt
            have c0 := (H2.out.2.cell (by rw [madd_block]; exact hA)).trans hc
            have HTK : Hid (textL (bs.take (k + 1)) = textL (bs.take k) ++ Sm.frame bs[k].data.toList) := Lib.hid (by
              rw [List.take_succ_eq_append_getElem hlt, textL_append]
              congr 1
              show Sm.frame _ ++ [] = _
              rw [List.append_nil])
            have hxs := HSM.out _ (List.getElem_mem hlt)
            have hlen : (textL (bs.take k)).length ≤ 200000 := by
              have h1 := textL_len (bs.take k) (m := 128) fun x hx => HSM.out x (List.mem_of_mem_take hx)
              have h2 : (bs.take k).length ≤ 1100 := by rw [List.length_take]; omega
              have h3 := Nat.mul_le_mul_right (128 + 8) h2
              omega
            generalize bs[k] = x at *
            have hfl : (Sm.frame x.data.toList).length ≤ 136 := by
              rw [Sm.frame_len]
              have e2 : x.data.toList.length = x.size := by rw [Array.length_toList]; rfl
              omega
            have HFL := Lib.hid (And.intro hlen hfl)
            clear hA hc hlen hfl
            go_wp2_with fail
            refine (Frame_short x _ (by omega)).mono ?_
            rintro e w3 ⟨rfl, hb3⟩
            have HB3 := Lib.hid (H2.out.2.trans (hb3.mono H2.out.2.size))
            have HI3 : Hid (Lib.IsBuilder 124 5 bb bb (Lib.byteCells (textL (bs.take k))) w3) := Lib.hid (builder_below H2.out.1 hb3)
            have hz3 : bb ≤ w3.heap.size := by rw [HBB.out]; exact HB3.out.size
            clear hb3 c0
            go_wp2_with fail
            refine (ml_Builder_WriteString bb bb _ ⟨(Sm.frame x.data.toList).toArray⟩ w3 HI3.out (by rw [Lib.byteCells_length, size_mk]; have := HFL.out; omega) hz3).mono ?_
            rintro e w4 ⟨rfl, h4, hb4⟩
            have HB4 : Hid (Below w8.heap.size w8 w4) := Lib.hid (HB3.out.trans (by rw [HBB.out] at hb4; exact hb4))
            have HI4 : Hid (Lib.IsBuilder 124 5 bb bb (Lib.byteCells (textL (bs.take (k + 1)))) w4) := Lib.hid (by
              rw [HTK.out]
              have e1 : Lib.byteCells (textL (bs.take k) ++ Sm.frame x.data.toList) = Lib.byteCells (textL (bs.take k)) ++ Lib.strCells ⟨(Sm.frame x.data.toList).toArray⟩ := by
                show _ = Lib.byteCells (textL (bs.take k)) ++ Lib.byteCells (Sm.frame x.data.toList)
                unfold Lib.byteCells; rw [List.map_append]
              rw [e1]; exact .inr h4)
            clear h4 hb4 hz3
            go_wp2_with fail
            go_roundw
            case rel => exact ⟨k + 1, by omega, by go_num, Lib.hid ⟨HI4.out, HB4.out⟩⟩
            case measure => simp [intOf]; omega
          · obtain rfl : k = bs.length := by omega
            have i1 : ¬ (bs.length : Int) < (bs.length : Int) := by omega
            rw [List.take_length] at H2
            have hz2 : bb ≤ wr.heap.size := by rw [HBB.out]; exact H2.out.2.size
            go_wp2_with fail
            refine (ml_Builder_String_any bb bb (textL bs) _ H2.out.1 hz2).mono ?_
            rintro e w5 ⟨rfl, hb5⟩
            go_wp2_with fail
            go_ret
            rw [HTS.out]
            exact ⟨rfl, HB1.out.trans ((HBW.out.trans ((H2.out.2.trans (by rw [HBB.out] at hb5; exact hb5)).mono HBW.out.size)).mono HB1.out.size)⟩
end Go.Proofs.YtbhjpkejdkfenaaGreatDoor
