/-
  Walks over package manifest: find, of a disk that has no stray file of a manifest, and whose main keeps a state, or that has none. Conditions: those in the theorems.
-/
import Derived.Test.YtbhjpkejdkfenaaGreatDoorManKeep
set_option linter.unusedSimpArgs false
set_option linter.unusedVariables false
namespace Go.Proofs.YtbhjpkejdkfenaaGreatDoor
open Go.RowKit Go.Shelf
open Mf (File State)

def oursL : List UInt8 := [109, 97, 110, 105, 102, 101, 115, 116, 46]
theorem owns_at {W : World} {base : Nat} {v : Value} {ks : List (List UInt8)} (ho : W.ownsRow base 9 1 v ks.length (ks.map encStr)) :
    ∃ p cap, v = .slice p ks.length cap ∧ ∀ i (hi : i < ks.length), ∃ g, p = some ⟨g, 0, none⟩ ∧ W.cell? ⟨g, i, none⟩ = some (.string ⟨ks[i].toArray⟩) := by
  rcases ho.2 with ⟨rfl, e⟩ | ⟨g, cap, cur, rfl, hg, h3, h4, h5, h6, h7⟩
  · exact ⟨none, 0, by rw [e], fun i hi => absurd hi (by omega)⟩
  · refine ⟨some ⟨g, 0, none⟩, cap, rfl, fun i hi => ⟨g, rfl, ?_⟩⟩
    rw [cell_of_row W g i cur _ _ h3]
    have e : (cur.toList.take (ks.length * 1))[i]? = (ks.map encStr)[i]? := by rw [h7]
    rw [List.getElem?_take, if_pos (by omega)] at e
    simpa [hi, encStr] using e
theorem right_fi {nx lg : Int} {l : List File} (h : Mf.Right ⟨nx, lg, l⟩) : ∀ f ∈ l, FiIn f := fun f hf => by
  obtain ⟨a1, a2, a3, a4, a5, a6, a7, a8, -⟩ := h.files f hf
  have a0 := h.numbered.1 f hf
  have a9 := h.next
  simp only at a0 a9
  unfold FiIn I64 maxLen
  exact ⟨⟨by omega, by omega⟩, ⟨by omega, by omega⟩, ⟨by omega, by omega⟩, by omega, by omega⟩
/-- A key that is none of another manifest's. -/
def Tame (k : List UInt8) : Prop := Lib.hasPrefix k oursL = false ∨ k = mainL ∨ k = spareL
section
variable {w0 w : World} {a b : Nat} {D D' : Dm.Disk} {B : List (Nat × Obj)} {t : ByteArray} {dead : Bool}
set_option maxRecDepth 100000 in
set_option maxHeartbeats 8000000 in
theorem find_none (h : Bx w0 w a D ((b, manO a t dead) :: B)) (hk : ∀ k ∈ Dm.keys D.files, Tame k) (hfew : (Dm.keys D.files).length ≤ 1000) {l : List UInt8} (hr : Dm.read D mainL = (l, 4)) :
    Calls Tryz.prog 49 #[.pointer (some ⟨b, 0, none⟩)] w fun e w' => e = .returned (.int .i64 0) ∧ Bx w0 w' a D ((b, manO a t dead) :: B) := by
  obtain ⟨c0, -, -, -⟩ := man_cells h.man
  have HL := Lib.hid (list_b h)
  clear h
  generalize Dm.keys D.files = ks at *
  go_enter Tryz.func49, Tryz.ntmps49
  go_wp2_with fail
  refine HL.out.mono ?_
  rintro e w1 ⟨v, rfl, hl, h1⟩
  obtain ⟨p0, cap0, rfl, hat⟩ := owns_at hl.1
  have HA := Lib.hid hat
  have H1 := Lib.hid h1
  clear hl h1 HL c0 hat
  go_wp2_with fail
  go_loopg [14] ks.length (fun g iv wr => ∃ k : Nat, g = ks.length - k ∧ k ≤ ks.length ∧ iv = .int .i64 (k : Nat) ∧ wr = w1)
  case atStart => exact ⟨0, rfl, Nat.zero_le _, rfl, rfl⟩
  case round =>
    obtain ⟨k, rfl, hkl, rfl, rfl⟩ := hrel
    by_cases hlt : k < ks.length
    · have i1 : (k : Int) < (ks.length : Int) := by omega
      have i2 : (0 : Int) ≤ (k : Int) := by omega
      obtain ⟨g, ep, z⟩ := HA.out k hlt
      cases ep
      have hsk := hk _ (List.getElem_mem hlt)
      have hp := fun W => ml_strings_HasPrefix ⟨ks[k].toArray⟩ ⟨#[109, 97, 110, 105, 102, 101, 115, 116, 46]⟩ W
      have hdl : (⟨ks[k].toArray⟩ : ByteArray).data.toList = ks[k] := rfl
      rw [hdl] at hp
      generalize ks[k] = key at *
      unfold Tame at hsk
      rcases hsk with hn | rfl | rfl
      · have hp2 : ∀ W, _ := fun W => by have := hp W; rw [show Lib.hasPrefix key (⟨#[109, 97, 110, 105, 102, 101, 115, 116, 46]⟩ : ByteArray).data.toList = false from hn] at this; exact this
        clear hn hp
        go_wp2_with fail
        refine (hp2 _).mono ?_
        rintro e w2 ⟨rfl, rfl⟩
        go_wp2_with fail
        go_roundg (ks.length - (k + 1))
        case measure => omega
        case rel => exact ⟨k + 1, rfl, by omega, by go_num, rfl⟩
      · have hp2 : ∀ W, _ := fun W => by have := hp W; rw [show Lib.hasPrefix mainL (⟨#[109, 97, 110, 105, 102, 101, 115, 116, 46]⟩ : ByteArray).data.toList = true from by decide] at this; exact this
        clear hp
        unfold mainL mainN at *
        go_wp2_with fail
        refine (hp2 _).mono ?_
        rintro e w2 ⟨rfl, rfl⟩
        go_wp2_with fail
        go_roundg (ks.length - (k + 1))
        case measure => omega
        case rel => exact ⟨k + 1, rfl, by omega, by go_num, rfl⟩
      · have hp2 : ∀ W, _ := fun W => by have := hp W; rw [show Lib.hasPrefix spareL (⟨#[109, 97, 110, 105, 102, 101, 115, 116, 46]⟩ : ByteArray).data.toList = true from by decide] at this; exact this
        clear hp
        unfold spareL spareN at *
        go_wp2_with fail
        refine (hp2 _).mono ?_
        rintro e w2 ⟨rfl, rfl⟩
        go_wp2_with fail
        go_roundg (ks.length - (k + 1))
        case measure => omega
        case rel => exact ⟨k + 1, rfl, by omega, by go_num, rfl⟩
    · obtain rfl : k = ks.length := by omega
      have i1 : ¬ (ks.length : Int) < (ks.length : Int) := by omega
      obtain ⟨c0, -, -, -⟩ := man_cells H1.out.man
      have HR := Lib.hid (read_b H1.out mainN (by decide) hr)
      unfold mainN at HR
      clear hr
      go_wp2_with fail
      refine HR.out.mono ?_
      rintro e w3 ⟨rfl, rfl⟩
      go_wp2_with fail
      exact bodyPost_ret (v := .int .i64 0) (by simp [results, Tryz.results49, go_sem]) rfl ⟨rfl, H1.out⟩
set_option maxRecDepth 100000 in
set_option maxHeartbeats 8000000 in
theorem find_some (h : Bx w0 w a D ((b, manO a t dead) :: B)) (hk : ∀ k ∈ Dm.keys D.files, Tame k) (hfew : (Dm.keys D.files).length ≤ 1000) {nx lg : Int} {l : List File} (hs : Mf.Right ⟨nx, lg, l⟩) (hsp : SpeltS w ⟨nx, lg, l⟩) (hr : Dm.read D mainL = ((textS ⟨nx, lg, l⟩).data.toList, 0)) :
    Calls Tryz.prog 49 #[.pointer (some ⟨b, 0, none⟩)] w fun e w' => e = .returned (.int .i64 0) ∧ Bx w0 w' a D ((b, manO a (textS ⟨nx, lg, l⟩) dead) :: B) := by
  obtain ⟨c0, -, -, -⟩ := man_cells h.man
  have HL := Lib.hid (list_b h)
  clear h
  generalize Dm.keys D.files = ks at *
  go_enter Tryz.func49, Tryz.ntmps49
  go_wp2_with fail
  refine HL.out.mono ?_
  rintro e w1 ⟨v, rfl, hl, h1⟩
  obtain ⟨p0, cap0, rfl, hat⟩ := owns_at hl.1
  have HA := Lib.hid hat
  have H1 := Lib.hid h1
  have HSP := Lib.hid (hsp.on hl.2.2)
  have HRT := Lib.hid hs
  clear hl h1 HL c0 hat hsp hs
  go_wp2_with fail
  go_loopg [14] ks.length (fun g iv wr => ∃ k : Nat, g = ks.length - k ∧ k ≤ ks.length ∧ iv = .int .i64 (k : Nat) ∧ wr = w1)
  case atStart => exact ⟨0, rfl, Nat.zero_le _, rfl, rfl⟩
  case round =>
    obtain ⟨k, rfl, hkl, rfl, rfl⟩ := hrel
    by_cases hlt : k < ks.length
    · have i1 : (k : Int) < (ks.length : Int) := by omega
      have i2 : (0 : Int) ≤ (k : Int) := by omega
      obtain ⟨g, ep, z⟩ := HA.out k hlt
      cases ep
      have hsk := hk _ (List.getElem_mem hlt)
      have hp := fun W => ml_strings_HasPrefix ⟨ks[k].toArray⟩ ⟨#[109, 97, 110, 105, 102, 101, 115, 116, 46]⟩ W
      have hdl : (⟨ks[k].toArray⟩ : ByteArray).data.toList = ks[k] := rfl
      rw [hdl] at hp
      generalize ks[k] = key at *
      unfold Tame at hsk
      rcases hsk with hn | rfl | rfl
      · have hp2 : ∀ W, _ := fun W => by have := hp W; rw [show Lib.hasPrefix key (⟨#[109, 97, 110, 105, 102, 101, 115, 116, 46]⟩ : ByteArray).data.toList = false from hn] at this; exact this
        clear hn hp
        go_wp2_with fail
        refine (hp2 _).mono ?_
        rintro e w2 ⟨rfl, rfl⟩
        go_wp2_with fail
        go_roundg (ks.length - (k + 1))
        case measure => omega
        case rel => exact ⟨k + 1, rfl, by omega, by go_num, rfl⟩
      · have hp2 : ∀ W, _ := fun W => by have := hp W; rw [show Lib.hasPrefix mainL (⟨#[109, 97, 110, 105, 102, 101, 115, 116, 46]⟩ : ByteArray).data.toList = true from by decide] at this; exact this
        clear hp
        unfold mainL mainN at *
        go_wp2_with fail
        refine (hp2 _).mono ?_
        rintro e w2 ⟨rfl, rfl⟩
        go_wp2_with fail
        go_roundg (ks.length - (k + 1))
        case measure => omega
        case rel => exact ⟨k + 1, rfl, by omega, by go_num, rfl⟩
      · have hp2 : ∀ W, _ := fun W => by have := hp W; rw [show Lib.hasPrefix spareL (⟨#[109, 97, 110, 105, 102, 101, 115, 116, 46]⟩ : ByteArray).data.toList = true from by decide] at this; exact this
        clear hp
        unfold spareL spareN at *
        go_wp2_with fail
        refine (hp2 _).mono ?_
        rintro e w2 ⟨rfl, rfl⟩
        go_wp2_with fail
        go_roundg (ks.length - (k + 1))
        case measure => omega
        case rel => exact ⟨k + 1, rfl, by omega, by go_num, rfl⟩
    · obtain rfl : k = ks.length := by omega
      have i1 : ¬ (ks.length : Int) < (ks.length : Int) := by omega
      obtain ⟨c0, -, -, -⟩ := man_cells H1.out.man
      have HR := Lib.hid (read_b H1.out mainN (by decide) hr)
      unfold mainN at HR
      clear hr
      go_wp2_with fail
      refine HR.out.mono ?_
      rintro e w3 ⟨rfl, rfl⟩
      go_wp2_with fail
      refine (read_any wr HRT.out).mono ?_
      rintro e w4 ⟨v, rfl, ho, hb⟩
      have HB := Lib.hid hb
      obtain ⟨pv, cv, rfl, hcv, hcm, hfi⟩ := ho.files (right_fi HRT.out)
      obtain ⟨W5, hW5⟩ : ∃ W5, W5 = w4.alloc (.cells #[.int .i64 nx, .int .i64 lg, .slice pv l.length cv] 24) := ⟨_, rfl⟩
      have hb5 : Below wr.heap.size wr W5 := by rw [hW5]; exact hb.trans ((mbelow_alloc w4 _).mono hb.size)
      have hb4 : Below w4.heap.size w4 W5 := by rw [hW5]; exact mbelow_alloc _ _
      have hst : W5.heap[w4.heap.size]? = some (stO nx lg pv l.length cv) := by rw [hW5]; exact heap_alloc_new _ _
      have HT := Lib.hid (text_any (cap := cv) (hfi.below hb4) HRT.out (HSP.out.on hb5))
      have HF := Lib.hid hfi
      have HCV := Lib.hid (And.intro hcv hcm)
      have HST := Lib.hid hst
      have HB5 := Lib.hid (And.intro hb5 hb4)
      clear ho hb hfi hst hb5 hb4 hcv hcm
      go_wp2_with fail
      rw [← hW5]
      clear hW5
      refine HT.out.mono ?_
      rintro e w6 ⟨rfl, hb6⟩
      have hst6 := (hb6.block _ (Array.getElem?_eq_some_iff.1 HST.out).1).trans HST.out
      obtain ⟨d0, d1, d2⟩ := st_cells hst6
      have HCK := Lib.hid (Check_any (nx := nx) (lg := lg) (HF.out.below (HB5.out.2.trans (hb6.mono HB5.out.2.size))) HCV.out.1 HCV.out.2)
      have HB6 := Lib.hid (HB5.out.1.trans (hb6.mono HB5.out.1.size))
      clear hb6 hst6
      go_wp2_with fail
      refine HCK.out.mono ?_
      rintro e w7 ⟨n, rfl, hn, -, hb7⟩
      obtain rfl : n = 0 := hn.2 HRT.out
      have h7 := H1.out.same (HB6.out.trans (hb7.mono HB6.out.size))
      obtain ⟨-, x1, -, x3⟩ := man_cells h7.man
      have x4 := x3 1
      have H7 := Lib.hid h7
      clear h7 hb7 hn x3 d0 d1 d2
      go_wp2_with fail
      exact bodyPost_ret (v := .int .i64 0) (by simp [results, Tryz.results49, go_sem]) rfl ⟨rfl, man_set H7.out⟩
end
end Go.Proofs.YtbhjpkejdkfenaaGreatDoor
