/-
  Walks over package prints: a type's part of the text. Conditions: those in the theorems (the keywords' variable holds what the row lists).
-/
import Derived.Test.YtamkkdmbefekmaaGreatDoorPrText
import Derived.Test.YtamkkdmbefekmaaGreatDoorPrTypeMath
import Derived.Deep.RegionHeldLaw
set_option linter.unusedSimpArgs false
set_option linter.unusedVariables false
namespace Go.Proofs.YtamkkdmbefekmaaGreatDoor
open Go.RowKit
theorem so_ro {W : World} {base : Nat} {v : Value} {L : List Ip.So} (h : RowIs kSo W base v L) (hin : ∀ x ∈ L, SoIn x) : RoSo W v L := RowIs.ro okSo (fun _ _ _ => trivial) hin h
theorem ty_in {L : List Ip.So} (h : Pp.TyOk L) : ∀ x ∈ L, SoIn x := fun x hx => by
  obtain ⟨h1, h2⟩ := Pp.so_in (Pp.ty_mem h x hx)
  exact ⟨h1, Nat.le_trans h2 (by decide)⟩
set_option maxRecDepth 100000 in
set_option maxHeartbeats 16000000 in
theorem prType_any {u w : World} {p : Option Addr} {t : List Ip.So} {c : Nat} (hp : RoSo u (.slice p t.length c) t) (hu : Kp u w) (hk : KwIs u) (hn : ∀ x ∈ t, x.name.size ≤ 200) :
    Calls Tryz.prog 26 #[.slice p t.length c] w fun e w' => e = .returned (.string (Pp.typeOf t)) ∧ Below w.heap.size w w' := by
  obtain ⟨_, _, e9, hsl⟩ := ro_len hp
  cases e9
  have HP := Lib.hid hp
  have HU := Lib.hid hu
  have HKW := Lib.hid hk
  by_cases h12 : 12 < t.length
  · have i1 : (12 : Int) < ((t.length : Nat) : Int) := by omega
    have HT : Hid (Pp.typeOf t = ⟨#[]⟩) := Lib.hid (by unfold Pp.typeOf; rw [if_pos h12])
    clear hp hu hk hn h12
    go_enter Tryz.func26, Tryz.ntmps26
    go_wp2_with fail
    go_ret
    exact ⟨by rw [HT.out]; rfl, Below.refl _ _⟩
  have i1 : ¬ (12 : Int) < ((t.length : Nat) : Int) := by omega
  have hc := Pp.sortsL_cost hn
  have HC : Hid (Pp.cost (t.flatMap Pp.soT) ≤ 3000) := Lib.hid (by have := Nat.mul_le_mul_right 201 (show t.length ≤ 12 by omega); omega)
  have HS : Hid ((Pp.sortsL t).length ≤ 65536) := Lib.hid (by have := Pp.puts_len (t.flatMap Pp.soT) []; have h9 := HC.out; unfold Pp.sortsL; simp only [List.length_nil] at this; omega)
  have HY := Lib.hid fun k0 k1 => Pp.typeOf_yes (t := t) h12 k0 k1
  have HN := Lib.hid fun k => Pp.typeOf_no (t := t) h12 k
  have HR := Lib.hid (Pp.type_reads (l := Pp.sortsL t))
  obtain ⟨W3, hW3⟩ : ∃ W3, W3 = w.alloc (.cells #[.pointer none, .slice none 0 0] 86) := ⟨_, rfl⟩
  have HL3 : Hid (LnIs w.heap.size w.heap.size [] W3) := Lib.hid (by rw [hW3]; exact LnIs.new w)
  have HB3 : Hid (Below w.heap.size w W3) := Lib.hid (by rw [hW3]; exact tk_alloc w _)
  have HTY : Hid (∀ W, Kp u W → Calls Tryz.prog 30 #[.string (Tk.bs (Pp.sortsL t))] W (Typed (Ip.type (Pp.sortsL t)) W)) := Lib.hid fun W hW => by
    have := Type_any (Tk.bs (Pp.sortsL t)) W (by show (Pp.sortsL t).length ≤ 65536; exact HS.out) (kw_kp HKW.out hW)
    rwa [Tk.bs_data] at this
  have HST := Lib.hid (show Pp.puts [] (t.flatMap Pp.soT) = Pp.sortsL t from rfl)
  generalize Pp.typeOf t = ty at *
  clear hp hu hk hn h12 hc
  go_enter Tryz.func26, Tryz.ntmps26
  go_upto_region 4 with fail
  rw [← hW3]
  clear hW3
  go_wp2_with fail
  refine (lnSorts_any HL3.out HP.out (HU.out.below HB3.out) HU.out.size (by have := HC.out; simp only [List.length_nil]; omega)).mono ?_
  rintro e w4 ⟨rfl, h4, k4⟩
  rw [HST.out] at h4
  have H4 := Lib.hid h4
  have HB4 : Hid (Below w.heap.size w w4) := Lib.hid (HB3.out.trans k4.below)
  clear h4 k4
  go_wp2_with fail
  refine (ln_text H4.out).mono ?_
  rintro e w5 ⟨rfl, hb5⟩
  have HB5 := Lib.hid (HB4.out.trans hb5)
  clear hb5 HL3 H4 HB3 HB4
  generalize Tk.bs (Pp.sortsL t) = tb at *
  generalize Ip.type (Pp.sortsL t) = y at *
  obtain ⟨S, at_, er⟩ := y
  simp only at HY HN HR
  go_wp2_with fail
  refine (HTY.out w5 (HU.out.below HB5.out)).mono ?_
  rintro e w6 ⟨v, rfl, hrw, hb6⟩
  have HB6 := Lib.hid (HB5.out.trans (hb6.mono HB5.out.size))
  clear hb6
  by_cases her : er = 0
  case neg =>
    have j1 : (((er : Nat) : Int) != 0) = true := by rw [bne_iff_ne]; omega
    have HT := Lib.hid (HN.out (.inl her))
    clear her hrw
    go_wp2_with fail
    go_ret
    exact ⟨by rw [HT.out]; rfl, HB6.out⟩
  case pos =>
  subst her
  have HSO := Lib.hid (so_ro hrw (ty_in (HR.out rfl)))
  obtain ⟨ps, cs, rfl, -, -⟩ := hrw.shape
  clear hrw
  have HQ : Hid (∀ W, Below w6.heap.size w6 W → Calls Tryz.prog 60 #[.slice ps S.length cs, .slice p t.length c] W fun e w' => e = .returned (.bool (Ck.sameL S t)) ∧ Below W.heap.size W w') := Lib.hid fun W hW => equalSo_any (HSO.out.below hW) (HP.out.kp ((HU.out.below HB6.out).below hW))
  cases hb : Ck.sameL S t with
  | true =>
    rw [hb] at HQ
    have HT := Lib.hid (HY.out rfl hb)
    go_wp2_with fail
    refine (HQ.out _ (Below.refl _ _)).mono ?_
    rintro e w7 ⟨rfl, hb7⟩
    have HB7 := Lib.hid (HB6.out.trans (hb7.mono HB6.out.size))
    clear hb7
    go_wp2_with fail
    go_ret
    exact ⟨by rw [HT.out]; rfl, HB7.out⟩
  | false =>
    rw [hb] at HQ
    have HT := Lib.hid (HN.out (.inr hb))
    go_wp2_with fail
    refine (HQ.out _ (Below.refl _ _)).mono ?_
    rintro e w7 ⟨rfl, hb7⟩
    have HB7 := Lib.hid (HB6.out.trans (hb7.mono HB6.out.size))
    clear hb7
    go_wp2_with fail
    go_ret
    exact ⟨by rw [HT.out]; rfl, HB7.out⟩
end Go.Proofs.YtamkkdmbefekmaaGreatDoor
