/-
  Walks over the laws of package prints: a type that is read is printed, and read again; one that is printed is read as it was. Conditions: those in the theorems (the keywords' variable holds what the row lists; the sorts' names together are no longer than a machine holds).
-/
import Derived.Test.YtamkkdmbefekmaaGreatDoorPrRefType
import Derived.Test.YtamkkdmbefekmaaGreatDoorCkSameRo
set_option linter.unusedSimpArgs false
set_option linter.unusedVariables false
namespace Pp
open Ip
theorem kw_size4 (k : Nat) : (kw k).size ≤ 4 := kw_size k
theorem typeOf_long {t : List So} (h : 65536 < (sortsL t).length) : typeOf t = ⟨#[]⟩ := by
  unfold typeOf
  split
  · rfl
  · rename_i h12
    rw [if_neg]
    intro hb
    have hm := ty_mem (tyB_iff.1 hb)
    have h1 := sortsL_cost (t := t) fun x hx => Nat.le_trans (so_in (hm x hx)).2 (by decide)
    have h2 := puts_len (t.flatMap soT) []
    have h3 := Nat.mul_le_mul_right 201 (show t.length ≤ 12 by omega)
    unfold sortsL at h
    simp only [List.length_nil] at h2
    omega
theorem typeOf_size (t : List So) : (typeOf t).size ≤ 65536 := by
  by_cases h : 65536 < (sortsL t).length
  · rw [typeOf_long h]; exact Nat.zero_le _
  · unfold typeOf
    split
    · exact Nat.zero_le _
    · split
      · show (sortsL t).length ≤ 65536; omega
      · exact Nat.zero_le _
/-- What is printed of a type is read as it was. -/
theorem typeOf_read {t : List So} (h : typeOf t ≠ ⟨#[]⟩) : type (typeOf t).data.toList = (t, 0, 0) := by
  unfold typeOf at h ⊢
  split
  · rename_i h1; rw [if_pos h1] at h; exact absurd rfl h
  · rename_i h1
    rw [if_neg h1] at h
    split
    · rename_i h2
      rw [Tk.bs_data]
      exact type_ok (tyB_iff.1 h2)
    · rename_i h2; rw [if_neg h2] at h; exact absurd rfl h
theorem typeOf_of {t : List So} (h : TyOk t) (h12 : ¬ 12 < t.length) : type (typeOf t).data.toList = (t, 0, 0) := by
  unfold typeOf
  rw [if_neg h12, if_pos (tyB_iff.2 h), Tk.bs_data]
  exact type_ok h
end Pp
namespace Go.Proofs.YtamkkdmbefekmaaGreatDoor
open Go.RowKit
set_option maxRecDepth 100000 in
set_option maxHeartbeats 8000000 in
theorem wholeT_long (t : ByteArray) (w : World) (hm : 65536 < t.size) : Calls Tryz.prog 65 #[.string t, .func (.func 66) #[] #[]] w fun e w' => e = .returned (.tuple #[.slice none 0 0, .int .i64 0, .int .i64 3]) ∧ w' = w := by
  have QA := fun W => All_long t W hm
  go_enter Tryz.func65, Tryz.ntmps65
  go_wp2_with fail
  refine (QA _).mono ?_
  rintro e w1 ⟨rfl, hw⟩
  obtain rfl := hw
  go_wp2_with fail
  go_ret3
  exact ⟨rfl, rfl⟩
set_option maxRecDepth 100000 in
set_option maxHeartbeats 8000000 in
theorem Type_long (t : ByteArray) (w : World) (hm : 65536 < t.size) : Calls Tryz.prog 30 #[.string t] w fun e w' => e = .returned (.tuple #[.slice none 0 0, .int .i64 0, .int .i64 3]) ∧ w' = w := by
  go_enter Tryz.func30, Tryz.ntmps30
  go_wp2_with fail
  refine (wholeT_long t _ hm).mono ?_
  rintro e w1 ⟨rfl, hw⟩
  obtain rfl := hw
  go_wp2_with fail
  go_ret3
  exact ⟨rfl, rfl⟩
set_option maxRecDepth 100000 in
set_option maxHeartbeats 16000000 in
/-- prints.Type of sorts whose text is too long to be read. -/
theorem prTypeL_any {u w : World} {p : Option Addr} {t : List Ip.So} {c : Nat} (hp : RoSo u (.slice p t.length c) t) (hu : Kp u w) (h12 : ¬ 12 < t.length) (hc : Pp.cost (t.flatMap Pp.soT) ≤ 140737488355328) (hl : 65536 < (Pp.sortsL t).length) :
    Calls Tryz.prog 26 #[.slice p t.length c] w fun e w' => e = .returned (.string (Pp.typeOf t)) ∧ Below w.heap.size w w' := by
  obtain ⟨_, _, e9, hsl⟩ := ro_len hp
  cases e9
  have HP := Lib.hid hp
  have HU := Lib.hid hu
  have i1 : ¬ (12 : Int) < ((t.length : Nat) : Int) := by omega
  have HC := Lib.hid hc
  have HT := Lib.hid (Pp.typeOf_long hl)
  have HLL : Hid (65536 < (Tk.bs (Pp.sortsL t)).size) := Lib.hid hl
  obtain ⟨W3, hW3⟩ : ∃ W3, W3 = w.alloc (.cells #[.pointer none, .slice none 0 0] 86) := ⟨_, rfl⟩
  have HL3 : Hid (LnIs w.heap.size w.heap.size [] W3) := Lib.hid (by rw [hW3]; exact LnIs.new w)
  have HB3 : Hid (Below w.heap.size w W3) := Lib.hid (by rw [hW3]; exact tk_alloc w _)
  have HST := Lib.hid (show Pp.puts [] (t.flatMap Pp.soT) = Pp.sortsL t from rfl)
  clear hp hu hc h12 hl
  go_enter Tryz.func26, Tryz.ntmps26
  go_upto_region 4 with fail
  rw [← hW3]
  clear hW3
  go_wp2_with fail
  refine (lnSorts_any HL3.out HP.out (HU.out.below HB3.out) HU.out.size (by have := HC.out; simp only [List.length_nil]; omega)).mono ?_
  rintro e w4 ⟨rfl, h4, k4⟩
  rw [HST.out] at h4
  have H4 := Lib.hid h4
  have HB4 : Hid (Below w.heap.size w w4) := Lib.hid (HB3.out.trans k4.below)
  clear h4 k4
  go_wp2_with fail
  refine (ln_text H4.out).mono ?_
  rintro e w5 ⟨rfl, hb5⟩
  have HB5 := Lib.hid (HB4.out.trans hb5)
  clear hb5 HL3 H4 HB3 HB4
  generalize Tk.bs (Pp.sortsL t) = tb at *
  go_wp2_with fail
  refine (Type_long tb w5 HLL.out).mono ?_
  rintro e w6 ⟨rfl, hw6⟩
  obtain rfl := hw6
  go_wp2_with fail
  go_ret
  exact ⟨by rw [HT.out]; rfl, HB5.out⟩
/-! ### the law -/
set_option maxRecDepth 100000 in
set_option maxHeartbeats 16000000 in
theorem prTypeS_any {u w : World} {p : Option Addr} {t : List Ip.So} {c : Nat} (hp : RoSo u (.slice p t.length c) t) (hu : Kp u w) (hk : KwIs u) (hn : t.length ≤ 12 → Pp.cost (t.flatMap Pp.soT) ≤ 140737488355328 ∧ (Pp.sortsL t).length ≤ 65536) :
    Calls Tryz.prog 26 #[.slice p t.length c] w fun e w' => e = .returned (.string (Pp.typeOf t)) ∧ Below w.heap.size w w' := by
  obtain ⟨_, _, e9, hsl⟩ := ro_len hp
  cases e9
  have HP := Lib.hid hp
  have HU := Lib.hid hu
  have HKW := Lib.hid hk
  by_cases h12 : 12 < t.length
  · have i1 : (12 : Int) < ((t.length : Nat) : Int) := by omega
    have HT : Hid (Pp.typeOf t = ⟨#[]⟩) := Lib.hid (by unfold Pp.typeOf; rw [if_pos h12])
    clear hp hu hk hn h12
    go_enter Tryz.func26, Tryz.ntmps26
    go_wp2_with fail
    go_ret
    exact ⟨by rw [HT.out]; rfl, Below.refl _ _⟩
  have i1 : ¬ (12 : Int) < ((t.length : Nat) : Int) := by omega
  have HC := Lib.hid (hn (by omega)).1
  have HS := Lib.hid (hn (by omega)).2
  have HY := Lib.hid fun k0 k1 => Pp.typeOf_yes (t := t) h12 k0 k1
  have HN := Lib.hid fun k => Pp.typeOf_no (t := t) h12 k
  have HR := Lib.hid (Pp.type_reads (l := Pp.sortsL t))
  obtain ⟨W3, hW3⟩ : ∃ W3, W3 = w.alloc (.cells #[.pointer none, .slice none 0 0] 86) := ⟨_, rfl⟩
  have HL3 : Hid (LnIs w.heap.size w.heap.size [] W3) := Lib.hid (by rw [hW3]; exact LnIs.new w)
  have HB3 : Hid (Below w.heap.size w W3) := Lib.hid (by rw [hW3]; exact tk_alloc w _)
  have HTY : Hid (∀ W, Kp u W → Calls Tryz.prog 30 #[.string (Tk.bs (Pp.sortsL t))] W (Typed (Ip.type (Pp.sortsL t)) W)) := Lib.hid fun W hW => by
    have := Type_any (Tk.bs (Pp.sortsL t)) W (by show (Pp.sortsL t).length ≤ 65536; exact HS.out) (kw_kp HKW.out hW)
    rwa [Tk.bs_data] at this
  have HST := Lib.hid (show Pp.puts [] (t.flatMap Pp.soT) = Pp.sortsL t from rfl)
  generalize Pp.typeOf t = ty at *
  clear hp hu hk hn h12
  go_enter Tryz.func26, Tryz.ntmps26
  go_upto_region 4 with fail
  rw [← hW3]
  clear hW3
  go_wp2_with fail
  refine (lnSorts_any HL3.out HP.out (HU.out.below HB3.out) HU.out.size (by have := HC.out; simp only [List.length_nil]; omega)).mono ?_
  rintro e w4 ⟨rfl, h4, k4⟩
  rw [HST.out] at h4
  have H4 := Lib.hid h4
  have HB4 : Hid (Below w.heap.size w w4) := Lib.hid (HB3.out.trans k4.below)
  clear h4 k4
  go_wp2_with fail
  refine (ln_text H4.out).mono ?_
  rintro e w5 ⟨rfl, hb5⟩
  have HB5 := Lib.hid (HB4.out.trans hb5)
  clear hb5 HL3 H4 HB3 HB4
  generalize Tk.bs (Pp.sortsL t) = tb at *
  generalize Ip.type (Pp.sortsL t) = y at *
  obtain ⟨S, at_, er⟩ := y
  simp only at HY HN HR
  go_wp2_with fail
  refine (HTY.out w5 (HU.out.below HB5.out)).mono ?_
  rintro e w6 ⟨v, rfl, hrw, hb6⟩
  have HB6 := Lib.hid (HB5.out.trans (hb6.mono HB5.out.size))
  clear hb6
  by_cases her : er = 0
  case neg =>
    have j1 : (((er : Nat) : Int) != 0) = true := by rw [bne_iff_ne]; omega
    have HT := Lib.hid (HN.out (.inl her))
    clear her hrw
    go_wp2_with fail
    go_ret
    exact ⟨by rw [HT.out]; rfl, HB6.out⟩
  case pos =>
  subst her
  have HSO := Lib.hid (so_ro hrw (ty_in (HR.out rfl)))
  obtain ⟨ps, cs, rfl, -, -⟩ := hrw.shape
  clear hrw
  have HQ : Hid (∀ W, Below w6.heap.size w6 W → Calls Tryz.prog 60 #[.slice ps S.length cs, .slice p t.length c] W fun e w' => e = .returned (.bool (Ck.sameL S t)) ∧ Below W.heap.size W w') := Lib.hid fun W hW => equalSo_any (HSO.out.below hW) (HP.out.kp ((HU.out.below HB6.out).below hW))
  cases hb : Ck.sameL S t with
  | true =>
    rw [hb] at HQ
    have HT := Lib.hid (HY.out rfl hb)
    go_wp2_with fail
    refine (HQ.out _ (Below.refl _ _)).mono ?_
    rintro e w7 ⟨rfl, hb7⟩
    have HB7 := Lib.hid (HB6.out.trans (hb7.mono HB6.out.size))
    clear hb7
    go_wp2_with fail
    go_ret
    exact ⟨by rw [HT.out]; rfl, HB7.out⟩
  | false =>
    rw [hb] at HQ
    have HT := Lib.hid (HN.out (.inr hb))
    go_wp2_with fail
    refine (HQ.out _ (Below.refl _ _)).mono ?_
    rintro e w7 ⟨rfl, hb7⟩
    have HB7 := Lib.hid (HB6.out.trans (hb7.mono HB6.out.size))
    clear hb7
    go_wp2_with fail
    go_ret
    exact ⟨by rw [HT.out]; rfl, HB7.out⟩
/-- prints.Type, of sorts whose names together are no longer than a machine holds. -/
theorem prTypeB_any {u w : World} {p : Option Addr} {t : List Ip.So} {c : Nat} (hp : RoSo u (.slice p t.length c) t) (hu : Kp u w) (hk : KwIs u) (hc : t.length ≤ 12 → Pp.cost (t.flatMap Pp.soT) ≤ 140737488355328) :
    Calls Tryz.prog 26 #[.slice p t.length c] w fun e w' => e = .returned (.string (Pp.typeOf t)) ∧ Below w.heap.size w w' := by
  by_cases h12 : 12 < t.length
  · exact prTypeS_any hp hu hk fun h => absurd h (by omega)
  · by_cases hl : 65536 < (Pp.sortsL t).length
    · exact prTypeL_any hp hu h12 (hc (by omega)) hl
    · exact prTypeS_any hp hu hk fun h => ⟨hc h, by omega⟩
theorem ty_empty {t : ByteArray} (h : t = ⟨#[]⟩) : t.toList.isEmpty = true := by rw [h, Go.Lib.toList_data]; rfl
theorem ty_full {t : ByteArray} (h : t ≠ ⟨#[]⟩) : t.toList.isEmpty = false := by
  rw [Go.Lib.toList_data, List.isEmpty_eq_false_iff]; intro e; exact h (Ip.eqB_iff.1 (by unfold Ip.eqB; rw [e]; rfl))
set_option maxRecDepth 100000 in
set_option maxHeartbeats 32000000 in
/-- The law, from where its text is no longer than it goes through. -/
theorem printsReadS_any {w : World} {v : Value} {t : List Ip.So} (text text0 : ByteArray) (hx : (text0.size ≤ 2000 ∧ text = text0) ∨ (2000 < text0.size ∧ text0.size ≤ 9223372036854775807 ∧ text = text0.extract 0 2000)) (hm : text.size ≤ 2000) (hp : RoSo w v t) (hk : KwIs w) (hc : t.length ≤ 12 → Pp.cost (t.flatMap Pp.soT) ≤ 140737488355328) : Calls Tryz.prog 10 #[.string text0, v] w fun e w' => e = .returned (.bool true) ∧ Below w.heap.size w w' := by
  obtain ⟨p, c, rfl, hsl⟩ := ro_len hp
  have HWK : Hid (∀ W, Below w.heap.size w W → Calls Tryz.prog 21 #[] W fun e w' => e = .returned (.bool true) ∧ Below W.heap.size W w') := Lib.hid fun W hW => wakes14_any W (kw_kp hk (Kp.of_below hW))
  have HP := Lib.hid hp
  have HK := Lib.hid hk
  have HC := Lib.hid hc
  have HM := Lib.hid hm
  have HTS := Lib.hid (Pp.typeOf_size t)
  have HTR := Lib.hid fun (h : Pp.typeOf t ≠ ⟨#[]⟩) => Pp.typeOf_read h
  have HQ1 := Lib.hid (prTypeB_any hp (Kp.refl w) hk hc)
  have HRD := Lib.hid (Pp.type_reads (l := text.data.toList))
  have HTX := Lib.hid fun W (hW : Kp w W) => Type_any text W (by omega) (kw_kp hk hW)
  generalize Pp.typeOf t = ty at *
  generalize Ip.type text.data.toList = y at *
  obtain ⟨U, at_, er⟩ := y
  simp only at HRD
  clear hp hk hc hm
  go_enter Tryz.func10, Tryz.ntmps10
  rcases hx with ⟨hx1, rfl⟩ | ⟨hx1, hx2, rfl⟩
  · have i1 : ¬ (2000 : Int) < ((text.size : Nat) : Int) := by omega
    clear hx1
    by_cases h300 : 300 < t.length
    · have i2 : (300 : Int) < ((t.length : Nat) : Int) := by omega
      clear h300
      go_wp2_with fail
      refine (HWK.out _ (Below.refl _ _)).mono ?_
      rintro e w2 ⟨rfl, hb2⟩
      go_wp2_with fail
      go_ret
      exact ⟨rfl, hb2⟩
    have i2 : ¬ (300 : Int) < ((t.length : Nat) : Int) := by omega
    go_wp2_with fail
    refine HQ1.out.mono ?_
    rintro e w2 ⟨rfl, hb2⟩
    have HB2 := Lib.hid hb2
    clear hb2
    by_cases hty : ty = ⟨#[]⟩
    case pos =>
      have n0 := ty_empty hty
      clear hty
      go_wp2_with fail
      refine (HTX.out _ (Kp.of_below HB2.out)).mono ?_
      rintro e w5 ⟨v5, rfl, hr5, hb5⟩
      have HB5 := Lib.hid (HB2.out.trans (hb5.mono HB2.out.size))
      clear hb5
      by_cases her : er = 0
      case neg =>
        have j1 : (((er : Nat) : Int) != 0) = true := by rw [bne_iff_ne]; omega
        obtain ⟨p5, k5, rfl, -, -⟩ := hr5.shape
        clear her hr5
        go_wp2_with fail
        refine (HWK.out _ HB5.out).mono ?_
        rintro e w6 ⟨rfl, hb6⟩
        have HB6 := Lib.hid (HB5.out.trans (hb6.mono HB5.out.size))
        clear hb6
        go_wp2_with fail
        go_ret
        exact ⟨rfl, HB6.out⟩
      subst her
      have HUT := Lib.hid (HRD.out (by trivial))
      have HS5 := Lib.hid (so_ro hr5 (ty_in HUT.out))
      obtain ⟨p5, k5, rfl, hu1, hu2⟩ := hr5.shape
      have hul : U.length ≤ 9223372036854775807 := Nat.le_trans hu1 hu2
      clear hr5 hu1 hu2
      by_cases hu12 : 12 < U.length
      · have i5 : (12 : Int) < ((U.length : Nat) : Int) := by omega
        clear hu12
        go_wp2_with fail
        refine (HWK.out _ HB5.out).mono ?_
        rintro e w6 ⟨rfl, hb6⟩
        have HB6 := Lib.hid (HB5.out.trans (hb6.mono HB5.out.size))
        clear hb6
        go_wp2_with fail
        go_ret
        exact ⟨rfl, HB6.out⟩
      have i5 : ¬ (12 : Int) < ((U.length : Nat) : Int) := by omega
      have HUN : Hid (∀ x ∈ U, x.name.size ≤ 200) := Lib.hid fun x hx => Nat.le_trans (Pp.so_in (Pp.ty_mem HUT.out x hx)).2 (by decide)
      have HUR := Lib.hid (Pp.typeOf_of HUT.out hu12)
      have HUL : Hid (U.length ≤ 1000000) := Lib.hid (by omega)
      have HUZ := Lib.hid (Pp.typeOf_size U)
      have HK5 : Hid (KwIs w5) := Lib.hid (kw_kp HK.out (Kp.of_below HB5.out))
      have HQ6 := Lib.hid (prType_any HS5.out (Kp.refl w5) HK5.out HUN.out)
      generalize Pp.typeOf U = tu at *
      go_wp2_with fail
      refine HQ6.out.mono ?_
      rintro e w6 ⟨rfl, hb6⟩
      have HB6 := Lib.hid (HB5.out.trans (hb6.mono HB5.out.size))
      have HS6 := Lib.hid (HS5.out.below hb6)
      clear hb6
      go_wp2_with fail
      refine (Type_any tu _ HUZ.out (kw_kp HK.out (Kp.of_below HB6.out))).mono ?_
      rw [HUR.out]
      rintro e w7 ⟨v7, rfl, hr7, hb7⟩
      have HB7 := Lib.hid (HB6.out.trans (hb7.mono HB6.out.size))
      have HS7 := Lib.hid (HS6.out.below hb7)
      have HT7 := Lib.hid (so_ro hr7 (ty_in HUT.out))
      obtain ⟨p7, k7, rfl, -, -⟩ := hr7.shape
      clear hr7 hb7
      go_wp2_with fail
      refine (SameSorts_ro HS7.out HT7.out HUL.out).mono ?_
      rintro e w8 ⟨rfl, n8, hw8⟩
      have HB8 : Hid (Below w.heap.size w w8) := Lib.hid (by rw [hw8]; exact HB7.out.trans ((dn_below w7 n8).mono HB7.out.size))
      clear hw8
      go_wp2_with fail
      refine (HWK.out _ HB8.out).mono ?_
      rintro e w9 ⟨rfl, hb9⟩
      have HB9 := Lib.hid (HB8.out.trans (hb9.mono HB8.out.size))
      clear hb9
      go_wp2_with fail
      go_ret
      exact ⟨rfl, HB9.out⟩
    case neg =>
      have n0 := ty_full hty
      have HRT := Lib.hid (HTR.out hty)
      clear hty
      go_wp2_with fail
      refine (Type_any ty _ HTS.out (kw_kp HK.out (Kp.of_below HB2.out))).mono ?_
      rw [HRT.out]
      rintro e w3 ⟨v3, rfl, hr3, hb3⟩
      have HB3 := Lib.hid (HB2.out.trans (hb3.mono HB2.out.size))
      clear hb3
      have HS3 := Lib.hid (so_ro hr3 (RoIs.ok HP.out))
      obtain ⟨p3, k3, rfl, -, -⟩ := hr3.shape
      clear hr3
      go_wp2_with fail
      refine (SameSorts_ro (HP.out.kp (Kp.of_below HB3.out)) HS3.out (by omega)).mono ?_
      rintro e w4 ⟨rfl, n4, hw4⟩
      have HB4 : Hid (Below w.heap.size w w4) := Lib.hid (by rw [hw4]; exact HB3.out.trans ((dn_below w3 n4).mono HB3.out.size))
      clear hw4
      go_wp2_with fail
      refine (HTX.out _ (Kp.of_below HB4.out)).mono ?_
      rintro e w5 ⟨v5, rfl, hr5, hb5⟩
      have HB5 := Lib.hid (HB4.out.trans (hb5.mono HB4.out.size))
      clear hb5
      by_cases her : er = 0
      case neg =>
        have j1 : (((er : Nat) : Int) != 0) = true := by rw [bne_iff_ne]; omega
        obtain ⟨p5, k5, rfl, -, -⟩ := hr5.shape
        clear her hr5
        go_wp2_with fail
        refine (HWK.out _ HB5.out).mono ?_
        rintro e w6 ⟨rfl, hb6⟩
        have HB6 := Lib.hid (HB5.out.trans (hb6.mono HB5.out.size))
        clear hb6
        go_wp2_with fail
        go_ret
        exact ⟨rfl, HB6.out⟩
      subst her
      have HUT := Lib.hid (HRD.out (by trivial))
      have HS5 := Lib.hid (so_ro hr5 (ty_in HUT.out))
      obtain ⟨p5, k5, rfl, hu1, hu2⟩ := hr5.shape
      have hul : U.length ≤ 9223372036854775807 := Nat.le_trans hu1 hu2
      clear hr5 hu1 hu2
      by_cases hu12 : 12 < U.length
      · have i5 : (12 : Int) < ((U.length : Nat) : Int) := by omega
        clear hu12
        go_wp2_with fail
        refine (HWK.out _ HB5.out).mono ?_
        rintro e w6 ⟨rfl, hb6⟩
        have HB6 := Lib.hid (HB5.out.trans (hb6.mono HB5.out.size))
        clear hb6
        go_wp2_with fail
        go_ret
        exact ⟨rfl, HB6.out⟩
      have i5 : ¬ (12 : Int) < ((U.length : Nat) : Int) := by omega
      have HUN : Hid (∀ x ∈ U, x.name.size ≤ 200) := Lib.hid fun x hx => Nat.le_trans (Pp.so_in (Pp.ty_mem HUT.out x hx)).2 (by decide)
      have HUR := Lib.hid (Pp.typeOf_of HUT.out hu12)
      have HUL : Hid (U.length ≤ 1000000) := Lib.hid (by omega)
      have HUZ := Lib.hid (Pp.typeOf_size U)
      have HK5 : Hid (KwIs w5) := Lib.hid (kw_kp HK.out (Kp.of_below HB5.out))
      have HQ6 := Lib.hid (prType_any HS5.out (Kp.refl w5) HK5.out HUN.out)
      generalize Pp.typeOf U = tu at *
      go_wp2_with fail
      refine HQ6.out.mono ?_
      rintro e w6 ⟨rfl, hb6⟩
      have HB6 := Lib.hid (HB5.out.trans (hb6.mono HB5.out.size))
      have HS6 := Lib.hid (HS5.out.below hb6)
      clear hb6
      go_wp2_with fail
      refine (Type_any tu _ HUZ.out (kw_kp HK.out (Kp.of_below HB6.out))).mono ?_
      rw [HUR.out]
      rintro e w7 ⟨v7, rfl, hr7, hb7⟩
      have HB7 := Lib.hid (HB6.out.trans (hb7.mono HB6.out.size))
      have HS7 := Lib.hid (HS6.out.below hb7)
      have HT7 := Lib.hid (so_ro hr7 (ty_in HUT.out))
      obtain ⟨p7, k7, rfl, -, -⟩ := hr7.shape
      clear hr7 hb7
      go_wp2_with fail
      refine (SameSorts_ro HS7.out HT7.out HUL.out).mono ?_
      rintro e w8 ⟨rfl, n8, hw8⟩
      have HB8 : Hid (Below w.heap.size w w8) := Lib.hid (by rw [hw8]; exact HB7.out.trans ((dn_below w7 n8).mono HB7.out.size))
      clear hw8
      go_wp2_with fail
      refine (HWK.out _ HB8.out).mono ?_
      rintro e w9 ⟨rfl, hb9⟩
      have HB9 := Lib.hid (HB8.out.trans (hb9.mono HB8.out.size))
      clear hb9
      go_wp2_with fail
      go_ret
      exact ⟨rfl, HB9.out⟩
  · have i1 : (2000 : Int) < ((text0.size : Nat) : Int) := by omega
    have i0 : ((text0.size : Nat) : Int) ≤ 9223372036854775807 := by omega
    clear hx1 hx2
    by_cases h300 : 300 < t.length
    · have i2 : (300 : Int) < ((t.length : Nat) : Int) := by omega
      clear h300
      go_wp2_with fail
      refine (HWK.out _ (Below.refl _ _)).mono ?_
      rintro e w2 ⟨rfl, hb2⟩
      go_wp2_with fail
      go_ret
      exact ⟨rfl, hb2⟩
    have i2 : ¬ (300 : Int) < ((t.length : Nat) : Int) := by omega
    go_wp2_with fail
    refine HQ1.out.mono ?_
    rintro e w2 ⟨rfl, hb2⟩
    have HB2 := Lib.hid hb2
    clear hb2
    by_cases hty : ty = ⟨#[]⟩
    case pos =>
      have n0 := ty_empty hty
      clear hty
      go_wp2_with fail
      refine (HTX.out _ (Kp.of_below HB2.out)).mono ?_
      rintro e w5 ⟨v5, rfl, hr5, hb5⟩
      have HB5 := Lib.hid (HB2.out.trans (hb5.mono HB2.out.size))
      clear hb5
      by_cases her : er = 0
      case neg =>
        have j1 : (((er : Nat) : Int) != 0) = true := by rw [bne_iff_ne]; omega
        obtain ⟨p5, k5, rfl, -, -⟩ := hr5.shape
        clear her hr5
        go_wp2_with fail
        refine (HWK.out _ HB5.out).mono ?_
        rintro e w6 ⟨rfl, hb6⟩
        have HB6 := Lib.hid (HB5.out.trans (hb6.mono HB5.out.size))
        clear hb6
        go_wp2_with fail
        go_ret
        exact ⟨rfl, HB6.out⟩
      subst her
      have HUT := Lib.hid (HRD.out (by trivial))
      have HS5 := Lib.hid (so_ro hr5 (ty_in HUT.out))
      obtain ⟨p5, k5, rfl, hu1, hu2⟩ := hr5.shape
      have hul : U.length ≤ 9223372036854775807 := Nat.le_trans hu1 hu2
      clear hr5 hu1 hu2
      by_cases hu12 : 12 < U.length
      · have i5 : (12 : Int) < ((U.length : Nat) : Int) := by omega
        clear hu12
        go_wp2_with fail
        refine (HWK.out _ HB5.out).mono ?_
        rintro e w6 ⟨rfl, hb6⟩
        have HB6 := Lib.hid (HB5.out.trans (hb6.mono HB5.out.size))
        clear hb6
        go_wp2_with fail
        go_ret
        exact ⟨rfl, HB6.out⟩
      have i5 : ¬ (12 : Int) < ((U.length : Nat) : Int) := by omega
      have HUN : Hid (∀ x ∈ U, x.name.size ≤ 200) := Lib.hid fun x hx => Nat.le_trans (Pp.so_in (Pp.ty_mem HUT.out x hx)).2 (by decide)
      have HUR := Lib.hid (Pp.typeOf_of HUT.out hu12)
      have HUL : Hid (U.length ≤ 1000000) := Lib.hid (by omega)
      have HUZ := Lib.hid (Pp.typeOf_size U)
      have HK5 : Hid (KwIs w5) := Lib.hid (kw_kp HK.out (Kp.of_below HB5.out))
      have HQ6 := Lib.hid (prType_any HS5.out (Kp.refl w5) HK5.out HUN.out)
      generalize Pp.typeOf U = tu at *
      go_wp2_with fail
      refine HQ6.out.mono ?_
      rintro e w6 ⟨rfl, hb6⟩
      have HB6 := Lib.hid (HB5.out.trans (hb6.mono HB5.out.size))
      have HS6 := Lib.hid (HS5.out.below hb6)
      clear hb6
      go_wp2_with fail
      refine (Type_any tu _ HUZ.out (kw_kp HK.out (Kp.of_below HB6.out))).mono ?_
      rw [HUR.out]
      rintro e w7 ⟨v7, rfl, hr7, hb7⟩
      have HB7 := Lib.hid (HB6.out.trans (hb7.mono HB6.out.size))
      have HS7 := Lib.hid (HS6.out.below hb7)
      have HT7 := Lib.hid (so_ro hr7 (ty_in HUT.out))
      obtain ⟨p7, k7, rfl, -, -⟩ := hr7.shape
      clear hr7 hb7
      go_wp2_with fail
      refine (SameSorts_ro HS7.out HT7.out HUL.out).mono ?_
      rintro e w8 ⟨rfl, n8, hw8⟩
      have HB8 : Hid (Below w.heap.size w w8) := Lib.hid (by rw [hw8]; exact HB7.out.trans ((dn_below w7 n8).mono HB7.out.size))
      clear hw8
      go_wp2_with fail
      refine (HWK.out _ HB8.out).mono ?_
      rintro e w9 ⟨rfl, hb9⟩
      have HB9 := Lib.hid (HB8.out.trans (hb9.mono HB8.out.size))
      clear hb9
      go_wp2_with fail
      go_ret
      exact ⟨rfl, HB9.out⟩
    case neg =>
      have n0 := ty_full hty
      have HRT := Lib.hid (HTR.out hty)
      clear hty
      go_wp2_with fail
      refine (Type_any ty _ HTS.out (kw_kp HK.out (Kp.of_below HB2.out))).mono ?_
      rw [HRT.out]
      rintro e w3 ⟨v3, rfl, hr3, hb3⟩
      have HB3 := Lib.hid (HB2.out.trans (hb3.mono HB2.out.size))
      clear hb3
      have HS3 := Lib.hid (so_ro hr3 (RoIs.ok HP.out))
      obtain ⟨p3, k3, rfl, -, -⟩ := hr3.shape
      clear hr3
      go_wp2_with fail
      refine (SameSorts_ro (HP.out.kp (Kp.of_below HB3.out)) HS3.out (by omega)).mono ?_
      rintro e w4 ⟨rfl, n4, hw4⟩
      have HB4 : Hid (Below w.heap.size w w4) := Lib.hid (by rw [hw4]; exact HB3.out.trans ((dn_below w3 n4).mono HB3.out.size))
      clear hw4
      go_wp2_with fail
      refine (HTX.out _ (Kp.of_below HB4.out)).mono ?_
      rintro e w5 ⟨v5, rfl, hr5, hb5⟩
      have HB5 := Lib.hid (HB4.out.trans (hb5.mono HB4.out.size))
      clear hb5
      by_cases her : er = 0
      case neg =>
        have j1 : (((er : Nat) : Int) != 0) = true := by rw [bne_iff_ne]; omega
        obtain ⟨p5, k5, rfl, -, -⟩ := hr5.shape
        clear her hr5
        go_wp2_with fail
        refine (HWK.out _ HB5.out).mono ?_
        rintro e w6 ⟨rfl, hb6⟩
        have HB6 := Lib.hid (HB5.out.trans (hb6.mono HB5.out.size))
        clear hb6
        go_wp2_with fail
        go_ret
        exact ⟨rfl, HB6.out⟩
      subst her
      have HUT := Lib.hid (HRD.out (by trivial))
      have HS5 := Lib.hid (so_ro hr5 (ty_in HUT.out))
      obtain ⟨p5, k5, rfl, hu1, hu2⟩ := hr5.shape
      have hul : U.length ≤ 9223372036854775807 := Nat.le_trans hu1 hu2
      clear hr5 hu1 hu2
      by_cases hu12 : 12 < U.length
      · have i5 : (12 : Int) < ((U.length : Nat) : Int) := by omega
        clear hu12
        go_wp2_with fail
        refine (HWK.out _ HB5.out).mono ?_
        rintro e w6 ⟨rfl, hb6⟩
        have HB6 := Lib.hid (HB5.out.trans (hb6.mono HB5.out.size))
        clear hb6
        go_wp2_with fail
        go_ret
        exact ⟨rfl, HB6.out⟩
      have i5 : ¬ (12 : Int) < ((U.length : Nat) : Int) := by omega
      have HUN : Hid (∀ x ∈ U, x.name.size ≤ 200) := Lib.hid fun x hx => Nat.le_trans (Pp.so_in (Pp.ty_mem HUT.out x hx)).2 (by decide)
      have HUR := Lib.hid (Pp.typeOf_of HUT.out hu12)
      have HUL : Hid (U.length ≤ 1000000) := Lib.hid (by omega)
      have HUZ := Lib.hid (Pp.typeOf_size U)
      have HK5 : Hid (KwIs w5) := Lib.hid (kw_kp HK.out (Kp.of_below HB5.out))
      have HQ6 := Lib.hid (prType_any HS5.out (Kp.refl w5) HK5.out HUN.out)
      generalize Pp.typeOf U = tu at *
      go_wp2_with fail
      refine HQ6.out.mono ?_
      rintro e w6 ⟨rfl, hb6⟩
      have HB6 := Lib.hid (HB5.out.trans (hb6.mono HB5.out.size))
      have HS6 := Lib.hid (HS5.out.below hb6)
      clear hb6
      go_wp2_with fail
      refine (Type_any tu _ HUZ.out (kw_kp HK.out (Kp.of_below HB6.out))).mono ?_
      rw [HUR.out]
      rintro e w7 ⟨v7, rfl, hr7, hb7⟩
      have HB7 := Lib.hid (HB6.out.trans (hb7.mono HB6.out.size))
      have HS7 := Lib.hid (HS6.out.below hb7)
      have HT7 := Lib.hid (so_ro hr7 (ty_in HUT.out))
      obtain ⟨p7, k7, rfl, -, -⟩ := hr7.shape
      clear hr7 hb7
      go_wp2_with fail
      refine (SameSorts_ro HS7.out HT7.out HUL.out).mono ?_
      rintro e w8 ⟨rfl, n8, hw8⟩
      have HB8 : Hid (Below w.heap.size w w8) := Lib.hid (by rw [hw8]; exact HB7.out.trans ((dn_below w7 n8).mono HB7.out.size))
      clear hw8
      go_wp2_with fail
      refine (HWK.out _ HB8.out).mono ?_
      rintro e w9 ⟨rfl, hb9⟩
      have HB9 := Lib.hid (HB8.out.trans (hb9.mono HB8.out.size))
      clear hb9
      go_wp2_with fail
      go_ret
      exact ⟨rfl, HB9.out⟩
theorem printsRead_any {w : World} {v : Value} {t : List Ip.So} (text0 : ByteArray) (hz : text0.size ≤ maxLen) (hp : RoSo w v t) (hk : KwIs w) (hc : t.length ≤ 12 → Pp.cost (t.flatMap Pp.soT) ≤ 140737488355328) : Calls Tryz.prog 10 #[.string text0, v] w fun e w' => e = .returned (.bool true) ∧ Below w.heap.size w w' := by
  by_cases h : text0.size ≤ 2000
  · exact printsReadS_any text0 text0 (.inl ⟨h, rfl⟩) h hp hk hc
  · exact printsReadS_any (text0.extract 0 2000) text0 (.inr ⟨by omega, hz, rfl⟩) (by rw [ByteArray.size_extract]; omega) hp hk hc
end Go.Proofs.YtamkkdmbefekmaaGreatDoor
