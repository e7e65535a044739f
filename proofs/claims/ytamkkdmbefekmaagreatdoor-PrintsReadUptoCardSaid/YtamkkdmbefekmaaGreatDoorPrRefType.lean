/-
  Walks over the laws of package prints: the document's Type; a type's text is that of the document. Conditions: those in the theorems (the keywords' variable holds what the row lists).
-/
import Derived.Test.YtamkkdmbefekmaaGreatDoorPrTypes
set_option linter.unusedSimpArgs false
set_option linter.unusedVariables false
namespace Pp
open Ip
/-- Is an element fit, the last one or one ahead of it? -/
def okE (last : Bool) (x : So) : Bool := if last then (decide (1 ≤ x.kind) && decide (x.kind ≤ 4) && eqB x.name ⟨#[]⟩) || (decide (x.kind = 7) && Tk.name x.name) else (decide (x.kind = 5) || decide (x.kind = 6)) && eqB x.name ⟨#[]⟩
theorem okE_last (x : So) : okE true x = (soB x && !x.goes) := by
  unfold okE soB So.goes
  obtain ⟨k, n⟩ := x
  simp only
  by_cases h5 : k = 5
  · subst h5; simp
  by_cases h6 : k = 6
  · subst h6; simp
  rw [decide_eq_false h5, decide_eq_false h6, show decide (k ≤ 6) = decide (k ≤ 4) by apply Bool.eq_iff_iff.2; simp only [decide_eq_true_eq]; omega]
  simp
theorem okE_head (x : So) : okE false x = (soB x && x.goes) := by
  unfold okE soB So.goes
  obtain ⟨k, n⟩ := x
  simp only
  by_cases h5 : k = 5
  · subst h5; simp
  by_cases h6 : k = 6
  · subst h6; simp
  rw [decide_eq_false h5, decide_eq_false h6]
  simp
theorem tyB_at : ∀ {t : List So}, t ≠ [] → (tyB t = true ↔ ∀ i (hi : i < t.length), okE (decide (i + 1 = t.length)) t[i] = true)
  | [], h => absurd rfl h
  | [x], _ => by
    show (soB x && !x.goes) = true ↔ _
    rw [← okE_last]
    constructor
    · intro h i hi
      obtain rfl : i = 0 := by simp at hi; omega
      exact h
    · intro h; exact h 0 (by simp)
  | x :: y :: t, _ => by
    show (soB x && x.goes && tyB (y :: t)) = true ↔ _
    rw [← okE_head, Bool.and_eq_true, tyB_at (by simp)]
    constructor
    · rintro ⟨h1, h2⟩ i hi
      cases i with
      | zero => rw [show decide (0 + 1 = (x :: y :: t).length) = false by simp]; exact h1
      | succ i =>
        have := h2 i (by simp at hi ⊢; omega)
        rw [show decide (i + 1 + 1 = (x :: y :: t).length) = decide (i + 1 = (y :: t).length) by simp]
        exact this
    · intro h
      refine ⟨?_, fun i hi => ?_⟩
      · have := h 0 (by simp)
        rwa [show decide (0 + 1 = (x :: y :: t).length) = false by simp] at this
      · have := h (i + 1) (by simp at hi ⊢; omega)
        rw [show decide (i + 1 + 1 = (x :: y :: t).length) = decide (i + 1 = (y :: t).length) by simp] at this
        exact this
theorem typeOf_fail {t : List So} (h0 : t ≠ []) {i : Nat} (hi : i < t.length) (h : okE (decide (i + 1 = t.length)) t[i] = false) : typeOf t = ⟨#[]⟩ := by
  unfold typeOf
  split
  · rfl
  · rw [if_neg]
    intro hb
    have := (tyB_at h0).1 hb i hi
    rw [h] at this; cases this
theorem typeOf_pass {t : List So} (h0 : t ≠ []) (h12 : ¬ 12 < t.length) (h : ∀ i (hi : i < t.length), okE (decide (i + 1 = t.length)) t[i] = true) : typeOf t = Tk.bs (sortsL t) ∧ wordsB t = Tk.bs (sortsL t ++ [32]) := by
  have hb := (tyB_at h0).2 h
  refine ⟨?_, words_ty (tyB_iff.1 hb)⟩
  unfold typeOf
  rw [if_neg h12, if_pos hb]
theorem drop_blank (l : List UInt8) : (Tk.bs (l ++ [32])).size = l.length + 1 := by show (l ++ [32]).toArray.size = _; simp
end Pp
namespace Go.Proofs.YtamkkdmbefekmaaGreatDoor
open Go.RowKit
set_option maxRecDepth 100000 in
set_option maxHeartbeats 16000000 in
theorem refType14_any {u w : World} {p : Option Addr} {t : List Ip.So} {c : Nat} (hp : RoSo u (.slice p t.length c) t) (hu : Kp u w) (hn : ∀ x ∈ t, x.name.size ≤ 200) :
    Calls Tryz.prog 27 #[.slice p t.length c] w fun e w' => e = .returned (.string (Pp.typeOf t)) ∧ Below w.heap.size w w' := by
  obtain ⟨_, _, e9, hsl⟩ := ro_len hp
  cases e9
  have HP := Lib.hid hp
  have HU := Lib.hid hu
  by_cases h0 : t.length < 1
  · have i1 : ((t.length : Nat) : Int) < 1 := by omega
    have HT : Hid (Pp.typeOf t = ⟨#[]⟩) := Lib.hid (by
      have : t = [] := List.eq_nil_of_length_eq_zero (by omega)
      subst this; rfl)
    clear hp hu hn h0
    go_enter Tryz.func27, Tryz.ntmps27
    go_wp2_with fail
    go_ret
    exact ⟨by rw [HT.out]; rfl, Below.refl _ _⟩
  have i1 : ¬ ((t.length : Nat) : Int) < 1 := by omega
  by_cases h12 : 12 < t.length
  · have i2 : (12 : Int) < ((t.length : Nat) : Int) := by omega
    have HT : Hid (Pp.typeOf t = ⟨#[]⟩) := Lib.hid (by unfold Pp.typeOf; rw [if_pos h12])
    clear hp hu hn h12
    go_enter Tryz.func27, Tryz.ntmps27
    go_wp2_with fail
    go_ret
    exact ⟨by rw [HT.out]; rfl, Below.refl _ _⟩
  have i2 : ¬ (12 : Int) < ((t.length : Nat) : Int) := by omega
  have hne : t ≠ [] := fun e => by rw [e] at h0; exact h0 (by decide)
  have HF := Lib.hid fun i (hi : i < t.length) h => Pp.typeOf_fail hne hi h
  have HY := Lib.hid fun h => Pp.typeOf_pass hne h12 h
  have HNM := Lib.hid hn
  have HW := Lib.hid fun W (hW : Kp u W) => refWords_any hp hW (by omega) hn
  clear hp hu hn hne
  go_enter Tryz.func27, Tryz.ntmps27
  go_wp2_with fail
  go_loopw [4, 5, 6] (fun kv _ _ wr => ∃ k : Nat, k ≤ t.length ∧ kv = .int .i64 (k : Nat) ∧ wr = w ∧ Hid (∀ i (hi : i < t.length), i < k → Pp.okE (decide (i + 1 = t.length)) t[i] = true)) (fun kv _ _ _ => t.length - (intOf kv).toNat)
  case atStart => exact ⟨0, Nat.zero_le _, rfl, rfl, Lib.hid fun i hi h => absurd h (Nat.not_lt_zero _)⟩
  case round =>
    obtain ⟨k, hk, rfl, rfl, H⟩ := hrel
    by_cases hlt : k < t.length
    · have i3 : (k : Int) < (t.length : Int) := by omega
      have i4 : (0 : Int) ≤ (k : Int) := by omega
      obtain ⟨A, cc, e3, hA, d0, d1, hin⟩ := so_at (HP.out.kp HU.out) hlt
      cases e3
      have HX := Lib.hid (HF.out k hlt)
      have HG : Hid (Pp.okE (decide (k + 1 = t.length)) t[k] = true → ∀ i (hi : i < t.length), i < k + 1 → Pp.okE (decide (i + 1 = t.length)) t[i] = true) := Lib.hid fun h i hi hik => by
        by_cases e : i < k
        · exact H.out i hi e
        · obtain rfl : i = k := by omega
          exact h
      have HNX := Lib.hid (HNM.out _ (List.getElem_mem hlt))
      generalize t[k] = x at *
      obtain ⟨xk, xn⟩ := x
      simp only at d0 d1 HNX
      have QN := Lib.hid fun W => RefName_any xn W (by have := HNX.out; unfold maxLen; omega)
      clear hA hin H
      by_cases hl : k + 1 = t.length
      · have l1 : ¬ ((k : Nat) : Int) < ((t.length : Nat) : Int) - 1 := by omega
        have l2 : (((k : Nat) : Int) == ((t.length : Nat) : Int) - 1) = true := by rw [beq_iff_eq]; omega
        rw [show decide (k + 1 = t.length) = true from decide_eq_true hl] at HX HG
        rcases (by omega : xk = 5 ∨ xk = 6 ∨ xk = 7 ∨ (1 ≤ xk ∧ xk ≤ 4) ∨ xk = 0 ∨ 8 ≤ xk) with hq | hq | hq | hq | hq | hq
        · have c5 : (((xk : Nat) : Int) == 5) = true := by rw [beq_iff_eq]; omega
          have c6 : (((xk : Nat) : Int) == 6) = false := by rw [beq_eq_false_iff_ne]; omega
          have c7 : (((xk : Nat) : Int) == 7) = false := by rw [beq_eq_false_iff_ne]; omega
          have g1 : (1 : Int) ≤ ((xk : Nat) : Int) := by omega
          have g4 : ¬ ((xk : Nat) : Int) ≤ 4 := by omega
          have HO := Lib.hid (show Pp.okE true ⟨xk, xn⟩ = false by unfold Pp.okE; simp <;> omega)
          (try clear hz)
          have HT := Lib.hid (HX.out HO.out)
          go_wp2_with fail
          go_ret
          exact ⟨by rw [HT.out]; rfl, Below.refl _ _⟩
        · have c5 : (((xk : Nat) : Int) == 5) = false := by rw [beq_eq_false_iff_ne]; omega
          have c6 : (((xk : Nat) : Int) == 6) = true := by rw [beq_iff_eq]; omega
          have c7 : (((xk : Nat) : Int) == 7) = false := by rw [beq_eq_false_iff_ne]; omega
          have g1 : (1 : Int) ≤ ((xk : Nat) : Int) := by omega
          have g4 : ¬ ((xk : Nat) : Int) ≤ 4 := by omega
          have HO := Lib.hid (show Pp.okE true ⟨xk, xn⟩ = false by unfold Pp.okE; simp <;> omega)
          (try clear hz)
          have HT := Lib.hid (HX.out HO.out)
          go_wp2_with fail
          go_ret
          exact ⟨by rw [HT.out]; rfl, Below.refl _ _⟩
        · have c5 : (((xk : Nat) : Int) == 5) = false := by rw [beq_eq_false_iff_ne]; omega
          have c6 : (((xk : Nat) : Int) == 6) = false := by rw [beq_eq_false_iff_ne]; omega
          have c7 : (((xk : Nat) : Int) == 7) = true := by rw [beq_iff_eq]; omega
          have g1 : (1 : Int) ≤ ((xk : Nat) : Int) := by omega
          have g4 : ¬ ((xk : Nat) : Int) ≤ 4 := by omega
          cases hb : Tk.name xn with
          | true =>
            have HO := Lib.hid (show Pp.okE true ⟨xk, xn⟩ = true by unfold Pp.okE; simp [hb] <;> omega)
            go_wp2_with fail
            refine (QN.out _).mono ?_
            rintro e w2 ⟨rfl, hw2⟩
            obtain rfl := hw2
            rw [hb]
            go_wp2_with fail
            go_roundw
            case rel => exact ⟨k + 1, by omega, by go_num, (by first | rfl | trivial), Lib.hid (HG.out HO.out)⟩
            case measure => simp [intOf]; omega
          | false =>
            have HO := Lib.hid (show Pp.okE true ⟨xk, xn⟩ = false by unfold Pp.okE; simp [hb] <;> omega)
            (try clear hz)
            have HT := Lib.hid (HX.out HO.out)
            go_wp2_with fail
            refine (QN.out _).mono ?_
            rintro e w2 ⟨rfl, hw2⟩
            obtain rfl := hw2
            rw [hb]
            go_wp2_with fail
            go_ret
            exact ⟨by rw [HT.out]; rfl, Below.refl _ _⟩
        · have c5 : (((xk : Nat) : Int) == 5) = false := by rw [beq_eq_false_iff_ne]; omega
          have c6 : (((xk : Nat) : Int) == 6) = false := by rw [beq_eq_false_iff_ne]; omega
          have c7 : (((xk : Nat) : Int) == 7) = false := by rw [beq_eq_false_iff_ne]; omega
          have g1 : (1 : Int) ≤ ((xk : Nat) : Int) := by omega
          have g4 : ((xk : Nat) : Int) ≤ 4 := by omega
          by_cases hz : xn = ⟨#[]⟩
          · have n0 : xn.toList.isEmpty = true := by rw [hz, Go.Lib.toList_data]; rfl
            have HO := Lib.hid (show Pp.okE true ⟨xk, xn⟩ = true by unfold Pp.okE; simp [hz, Ip.eqB_self] <;> omega)
            clear hz
            go_wp2_with fail
            go_roundw
            case rel => exact ⟨k + 1, by omega, by go_num, (by first | rfl | trivial), Lib.hid (HG.out HO.out)⟩
            case measure => simp [intOf]; omega
          · have n0 : xn.toList.isEmpty = false := by
              rw [Go.Lib.toList_data, List.isEmpty_eq_false_iff]; intro e; exact hz (Ip.eqB_iff.1 (by unfold Ip.eqB; rw [e]; rfl))
            have HO := Lib.hid (show Pp.okE true ⟨xk, xn⟩ = false by unfold Pp.okE; simp [Ip.eqB_no hz] <;> omega)
            (try clear hz)
            have HT := Lib.hid (HX.out HO.out)
            go_wp2_with fail
            go_ret
            exact ⟨by rw [HT.out]; rfl, Below.refl _ _⟩
        · have c5 : (((xk : Nat) : Int) == 5) = false := by rw [beq_eq_false_iff_ne]; omega
          have c6 : (((xk : Nat) : Int) == 6) = false := by rw [beq_eq_false_iff_ne]; omega
          have c7 : (((xk : Nat) : Int) == 7) = false := by rw [beq_eq_false_iff_ne]; omega
          have g1 : ¬ (1 : Int) ≤ ((xk : Nat) : Int) := by omega
          have g4 : ((xk : Nat) : Int) ≤ 4 := by omega
          have HO := Lib.hid (show Pp.okE true ⟨xk, xn⟩ = false by unfold Pp.okE; simp <;> omega)
          (try clear hz)
          have HT := Lib.hid (HX.out HO.out)
          go_wp2_with fail
          go_ret
          exact ⟨by rw [HT.out]; rfl, Below.refl _ _⟩
        · have c5 : (((xk : Nat) : Int) == 5) = false := by rw [beq_eq_false_iff_ne]; omega
          have c6 : (((xk : Nat) : Int) == 6) = false := by rw [beq_eq_false_iff_ne]; omega
          have c7 : (((xk : Nat) : Int) == 7) = false := by rw [beq_eq_false_iff_ne]; omega
          have g1 : (1 : Int) ≤ ((xk : Nat) : Int) := by omega
          have g4 : ¬ ((xk : Nat) : Int) ≤ 4 := by omega
          have HO := Lib.hid (show Pp.okE true ⟨xk, xn⟩ = false by unfold Pp.okE; simp <;> omega)
          (try clear hz)
          have HT := Lib.hid (HX.out HO.out)
          go_wp2_with fail
          go_ret
          exact ⟨by rw [HT.out]; rfl, Below.refl _ _⟩
      have l1 : ((k : Nat) : Int) < ((t.length : Nat) : Int) - 1 := by omega
      have l2 : (((k : Nat) : Int) == ((t.length : Nat) : Int) - 1) = false := by rw [beq_eq_false_iff_ne]; omega
      rw [show decide (k + 1 = t.length) = false from decide_eq_false hl] at HX HG
      rcases (by omega : xk = 5 ∨ xk = 6 ∨ xk = 7 ∨ (1 ≤ xk ∧ xk ≤ 4) ∨ xk = 0 ∨ 8 ≤ xk) with hq | hq | hq | hq | hq | hq
      · have c5 : (((xk : Nat) : Int) == 5) = true := by rw [beq_iff_eq]; omega
        have c6 : (((xk : Nat) : Int) == 6) = false := by rw [beq_eq_false_iff_ne]; omega
        have c7 : (((xk : Nat) : Int) == 7) = false := by rw [beq_eq_false_iff_ne]; omega
        have g1 : (1 : Int) ≤ ((xk : Nat) : Int) := by omega
        have g4 : ¬ ((xk : Nat) : Int) ≤ 4 := by omega
        by_cases hz : xn = ⟨#[]⟩
        · have n0 : xn.toList.isEmpty = true := by rw [hz, Go.Lib.toList_data]; rfl
          have HO := Lib.hid (show Pp.okE false ⟨xk, xn⟩ = true by unfold Pp.okE; simp [hz, Ip.eqB_self] <;> omega)
          clear hz
          go_wp2_with fail
          go_roundw
          case rel => exact ⟨k + 1, by omega, by go_num, (by first | rfl | trivial), Lib.hid (HG.out HO.out)⟩
          case measure => simp [intOf]; omega
        · have n0 : xn.toList.isEmpty = false := by
            rw [Go.Lib.toList_data, List.isEmpty_eq_false_iff]; intro e; exact hz (Ip.eqB_iff.1 (by unfold Ip.eqB; rw [e]; rfl))
          have HO := Lib.hid (show Pp.okE false ⟨xk, xn⟩ = false by unfold Pp.okE; simp [Ip.eqB_no hz] <;> omega)
          (try clear hz)
          have HT := Lib.hid (HX.out HO.out)
          go_wp2_with fail
          go_ret
          exact ⟨by rw [HT.out]; rfl, Below.refl _ _⟩
      · have c5 : (((xk : Nat) : Int) == 5) = false := by rw [beq_eq_false_iff_ne]; omega
        have c6 : (((xk : Nat) : Int) == 6) = true := by rw [beq_iff_eq]; omega
        have c7 : (((xk : Nat) : Int) == 7) = false := by rw [beq_eq_false_iff_ne]; omega
        have g1 : (1 : Int) ≤ ((xk : Nat) : Int) := by omega
        have g4 : ¬ ((xk : Nat) : Int) ≤ 4 := by omega
        by_cases hz : xn = ⟨#[]⟩
        · have n0 : xn.toList.isEmpty = true := by rw [hz, Go.Lib.toList_data]; rfl
          have HO := Lib.hid (show Pp.okE false ⟨xk, xn⟩ = true by unfold Pp.okE; simp [hz, Ip.eqB_self] <;> omega)
          clear hz
          go_wp2_with fail
          go_roundw
          case rel => exact ⟨k + 1, by omega, by go_num, (by first | rfl | trivial), Lib.hid (HG.out HO.out)⟩
          case measure => simp [intOf]; omega
        · have n0 : xn.toList.isEmpty = false := by
            rw [Go.Lib.toList_data, List.isEmpty_eq_false_iff]; intro e; exact hz (Ip.eqB_iff.1 (by unfold Ip.eqB; rw [e]; rfl))
          have HO := Lib.hid (show Pp.okE false ⟨xk, xn⟩ = false by unfold Pp.okE; simp [Ip.eqB_no hz] <;> omega)
          (try clear hz)
          have HT := Lib.hid (HX.out HO.out)
          go_wp2_with fail
          go_ret
          exact ⟨by rw [HT.out]; rfl, Below.refl _ _⟩
      · have c5 : (((xk : Nat) : Int) == 5) = false := by rw [beq_eq_false_iff_ne]; omega
        have c6 : (((xk : Nat) : Int) == 6) = false := by rw [beq_eq_false_iff_ne]; omega
        have c7 : (((xk : Nat) : Int) == 7) = true := by rw [beq_iff_eq]; omega
        have g1 : (1 : Int) ≤ ((xk : Nat) : Int) := by omega
        have g4 : ¬ ((xk : Nat) : Int) ≤ 4 := by omega
        have HO := Lib.hid (show Pp.okE false ⟨xk, xn⟩ = false by unfold Pp.okE; simp <;> omega)
        (try clear hz)
        have HT := Lib.hid (HX.out HO.out)
        go_wp2_with fail
        go_ret
        exact ⟨by rw [HT.out]; rfl, Below.refl _ _⟩
      · have c5 : (((xk : Nat) : Int) == 5) = false := by rw [beq_eq_false_iff_ne]; omega
        have c6 : (((xk : Nat) : Int) == 6) = false := by rw [beq_eq_false_iff_ne]; omega
        have c7 : (((xk : Nat) : Int) == 7) = false := by rw [beq_eq_false_iff_ne]; omega
        have g1 : (1 : Int) ≤ ((xk : Nat) : Int) := by omega
        have g4 : ((xk : Nat) : Int) ≤ 4 := by omega
        have HO := Lib.hid (show Pp.okE false ⟨xk, xn⟩ = false by unfold Pp.okE; simp <;> omega)
        (try clear hz)
        have HT := Lib.hid (HX.out HO.out)
        go_wp2_with fail
        go_ret
        exact ⟨by rw [HT.out]; rfl, Below.refl _ _⟩
      · have c5 : (((xk : Nat) : Int) == 5) = false := by rw [beq_eq_false_iff_ne]; omega
        have c6 : (((xk : Nat) : Int) == 6) = false := by rw [beq_eq_false_iff_ne]; omega
        have c7 : (((xk : Nat) : Int) == 7) = false := by rw [beq_eq_false_iff_ne]; omega
        have g1 : ¬ (1 : Int) ≤ ((xk : Nat) : Int) := by omega
        have g4 : ((xk : Nat) : Int) ≤ 4 := by omega
        have HO := Lib.hid (show Pp.okE false ⟨xk, xn⟩ = false by unfold Pp.okE; simp <;> omega)
        (try clear hz)
        have HT := Lib.hid (HX.out HO.out)
        go_wp2_with fail
        go_ret
        exact ⟨by rw [HT.out]; rfl, Below.refl _ _⟩
      · have c5 : (((xk : Nat) : Int) == 5) = false := by rw [beq_eq_false_iff_ne]; omega
        have c6 : (((xk : Nat) : Int) == 6) = false := by rw [beq_eq_false_iff_ne]; omega
        have c7 : (((xk : Nat) : Int) == 7) = false := by rw [beq_eq_false_iff_ne]; omega
        have g1 : (1 : Int) ≤ ((xk : Nat) : Int) := by omega
        have g4 : ¬ ((xk : Nat) : Int) ≤ 4 := by omega
        have HO := Lib.hid (show Pp.okE false ⟨xk, xn⟩ = false by unfold Pp.okE; simp <;> omega)
        (try clear hz)
        have HT := Lib.hid (HX.out HO.out)
        go_wp2_with fail
        go_ret
        exact ⟨by rw [HT.out]; rfl, Below.refl _ _⟩
    · obtain rfl : k = t.length := by omega
      have i3 : ¬ (t.length : Int) < (t.length : Int) := by omega
      obtain ⟨hy1, hy2⟩ := HY.out fun i hi => H.out i hi hi
      have HY1 := Lib.hid hy1
      clear hy1
      go_wp2_with fail
      refine (HW.out _ HU.out).mono ?_
      rw [hy2]
      rintro e w2 ⟨rfl, hb2⟩
      have HB2 := Lib.hid hb2
      have hsz := Pp.drop_blank (Pp.sortsL t)
      have HZ : Hid ((Tk.bs (Pp.sortsL t ++ [32])).extract 0 (Pp.sortsL t).length = Tk.bs (Pp.sortsL t)) := Lib.hid (by rw [ext_bs, Tk.bs_data, List.take_left])
      have hlm : (Pp.sortsL t).length ≤ 65536 := by
        have h1 := Pp.puts_len (t.flatMap Pp.soT) []
        have h2 := Pp.sortsL_cost HNM.out
        have h3 : t.length * 201 ≤ 12 * 201 := Nat.mul_le_mul_right _ (by omega)
        unfold Pp.sortsL
        simp only [List.length_nil] at h1
        omega
      clear hb2 hy2
      generalize Tk.bs (Pp.sortsL t ++ [32]) = tb at *
      generalize Pp.sortsL t = L at *
      generalize L.length = n at *
      have i7 : ((tb.size : Nat) : Int) - 1 = ((n : Nat) : Int) := by omega
      have i8 : ((n : Nat) : Int) ≤ ((tb.size : Nat) : Int) := by omega
      have i9 : ((n : Nat) : Int) ≤ 65536 := by omega
      go_wp2_with fail
      go_ret
      exact ⟨by rw [HY1.out, ← HZ.out]; rfl, HB2.out⟩
set_option maxRecDepth 100000 in
/-- Sorts that are handed in. -/
theorem open_sorts {H : Type} {enc : TypeId × Value → H} {W : World} {v : Value} {base : Nat} {d : DataW H} {ps : List MemPlace} (hval : Value.okWide Tryz.prog W .any base 50 v) (h : DataW.Trod enc Tryz.prog W 0 (fun _ => true) true 50 v d ps) : ∃ t, RoSo W v t := by
  obtain ⟨fuel, hf⟩ := h
  obtain ⟨p, n, c, rfl⟩ := Go.WideShapes.okWide_slice Tryz.underlying50 hval
  exact open_rows (K := kSo) (inn := SoIn) (sub := fun _ _ _ => True) Tryz.underlying50 (by kernel_rfl) (by decide) (fun _ _ => rfl) (fun _ _ _ h => open_so h) hf
set_option maxRecDepth 100000 in
set_option maxHeartbeats 16000000 in
theorem printsTypes_any {w : World} {v : Value} {t : List Ip.So} (hp : RoSo w v t) (hk : KwIs w) : Calls Tryz.prog 7 #[v] w fun e w' => e = .returned (.bool true) ∧ Below w.heap.size w w' := by
  obtain ⟨p, c, rfl, hsl⟩ := ro_len hp
  have HWK : Hid (∀ W, Below w.heap.size w W → Calls Tryz.prog 21 #[] W fun e w' => e = .returned (.bool true) ∧ Below W.heap.size W w') := Lib.hid fun W hW => wakes14_any W (kw_kp hk (Kp.of_below hW))
  have HP := Lib.hid hp
  have HK := Lib.hid hk
  clear hp hk
  by_cases h300 : 300 < t.length
  · have i1 : (300 : Int) < ((t.length : Nat) : Int) := by omega
    clear h300
    go_enter Tryz.func7, Tryz.ntmps7
    go_wp2_with fail
    refine (HWK.out _ (Below.refl _ _)).mono ?_
    rintro e w2 ⟨rfl, hb2⟩
    go_wp2_with fail
    go_ret
    exact ⟨rfl, hb2⟩
  have i1 : ¬ (300 : Int) < ((t.length : Nat) : Int) := by omega
  go_enter Tryz.func7, Tryz.ntmps7
  go_wp2_with fail
  go_loopw [3] (fun kv wr => ∃ k : Nat, k ≤ t.length ∧ kv = .int .i64 (k : Nat) ∧ wr = w ∧ Hid (∀ i (hi : i < t.length), i < k → t[i].name.size ≤ 200)) (fun kv _ => t.length - (intOf kv).toNat)
  case atStart => exact ⟨0, Nat.zero_le _, rfl, rfl, Lib.hid fun i hi h => absurd h (Nat.not_lt_zero _)⟩
  case round =>
    obtain ⟨k, hk, rfl, rfl, H⟩ := hrel
    by_cases hlt : k < t.length
    · have i3 : (k : Int) < (t.length : Int) := by omega
      have i4 : (0 : Int) ≤ (k : Int) := by omega
      obtain ⟨A, cc, e3, hA, d0, d1, hin⟩ := so_at HP.out hlt
      cases e3
      have HG : Hid (t[k].name.size ≤ 200 → ∀ i (hi : i < t.length), i < k + 1 → t[i].name.size ≤ 200) := Lib.hid fun h i hi hik => by
        by_cases e : i < k
        · exact H.out i hi e
        · obtain rfl : i = k := by omega
          exact h
      generalize t[k] = x at *
      clear hA hin H d0
      by_cases hz : 200 < x.name.size
      · have i5 : (200 : Int) < ((x.name.size : Nat) : Int) := by omega
        clear hz
        go_wp2_with fail
        refine (HWK.out _ (Below.refl _ _)).mono ?_
        rintro e w2 ⟨rfl, hb2⟩
        go_wp2_with fail
        go_ret
        exact ⟨rfl, hb2⟩
      · have i5 : ¬ (200 : Int) < ((x.name.size : Nat) : Int) := by omega
        have HO := Lib.hid (HG.out (by omega))
        clear hz
        go_wp2_with fail
        go_roundw
        case rel => exact ⟨k + 1, by omega, by go_num, (by first | rfl | trivial), HO⟩
        case measure => simp [intOf]; omega
    · obtain rfl : k = t.length := by omega
      have i3 : ¬ (t.length : Int) < (t.length : Int) := by omega
      have HN : Hid (∀ x ∈ t, x.name.size ≤ 200) := Lib.hid fun x hx => by
        obtain ⟨i, hi, rfl⟩ := List.getElem_of_mem hx
        exact H.out i hi hi
      go_wp2_with fail
      refine (prType_any HP.out (Kp.refl _) HK.out HN.out).mono ?_
      rintro e w2 ⟨rfl, hb2⟩
      have HB2 := Lib.hid hb2
      clear hb2
      go_wp2_with fail
      refine (refType14_any HP.out (Kp.of_below HB2.out) HN.out).mono ?_
      rintro e w3 ⟨rfl, hb3⟩
      have HB3 := Lib.hid (HB2.out.trans (hb3.mono HB2.out.size))
      clear hb3
      go_wp2_with fail
      refine (HWK.out _ HB3.out).mono ?_
      rintro e w4 ⟨rfl, hb4⟩
      have HB4 := Lib.hid (HB3.out.trans (hb4.mono HB3.out.size))
      clear hb4
      go_wp2_with fail
      go_ret
      exact ⟨rfl, HB4.out⟩
end Go.Proofs.YtamkkdmbefekmaaGreatDoor
