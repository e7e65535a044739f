/-
  Walks over the laws of package value: a value as the only part of a list, and of an opt. Conditions: those in the theorems (the keywords' variable holds what the row lists).
-/
import Derived.Test.YtnkdhmoocomjfaaGreatDoorVaWakes
import Derived.Test.YtnkdhmoocomjfaaGreatDoorVaGreat
set_option linter.unusedSimpArgs false
set_option linter.unusedVariables false
namespace Vl
open Ip
theorem right_cons {s : Sch} {k : Nat} (hk : k = 5 ∨ k = 6) {t : List So} (hl : t.length ≤ 11) : Ck.right s (⟨k, ⟨#[]⟩⟩ :: t) = Ck.right s t := by
  cases t with
  | nil => rcases hk with rfl | rfl <;> rfl
  | cons y l =>
    have h1 : Ck.heads (⟨k, ⟨#[]⟩⟩ :: y :: l) = Ck.heads (y :: l) := by
      unfold Ck.heads
      have h0 : ((decide (k = 5) || decide (k = 6)) && Ck.empty ⟨#[]⟩) = true := by rcases hk with rfl | rfl <;> rfl
      rw [List.dropLast_cons_cons, List.all_cons]
      simp only [h0, Bool.true_and]
    have h2 : Ck.lastOk s (⟨k, ⟨#[]⟩⟩ :: y :: l) = Ck.lastOk s (y :: l) := by unfold Ck.lastOk; rw [List.getLast?_cons_cons]
    unfold Ck.right
    rw [h1, h2]
    simp only [List.length_cons] at hl ⊢
    rw [show decide (1 ≤ l.length + 1 + 1) = true from decide_eq_true (by omega), show decide (l.length + 1 + 1 ≤ 12) = true from decide_eq_true (by omega), show decide (1 ≤ l.length + 1) = true from decide_eq_true (by omega), show decide (l.length + 1 ≤ 12) = true from decide_eq_true (by omega)]
theorem right_long {s : Sch} {t : List So} (hl : 12 < t.length) : Ck.right s t = false := by
  unfold Ck.right
  rw [show decide (t.length ≤ 12) = false from decide_eq_false (by omega)]
  simp
theorem kids_wrap {s : Sch} {k : Nat} (hk : k = 5 ∨ k = 6) (t : List So) : kidsOf s (⟨k, ⟨#[]⟩⟩ :: t) ⟨k, 0, ⟨#[]⟩, 1⟩ = some [t] := by
  rcases hk with rfl | rfl <;> rfl
theorem of_wrap {s : Sch} {k : Nat} (hk : k = 5 ∨ k = 6) (t : List So) (v : List Nd) : of s (⟨k, ⟨#[]⟩⟩ :: t) (⟨k, 0, ⟨#[]⟩, 1⟩ :: v) = (of s t v).map fun q => (q.1, q.2 + 1) := of_cons (kids_wrap hk t)
theorem size_wrap (k : Nat) (v : List Nd) : size (⟨k, 0, ⟨#[]⟩, 1⟩ :: v) = size v + 1 := by
  unfold size
  rw [List.map_cons, List.sum_cons]
  show 1 + 0 + _ = _
  omega
theorem types_ne {s : Sch} {t : List So} (h : Ck.right s t = false) : types s t ≠ 0 := by
  unfold types
  by_cases hc : (Ck.check s).2 = 0
  · rw [if_pos hc, h]; decide
  · rw [if_neg hc]; exact hc
/-- What Fits tells of a value, and of the same in a list or an opt. -/
theorem wrap_cases (s : Sch) {k : Nat} (hk : k = 5 ∨ k = 6) (t : List So) (v : List Nd) : (12 < 1 + t.length → fits s (⟨k, ⟨#[]⟩⟩ :: t) (⟨k, 0, ⟨#[]⟩, 1⟩ :: v) ≠ 0) ∧ (¬ 12 < 1 + t.length →
    (fits s t v = 0 ∧ (fits s (⟨k, ⟨#[]⟩⟩ :: t) (⟨k, 0, ⟨#[]⟩, 1⟩ :: v) = 0 ∨ fits s (⟨k, ⟨#[]⟩⟩ :: t) (⟨k, 0, ⟨#[]⟩, 1⟩ :: v) = 151 ∨ fits s (⟨k, ⟨#[]⟩⟩ :: t) (⟨k, 0, ⟨#[]⟩, 1⟩ :: v) = 3)) ∨
    (fits s t v ≠ 0 ∧ (fits s (⟨k, ⟨#[]⟩⟩ :: t) (⟨k, 0, ⟨#[]⟩, 1⟩ :: v) = fits s t v ∨ (fits s t v = 3 ∧ fits s (⟨k, ⟨#[]⟩⟩ :: t) (⟨k, 0, ⟨#[]⟩, 1⟩ :: v) = 151)))) := by
  constructor
  · intro h
    have h1 : types s (⟨k, ⟨#[]⟩⟩ :: t) ≠ 0 := types_ne (right_long (by rw [List.length_cons]; omega))
    unfold fits
    rw [if_neg h1]; exact h1
  · intro h
    have ht : types s (⟨k, ⟨#[]⟩⟩ :: t) = types s t := by unfold types; rw [right_cons hk (by omega)]
    unfold fits
    rw [ht]
    by_cases hz : types s t = 0
    · rw [if_pos hz, if_pos hz]
      unfold fit
      rw [of_wrap hk, size_wrap]
      cases of s t v with
      | none => exact .inr ⟨by simp, .inl rfl⟩
      | some q =>
        obtain ⟨r, d⟩ := q
        cases r with
        | cons a r => exact .inr ⟨by simp, .inl rfl⟩
        | nil =>
          simp only [Option.map_some]
          by_cases h1 : 12 < d
          · rw [if_pos h1, if_pos (by omega : 12 < d + 1)]
            exact .inr ⟨by decide, .inl rfl⟩
          · rw [if_neg h1]
            by_cases h2 : 4096 < size v
            · rw [if_pos h2]
              by_cases h3 : 12 < d + 1
              · rw [if_pos h3]; exact .inr ⟨by decide, .inr ⟨rfl, rfl⟩⟩
              · rw [if_neg h3, if_pos (by omega : 4096 < size v + 1)]; exact .inr ⟨by decide, .inl rfl⟩
            · rw [if_neg h2]
              refine .inl ⟨rfl, ?_⟩
              by_cases h3 : 12 < d + 1
              · rw [if_pos h3]; exact .inr (.inl rfl)
              · rw [if_neg h3]
                by_cases h4 : 4096 < size v + 1
                · rw [if_pos h4]; exact .inr (.inr rfl)
                · rw [if_neg h4]; exact .inl rfl
    · rw [if_neg hz, if_neg hz]
      exact .inr ⟨hz, .inl rfl⟩
end Vl
namespace Go.Proofs.YtnkdhmoocomjfaaGreatDoor
open Go.RowKit
set_option maxRecDepth 100000 in
set_option maxHeartbeats 16000000 in
theorem valueWraps_any {w : World} {sv tv vv : Value} {s : Ip.Sch} {t : List Ip.So} {v : List Vl.Nd} (h : RoSch w sv s) (ht : RoSo w tv t) (hv : RoNd w vv v) (hk : KwIs w) : Calls Tryz.prog 12 #[sv, tv, vv] w fun e w' => e = .returned (.bool true) ∧ Below w.heap.size w w' := by
  obtain ⟨p1, c1, p2, c2, p3, c3, rfl, -, -, -, -, l1, l2, l3⟩ := sch_parts h
  obtain ⟨pt, ct, rfl, -, -⟩ := RoIs.shape ht
  obtain ⟨pv, cv, rfl, -, -⟩ := RoIs.shape hv
  obtain ⟨W0, hW0⟩ : ∃ W0, W0 = allocs w [schO s p1 c1 p2 c2 p3 c3] := ⟨_, rfl⟩
  have HX : Hid (∀ V, Below W0.heap.size W0 V → V.heap[w.heap.size]? = some (schO s p1 c1 p2 c2 p3 c3) ∧ Below w.heap.size w V) := Lib.hid (by subst hW0; exact fun V hV => ⟨allocs_box (i := 0) rfl hV, allocs_on hV⟩)
  obtain ⟨b0, B0⟩ := HX.out W0 (Below.refl _ _)
  obtain ⟨x0, x1, x2, x3⟩ := cells4' b0
  have HGR := Lib.hid (Great15_any h ht hv (Kp.of_below B0))
  have HWK : Hid (∀ W, Below w.heap.size w W → Calls Tryz.prog 27 #[] W fun e w' => e = .returned (.bool true) ∧ Below W.heap.size W w') := Lib.hid fun W hW => wakes15_any W (kw_kp hk (Kp.of_below hW))
  have H := Lib.hid h
  have HT := Lib.hid ht
  have HV := Lib.hid hv
  have HK := Lib.hid hk
  clear h ht hv hk b0 B0 l1 l2 l3
  simp only [allocs, schO] at hW0
  go_enter Tryz.func12, Tryz.ntmps12
  go_upto_region 1 with fail
  rw [← hW0]
  clear hW0
  go_wp2_with fail
  refine Calls.mono HGR.out ?_
  rintro e w1 ⟨gb, rfl, hsm, hb1⟩
  have HB1 := Lib.hid hb1
  clear hb1 x0 x1 x2 x3
  cases gb with
  | true =>
    clear hsm
    go_wp2_with fail
    refine Calls.mono (HWK.out _ (HX.out _ HB1.out).2) ?_
    rintro e w2 ⟨rfl, hb2⟩
    have HB2 := Lib.hid ((HX.out _ HB1.out).2.trans (hb2.mono (HX.out _ HB1.out).2.size))
    clear hb2
    go_wp2_with fail
    go_ret
    exact ⟨rfl, HB2.out⟩
  | false =>
  have HSM := Lib.hid (hsm rfl)
  clear hsm
  obtain ⟨x0, x1, x2, x3⟩ := cells4' (HX.out _ HB1.out).1
  go_wp2_with fail
  refine Calls.mono (Fits_any H.out HT.out HV.out (Kp.of_below (HX.out _ HB1.out).2) HK.out HSM.out.1 (by have := HSM.out.2.2.1; omega) (fun n hn => by have := HSM.out.2.2.2.2 n hn; omega)) ?_
  rintro e w2 ⟨rfl, hb2⟩
  have HB2 := Lib.hid (HB1.out.trans (hb2.mono HB1.out.size))
  have HW5 := Lib.hid (Vl.wrap_cases s (.inl rfl : (5 : Nat) = 5 ∨ 5 = 6) t v)
  have HW6 := Lib.hid (Vl.wrap_cases s (.inr rfl : (6 : Nat) = 5 ∨ 6 = 6) t v)
  have HF : Hid (∀ (k : Nat), k < 256 → ∀ V uv wv, Below W0.heap.size W0 V → RoSo V uv (⟨k, ⟨#[]⟩⟩ :: t) → RoNd V wv (⟨k, 0, ⟨#[]⟩, 1⟩ :: v) → Calls Tryz.prog 28 #[.agg #[.string s.name, .slice p1 s.records.length c1, .slice p2 s.services.length c2, .slice p3 s.sagas.length c3], uv, wv] V fun e w' => e = .returned (.int .i64 (Vl.fits s (⟨k, ⟨#[]⟩⟩ :: t) (⟨k, 0, ⟨#[]⟩, 1⟩ :: v) : Nat)) ∧ Below V.heap.size V w') := Lib.hid fun k hk V uv wv hV hu hw => Fits_any (H.out.kp (Kp.of_below (HX.out _ hV).2)) hu hw (Kp.refl V) (kw_kp HK.out (Kp.of_below (HX.out _ hV).2)) HSM.out.1 (by have := HSM.out.2.2.1; rw [List.length_cons]; omega) (fun n hn => by
    rcases List.mem_cons.1 hn with rfl | hn
    · show 0 ≤ _; omega
    · have := HSM.out.2.2.2.2 n hn; omega)
  have HTL : Hid (t.length ≤ 300) := Lib.hid HSM.out.2.1
  have HVL : Hid (v.length ≤ 6000) := Lib.hid HSM.out.2.2.1
  clear hb2 x0 x1 x2 x3
  generalize hg0 : Vl.fits s t v = ft at *
  generalize hg5 : Vl.fits s (⟨5, ⟨#[]⟩⟩ :: t) (⟨5, 0, ⟨#[]⟩, 1⟩ :: v) = f5 at *
  generalize hg6 : Vl.fits s (⟨6, ⟨#[]⟩⟩ :: t) (⟨6, 0, ⟨#[]⟩, 1⟩ :: v) = f6 at *
  have HG5 := Lib.hid hg5
  have HG6 := Lib.hid hg6
  clear hg0 hg5 hg6
  go_wp2_with fail
  go_loopw [8] (fun kv wr => (kv = .int .i64 0 ∨ kv = .int .i64 1 ∨ kv = .int .i64 2) ∧ Hid (Below W0.heap.size W0 wr)) (fun kv _ => 2 - (intOf kv).toNat)
  case atStart => exact ⟨.inl rfl, HB2⟩
  case round =>
  obtain ⟨hkv, HR⟩ := hrel
  rcases hkv with rfl | rfl | rfl
  · have HRT : Hid (RoSo wr (.slice pt t.length ct) t) := Lib.hid (HT.out.kp (Kp.of_below (HX.out _ HR.out).2))
    obtain ⟨pu, cu, V1, hrun1, hu1, hv1⟩ := lit_append okSo (fun _ _ _ => rfl) (w := wr) (inn := SoIn) (sub := fun _ _ _ => True) (fun _ _ _ => trivial) (fun _ _ _ => trivial) (⟨5, ⟨#[]⟩⟩ : Ip.So) (.bool false) ⟨by show (5 : Nat) < 256; decide, by show 0 ≤ maxLen; exact Nat.zero_le _⟩ (fun y hy => HRT.out.inAll y hy) HRT.out (by have := HTL.out; omega) 37
    have hr1 : (Builtin.append_ #[37, 37] 37 #[.slice (some ⟨wr.heap.size, 0, none⟩) 1 1, .slice pt t.length ct]).run Tryz.prog (wr.alloc (.cells #[.int .u8 5, .string ⟨#[]⟩] 41)) = .ok (.slice pu (1 + t.length) cu) V1 := hrun1
    have HR1 := Lib.hid (HR.out.trans (hv1.mono HR.out.size))
    have HU1 := Lib.hid hu1
    have HRV : Hid (RoNd V1 (.slice pv v.length cv) v) := Lib.hid (HV.out.kp (Kp.of_below (HX.out _ HR1.out).2))
    obtain ⟨pw, cw, V2, hrun2, hu2, hv2⟩ := lit_append okNd (fun _ _ _ => rfl) (w := V1) (inn := NdIn) (sub := fun _ _ _ => True) (fun _ _ _ => trivial) (fun _ _ _ => trivial) (⟨5, 0, ⟨#[]⟩, 1⟩ : Vl.Nd) (.bool false) ⟨by show (5 : Nat) < 256; decide, by unfold I64; decide, by show 0 ≤ maxLen; exact Nat.zero_le _, by unfold I64; decide⟩ (fun y hy => HRV.out.inAll y hy) HRV.out (by have := HVL.out; omega) 54
    have hr2 : (Builtin.append_ #[54, 54] 54 #[.slice (some ⟨V1.heap.size, 0, none⟩) 1 1, .slice pv v.length cv]).run Tryz.prog (V1.alloc (.cells #[.int .u8 5, .int .i64 0, .string ⟨#[]⟩, .int .i64 1] 71)) = .ok (.slice pw (1 + v.length) cw) V2 := hrun2
    have HR2 := Lib.hid (HR1.out.trans (hv2.mono HR1.out.size))
    have HU2 := Lib.hid (HU1.out.below (fun _ _ _ => trivial) hv2)
    have HQ2 := Lib.hid hu2
    have HFF := Lib.hid (HF.out 5 (by decide) V2 _ _ HR2.out HU2.out HQ2.out)
    rw [HG5.out] at HFF
    obtain ⟨x0, x1, x2, x3⟩ := cells4' (HX.out _ HR2.out).1
    clear hrun1 hrun2 hu1 hu2 hv1 hv2
    go_wp2_with (first | (at_builtin; refine Lib.wpList_append_run _ rfl (.tmp 29) (.tmp 30) _ _ rfl _ _ rfl rfl _ _ hr1 ?_) | (at_builtin; refine Lib.wpList_append_run _ rfl (.tmp 36) (.tmp 37) _ _ rfl _ _ rfl rfl _ _ hr2 ?_))
    refine Calls.mono HFF.out ?_
    rintro e w6 ⟨rfl, hb6⟩
    have HR6 := Lib.hid (HR2.out.trans (hb6.mono HR2.out.size))
    clear hb6 x0 x1 x2 x3 hr1 hr2
    by_cases hl : 12 < 1 + t.length
    · have hf := HW5.out.1 hl
      have i1 : (12 : Int) < ((1 + t.length : Nat) : Int) := by omega
      have i1' : (12 : Int) < 1 + (t.length : Int) := by omega
      have i2 : ((f5 : Int) == 0) = false := by rw [beq_eq_false_iff_ne]; omega
      clear hl hf
      go_wp2_with fail
      go_roundw
      case rel => exact ⟨.inr (.inl rfl), HR6⟩
      case measure => simp [intOf]
    · have i1 : ¬ (12 : Int) < ((1 + t.length : Nat) : Int) := by omega
      have i1' : ¬ (12 : Int) < 1 + (t.length : Int) := by omega
      rcases HW5.out.2 hl with ⟨he, hf | hf | hf⟩ | ⟨he, hf | ⟨he3, hf⟩⟩
      · have j1 : ((ft : Int) == 0) = true := by simp [he]
        have j2 : ((f5 : Int) != 0) = false := by simp [hf]
        have j3 : ((ft : Int) != 0) = false := by simp [he]
        clear hl he hf
        go_wp2_with fail
        go_roundw
        case rel => exact ⟨.inr (.inl rfl), HR6⟩
        case measure => simp [intOf]
      · have j1 : ((ft : Int) == 0) = true := by simp [he]
        have j2 : ((f5 : Int) != 0) = true := by simp [hf]
        have j3 : ((f5 : Int) != 151) = false := by simp [hf]
        have j4 : ((ft : Int) != 0) = false := by simp [he]
        clear hl he hf
        go_wp2_with fail
        go_roundw
        case rel => exact ⟨.inr (.inl rfl), HR6⟩
        case measure => simp [intOf]
      · have j1 : ((ft : Int) == 0) = true := by simp [he]
        have j2 : ((f5 : Int) != 0) = true := by simp [hf]
        have j3 : ((f5 : Int) != 151) = true := by simp [hf]
        have j5 : ((f5 : Int) != 3) = false := by simp [hf]
        have j4 : ((ft : Int) != 0) = false := by simp [he]
        clear hl he hf
        go_wp2_with fail
        go_roundw
        case rel => exact ⟨.inr (.inl rfl), HR6⟩
        case measure => simp [intOf]
      · have j1 : ((ft : Int) == 0) = false := by rw [beq_eq_false_iff_ne]; omega
        have j4 : ((ft : Int) != 0) = true := by rw [bne_iff_ne]; omega
        have j5 : ((f5 : Int) != (ft : Int)) = false := by simp [hf]
        clear hl he hf
        go_wp2_with fail
        go_roundw
        case rel => exact ⟨.inr (.inl rfl), HR6⟩
        case measure => simp [intOf]
      · have j1 : ((ft : Int) == 0) = false := by simp [he3]
        have j4 : ((ft : Int) != 0) = true := by simp [he3]
        have j5 : ((f5 : Int) != (ft : Int)) = true := by simp [hf, he3]
        have j6 : ((ft : Int) == 3) = true := by simp [he3]
        have j7 : ((f5 : Int) == 151) = true := by simp [hf]
        clear hl he hf he3
        go_wp2_with fail
        go_roundw
        case rel => exact ⟨.inr (.inl rfl), HR6⟩
        case measure => simp [intOf]
  · have HRT : Hid (RoSo wr (.slice pt t.length ct) t) := Lib.hid (HT.out.kp (Kp.of_below (HX.out _ HR.out).2))
    obtain ⟨pu, cu, V1, hrun1, hu1, hv1⟩ := lit_append okSo (fun _ _ _ => rfl) (w := wr) (inn := SoIn) (sub := fun _ _ _ => True) (fun _ _ _ => trivial) (fun _ _ _ => trivial) (⟨6, ⟨#[]⟩⟩ : Ip.So) (.bool false) ⟨by show (6 : Nat) < 256; decide, by show 0 ≤ maxLen; exact Nat.zero_le _⟩ (fun y hy => HRT.out.inAll y hy) HRT.out (by have := HTL.out; omega) 37
    have hr1 : (Builtin.append_ #[37, 37] 37 #[.slice (some ⟨wr.heap.size, 0, none⟩) 1 1, .slice pt t.length ct]).run Tryz.prog (wr.alloc (.cells #[.int .u8 6, .string ⟨#[]⟩] 41)) = .ok (.slice pu (1 + t.length) cu) V1 := hrun1
    have HR1 := Lib.hid (HR.out.trans (hv1.mono HR.out.size))
    have HU1 := Lib.hid hu1
    have HRV : Hid (RoNd V1 (.slice pv v.length cv) v) := Lib.hid (HV.out.kp (Kp.of_below (HX.out _ HR1.out).2))
    obtain ⟨pw, cw, V2, hrun2, hu2, hv2⟩ := lit_append okNd (fun _ _ _ => rfl) (w := V1) (inn := NdIn) (sub := fun _ _ _ => True) (fun _ _ _ => trivial) (fun _ _ _ => trivial) (⟨6, 0, ⟨#[]⟩, 1⟩ : Vl.Nd) (.bool false) ⟨by show (6 : Nat) < 256; decide, by unfold I64; decide, by show 0 ≤ maxLen; exact Nat.zero_le _, by unfold I64; decide⟩ (fun y hy => HRV.out.inAll y hy) HRV.out (by have := HVL.out; omega) 54
    have hr2 : (Builtin.append_ #[54, 54] 54 #[.slice (some ⟨V1.heap.size, 0, none⟩) 1 1, .slice pv v.length cv]).run Tryz.prog (V1.alloc (.cells #[.int .u8 6, .int .i64 0, .string ⟨#[]⟩, .int .i64 1] 71)) = .ok (.slice pw (1 + v.length) cw) V2 := hrun2
    have HR2 := Lib.hid (HR1.out.trans (hv2.mono HR1.out.size))
    have HU2 := Lib.hid (HU1.out.below (fun _ _ _ => trivial) hv2)
    have HQ2 := Lib.hid hu2
    have HFF := Lib.hid (HF.out 6 (by decide) V2 _ _ HR2.out HU2.out HQ2.out)
    rw [HG6.out] at HFF
    obtain ⟨x0, x1, x2, x3⟩ := cells4' (HX.out _ HR2.out).1
    clear hrun1 hrun2 hu1 hu2 hv1 hv2
    go_wp2_with (first | (at_builtin; refine Lib.wpList_append_run _ rfl (.tmp 29) (.tmp 30) _ _ rfl _ _ rfl rfl _ _ hr1 ?_) | (at_builtin; refine Lib.wpList_append_run _ rfl (.tmp 36) (.tmp 37) _ _ rfl _ _ rfl rfl _ _ hr2 ?_))
    refine Calls.mono HFF.out ?_
    rintro e w6 ⟨rfl, hb6⟩
    have HR6 := Lib.hid (HR2.out.trans (hb6.mono HR2.out.size))
    clear hb6 x0 x1 x2 x3 hr1 hr2
    by_cases hl : 12 < 1 + t.length
    · have hf := HW6.out.1 hl
      have i1 : (12 : Int) < ((1 + t.length : Nat) : Int) := by omega
      have i1' : (12 : Int) < 1 + (t.length : Int) := by omega
      have i2 : ((f6 : Int) == 0) = false := by rw [beq_eq_false_iff_ne]; omega
      clear hl hf
      go_wp2_with fail
      go_roundw
      case rel => exact ⟨.inr (.inr rfl), HR6⟩
      case measure => simp [intOf]
    · have i1 : ¬ (12 : Int) < ((1 + t.length : Nat) : Int) := by omega
      have i1' : ¬ (12 : Int) < 1 + (t.length : Int) := by omega
      rcases HW6.out.2 hl with ⟨he, hf | hf | hf⟩ | ⟨he, hf | ⟨he3, hf⟩⟩
      · have j1 : ((ft : Int) == 0) = true := by simp [he]
        have j2 : ((f6 : Int) != 0) = false := by simp [hf]
        have j3 : ((ft : Int) != 0) = false := by simp [he]
        clear hl he hf
        go_wp2_with fail
        go_roundw
        case rel => exact ⟨.inr (.inr rfl), HR6⟩
        case measure => simp [intOf]
      · have j1 : ((ft : Int) == 0) = true := by simp [he]
        have j2 : ((f6 : Int) != 0) = true := by simp [hf]
        have j3 : ((f6 : Int) != 151) = false := by simp [hf]
        have j4 : ((ft : Int) != 0) = false := by simp [he]
        clear hl he hf
        go_wp2_with fail
        go_roundw
        case rel => exact ⟨.inr (.inr rfl), HR6⟩
        case measure => simp [intOf]
      · have j1 : ((ft : Int) == 0) = true := by simp [he]
        have j2 : ((f6 : Int) != 0) = true := by simp [hf]
        have j3 : ((f6 : Int) != 151) = true := by simp [hf]
        have j5 : ((f6 : Int) != 3) = false := by simp [hf]
        have j4 : ((ft : Int) != 0) = false := by simp [he]
        clear hl he hf
        go_wp2_with fail
        go_roundw
        case rel => exact ⟨.inr (.inr rfl), HR6⟩
        case measure => simp [intOf]
      · have j1 : ((ft : Int) == 0) = false := by rw [beq_eq_false_iff_ne]; omega
        have j4 : ((ft : Int) != 0) = true := by rw [bne_iff_ne]; omega
        have j5 : ((f6 : Int) != (ft : Int)) = false := by simp [hf]
        clear hl he hf
        go_wp2_with fail
        go_roundw
        case rel => exact ⟨.inr (.inr rfl), HR6⟩
        case measure => simp [intOf]
      · have j1 : ((ft : Int) == 0) = false := by simp [he3]
        have j4 : ((ft : Int) != 0) = true := by simp [he3]
        have j5 : ((f6 : Int) != (ft : Int)) = true := by simp [hf, he3]
        have j6 : ((ft : Int) == 3) = true := by simp [he3]
        have j7 : ((f6 : Int) == 151) = true := by simp [hf]
        clear hl he hf he3
        go_wp2_with fail
        go_roundw
        case rel => exact ⟨.inr (.inr rfl), HR6⟩
        case measure => simp [intOf]
  · go_wp2_with fail
    refine Calls.mono (HWK.out _ (HX.out _ HR.out).2) ?_
    rintro e w2 ⟨rfl, hb2⟩
    have HB3 := Lib.hid ((HX.out _ HR.out).2.trans (hb2.mono (HX.out _ HR.out).2.size))
    clear hb2
    go_wp2_with fail
    go_ret
    exact ⟨rfl, HB3.out⟩
end Go.Proofs.YtnkdhmoocomjfaaGreatDoor
