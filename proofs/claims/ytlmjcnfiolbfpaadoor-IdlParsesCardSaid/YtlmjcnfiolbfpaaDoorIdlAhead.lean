/-
  The law IdlAhead, walked: what stands behind the token of a fault makes no difference to it. Conditions: those in the theorems (the keywords' variable holds what the row lists).
-/
import Derived.Test.YtlmjcnfiolbfpaaDoorIdlBlanks
import Derived.Deep.CutRange
set_option linter.unusedSimpArgs false
set_option linter.unusedVariables false
namespace Go.Proofs.YtlmjcnfiolbfpaaDoor
open Go.RowKit

theorem cat_list (x y : ByteArray) : (x ++ ⟨#[10]⟩ ++ y).data.toList = x.data.toList ++ 10 :: y.data.toList := by
  rw [ByteArray.data_append, ByteArray.data_append, Array.toList_append, Array.toList_append, List.append_assoc]; rfl
theorem cat_size (x y : ByteArray) : (x ++ ⟨#[10]⟩ ++ y).size = x.size + 1 + y.size := by
  rw [ByteArray.size_append, ByteArray.size_append]; rfl
theorem ahead_of {x y : List UInt8} (h1 : (Tk.all 0 x).err = 0) (h2 : (Tk.all 0 y).err = 0) (he : (Ip.parse x).2.2 = 120) (ha : (Ip.parse x).2.1 ≠ (x.length : Nat)) : Ip.parse (x ++ 10 :: y) = (Ip.Sch.zero, (Ip.parse x).2.1, 120) := by
  cases hx : Tk.all 0 x with
  | no a e => rw [hx] at h1; exact absurd h1 (Tk.all_err hx)
  | ok l =>
    cases hy : Tk.all 0 y with
    | no a e => rw [hy] at h2; exact absurd h2 (Tk.all_err hy)
    | ok m => exact Ip.parse_ahead hx hy he ha
set_option maxRecDepth 100000 in
set_option maxHeartbeats 16000000 in
theorem idlAhead_any (s r : ByteArray) (w : World) (hm : s.size ≤ maxLen) (hm2 : r.size ≤ maxLen) (hk : KwIs w) : Calls Tryd.prog 6 #[.string s, .string r] w fun e w' => e = .returned (.bool true) ∧ Below w.heap.size w w' := by
  have z1 : s.size ≤ 9223372036854775807 := hm
  have z2 : r.size ≤ 9223372036854775807 := hm2
  go_enter Tryd.func6, Tryd.ntmps6
  go_upto_if 19 with fail
  go_cut [0] from 20 to 21 (fun xv wc => ∃ x : ByteArray, xv = .string x ∧ Hid (x.size ≤ 2500) ∧ wc = w)
  case first =>
    by_cases h1 : 2500 < s.size
    · have i1 : (2500 : Int) < (s.size : Int) := by omega
      have HE : Hid ((s.extract 0 2500).size ≤ 2500) := Lib.hid (by rw [ByteArray.size_extract]; omega)
      go_wp2_with fail
      go_meet
      exact ⟨_, rfl, HE, rfl⟩
    · have i1 : ¬ (2500 : Int) < (s.size : Int) := by omega
      have HE : Hid (s.size ≤ 2500) := Lib.hid (by omega)
      go_wp2_with fail
      go_meet
      exact ⟨_, rfl, HE, rfl⟩
  case rest =>
    obtain ⟨x, rfl, HX, hwc⟩ := hcut
    subst hwc
    go_upto_if 24 with fail
    go_cut [1] from 25 to 26 (fun yv wd => ∃ y : ByteArray, yv = .string y ∧ Hid (y.size ≤ 2500) ∧ wd = wc)
    case first =>
      by_cases h1 : 2500 < r.size
      · have i1 : (2500 : Int) < (r.size : Int) := by omega
        have HE : Hid ((r.extract 0 2500).size ≤ 2500) := Lib.hid (by rw [ByteArray.size_extract]; omega)
        go_wp2_with fail
        go_meet
        exact ⟨_, rfl, HE, rfl⟩
      · have i1 : ¬ (2500 : Int) < (r.size : Int) := by omega
        have HE : Hid (r.size ≤ 2500) := Lib.hid (by omega)
        go_wp2_with fail
        go_meet
        exact ⟨_, rfl, HE, rfl⟩
    case rest =>
      obtain ⟨y, rfl, HY, hwd⟩ := hcut
      subst hwd
      have xs : x.size ≤ 2500 := HX.out
      have ys : y.size ≤ 2500 := HY.out
      have QA := fun W => All_any x W (by omega)
      have QB := fun W => All_any y W (by omega)
      have HQP := Lib.hid fun W (hW : KwIs W) => Parse_any x W (by omega) hW
      have HQC := Lib.hid fun W (hW : KwIs W) => Parse_any (x ++ ⟨#[10]⟩ ++ y) W (by rw [cat_size]; omega) hW
      rw [cat_list] at HQC
      have HA := Lib.hid (ahead_of (x := x.data.toList) (y := y.data.toList))
      rw [list_len] at HA
      unfold Alls at QA QB
      generalize Tk.all 0 x.data.toList = o1 at *
      generalize Tk.all 0 y.data.toList = o2 at *
      generalize o1.at_ = q1 at *
      generalize o1.err = e1 at *
      generalize o1.toks = l1 at *
      generalize o2.at_ = q2 at *
      generalize o2.err = e2 at *
      generalize o2.toks = l2 at *
      obtain ⟨⟨S, at_, er⟩, hx1⟩ : ∃ z, Ip.parse x.data.toList = z := ⟨_, rfl⟩
      rw [hx1] at HQP HA
      simp only at HA
      generalize Ip.parse (x.data.toList ++ 10 :: y.data.toList) = z3 at *
      have HK := Lib.hid hk
      clear hx1 hk
      go_wp2_with fail
      refine Calls.mono (QA _) ?_
      rintro e w1 ⟨v1, rfl, ho1, hb1⟩
      obtain ⟨p1, c1, rfl, -, -⟩ := ho1.shape
      clear ho1
      go_wp2_with fail
      refine Calls.mono (QB _) ?_
      rintro e w2 ⟨v2, rfl, ho2, hb2⟩
      obtain ⟨p2, c2, rfl, -, -⟩ := ho2.shape
      have HB2 := Lib.hid (hb1.trans (hb2.mono hb1.size))
      clear ho2 hb1 hb2 QA QB
      go_wp2_with fail
      refine Calls.mono (HQP.out _ (HK.out.below HB2.out)) ?_
      rintro e w3 ⟨v3, rfl, hV3, hb3⟩
      obtain ⟨vr, vs, vg, rfl, h1, h2, h3⟩ := hV3
      obtain ⟨k1, j1, rfl, -, -⟩ := h1.shape
      obtain ⟨k2, j2, rfl, -, -⟩ := h2.shape
      obtain ⟨k3, j3, rfl, -, -⟩ := h3.shape
      have HB3 := Lib.hid (HB2.out.trans (hb3.mono HB2.out.size))
      clear h1 h2 h3 hb3
      go_upto_region 8 with fail
      obtain ⟨W4, hW4⟩ : ∃ W4, W4 = w3.alloc (.cells #[.string S.name, .slice k1 S.records.length j1, .slice k2 S.services.length j2, .slice k3 S.sagas.length j3] 26) := ⟨_, rfl⟩
      have HB4 : Hid (Below wc.heap.size wc W4) := Lib.hid (by rw [hW4]; exact HB3.out.alloc HB3.out.size _)
      rw [← hW4]
      clear hW4
      by_cases t1 : e1 = 0
      · subst t1
        have g1 : (((0 : Nat) : Int) != 0) = false := rfl
        by_cases t2 : e2 = 0
        · subst t2
          by_cases t3 : er = 120
          · subst t3
            have g3 : (((120 : Nat) : Int) != 120) = false := rfl
            by_cases t4 : at_ = (x.size : Int)
            · have g4 : (at_ == (x.size : Int)) = true := by rw [beq_iff_eq]; exact t4
              clear t4
              go_wp2_with (first | (go_at_call 11; refine (wakes_any _ (HK.out.below HB4.out)).mono ?_; rintro e w8 ⟨rfl, hb8⟩) | fail)
              go_ret
              exact ⟨rfl, HB4.out.trans (hb8.mono HB4.out.size)⟩
            · have g4 : (at_ == (x.size : Int)) = false := by rw [beq_eq_false_iff_ne]; exact t4
              have HZ := Lib.hid (HA.out rfl rfl rfl t4)
              rw [HZ.out] at HQC
              clear t4
              go_wp2_with fail
              refine Calls.mono (HQC.out _ (HK.out.below HB4.out)) ?_
              rintro e w5 ⟨v5, rfl, hV5, hb5⟩
              obtain ⟨vr, vs, vg, rfl, h1, h2, h3⟩ := hV5
              obtain ⟨k4, j4, rfl, -, -⟩ := h1.shape
              obtain ⟨k5, j5, rfl, -, -⟩ := h2.shape
              obtain ⟨k6, j6, rfl, -, -⟩ := h3.shape
              have HB5 := Lib.hid (HB4.out.trans (hb5.mono HB4.out.size))
              clear h1 h2 h3 hb5
              go_wp2_with (first | (go_at_call 11; refine (wakes_any _ (HK.out.below (HB5.out.alloc HB5.out.size _))).mono ?_; rintro e w8 ⟨rfl, hb8⟩) | fail)
              go_ret
              exact ⟨rfl, (HB5.out.alloc HB5.out.size _).trans (hb8.mono (HB5.out.alloc HB5.out.size _).size)⟩
          · have g3 : (((er : Nat) : Int) != 120) = true := by rw [bne_iff_ne]; omega
            clear t3
            go_wp2_with (first | (go_at_call 11; refine (wakes_any _ (HK.out.below HB4.out)).mono ?_; rintro e w8 ⟨rfl, hb8⟩) | fail)
            go_ret
            exact ⟨rfl, HB4.out.trans (hb8.mono HB4.out.size)⟩
        · have g2 : (((e2 : Nat) : Int) != 0) = true := by rw [bne_iff_ne]; omega
          clear t2
          go_wp2_with (first | (go_at_call 11; refine (wakes_any _ (HK.out.below HB4.out)).mono ?_; rintro e w8 ⟨rfl, hb8⟩) | fail)
          go_ret
          exact ⟨rfl, HB4.out.trans (hb8.mono HB4.out.size)⟩
      · have g1 : (((e1 : Nat) : Int) != 0) = true := by rw [bne_iff_ne]; omega
        clear t1
        go_wp2_with (first | (go_at_call 11; refine (wakes_any _ (HK.out.below HB4.out)).mono ?_; rintro e w8 ⟨rfl, hb8⟩) | fail)
        go_ret
        exact ⟨rfl, HB4.out.trans (hb8.mono HB4.out.size)⟩
end Go.Proofs.YtlmjcnfiolbfpaaDoor
