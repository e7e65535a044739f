/-
  Walks over the laws of package disk: DiskCounts. No condition.
-/
import Derived.Test.YtgcjjpmcphpcjaaDiskStep
namespace Go.Proofs.Ytgcjjpmcphpcjaa
open Go.RowKit Go.Maps Go.Sort Go.Shelf

/-- A slice of numbers of 16 bits, as it is handed in. -/
def Nums (W : World) (p : Option Addr) (ns : List Nat) : Prop := ∀ i (h : i < ns.length), ∃ A, p = some A ∧ A.block < W.heap.size ∧ W.cell? (A.add i) = some (.int .u16 (ns[i] : Nat)) ∧ ns[i] < 65536
theorem Nums.below {W W' : World} {p : Option Addr} {ns : List Nat} (h : Nums W p ns) (hb : Below W.heap.size W W') : Nums W' p ns := fun i hi => by
  obtain ⟨a, h1, h2, h3, h4⟩ := h i hi
  exact ⟨a, h1, Nat.lt_of_lt_of_le h2 hb.size, (hb.cell (by rw [add_blk]; exact h2)).trans h3, h4⟩

theorem counts_long (p : Option Addr) (cap : Nat) (ns : List Nat) (room : Int) (w : World) (hl : 300 < ns.length) :
    Calls Try.prog 7 #[.slice p ns.length cap, .int .i64 room] w fun e w' => e = .returned (.bool true) ∧ Below w.heap.size w w' := by
  have i0 : (300 : Int) < (ns.length : Int) := by omega
  go_enter Try.func7, Try.ntmps7
  go_wp2_with fail
  refine (diskAwake_any _).mono ?_
  rintro e w1 ⟨rfl, hb⟩
  go_wp2
  go_ret
  exact ⟨rfl, hb⟩

theorem less_no {a b : List UInt8} (h : bytesBefore a b = true) : Op.bytesLess b a = false ∧ (b == a) = false := by
  refine ⟨?_, beq_eq_false_iff_ne.2 (Ne.symm (Dm.before_ne h))⟩
  induction a generalizing b with
  | nil => cases b <;> rfl
  | cons x l ih =>
    cases b with
    | nil => simp [bytesBefore] at h
    | cons y r =>
      simp only [bytesBefore, Bool.or_eq_true, Bool.and_eq_true, decide_eq_true_eq, beq_iff_eq] at h
      simp only [Op.bytesLess, Bool.or_eq_false_iff, Bool.and_eq_false_imp, decide_eq_false_iff_not, beq_iff_eq]
      rcases h with h | ⟨h1, h2⟩
      · exact ⟨UInt8.lt_asymm h, fun e => absurd (e ▸ h) (UInt8.lt_irrefl _)⟩
      · subst h1
        exact ⟨UInt8.lt_irrefl _, fun _ => ih h2⟩
/-- How many bytes the first k files have. -/
def sumTo (l : List (List UInt8 × Dm.File)) (k : Nat) : Nat := Dm.used (l.take k)
theorem sumTo_succ {l : List (List UInt8 × Dm.File)} {k : Nat} (h : k < l.length) : sumTo l (k + 1) = sumTo l k + l[k].2.data.length := by
  unfold sumTo Dm.used; rw [List.take_succ_eq_append_getElem h, List.map_append, List.sum_append]; simp
theorem sumTo_all (l : List (List UInt8 × Dm.File)) : sumTo l l.length = Dm.used l := by unfold sumTo; rw [List.take_length]
theorem sumTo_le (l : List (List UInt8 × Dm.File)) (k : Nat) : sumTo l k ≤ Dm.used l := by
  unfold sumTo
  have h : Dm.used l = Dm.used (l.take k) + Dm.used (l.drop k) := by
    conv => lhs; rw [← List.take_append_drop k l]
    unfold Dm.used; rw [List.map_append, List.sum_append]
  omega

set_option maxRecDepth 100000 in
set_option maxHeartbeats 1000000 in
theorem counts_short (p : Option Addr) (cap : Nat) (ns : List Nat) (room : Int) (w : World) (hl : ¬ 300 < ns.length) (hns : Nums w p ns) (hr2 : room ≤ 9223372036854775807) :
    Calls Try.prog 7 #[.slice p ns.length cap, .int .i64 room] w fun e w' => e = .returned (.bool true) ∧ Below w.heap.size w w' := by
  have i0 : decide ((300 : Int) < (ns.length : Int)) = false := by simp; omega
  have HN := Lib.hid hns
  clear hns
  go_enter Try.func7, Try.ntmps7
  go_wp2_with fail
  refine (diskAwake_any _).mono ?_
  rintro e w1 ⟨rfl, hb1⟩
  go_wp2_with fail
  refine (new_in hb1).mono ?_
  rintro e w2 ⟨a, rfl, h2⟩
  go_wp2_with fail
  refine (room_in h2 room hr2).mono ?_
  rintro e w3 ⟨rfl, h3⟩
  have H3 := Lib.hid h3
  clear h2 h3 hb1
  go_wp2_with fail
  go_loopw [6] (fun i wr => ∃ (k : Nat) (D : Dm.Disk), k ≤ ns.length ∧ i = .int .i64 (k : Nat) ∧ Hid (In w wr a D ∧ Dm.Calm D ∧ D.bounded = decide (0 ≤ room) ∧ D.room = room.toNat)) (fun i _ => ns.length - (intOf i).toNat)
  case atStart => exact ⟨0, _, Nat.zero_le _, rfl, Lib.hid ⟨H3.out, Dm.calm_new.roomTo hr2, rfl, rfl⟩⟩
  case round =>
    obtain ⟨wo, rfl⟩ : ∃ wo : World, wo = wr := ⟨_, rfl⟩
    obtain ⟨k, D, hk, rfl, HD⟩ := hrel
    by_cases hlt : k < ns.length
    · have i1 : (k : Int) < (ns.length : Int) := by omega
      have i2 : (0 : Int) ≤ (k : Int) := by omega
      go_wp2_with fail
      refine (used_in HD.out.1 rfl).mono ?_
      rintro e w4 ⟨rfl, h4⟩
      obtain ⟨A, rfl, hA, hcA, hx⟩ := (HN.out.below h4.below) k hlt
      have H4 := Lib.hid h4
      clear h4
      generalize ns[k] = x at hcA hx
      go_wp2_with fail
      refine (step_in H4.out x hx).mono ?_
      rintro e w5 ⟨rfl, h5⟩
      have hsc := Lib.hid (Dm.step_calm HD.out.2.1 x)
      have hus := HD.out.2.1.right.used
      have H5 := Lib.hid h5
      clear h5 hcA
      generalize hst : Dm.stepM D x = r at *
      have HST := Lib.hid hst
      clear hst
      obtain ⟨c, D2⟩ := r
      simp only at H5 hsc ⊢
      go_wp2_with fail
      refine (list_in H5.out).mono ?_
      rintro e w6 ⟨v, rfl, hli, h6⟩
      obtain ⟨pn, capn, hv, -⟩ : ∃ pn capn, v = .slice pn D2.files.length capn ∧ True := by
        have hkl : (Dm.keys D2.files).length = D2.files.length := by simp [Dm.keys]
        rcases hli.1.2 with ⟨e1, e2⟩ | ⟨g, c', _, e1, _⟩
        · exact ⟨none, 0, by rw [e1, ← hkl, e2], trivial⟩
        · exact ⟨_, _, by rw [e1, hkl], trivial⟩
      subst hv
      have H6 := Lib.hid h6
      have HL := Lib.hid hli
      clear h6 hli
      have HNO : Hid ((Dm.read D2 [110, 111, 45, 115, 117, 99, 104]).1 = [] ∧ (((Dm.read D2 [110, 111, 45, 115, 117, 99, 104]).2 : Nat) : Int) = 4) := Lib.hid (by
        have hc2 := hsc.out.1
        have hg : Dm.get D2.files [110, 111, 45, 115, 117, 99, 104] = none := Dm.get_none.2 fun q hq e => Dm.not_four (e ▸ hc2.fours q hq)
        unfold Dm.read
        rw [hc2.up, hg]
        exact ⟨rfl, rfl⟩)
      have hus2 := hsc.out.1.right.used
      have hfew2 := hsc.out.1.right.few
      by_cases hempty : D2.files = []
      · have hu0 : Dm.used D2.files = 0 := by rw [hempty]; rfl
        have hl0 : D2.files.length = 0 := by rw [hempty]; rfl
        have HU0 := Lib.hid hu0
        rw [hl0]
        clear hu0 hl0 hempty
        go_wp2_with fail
        refine wp_loop_rounds 1 ?_
        rw [rounds_succ]
        go_wp2_with fail
        refine (read_in H6.out ⟨#[110, 111, 45, 115, 117, 99, 104]⟩ (by decide) (l := []) (c := 4) (HNO.out.1) (HNO.out.2)).mono ?_
        rintro e w8 ⟨rfl, rfl⟩
        go_wp2_with fail
        refine (used_in H6.out (c := 0) (show ((Dm.used D2.files : Nat) : Int) = 0 from by rw [HU0.out]; rfl)).mono ?_
        rintro e w9 ⟨rfl, h9⟩
        have HIN := Lib.hid (And.intro h9 (And.intro hsc.out.1 (And.intro (hsc.out.2.1.trans HD.out.2.2.1) (hsc.out.2.2.1.trans HD.out.2.2.2))))
        clear h9
        rcases hsc.out.2.2.2 with ⟨hc, hD⟩ | ⟨hc, hD⟩
        · have e1 : ((c : Int) != 0) = true := by simp; omega
          have e2 : ((c : Int) == 0) = false := by rw [beq_eq_false_iff_ne]; omega
          have e3 : ((Dm.used D.files : Int) != 0) = false := by rw [← hD]; rw [HU0.out]; rfl
          clear hc hD
          go_wp2
          go_roundw
          case rel => exact ⟨k + 1, D2, by omega, rfl, HIN⟩
          case measure => simp [intOf]; omega
        · have e1 : ((c : Int) != 0) = false := by simp; omega
          have e2 : ((c : Int) == 0) = true := by simp; omega
          rw [HD.out.2.2.1, HD.out.2.2.2] at hD
          have hU : (0 : Int) = (Dm.used D2.files : Int) := (show ((Dm.used D2.files : Nat) : Int) = 0 from by rw [HU0.out]; rfl).symm
          have hD' : 0 ≤ (Dm.used D.files : Int) ∨ (0 ≤ room → 0 ≤ room) := by
            rcases hD with h | h
            · exact .inl (by omega)
            · exact .inr fun hr => by have := h (by simpa using hr); omega
          clear hD hc hU
          by_cases hroom : 0 ≤ room
          · by_cases hle : 0 ≤ (Dm.used D.files : Int)
            · have e5 : decide ((Dm.used D.files : Int) < 0) = false := decide_eq_false (by omega)
              clear hD' hle
              go_wp2
              go_roundw
              case rel => exact ⟨k + 1, D2, by omega, rfl, HIN⟩
              case measure => simp [intOf]; omega
            · have e3 : 0 ≤ room := (hD'.resolve_left hle) hroom
              have e5 : decide (room < 0) = false := decide_eq_false (by omega)
              have e6 : decide ((Dm.used D.files : Int) < 0) = true := decide_eq_true (by omega)
              clear hD' hle
              go_wp2
              go_roundw
              case rel => exact ⟨k + 1, D2, by omega, rfl, HIN⟩
              case measure => simp [intOf]; omega
          · have e3 : decide (0 ≤ room) = false := decide_eq_false hroom
            clear hD'
            go_wp2
            go_roundw
            case rel => exact ⟨k + 1, D2, by omega, rfl, HIN⟩
            case measure => simp [intOf]; omega
      · obtain ⟨g, rfl⟩ : ∃ g, pn = some ⟨g, 0, none⟩ := by
          rcases HL.out.1.2 with ⟨e1, e2⟩ | ⟨g, c', _, e1, _⟩
          · have hkl : (Dm.keys D2.files).length = D2.files.length := by simp [Dm.keys]
            exact absurd (List.eq_nil_of_length_eq_zero (hkl.symm.trans e2)) hempty
          · obtain ⟨e2, -, -⟩ := Value.slice.inj e1; exact ⟨g, e2⟩
        clear hempty
        go_wp2_with fail
        have hrow : w6.ownsRow w5.heap.size 9 1 (.slice (some ⟨g, 0, none⟩) D2.files.length capn) D2.files.length ((Dm.keys D2.files).map encStr) := by
          have hkl : (Dm.keys D2.files).length = D2.files.length := by simp [Dm.keys]
          have := HL.out.1; rw [hkl] at this; exact this
        have HROW := Lib.hid hrow
        clear hrow
        go_loopw [10, 11] (fun nv jv wl => ∃ j : Nat, j ≤ D2.files.length ∧ jv = .int .i64 (j : Nat) ∧ nv = .int .i64 (sumTo D2.files j : Nat) ∧ Hid (In w wl a D2 ∧ wl.ownsRow w5.heap.size 9 1 (.slice (some ⟨g, 0, none⟩) D2.files.length capn) D2.files.length ((Dm.keys D2.files).map encStr))) (fun _ jv _ => D2.files.length - (intOf jv).toNat)
        case atStart => exact ⟨0, Nat.zero_le _, rfl, rfl, Lib.hid ⟨H6.out, HROW.out⟩⟩
        case round =>
          obtain ⟨j, hj, rfl, rfl, HJ⟩ := hrel
          have hsl := sumTo_le D2.files j
          by_cases hjl : j < D2.files.length
          · have j1 : (j : Int) < (D2.files.length : Int) := by omega
            have j2 : (0 : Int) ≤ (j : Int) := by omega
            obtain ⟨nm, f, hq⟩ : ∃ nm f, D2.files[j] = (nm, f) := ⟨_, _, rfl⟩
            have hmem : (nm, f) ∈ D2.files := by rw [← hq]; exact List.getElem_mem _
            have hkl : (Dm.keys D2.files).length = D2.files.length := by simp [Dm.keys]
            have hcj : wr.cell? ⟨g, j, none⟩ = some (.string ⟨nm.toArray⟩) := by
              rw [HJ.out.2.cellAt j (by omega), List.getElem?_map, List.getElem?_eq_getElem (by omega)]
              have e : (Dm.keys D2.files)[j]'(by omega) = nm := by simp [Dm.keys, hq]
              rw [e]; rfl
            have hrd : Dm.read D2 nm = (f.data, 0) := by
              have hc2 := hsc.out.1
              unfold Dm.read; rw [hc2.up, hc2.right.sorted.get hmem]; rfl
            have hnl := Dm.isName_len (hsc.out.1.right.names _ hmem)
            have hnsz : (⟨nm.toArray⟩ : ByteArray).size ≤ maxLen := by
              show nm.toArray.size ≤ maxLen
              rw [List.size_toArray]; unfold maxLen; simp only at hnl; omega
            have hss := sumTo_succ hjl
            rw [hq] at hss
            have hsl2 := sumTo_le D2.files (j + 1)
            rw [hss] at hsl2
            have HR := Lib.hid (show (Dm.read D2 nm).1 = f.data ∧ (((Dm.read D2 nm).2 : Nat) : Int) = 0 from by rw [hrd]; exact ⟨rfl, rfl⟩)
            have HSS := Lib.hid hss
            have hsl3 : sumTo D2.files j + f.data.length ≤ 268435456 := by simp only at hsl2; omega
            have HPRE : Hid (0 < j → ∃ nm' : List UInt8, wr.cell? ⟨g, j - 1, none⟩ = some (.string ⟨nm'.toArray⟩) ∧ bytesBefore nm' nm = true) := Lib.hid fun hj0 => by
              refine ⟨(D2.files[j - 1]'(by omega)).1, ?_, ?_⟩
              · rw [HJ.out.2.cellAt (j - 1) (by omega), List.getElem?_map, List.getElem?_eq_getElem (by omega)]
                have e : (Dm.keys D2.files)[j - 1]'(by omega) = (D2.files[j - 1]'(by omega)).1 := by simp [Dm.keys]
                rw [e]; rfl
              · have := List.pairwise_iff_getElem.1 hsc.out.1.right.sorted (j - 1) j (by omega) hjl (by omega)
                rw [hq] at this
                exact this
            clear hq hmem hkl hrd hnl hss hsl2
            go_wp2_with fail
            refine (read_in HJ.out.1 ⟨nm.toArray⟩ hnsz HR.out.1 HR.out.2).mono ?_
            rintro e w8 ⟨rfl, rfl⟩
            by_cases hj0 : 0 < j
            · obtain ⟨nm', hcp, hlt'⟩ := HPRE.out hj0
              have j3 : decide ((0 : Int) < (j : Int)) = true := decide_eq_true (by omega)
              have j4 : IntKind.i64.wrap ((j : Int) - 1) = (j : Int) - 1 := IntWalk.i64_in _ (by omega)
              have j5 : (0 : Int) ≤ (j : Int) - 1 := by omega
              have j6 : ((j : Int) - 1).toNat = j - 1 := by omega
              have j7 : (j : Int) - 1 < (D2.files.length : Int) := by omega
              go_wp2_with fail
              obtain ⟨f1, f2⟩ := less_no hlt'
              go_quiet (fail)
              go_wp2_with fail
              go_roundw
              case rel => exact ⟨j + 1, by omega, rfl, by rw [HSS.out]; rfl, Lib.hid ⟨HJ.out.1.same (below_drewN (Below.refl _ _) _), HJ.out.2⟩⟩
              case measure => simp [intOf]; omega
            · obtain rfl : j = 0 := by omega
              have j3 : decide ((0 : Int) < ((0 : Nat) : Int)) = false := rfl
              go_wp2_with fail
              go_quiet (fail)
              go_wp2_with fail
              go_roundw
              case rel => exact ⟨0 + 1, by omega, rfl, by rw [HSS.out]; rfl, Lib.hid ⟨HJ.out.1.same (below_drewN (Below.refl _ _) _), HJ.out.2⟩⟩
              case measure => simp [intOf]; omega
          · obtain rfl : j = D2.files.length := by omega
            have j1 : ¬ (D2.files.length : Int) < (D2.files.length : Int) := by omega
            rw [sumTo_all]
            go_wp2_with fail
            refine (read_in HJ.out.1 ⟨#[110, 111, 45, 115, 117, 99, 104]⟩ (by decide) (l := []) (c := 4) (HNO.out.1) (HNO.out.2)).mono ?_
            rintro e w8 ⟨rfl, rfl⟩
            go_wp2_with fail
            refine (used_in HJ.out.1 (c := (Dm.used D2.files : Int)) (rfl : ((Dm.used D2.files : Nat) : Int) = _)).mono ?_
            rintro e w9 ⟨rfl, h9⟩
            have HIN := Lib.hid (And.intro h9 (And.intro hsc.out.1 (And.intro (hsc.out.2.1.trans HD.out.2.2.1) (hsc.out.2.2.1.trans HD.out.2.2.2))))
            clear h9
            rcases hsc.out.2.2.2 with ⟨hc, hD⟩ | ⟨hc, hD⟩
            · have e1 : ((c : Int) != 0) = true := by simp; omega
              have e2 : ((c : Int) == 0) = false := by rw [beq_eq_false_iff_ne]; omega
              have e3 : ((Dm.used D.files : Int) != (Dm.used D2.files : Int)) = false := by rw [← hD]; simp
              clear hc hD
              go_wp2
              go_roundw
              case rel => exact ⟨k + 1, D2, by omega, rfl, HIN⟩
              case measure => simp [intOf]; omega
            · have e1 : ((c : Int) != 0) = false := by simp; omega
              have e2 : ((c : Int) == 0) = true := by simp; omega
              rw [HD.out.2.2.1, HD.out.2.2.2] at hD
              have hU : ((Dm.used D2.files : Int) : Int) = (Dm.used D2.files : Int) := (rfl : ((Dm.used D2.files : Nat) : Int) = _).symm
              have hD' : (Dm.used D2.files : Int) ≤ (Dm.used D.files : Int) ∨ (0 ≤ room → (Dm.used D2.files : Int) ≤ room) := by
                rcases hD with h | h
                · exact .inl (by omega)
                · exact .inr fun hr => by have := h (by simpa using hr); omega
              clear hD hc hU
              by_cases hroom : 0 ≤ room
              · by_cases hle : (Dm.used D2.files : Int) ≤ (Dm.used D.files : Int)
                · have e5 : decide (Dm.used D.files < Dm.used D2.files) = false := decide_eq_false (by omega)
                  have e7 : ¬ Dm.used D.files < Dm.used D2.files := by omega
                  clear hD'
                  go_wp2
                  go_roundw
                  case rel => exact ⟨k + 1, D2, by omega, rfl, HIN⟩
                  case measure => simp [intOf]; omega
                · have e3 : (Dm.used D2.files : Int) ≤ room := (hD'.resolve_left hle) hroom
                  have e5 : decide (room < (Dm.used D2.files : Int)) = false := decide_eq_false (by omega)
                  have e6 : decide (Dm.used D.files < Dm.used D2.files) = true := decide_eq_true (by omega)
                  have e7 : Dm.used D.files < Dm.used D2.files := by omega
                  clear hD'
                  go_wp2
                  go_roundw
                  case rel => exact ⟨k + 1, D2, by omega, rfl, HIN⟩
                  case measure => simp [intOf]; omega
              · have e3 : decide (0 ≤ room) = false := decide_eq_false hroom
                clear hD'
                go_wp2
                go_roundw
                case rel => exact ⟨k + 1, D2, by omega, rfl, HIN⟩
                case measure => simp [intOf]; omega
    · obtain rfl : k = ns.length := by omega
      have i1 : ¬ (ns.length : Int) < (ns.length : Int) := by omega
      go_wp2
      go_ret
      exact ⟨rfl, HD.out.1.below⟩
end Go.Proofs.Ytgcjjpmcphpcjaa
