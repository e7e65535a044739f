/-
  Walks over the laws of package disk: DiskRenames. No condition.
-/
import Derived.Test.YtgcjjpmcphpcjaaDiskCounts
import Derived.Test.YtgcjjpmcphpcjaaDiskTwo
import Derived.Test.YtgcjjpmcphpcjaaDiskRenamesMath
namespace Go.Proofs.Ytgcjjpmcphpcjaa
open Go.RowKit Go.Maps Go.Sort Go.Shelf

set_option maxRecDepth 100000 in
theorem renames_long (p : Option Addr) (cap : Nat) (ns : List Nat) (i j : Nat) (w : World) (hl : 300 < ns.length) :
    Calls Try.prog 8 #[.slice p ns.length cap, .int .u8 (i : Nat), .int .u8 (j : Nat)] w fun e w' => e = .returned (.bool true) ∧ Below w.heap.size w w' := by
  have i0 : (300 : Int) < (ns.length : Int) := by omega
  go_enter Try.func8, Try.ntmps8
  go_wp2_with fail
  refine (diskAwake_any _).mono ?_
  rintro e w1 ⟨rfl, hb⟩
  go_wp2
  go_ret
  exact ⟨rfl, hb⟩

set_option maxRecDepth 100000 in
set_option maxHeartbeats 4000000 in
theorem renames_short (p : Option Addr) (cap : Nat) (ns : List Nat) (i j : Nat) (w : World) (hl : ¬ 300 < ns.length) (hns : Nums w p ns) (hi : i < 256) (hj : j < 256) :
    Calls Try.prog 8 #[.slice p ns.length cap, .int .u8 (i : Nat), .int .u8 (j : Nat)] w fun e w' => e = .returned (.bool true) ∧ Below w.heap.size w w' := by
  have i0 : decide ((300 : Int) < (ns.length : Int)) = false := by simp; omega
  have HN := Lib.hid hns
  clear hns
  go_enter Try.func8, Try.ntmps8
  go_wp2_with fail
  refine (diskAwake_any _).mono ?_
  rintro e w1 ⟨rfl, hb1⟩
  go_wp2_with fail
  refine (new_in hb1).mono ?_
  rintro e w2 ⟨a, rfl, h2⟩
  have H2 := Lib.hid h2
  clear h2 hb1
  go_wp2_with fail
  go_loopw [8] (fun iv wr => ∃ (k : Nat) (D : Dm.Disk), k ≤ ns.length ∧ iv = .int .i64 (k : Nat) ∧ Hid (In w wr a D ∧ Dm.Calm D)) (fun iv _ => ns.length - (intOf iv).toNat)
  case atStart => exact ⟨0, _, Nat.zero_le _, rfl, Lib.hid ⟨H2.out, Dm.calm_new⟩⟩
  case round =>
    obtain ⟨k, D, hk, rfl, HD⟩ := hrel
    by_cases hlt : k < ns.length
    · have i1 : (k : Int) < (ns.length : Int) := by omega
      have i2 : (0 : Int) ≤ (k : Int) := by omega
      obtain ⟨A, rfl, hA, hcA, hx⟩ := (HN.out.below HD.out.1.below) k hlt
      generalize ns[k] = x at hcA hx
      go_wp2_with fail
      refine (step_in HD.out.1 x hx).mono ?_
      rintro e w5 ⟨rfl, h5⟩
      have HS := Lib.hid (And.intro h5 (Dm.step_calm HD.out.2 x).1)
      clear h5 hcA
      go_wp2
      go_roundw
      case rel => exact ⟨k + 1, _, by omega, rfl, HS⟩
      case measure => simp [intOf]; omega
    · obtain rfl : k = ns.length := by omega
      have i1 : ¬ (ns.length : Int) < (ns.length : Int) := by omega
      go_wp2_with fail
      refine (fourAny i _ hi).mono ?_
      rintro e w4 ⟨rfl, hb4⟩
      go_wp2_with fail
      refine (fourAny j _ hj).mono ?_
      rintro e w5 ⟨rfl, hb5⟩
      have h5 := (HD.out.1.same hb4).same hb5
      have hcalm := HD.out.2
      clear hb4 hb5
      go_wp2_with fail
      refine (twin_two h5).mono ?_
      rintro e w6 ⟨t, rfl, h6⟩
      clear h5
      have HU := hcalm.right.used
      rcases Dm.renames hcalm i j with ⟨e1, e2⟩ | ⟨f, e1, ⟨hab, e2⟩ | ⟨hab, D', e2, e3, e4, e5, e6⟩⟩
      · obtain ⟨g, cb, e3⟩ : ∃ g cb, Dm.read D (Dm.fourL j) = (g, cb) := ⟨_, _, rfl⟩
        go_wp2_with fail
        refine (two_read h6 ⟨(Dm.fourL i).toArray⟩ (four_size _) e1 rfl).mono ?_
        rintro e w7 ⟨rfl, rfl⟩
        go_wp2_with fail
        refine (two_read h6 ⟨(Dm.fourL j).toArray⟩ (four_size _) e3 rfl).mono ?_
        rintro e w7 ⟨rfl, rfl⟩
        go_wp2_with fail
        refine (two_rename h6 ⟨(Dm.fourL i).toArray⟩ ⟨(Dm.fourL j).toArray⟩ (four_size _) (four_size _) e2 rfl).mono ?_
        rintro e w7 ⟨rfl, h7⟩
        clear h6 e1 e2 e3
        go_wp2_with fail
        refine (two_same h7 (b := true) (Dm.same_iff.2 rfl)).mono ?_
        rintro e w8 ⟨rfl, h8⟩
        have hb8 := h8.below
        clear h7 h8
        go_wp2
        go_ret
        exact ⟨rfl, hb8⟩
      · rw [← hab] at e2 ⊢
        clear hab
        go_wp2_with fail
        refine (two_read h6 ⟨(Dm.fourL i).toArray⟩ (four_size _) e1 rfl).mono ?_
        rintro e w7 ⟨rfl, rfl⟩
        go_wp2_with fail
        refine (two_read h6 ⟨(Dm.fourL i).toArray⟩ (four_size _) e1 rfl).mono ?_
        rintro e w7 ⟨rfl, rfl⟩
        go_wp2_with fail
        refine (two_rename h6 ⟨(Dm.fourL i).toArray⟩ ⟨(Dm.fourL i).toArray⟩ (four_size _) (four_size _) e2 rfl).mono ?_
        rintro e w7 ⟨rfl, h7⟩
        clear h6 e1 e2
        go_wp2_with fail
        refine (two_same h7 (b := true) (Dm.same_iff.2 rfl)).mono ?_
        rintro e w8 ⟨rfl, h8⟩
        have hb8 := h8.below
        clear h7 h8
        go_wp2
        go_ret
        exact ⟨rfl, hb8⟩
      · have f1 : (Dm.fourL i == Dm.fourL j) = false := by simpa using hab
        rcases e6 with ⟨g, e6, e7⟩ | ⟨e6, e7, e8⟩
        · go_wp2_with fail
          refine (two_read h6 ⟨(Dm.fourL i).toArray⟩ (four_size _) e1 rfl).mono ?_
          rintro e w7 ⟨rfl, rfl⟩
          go_wp2_with fail
          refine (two_read h6 ⟨(Dm.fourL j).toArray⟩ (four_size _) e6 rfl).mono ?_
          rintro e w7 ⟨rfl, rfl⟩
          go_wp2_with fail
          refine (two_rename h6 ⟨(Dm.fourL i).toArray⟩ ⟨(Dm.fourL j).toArray⟩ (four_size _) (four_size _) e2 rfl).mono ?_
          rintro e w7 ⟨rfl, h7⟩
          clear h6 e1 e2 e6
          go_wp2_with fail
          refine (two_read h7 ⟨(Dm.fourL j).toArray⟩ (four_size _) e3 rfl).mono ?_
          rintro e w8 ⟨rfl, rfl⟩
          go_wp2_with fail
          refine (two_read h7 ⟨(Dm.fourL i).toArray⟩ (four_size _) e4 rfl).mono ?_
          rintro e w8 ⟨rfl, rfl⟩
          go_wp2_with fail
          refine (two_used' h7 rfl).mono ?_
          rintro e w8 ⟨rfl, h8⟩
          clear h7 e3 e4
          have hU : (Dm.used D.files : Int) - (g.length : Int) = (Dm.used D'.files : Int) := by omega
          go_wp2_with fail
          refine (two_used h8 rfl).mono ?_
          rintro e w9 ⟨rfl, h9⟩
          clear h8
          have HH := Lib.hid h9
          have E5 := Lib.hid e5
          clear h9 e5 e7 hU
          go_wp2_with fail
          go_loopw [22] (fun nv wl => ∃ q : Nat, q ≤ 4 ∧ nv = .int .u8 (q : Nat) ∧ Hid (Two w wl a t D' D)) (fun nv _ => 4 - (intOf nv).toNat)
          case atStart => exact ⟨0, Nat.zero_le _, rfl, HH⟩
          case round =>
            obtain ⟨q, hq, rfl, HJ⟩ := hrel
            by_cases hq4 : q < 4
            · have q1 : (q : Int) < 4 := by omega
              go_wp2_with fail
              refine (fourAny q _ (by omega)).mono ?_
              rintro e w10 ⟨rfl, hb10⟩
              have h10 := HJ.out.same hb10
              clear hb10
              by_cases hqa : Dm.fourL q = Dm.fourL i
              · have f2 : (Dm.fourL q == Dm.fourL i) = true := by simpa using hqa
                have H10 := Lib.hid h10
                clear h10
                go_wp2_with fail
                go_roundw
                case rel => exact ⟨q + 1, by omega, rfl, H10⟩
                case measure => simp [intOf]; omega
              · have f2 : (Dm.fourL q == Dm.fourL i) = false := by simpa using hqa
                go_wp2_with fail
                refine (fourAny q _ (by omega)).mono ?_
                rintro e w11 ⟨rfl, hb11⟩
                have h11 := h10.same hb11
                clear hb11 h10
                by_cases hqb : Dm.fourL q = Dm.fourL j
                · have f3 : (Dm.fourL q == Dm.fourL j) = true := by simpa using hqb
                  have H11 := Lib.hid h11
                  clear h11
                  go_wp2_with fail
                  go_roundw
                  case rel => exact ⟨q + 1, by omega, rfl, H11⟩
                  case measure => simp [intOf]; omega
                · have f3 : (Dm.fourL q == Dm.fourL j) = false := by simpa using hqb
                  obtain ⟨g2, c2, eq2⟩ : ∃ g2 c2, Dm.read D (Dm.fourL q) = (g2, c2) := ⟨_, _, rfl⟩
                  have eq1 := (E5.out q hqa hqb).trans eq2
                  go_wp2_with fail
                  refine (fourAny q _ (by omega)).mono ?_
                  rintro e w12 ⟨rfl, hb12⟩
                  have h12 := h11.same hb12
                  clear hb12 h11
                  go_wp2_with fail
                  refine (two_read h12 ⟨(Dm.fourL q).toArray⟩ (four_size _) eq1 rfl).mono ?_
                  rintro e w13 ⟨rfl, rfl⟩
                  go_wp2_with fail
                  refine (fourAny q _ (by omega)).mono ?_
                  rintro e w13 ⟨rfl, hb13⟩
                  have h13 := h12.same hb13
                  clear hb13 h12
                  go_wp2_with fail
                  refine (two_read' h13 ⟨(Dm.fourL q).toArray⟩ (four_size _) eq2 rfl).mono ?_
                  rintro e w14 ⟨rfl, rfl⟩
                  have H13 := Lib.hid h13
                  clear h13 eq1 eq2
                  go_wp2_with fail
                  go_roundw
                  case rel => exact ⟨q + 1, by omega, rfl, H13⟩
                  case measure => simp [intOf]; omega
            · obtain rfl : q = 4 := by omega
              have hb9 := HJ.out.below
              go_wp2_with fail
              go_ret
              exact ⟨rfl, hb9⟩
        · go_wp2_with fail
          refine (two_read h6 ⟨(Dm.fourL i).toArray⟩ (four_size _) e1 rfl).mono ?_
          rintro e w7 ⟨rfl, rfl⟩
          go_wp2_with fail
          refine (two_read h6 ⟨(Dm.fourL j).toArray⟩ (four_size _) e6 rfl).mono ?_
          rintro e w7 ⟨rfl, rfl⟩
          go_wp2_with fail
          refine (two_rename h6 ⟨(Dm.fourL i).toArray⟩ ⟨(Dm.fourL j).toArray⟩ (four_size _) (four_size _) e2 rfl).mono ?_
          rintro e w7 ⟨rfl, h7⟩
          clear h6 e1 e2 e6
          go_wp2_with fail
          refine (two_read h7 ⟨(Dm.fourL j).toArray⟩ (four_size _) e3 rfl).mono ?_
          rintro e w8 ⟨rfl, rfl⟩
          go_wp2_with fail
          refine (two_read h7 ⟨(Dm.fourL i).toArray⟩ (four_size _) e4 rfl).mono ?_
          rintro e w8 ⟨rfl, rfl⟩
          go_wp2_with fail
          refine (two_used' h7 rfl).mono ?_
          rintro e w8 ⟨rfl, h8⟩
          clear h7 e3 e4
          go_wp2_with fail
          refine (two_used h8 (z := (Dm.used D.files : Int)) (by rw [e7])).mono ?_
          rintro e w9 ⟨rfl, h9⟩
          clear h8
          have HH := Lib.hid h9
          have E5 := Lib.hid e5
          have E8 := Lib.hid e8
          clear h9 e5 e7 e8
          go_wp2_with fail
          go_loopw [22] (fun nv wl => ∃ q : Nat, q ≤ 4 ∧ nv = .int .u8 (q : Nat) ∧ Hid (Two w wl a t D' D)) (fun nv _ => 4 - (intOf nv).toNat)
          case atStart => exact ⟨0, Nat.zero_le _, rfl, HH⟩
          case round =>
            obtain ⟨q, hq, rfl, HJ⟩ := hrel
            by_cases hq4 : q < 4
            · have q1 : (q : Int) < 4 := by omega
              go_wp2_with fail
              refine (fourAny q _ (by omega)).mono ?_
              rintro e w10 ⟨rfl, hb10⟩
              have h10 := HJ.out.same hb10
              clear hb10
              by_cases hqa : Dm.fourL q = Dm.fourL i
              · have f2 : (Dm.fourL q == Dm.fourL i) = true := by simpa using hqa
                have H10 := Lib.hid h10
                clear h10
                go_wp2_with fail
                go_roundw
                case rel => exact ⟨q + 1, by omega, rfl, H10⟩
                case measure => simp [intOf]; omega
              · have f2 : (Dm.fourL q == Dm.fourL i) = false := by simpa using hqa
                go_wp2_with fail
                refine (fourAny q _ (by omega)).mono ?_
                rintro e w11 ⟨rfl, hb11⟩
                have h11 := h10.same hb11
                clear hb11 h10
                by_cases hqb : Dm.fourL q = Dm.fourL j
                · have f3 : (Dm.fourL q == Dm.fourL j) = true := by simpa using hqb
                  have H11 := Lib.hid h11
                  clear h11
                  go_wp2_with fail
                  go_roundw
                  case rel => exact ⟨q + 1, by omega, rfl, H11⟩
                  case measure => simp [intOf]; omega
                · have f3 : (Dm.fourL q == Dm.fourL j) = false := by simpa using hqb
                  obtain ⟨g2, c2, eq2⟩ : ∃ g2 c2, Dm.read D (Dm.fourL q) = (g2, c2) := ⟨_, _, rfl⟩
                  have eq1 := (E5.out q hqa hqb).trans eq2
                  go_wp2_with fail
                  refine (fourAny q _ (by omega)).mono ?_
                  rintro e w12 ⟨rfl, hb12⟩
                  have h12 := h11.same hb12
                  clear hb12 h11
                  go_wp2_with fail
                  refine (two_read h12 ⟨(Dm.fourL q).toArray⟩ (four_size _) eq1 rfl).mono ?_
                  rintro e w13 ⟨rfl, rfl⟩
                  go_wp2_with fail
                  refine (fourAny q _ (by omega)).mono ?_
                  rintro e w13 ⟨rfl, hb13⟩
                  have h13 := h12.same hb13
                  clear hb13 h12
                  go_wp2_with fail
                  refine (two_read' h13 ⟨(Dm.fourL q).toArray⟩ (four_size _) eq2 rfl).mono ?_
                  rintro e w14 ⟨rfl, rfl⟩
                  have H13 := Lib.hid h13
                  clear h13 eq1 eq2
                  go_wp2_with fail
                  go_roundw
                  case rel => exact ⟨q + 1, by omega, rfl, H13⟩
                  case measure => simp [intOf]; omega
            · obtain rfl : q = 4 := by omega
              go_wp2_with fail
              refine (two_rename HJ.out ⟨(Dm.fourL j).toArray⟩ ⟨(Dm.fourL i).toArray⟩ (four_size _) (four_size _) E8.out rfl).mono ?_
              rintro e w10 ⟨rfl, h10⟩
              go_wp2_with fail
              refine (two_same h10 (b := true) (Dm.same_iff.2 rfl)).mono ?_
              rintro e w11 ⟨rfl, h11⟩
              have hb11 := h11.below
              clear h10 h11
              go_wp2
              go_ret
              exact ⟨rfl, hb11⟩
end Go.Proofs.Ytgcjjpmcphpcjaa
