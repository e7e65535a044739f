/-
  Walks over the laws of package disk: DiskQuiet. No condition.
-/
import Derived.Test.YtgcjjpmcphpcjaaGreat
import Derived.Test.YtgcjjpmcphpcjaaDiskAwake
import Derived.Test.YtgcjjpmcphpcjaaDiskQuietMath
import Derived.Test.YtgcjjpmcphpcjaaDiskAside
namespace Go.Proofs.Ytgcjjpmcphpcjaa
open Go.RowKit Go.Maps Go.Sort Go.Shelf

theorem masked (x : Int) : ∃ n : Nat, n < 4611686018427387904 ∧ bits .and .i64 x 4611686018427387903 = (n : Int) := by
  have h : (BitVec.ofInt 64 x &&& BitVec.ofInt 64 4611686018427387903).toNat < 4611686018427387904 := by
    rw [BitVec.toNat_and]
    exact Nat.lt_of_le_of_lt Nat.and_le_right (by decide)
  refine ⟨_, h, ?_⟩
  show IntKind.i64.wrap ((BitVec.ofInt 64 x &&& BitVec.ofInt 64 4611686018427387903).toNat : Int) = _
  exact IntWalk.i64_in _ (by omega)
theorem Acts.below {W W' : World} {p : Option Addr} {xs : List ActV} (h : Acts W p xs) (hb : Below W.heap.size W W') : Acts W' p xs := fun i hi => by
  obtain ⟨A, h1, h2, h3, h4⟩ := h i hi
  refine ⟨A, h1, Nat.lt_of_lt_of_le h2 hb.size, fun j hj => (hb.cell (by rw [add_blk]; exact h2)).trans (h3 j hj), ⟨h4.act, h4.name, h4.to, h4.data, h4.n, h4.keep, fun k hk => ?_⟩⟩
  obtain ⟨B, k1, k2, k3, k4⟩ := h4.ints k hk
  exact ⟨B, k1, by have := hb.size; omega, Nat.lt_of_lt_of_le k3 hb.size, (hb.cell (by rw [add_blk]; exact k3)).trans k4⟩

/-- The cells of an act in its box. -/
def boxOf (n : Int) (x : ActV) : Obj := .cells #[.int .i64 n, .string x.name, .string x.to, .string x.data, .int .i64 x.n, .slice x.kp x.ks.length x.kcap] 44 (0, 0)
theorem box_name {w : World} {b : Nat} {n : Int} {x : ActV} (h : w.heap[b]? = some (boxOf n x)) : w.cell? ⟨b, 1, none⟩ = some (.string x.name) := by rw [cell_of_row w b 1 _ _ _ h]; rfl

set_option maxRecDepth 100000 in
set_option maxHeartbeats 8000000 in
theorem quiet_any (p : Option Addr) (cap : Nat) (xs : List ActV) (fuse room : Int) (w : World) (hxs : Acts w p xs) :
    Calls Try.prog 6 #[.slice p xs.length cap, .int .i64 fuse, .int .i64 room] w fun e w' => e = .returned (.bool true) ∧ Below w.heap.size w w' := by
  have HX := Lib.hid hxs
  go_enter Try.func6, Try.ntmps6
  go_wp2_with fail
  refine (diskAwake_any _).mono ?_
  rintro e w1 ⟨rfl, hb1⟩
  go_wp2_with fail
  refine (great_any p cap xs w1 (hxs.below hb1)).mono ?_
  rintro e w2 ⟨b, rfl, hb2, hsm⟩
  have hb := hb1.trans (hb2.mono hb1.size)
  clear hb1 hb2 hxs
  cases b with
  | true =>
    go_wp2
    go_ret
    exact ⟨rfl, hb⟩
  | false =>
    have hsm := hsm rfl
    go_wp2_with fail
    refine (new_in hb).mono ?_
    rintro e w3 ⟨a, rfl, h3⟩
    obtain ⟨f, hf, ef⟩ := masked fuse
    obtain ⟨r, hr, er⟩ := masked room
    go_wp2_with fail
    have ef2 : 1 + (f : Int) % 30 = ((1 + f % 30 : Nat) : Int) := by omega
    have er2 : (r : Int) % 3000 = ((r % 3000 : Nat) : Int) := by omega
    rw [ef2, er2]
    have hL : 1 ≤ 1 + f % 30 ∧ 1 + f % 30 ≤ 30 := by omega
    have hR : r % 3000 < 3000 := by omega
    generalize 1 + f % 30 = L0 at *
    generalize r % 3000 = R at *
    refine (fuse_in h3 (L0 : Int) (by omega)).mono ?_
    rintro e w4 ⟨rfl, h4⟩
    go_wp2_with fail
    refine (room_in h4 (R : Int) (by omega)).mono ?_
    rintro e w5 ⟨rfl, h5⟩
    have H5 := Lib.hid (And.intro h5 (Dm.lit_first (L := L0) (R := R) (by omega) (by omega)))
    clear h3 h4 h5 hf ef hr er ef2 er2
    go_wp2_with fail
    go_loopw [8, 9] (fun lv iv wr => ∃ (k L : Nat) (D : Dm.Disk), k ≤ xs.length ∧ 1 ≤ L ∧ L ≤ 30 ∧ iv = .int .i64 (k : Nat) ∧ lv = .int .i64 (L : Nat) ∧ Hid (In w wr a D ∧ Dm.Lit D L R)) (fun _ iv _ => xs.length - (intOf iv).toNat)
    case atStart => exact ⟨0, L0, _, Nat.zero_le _, by omega, by omega, rfl, rfl, H5⟩
    case round =>
      obtain ⟨k, L, D, hk, hL1, hL2, rfl, rfl, HD⟩ := hrel
      by_cases hlt : k < xs.length
      · have i1 : (k : Int) < (xs.length : Int) := by omega
        have i2 : (0 : Int) ≤ (k : Int) := by omega
        obtain ⟨A, rfl, hA, hcells, hok⟩ := HX.out k hlt
        have cell : ∀ j, j < 6 → wr.cell? ((A.add (k * 6)).add j) = xs[k].cells[j]? := fun j hj => by
          rw [add_add]; exact (HD.out.1.below.cell (by rw [add_blk]; exact hA)).trans (hcells j hj)
        have c0 : wr.cell? (A.add (k * 6)) = some (.int .i64 xs[k].act) := cell 0 (by omega)
        have c1 : wr.cell? ⟨(A.add (k * 6)).block, (A.add (k * 6)).off + 1, none⟩ = some (.string xs[k].name) := cell 1 (by omega)
        have c2 : wr.cell? ⟨(A.add (k * 6)).block, (A.add (k * 6)).off + 2, none⟩ = some (.string xs[k].to) := cell 2 (by omega)
        have c3 : wr.cell? ⟨(A.add (k * 6)).block, (A.add (k * 6)).off + 3, none⟩ = some (.string xs[k].data) := cell 3 (by omega)
        have c4 : wr.cell? ⟨(A.add (k * 6)).block, (A.add (k * 6)).off + 4, none⟩ = some (.int .i64 xs[k].n) := cell 4 (by omega)
        have c5 : wr.cell? ⟨(A.add (k * 6)).block, (A.add (k * 6)).off + 5, none⟩ = some (.slice xs[k].kp xs[k].ks.length xs[k].kcap) := cell 5 (by omega)
        clear cell
        have HOK := Lib.hid hok
        clear hok hcells
        generalize xs[k] = x at *
        have hact : x.act = 0 ∨ x.act = 1 ∨ x.act = 2 ∨ x.act = 3 ∨ x.act = 4 ∨ (x.act ≠ 0 ∧ x.act ≠ 1 ∧ x.act ≠ 2 ∧ x.act ≠ 3 ∧ x.act ≠ 4) := by omega
        rcases hact with hact | hact | hact | hact | hact | ⟨n0, n1, n2, n3, n4⟩
        · have HB := Lib.hid (HD.out.1.aside (boxOf 0 x))
          have HC := Lib.hid (Dm.create_burns HD.out.2 hL1 x.name.data.toList)
          obtain ⟨c, D', hcd⟩ : ∃ c D', Dm.create D x.name.data.toList = (c, D') := ⟨_, _, rfl⟩
          have HCD := Lib.hid hcd
          clear hcd
          go_wp2_with fail
          refine (create_aside HB.out x.name HOK.out.name HCD.out rfl).mono ?_
          rintro e w5 ⟨rfl, h5⟩
          have H5 := Lib.hid h5
          have hburn := HC.out
          rw [HCD.out] at hburn
          clear HC HCD h5 hact c0 c1 c2 c3 c4 c5
          unfold Dm.Burns at hburn
          simp only at hburn
          rcases hburn with ⟨b1, b2, rfl⟩ | ⟨rfl, b2, b3⟩ | ⟨rfl, rfl, b3, b4, b5⟩
          · have e1 : ((c : Int) != 0) = true := by simp; omega
            have e2 : ((c : Int) != 7) = true := by simp; omega
            clear b1 b2
            go_wp2_with fail
            go_roundw
            case rel => exact ⟨k + 1, L, _, by omega, hL1, hL2, rfl, rfl, Lib.hid ⟨H5.out.inn, HD.out.2⟩⟩
            case measure => simp [intOf]; omega
          · have l1 : ((L : Int) - 1 == 0) = false := by rw [beq_eq_false_iff_ne]; omega
            have l2 : (0 : Int) < (L : Int) - 1 := by omega
            have u1 : Dm.used D'.files ≤ R := b3.used
            have u2 : decide ((R : Int) < (Dm.used D'.files : Int)) = false := decide_eq_false (by omega)
            have HB3 := Lib.hid b3
            clear b3
            go_wp2_with fail
            refine (down_aside H5.out HB3.out.up).mono ?_
            rintro e w6 ⟨rfl, rfl⟩
            go_wp2_with fail
            refine (used_aside H5.out rfl).mono ?_
            rintro e w6 ⟨rfl, h6⟩
            have H6 := Lib.hid h6
            clear h6
            go_wp2_with fail
            go_roundw
            case rel => exact ⟨k + 1, L - 1, _, by omega, by omega, by omega, rfl, by congr 1; omega, Lib.hid ⟨H6.out.inn, HB3.out⟩⟩
            case measure => simp [intOf]; omega
          · have HOFF := Lib.hid (fun n s => Dm.off (d := D') b3 n s)
            have u2 : decide ((R : Int) < (Dm.used D'.files : Int)) = false := decide_eq_false (by omega)
            have HON := Lib.hid (Dm.create_on (Dm.start_on D') ((Dm.start_fuse D').trans b5) [45])
            have HB3 := Lib.hid b3
            clear b3 b5 hsm
            go_wp2_with fail
            refine (down_aside H5.out HB3.out).mono ?_
            rintro e w6 ⟨rfl, rfl⟩
            go_wp2_with fail
            refine (used_aside H5.out rfl).mono ?_
            rintro e w6 ⟨rfl, h6⟩
            go_wp2_with fail
            refine (twin_aside h6).mono ?_
            rintro e w7 ⟨t, rfl, ht, hk7, h7⟩
            have X7 := box_name (n := 0) (x := x) ((hk7 wr.heap.size rfl).trans (heap_alloc_new wr _))
            have HT := Lib.hid ht
            clear hk7 ht h6
            go_wp2_with fail
            refine (read_aside h7 x.name HOK.out.name (HOFF.out x.name.data.toList []).1 rfl).mono ?_
            rintro e w8 ⟨rfl, rfl⟩
            go_wp2_with fail
            refine (create_aside h7 ⟨#[113]⟩ (by decide) (HOFF.out [113] []).2.1 rfl).mono ?_
            rintro e w8 ⟨rfl, h8⟩
            have X8 := (h8.cell (i := 1) (.inl rfl)).trans X7
            clear h7
            go_wp2_with fail
            refine (append_aside h8 x.name ⟨#[113]⟩ HOK.out.name (by decide) (HOFF.out x.name.data.toList [113]).2.2.1 rfl).mono ?_
            rintro e w9 ⟨rfl, h9⟩
            have X9 := (h9.cell (i := 1) (.inl rfl)).trans X7
            clear h8 X8
            go_wp2_with fail
            refine (sync_aside h9 x.name HOK.out.name (HOFF.out x.name.data.toList []).2.2.2.1 rfl).mono ?_
            rintro e w10 ⟨rfl, h10⟩
            have X10 := (h10.cell (i := 1) (.inl rfl)).trans X7
            clear h9 X9
            go_wp2_with fail
            refine (rename_aside h10 x.name ⟨#[113]⟩ HOK.out.name (by decide) (HOFF.out x.name.data.toList [113]).2.2.2.2.1 rfl).mono ?_
            rintro e w11 ⟨rfl, h11⟩
            have X11 := (h11.cell (i := 1) (.inl rfl)).trans X7
            clear h10 X10
            go_wp2_with fail
            refine (remove_aside h11 x.name HOK.out.name (HOFF.out x.name.data.toList []).2.2.2.2.2 rfl).mono ?_
            rintro e w12 ⟨rfl, h12⟩
            clear h11 X11 X7
            go_wp2_with fail
            refine (same_aside h12 HT.out (fun k hk => .inr hk) (b := true) (Dm.same_iff.2 rfl)).mono ?_
            rintro e w13 ⟨rfl, h13⟩
            clear h12
            go_wp2_with fail
            refine (start_aside h13).mono ?_
            rintro e w14 ⟨rfl, h14⟩
            clear h13
            go_wp2_with fail
            refine (down_aside h14 (Dm.start_on D')).mono ?_
            rintro e w15 ⟨rfl, rfl⟩
            obtain ⟨c2, D2, hcd2⟩ : ∃ c D2, Dm.create (Dm.start D') [45] = (c, D2) := ⟨_, _, rfl⟩
            have hne := HON.out
            rw [hcd2] at hne
            have e1 : ((c2 : Int) != 7) = true := by simp only at hne; simp; omega
            go_wp2_with fail
            refine (create_aside h14 ⟨#[45]⟩ (by decide) hcd2 rfl).mono ?_
            rintro e w16 ⟨rfl, h16⟩
            have hb16 := h16.below
            clear h14 h16 hcd2 hne
            go_wp2
            go_ret
            exact ⟨rfl, hb16⟩
        · have HB := Lib.hid (HD.out.1.aside (boxOf 1 x))
          have HC := Lib.hid (Dm.append_burns HD.out.2 hL1 x.name.data.toList x.data.data.toList)
          obtain ⟨c, D', hcd⟩ : ∃ c D', Dm.append D x.name.data.toList x.data.data.toList = (c, D') := ⟨_, _, rfl⟩
          have HCD := Lib.hid hcd
          clear hcd
          go_wp2_with fail
          refine (append_aside HB.out x.name x.data HOK.out.name HOK.out.data HCD.out rfl).mono ?_
          rintro e w5 ⟨rfl, h5⟩
          have H5 := Lib.hid h5
          have hburn := HC.out
          rw [HCD.out] at hburn
          clear HC HCD h5 hact c0 c1 c2 c3 c4 c5
          unfold Dm.Burns at hburn
          simp only at hburn
          rcases hburn with ⟨b1, b2, rfl⟩ | ⟨rfl, b2, b3⟩ | ⟨rfl, rfl, b3, b4, b5⟩
          · have e1 : ((c : Int) != 0) = true := by simp; omega
            have e2 : ((c : Int) != 7) = true := by simp; omega
            clear b1 b2
            go_wp2_with fail
            go_roundw
            case rel => exact ⟨k + 1, L, _, by omega, hL1, hL2, rfl, rfl, Lib.hid ⟨H5.out.inn, HD.out.2⟩⟩
            case measure => simp [intOf]; omega
          · have l1 : ((L : Int) - 1 == 0) = false := by rw [beq_eq_false_iff_ne]; omega
            have l2 : (0 : Int) < (L : Int) - 1 := by omega
            have u1 : Dm.used D'.files ≤ R := b3.used
            have u2 : decide ((R : Int) < (Dm.used D'.files : Int)) = false := decide_eq_false (by omega)
            have HB3 := Lib.hid b3
            clear b3
            go_wp2_with fail
            refine (down_aside H5.out HB3.out.up).mono ?_
            rintro e w6 ⟨rfl, rfl⟩
            go_wp2_with fail
            refine (used_aside H5.out rfl).mono ?_
            rintro e w6 ⟨rfl, h6⟩
            have H6 := Lib.hid h6
            clear h6
            go_wp2_with fail
            go_roundw
            case rel => exact ⟨k + 1, L - 1, _, by omega, by omega, by omega, rfl, by congr 1; omega, Lib.hid ⟨H6.out.inn, HB3.out⟩⟩
            case measure => simp [intOf]; omega
          · have HOFF := Lib.hid (fun n s => Dm.off (d := D') b3 n s)
            have u2 : decide ((R : Int) < (Dm.used D'.files : Int)) = false := decide_eq_false (by omega)
            have HON := Lib.hid (Dm.create_on (Dm.start_on D') ((Dm.start_fuse D').trans b5) [45])
            have HB3 := Lib.hid b3
            clear b3 b5 hsm
            go_wp2_with fail
            refine (down_aside H5.out HB3.out).mono ?_
            rintro e w6 ⟨rfl, rfl⟩
            go_wp2_with fail
            refine (used_aside H5.out rfl).mono ?_
            rintro e w6 ⟨rfl, h6⟩
            go_wp2_with fail
            refine (twin_aside h6).mono ?_
            rintro e w7 ⟨t, rfl, ht, hk7, h7⟩
            have X7 := box_name (n := 1) (x := x) ((hk7 wr.heap.size rfl).trans (heap_alloc_new wr _))
            have HT := Lib.hid ht
            clear hk7 ht h6
            go_wp2_with fail
            refine (read_aside h7 x.name HOK.out.name (HOFF.out x.name.data.toList []).1 rfl).mono ?_
            rintro e w8 ⟨rfl, rfl⟩
            go_wp2_with fail
            refine (create_aside h7 ⟨#[113]⟩ (by decide) (HOFF.out [113] []).2.1 rfl).mono ?_
            rintro e w8 ⟨rfl, h8⟩
            have X8 := (h8.cell (i := 1) (.inl rfl)).trans X7
            clear h7
            go_wp2_with fail
            refine (append_aside h8 x.name ⟨#[113]⟩ HOK.out.name (by decide) (HOFF.out x.name.data.toList [113]).2.2.1 rfl).mono ?_
            rintro e w9 ⟨rfl, h9⟩
            have X9 := (h9.cell (i := 1) (.inl rfl)).trans X7
            clear h8 X8
            go_wp2_with fail
            refine (sync_aside h9 x.name HOK.out.name (HOFF.out x.name.data.toList []).2.2.2.1 rfl).mono ?_
            rintro e w10 ⟨rfl, h10⟩
            have X10 := (h10.cell (i := 1) (.inl rfl)).trans X7
            clear h9 X9
            go_wp2_with fail
            refine (rename_aside h10 x.name ⟨#[113]⟩ HOK.out.name (by decide) (HOFF.out x.name.data.toList [113]).2.2.2.2.1 rfl).mono ?_
            rintro e w11 ⟨rfl, h11⟩
            have X11 := (h11.cell (i := 1) (.inl rfl)).trans X7
            clear h10 X10
            go_wp2_with fail
            refine (remove_aside h11 x.name HOK.out.name (HOFF.out x.name.data.toList []).2.2.2.2.2 rfl).mono ?_
            rintro e w12 ⟨rfl, h12⟩
            clear h11 X11 X7
            go_wp2_with fail
            refine (same_aside h12 HT.out (fun k hk => .inr hk) (b := true) (Dm.same_iff.2 rfl)).mono ?_
            rintro e w13 ⟨rfl, h13⟩
            clear h12
            go_wp2_with fail
            refine (start_aside h13).mono ?_
            rintro e w14 ⟨rfl, h14⟩
            clear h13
            go_wp2_with fail
            refine (down_aside h14 (Dm.start_on D')).mono ?_
            rintro e w15 ⟨rfl, rfl⟩
            obtain ⟨c2, D2, hcd2⟩ : ∃ c D2, Dm.create (Dm.start D') [45] = (c, D2) := ⟨_, _, rfl⟩
            have hne := HON.out
            rw [hcd2] at hne
            have e1 : ((c2 : Int) != 7) = true := by simp only at hne; simp; omega
            go_wp2_with fail
            refine (create_aside h14 ⟨#[45]⟩ (by decide) hcd2 rfl).mono ?_
            rintro e w16 ⟨rfl, h16⟩
            have hb16 := h16.below
            clear h14 h16 hcd2 hne
            go_wp2
            go_ret
            exact ⟨rfl, hb16⟩
        · have HB := Lib.hid (HD.out.1.aside (boxOf 2 x))
          have HC := Lib.hid (Dm.sync_burns HD.out.2 hL1 x.name.data.toList)
          obtain ⟨c, D', hcd⟩ : ∃ c D', Dm.sync D x.name.data.toList = (c, D') := ⟨_, _, rfl⟩
          have HCD := Lib.hid hcd
          clear hcd
          go_wp2_with fail
          refine (sync_aside HB.out x.name HOK.out.name HCD.out rfl).mono ?_
          rintro e w5 ⟨rfl, h5⟩
          have H5 := Lib.hid h5
          have hburn := HC.out
          rw [HCD.out] at hburn
          clear HC HCD h5 hact c0 c1 c2 c3 c4 c5
          unfold Dm.Burns at hburn
          simp only at hburn
          rcases hburn with ⟨b1, b2, rfl⟩ | ⟨rfl, b2, b3⟩ | ⟨rfl, rfl, b3, b4, b5⟩
          · have e1 : ((c : Int) != 0) = true := by simp; omega
            have e2 : ((c : Int) != 7) = true := by simp; omega
            clear b1 b2
            go_wp2_with fail
            go_roundw
            case rel => exact ⟨k + 1, L, _, by omega, hL1, hL2, rfl, rfl, Lib.hid ⟨H5.out.inn, HD.out.2⟩⟩
            case measure => simp [intOf]; omega
          · have l1 : ((L : Int) - 1 == 0) = false := by rw [beq_eq_false_iff_ne]; omega
            have l2 : (0 : Int) < (L : Int) - 1 := by omega
            have u1 : Dm.used D'.files ≤ R := b3.used
            have u2 : decide ((R : Int) < (Dm.used D'.files : Int)) = false := decide_eq_false (by omega)
            have HB3 := Lib.hid b3
            clear b3
            go_wp2_with fail
            refine (down_aside H5.out HB3.out.up).mono ?_
            rintro e w6 ⟨rfl, rfl⟩
            go_wp2_with fail
            refine (used_aside H5.out rfl).mono ?_
            rintro e w6 ⟨rfl, h6⟩
            have H6 := Lib.hid h6
            clear h6
            go_wp2_with fail
            go_roundw
            case rel => exact ⟨k + 1, L - 1, _, by omega, by omega, by omega, rfl, by congr 1; omega, Lib.hid ⟨H6.out.inn, HB3.out⟩⟩
            case measure => simp [intOf]; omega
          · have HOFF := Lib.hid (fun n s => Dm.off (d := D') b3 n s)
            have u2 : decide ((R : Int) < (Dm.used D'.files : Int)) = false := decide_eq_false (by omega)
            have HON := Lib.hid (Dm.create_on (Dm.start_on D') ((Dm.start_fuse D').trans b5) [45])
            have HB3 := Lib.hid b3
            clear b3 b5 hsm
            go_wp2_with fail
            refine (down_aside H5.out HB3.out).mono ?_
            rintro e w6 ⟨rfl, rfl⟩
            go_wp2_with fail
            refine (used_aside H5.out rfl).mono ?_
            rintro e w6 ⟨rfl, h6⟩
            go_wp2_with fail
            refine (twin_aside h6).mono ?_
            rintro e w7 ⟨t, rfl, ht, hk7, h7⟩
            have X7 := box_name (n := 2) (x := x) ((hk7 wr.heap.size rfl).trans (heap_alloc_new wr _))
            have HT := Lib.hid ht
            clear hk7 ht h6
            go_wp2_with fail
            refine (read_aside h7 x.name HOK.out.name (HOFF.out x.name.data.toList []).1 rfl).mono ?_
            rintro e w8 ⟨rfl, rfl⟩
            go_wp2_with fail
            refine (create_aside h7 ⟨#[113]⟩ (by decide) (HOFF.out [113] []).2.1 rfl).mono ?_
            rintro e w8 ⟨rfl, h8⟩
            have X8 := (h8.cell (i := 1) (.inl rfl)).trans X7
            clear h7
            go_wp2_with fail
            refine (append_aside h8 x.name ⟨#[113]⟩ HOK.out.name (by decide) (HOFF.out x.name.data.toList [113]).2.2.1 rfl).mono ?_
            rintro e w9 ⟨rfl, h9⟩
            have X9 := (h9.cell (i := 1) (.inl rfl)).trans X7
            clear h8 X8
            go_wp2_with fail
            refine (sync_aside h9 x.name HOK.out.name (HOFF.out x.name.data.toList []).2.2.2.1 rfl).mono ?_
            rintro e w10 ⟨rfl, h10⟩
            have X10 := (h10.cell (i := 1) (.inl rfl)).trans X7
            clear h9 X9
            go_wp2_with fail
            refine (rename_aside h10 x.name ⟨#[113]⟩ HOK.out.name (by decide) (HOFF.out x.name.data.toList [113]).2.2.2.2.1 rfl).mono ?_
            rintro e w11 ⟨rfl, h11⟩
            have X11 := (h11.cell (i := 1) (.inl rfl)).trans X7
            clear h10 X10
            go_wp2_with fail
            refine (remove_aside h11 x.name HOK.out.name (HOFF.out x.name.data.toList []).2.2.2.2.2 rfl).mono ?_
            rintro e w12 ⟨rfl, h12⟩
            clear h11 X11 X7
            go_wp2_with fail
            refine (same_aside h12 HT.out (fun k hk => .inr hk) (b := true) (Dm.same_iff.2 rfl)).mono ?_
            rintro e w13 ⟨rfl, h13⟩
            clear h12
            go_wp2_with fail
            refine (start_aside h13).mono ?_
            rintro e w14 ⟨rfl, h14⟩
            clear h13
            go_wp2_with fail
            refine (down_aside h14 (Dm.start_on D')).mono ?_
            rintro e w15 ⟨rfl, rfl⟩
            obtain ⟨c2, D2, hcd2⟩ : ∃ c D2, Dm.create (Dm.start D') [45] = (c, D2) := ⟨_, _, rfl⟩
            have hne := HON.out
            rw [hcd2] at hne
            have e1 : ((c2 : Int) != 7) = true := by simp only at hne; simp; omega
            go_wp2_with fail
            refine (create_aside h14 ⟨#[45]⟩ (by decide) hcd2 rfl).mono ?_
            rintro e w16 ⟨rfl, h16⟩
            have hb16 := h16.below
            clear h14 h16 hcd2 hne
            go_wp2
            go_ret
            exact ⟨rfl, hb16⟩
        · have HB := Lib.hid (HD.out.1.aside (boxOf 3 x))
          have HC := Lib.hid (Dm.rename_burns HD.out.2 hL1 x.name.data.toList x.to.data.toList)
          obtain ⟨c, D', hcd⟩ : ∃ c D', Dm.rename D x.name.data.toList x.to.data.toList = (c, D') := ⟨_, _, rfl⟩
          have HCD := Lib.hid hcd
          clear hcd
          go_wp2_with fail
          refine (rename_aside HB.out x.name x.to HOK.out.name HOK.out.to HCD.out rfl).mono ?_
          rintro e w5 ⟨rfl, h5⟩
          have H5 := Lib.hid h5
          have hburn := HC.out
          rw [HCD.out] at hburn
          clear HC HCD h5 hact c0 c1 c2 c3 c4 c5
          unfold Dm.Burns at hburn
          simp only at hburn
          rcases hburn with ⟨b1, b2, rfl⟩ | ⟨rfl, b2, b3⟩ | ⟨rfl, rfl, b3, b4, b5⟩
          · have e1 : ((c : Int) != 0) = true := by simp; omega
            have e2 : ((c : Int) != 7) = true := by simp; omega
            clear b1 b2
            go_wp2_with fail
            go_roundw
            case rel => exact ⟨k + 1, L, _, by omega, hL1, hL2, rfl, rfl, Lib.hid ⟨H5.out.inn, HD.out.2⟩⟩
            case measure => simp [intOf]; omega
          · have l1 : ((L : Int) - 1 == 0) = false := by rw [beq_eq_false_iff_ne]; omega
            have l2 : (0 : Int) < (L : Int) - 1 := by omega
            have u1 : Dm.used D'.files ≤ R := b3.used
            have u2 : decide ((R : Int) < (Dm.used D'.files : Int)) = false := decide_eq_false (by omega)
            have HB3 := Lib.hid b3
            clear b3
            go_wp2_with fail
            refine (down_aside H5.out HB3.out.up).mono ?_
            rintro e w6 ⟨rfl, rfl⟩
            go_wp2_with fail
            refine (used_aside H5.out rfl).mono ?_
            rintro e w6 ⟨rfl, h6⟩
            have H6 := Lib.hid h6
            clear h6
            go_wp2_with fail
            go_roundw
            case rel => exact ⟨k + 1, L - 1, _, by omega, by omega, by omega, rfl, by congr 1; omega, Lib.hid ⟨H6.out.inn, HB3.out⟩⟩
            case measure => simp [intOf]; omega
          · have HOFF := Lib.hid (fun n s => Dm.off (d := D') b3 n s)
            have u2 : decide ((R : Int) < (Dm.used D'.files : Int)) = false := decide_eq_false (by omega)
            have HON := Lib.hid (Dm.create_on (Dm.start_on D') ((Dm.start_fuse D').trans b5) [45])
            have HB3 := Lib.hid b3
            clear b3 b5 hsm
            go_wp2_with fail
            refine (down_aside H5.out HB3.out).mono ?_
            rintro e w6 ⟨rfl, rfl⟩
            go_wp2_with fail
            refine (used_aside H5.out rfl).mono ?_
            rintro e w6 ⟨rfl, h6⟩
            go_wp2_with fail
            refine (twin_aside h6).mono ?_
            rintro e w7 ⟨t, rfl, ht, hk7, h7⟩
            have X7 := box_name (n := 3) (x := x) ((hk7 wr.heap.size rfl).trans (heap_alloc_new wr _))
            have HT := Lib.hid ht
            clear hk7 ht h6
            go_wp2_with fail
            refine (read_aside h7 x.name HOK.out.name (HOFF.out x.name.data.toList []).1 rfl).mono ?_
            rintro e w8 ⟨rfl, rfl⟩
            go_wp2_with fail
            refine (create_aside h7 ⟨#[113]⟩ (by decide) (HOFF.out [113] []).2.1 rfl).mono ?_
            rintro e w8 ⟨rfl, h8⟩
            have X8 := (h8.cell (i := 1) (.inl rfl)).trans X7
            clear h7
            go_wp2_with fail
            refine (append_aside h8 x.name ⟨#[113]⟩ HOK.out.name (by decide) (HOFF.out x.name.data.toList [113]).2.2.1 rfl).mono ?_
            rintro e w9 ⟨rfl, h9⟩
            have X9 := (h9.cell (i := 1) (.inl rfl)).trans X7
            clear h8 X8
            go_wp2_with fail
            refine (sync_aside h9 x.name HOK.out.name (HOFF.out x.name.data.toList []).2.2.2.1 rfl).mono ?_
            rintro e w10 ⟨rfl, h10⟩
            have X10 := (h10.cell (i := 1) (.inl rfl)).trans X7
            clear h9 X9
            go_wp2_with fail
            refine (rename_aside h10 x.name ⟨#[113]⟩ HOK.out.name (by decide) (HOFF.out x.name.data.toList [113]).2.2.2.2.1 rfl).mono ?_
            rintro e w11 ⟨rfl, h11⟩
            have X11 := (h11.cell (i := 1) (.inl rfl)).trans X7
            clear h10 X10
            go_wp2_with fail
            refine (remove_aside h11 x.name HOK.out.name (HOFF.out x.name.data.toList []).2.2.2.2.2 rfl).mono ?_
            rintro e w12 ⟨rfl, h12⟩
            clear h11 X11 X7
            go_wp2_with fail
            refine (same_aside h12 HT.out (fun k hk => .inr hk) (b := true) (Dm.same_iff.2 rfl)).mono ?_
            rintro e w13 ⟨rfl, h13⟩
            clear h12
            go_wp2_with fail
            refine (start_aside h13).mono ?_
            rintro e w14 ⟨rfl, h14⟩
            clear h13
            go_wp2_with fail
            refine (down_aside h14 (Dm.start_on D')).mono ?_
            rintro e w15 ⟨rfl, rfl⟩
            obtain ⟨c2, D2, hcd2⟩ : ∃ c D2, Dm.create (Dm.start D') [45] = (c, D2) := ⟨_, _, rfl⟩
            have hne := HON.out
            rw [hcd2] at hne
            have e1 : ((c2 : Int) != 7) = true := by simp only at hne; simp; omega
            go_wp2_with fail
            refine (create_aside h14 ⟨#[45]⟩ (by decide) hcd2 rfl).mono ?_
            rintro e w16 ⟨rfl, h16⟩
            have hb16 := h16.below
            clear h14 h16 hcd2 hne
            go_wp2
            go_ret
            exact ⟨rfl, hb16⟩
        · have HB := Lib.hid (HD.out.1.aside (boxOf 4 x))
          have HC := Lib.hid (Dm.remove_burns HD.out.2 hL1 x.name.data.toList)
          obtain ⟨c, D', hcd⟩ : ∃ c D', Dm.remove D x.name.data.toList = (c, D') := ⟨_, _, rfl⟩
          have HCD := Lib.hid hcd
          clear hcd
          go_wp2_with fail
          refine (remove_aside HB.out x.name HOK.out.name HCD.out rfl).mono ?_
          rintro e w5 ⟨rfl, h5⟩
          have H5 := Lib.hid h5
          have hburn := HC.out
          rw [HCD.out] at hburn
          clear HC HCD h5 hact c0 c1 c2 c3 c4 c5
          unfold Dm.Burns at hburn
          simp only at hburn
          rcases hburn with ⟨b1, b2, rfl⟩ | ⟨rfl, b2, b3⟩ | ⟨rfl, rfl, b3, b4, b5⟩
          · have e1 : ((c : Int) != 0) = true := by simp; omega
            have e2 : ((c : Int) != 7) = true := by simp; omega
            clear b1 b2
            go_wp2_with fail
            go_roundw
            case rel => exact ⟨k + 1, L, _, by omega, hL1, hL2, rfl, rfl, Lib.hid ⟨H5.out.inn, HD.out.2⟩⟩
            case measure => simp [intOf]; omega
          · have l1 : ((L : Int) - 1 == 0) = false := by rw [beq_eq_false_iff_ne]; omega
            have l2 : (0 : Int) < (L : Int) - 1 := by omega
            have u1 : Dm.used D'.files ≤ R := b3.used
            have u2 : decide ((R : Int) < (Dm.used D'.files : Int)) = false := decide_eq_false (by omega)
            have HB3 := Lib.hid b3
            clear b3
            go_wp2_with fail
            refine (down_aside H5.out HB3.out.up).mono ?_
            rintro e w6 ⟨rfl, rfl⟩
            go_wp2_with fail
            refine (used_aside H5.out rfl).mono ?_
            rintro e w6 ⟨rfl, h6⟩
            have H6 := Lib.hid h6
            clear h6
            go_wp2_with fail
            go_roundw
            case rel => exact ⟨k + 1, L - 1, _, by omega, by omega, by omega, rfl, by congr 1; omega, Lib.hid ⟨H6.out.inn, HB3.out⟩⟩
            case measure => simp [intOf]; omega
          · have HOFF := Lib.hid (fun n s => Dm.off (d := D') b3 n s)
            have u2 : decide ((R : Int) < (Dm.used D'.files : Int)) = false := decide_eq_false (by omega)
            have HON := Lib.hid (Dm.create_on (Dm.start_on D') ((Dm.start_fuse D').trans b5) [45])
            have HB3 := Lib.hid b3
            clear b3 b5 hsm
            go_wp2_with fail
            refine (down_aside H5.out HB3.out).mono ?_
            rintro e w6 ⟨rfl, rfl⟩
            go_wp2_with fail
            refine (used_aside H5.out rfl).mono ?_
            rintro e w6 ⟨rfl, h6⟩
            go_wp2_with fail
            refine (twin_aside h6).mono ?_
            rintro e w7 ⟨t, rfl, ht, hk7, h7⟩
            have X7 := box_name (n := 4) (x := x) ((hk7 wr.heap.size rfl).trans (heap_alloc_new wr _))
            have HT := Lib.hid ht
            clear hk7 ht h6
            go_wp2_with fail
            refine (read_aside h7 x.name HOK.out.name (HOFF.out x.name.data.toList []).1 rfl).mono ?_
            rintro e w8 ⟨rfl, rfl⟩
            go_wp2_with fail
            refine (create_aside h7 ⟨#[113]⟩ (by decide) (HOFF.out [113] []).2.1 rfl).mono ?_
            rintro e w8 ⟨rfl, h8⟩
            have X8 := (h8.cell (i := 1) (.inl rfl)).trans X7
            clear h7
            go_wp2_with fail
            refine (append_aside h8 x.name ⟨#[113]⟩ HOK.out.name (by decide) (HOFF.out x.name.data.toList [113]).2.2.1 rfl).mono ?_
            rintro e w9 ⟨rfl, h9⟩
            have X9 := (h9.cell (i := 1) (.inl rfl)).trans X7
            clear h8 X8
            go_wp2_with fail
            refine (sync_aside h9 x.name HOK.out.name (HOFF.out x.name.data.toList []).2.2.2.1 rfl).mono ?_
            rintro e w10 ⟨rfl, h10⟩
            have X10 := (h10.cell (i := 1) (.inl rfl)).trans X7
            clear h9 X9
            go_wp2_with fail
            refine (rename_aside h10 x.name ⟨#[113]⟩ HOK.out.name (by decide) (HOFF.out x.name.data.toList [113]).2.2.2.2.1 rfl).mono ?_
            rintro e w11 ⟨rfl, h11⟩
            have X11 := (h11.cell (i := 1) (.inl rfl)).trans X7
            clear h10 X10
            go_wp2_with fail
            refine (remove_aside h11 x.name HOK.out.name (HOFF.out x.name.data.toList []).2.2.2.2.2 rfl).mono ?_
            rintro e w12 ⟨rfl, h12⟩
            clear h11 X11 X7
            go_wp2_with fail
            refine (same_aside h12 HT.out (fun k hk => .inr hk) (b := true) (Dm.same_iff.2 rfl)).mono ?_
            rintro e w13 ⟨rfl, h13⟩
            clear h12
            go_wp2_with fail
            refine (start_aside h13).mono ?_
            rintro e w14 ⟨rfl, h14⟩
            clear h13
            go_wp2_with fail
            refine (down_aside h14 (Dm.start_on D')).mono ?_
            rintro e w15 ⟨rfl, rfl⟩
            obtain ⟨c2, D2, hcd2⟩ : ∃ c D2, Dm.create (Dm.start D') [45] = (c, D2) := ⟨_, _, rfl⟩
            have hne := HON.out
            rw [hcd2] at hne
            have e1 : ((c2 : Int) != 7) = true := by simp only at hne; simp; omega
            go_wp2_with fail
            refine (create_aside h14 ⟨#[45]⟩ (by decide) hcd2 rfl).mono ?_
            rintro e w16 ⟨rfl, h16⟩
            have hb16 := h16.below
            clear h14 h16 hcd2 hne
            go_wp2
            go_ret
            exact ⟨rfl, hb16⟩
        · have HB := Lib.hid (HD.out.1.aside (boxOf x.act x))
          have m0 : (x.act == 0) = false := by simpa using n0
          have m1 : (x.act == 1) = false := by simpa using n1
          have m2 : (x.act == 2) = false := by simpa using n2
          have m3 : (x.act == 3) = false := by simpa using n3
          have m4 : (x.act == 4) = false := by simpa using n4
          clear n0 n1 n2 n3 n4
          go_wp2_with fail
          go_roundw
          case rel => exact ⟨k + 1, L, D, by omega, hL1, hL2, rfl, rfl, Lib.hid ⟨HB.out.inn, HD.out.2⟩⟩
          case measure => simp [intOf]; omega
      · obtain rfl : k = xs.length := by omega
        have i1 : ¬ (xs.length : Int) < (xs.length : Int) := by omega
        have hbb := HD.out.1.below
        go_wp2
        go_ret
        exact ⟨rfl, hbb⟩
end Go.Proofs.Ytgcjjpmcphpcjaa
