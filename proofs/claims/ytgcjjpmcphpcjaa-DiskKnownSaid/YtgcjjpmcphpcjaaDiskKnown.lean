/-
  Walks over the laws of package disk: DiskKnown. No condition.
-/
import Derived.Test.YtgcjjpmcphpcjaaDiskAwake
import Derived.Test.YtgcjjpmcphpcjaaTexts
namespace Go.Proofs.Ytgcjjpmcphpcjaa
open Go.RowKit Go.Maps Go.Sort Go.Shelf

/-- The list that is told is the one that the law writes down. -/
theorem list_same {w w' : World} {k : List UInt8} {v : Value} (h : Listed w [k] v w') :
    ∃ p cap, v = .slice p 1 cap ∧ Calls Try.prog 20 #[.slice p 1 cap, .slice (some ⟨w'.heap.size, 0, none⟩) 1 1] (w'.alloc (.cells #[.string ⟨k.toArray⟩] 9)) fun e w2 => e = .returned (.bool true) ∧ Below w'.heap.size w' w2 := by
  obtain ⟨p, cap, hv, ht⟩ := textsOf_row (ks := [k]) h.1
  refine ⟨p, cap, hv, ?_⟩
  have h1 : TextsOf (w'.alloc (.cells #[.string ⟨k.toArray⟩] 9)) p [⟨k.toArray⟩] := TextsOf.below ht ((Below.refl _ w').alloc (Nat.le_refl _) _)
  have h2 : TextsOf (w'.alloc (.cells #[.string ⟨k.toArray⟩] 9)) (some ⟨w'.heap.size, 0, none⟩) [⟨k.toArray⟩] := fun i hi => by
    have : i = 0 := by simp at hi; omega
    subst this
    refine ⟨_, rfl, by simp, ?_⟩
    have e : (⟨w'.heap.size, 0, none⟩ : Addr).add 0 = ⟨w'.heap.size, 0, none⟩ := rfl
    rw [e, cell_of_row _ _ _ _ _ _ (heap_alloc_new w' _)]
    rfl
  exact (textsSame_any p (some ⟨w'.heap.size, 0, none⟩) cap 1 [⟨k.toArray⟩] (by simp) _ h1 h2).mono fun e w2 ⟨he, hb⟩ => ⟨he, ((Below.refl _ w').alloc (Nat.le_refl _) _).trans (hb.mono (by simp))⟩

theorem Create_nil (s : ByteArray) (w : World) : Calls Try.prog 10 #[.pointer none, .string s] w fun e w' => e = .returned (.int .i64 2) ∧ Below w.heap.size w w' := by
  go_enter Try.func10, Try.ntmps10
  go_wp2_with fail
  refine (ready_nil _).mono ?_
  rintro e w1 ⟨rfl, rfl⟩
  go_wp2
  go_ret
  exact ⟨rfl, ((Below.refl _ w).alloc (Nat.le_refl _) _).alloc (by simp) _⟩

set_option maxRecDepth 100000 in
set_option maxHeartbeats 8000000 in
theorem diskKnown_any (w : World) : Calls Try.prog 3 #[] w fun e w' => e = .returned (.bool true) ∧ Below w.heap.size w w' := by
  go_enter Try.func3, Try.ntmps3
  go_wp2_with fail
  refine (new_in (Below.refl _ w)).mono ?_
  rintro e w1 ⟨a, rfl, h1⟩
  go_wp2_with fail
  refine (create_in h1 ⟨#[97]⟩ (by decide) (c := 0) (by decide)).mono ?_
  rintro e w2 ⟨rfl, h2⟩
  clear h1
  go_wp2_with fail
  refine (create_in h2 ⟨#[97]⟩ (by decide) (c := 5) (by decide)).mono ?_
  rintro e w3 ⟨rfl, h3⟩
  clear h2
  go_wp2_with fail
  refine (create_in h3 ⟨#[65]⟩ (by decide) (c := 1) (by decide)).mono ?_
  rintro e w4 ⟨rfl, h4⟩
  clear h3
  go_wp2_with fail
  refine (append_in h4 ⟨#[98]⟩ ⟨#[120]⟩ (by decide) (by decide) (c := 4) (by decide)).mono ?_
  rintro e w5 ⟨rfl, h5⟩
  clear h4
  go_wp2_with fail
  refine (append_in h5 ⟨#[97]⟩ ⟨#[104, 101, 108, 108, 111]⟩ (by decide) (by decide) (c := 0) (by decide)).mono ?_
  rintro e w6 ⟨rfl, h6⟩
  clear h5
  go_wp2_with fail
  refine (used_in h6 (c := 5) (by decide)).mono ?_
  rintro e w7 ⟨rfl, h7⟩
  clear h6
  go_wp2_with fail
  refine (sync_in h7 ⟨#[97]⟩ (by decide) (c := 0) (by decide)).mono ?_
  rintro e w8 ⟨rfl, h8⟩
  clear h7
  go_wp2_with fail
  refine (append_in h8 ⟨#[97]⟩ ⟨#[119, 111, 114, 108, 100]⟩ (by decide) (by decide) (c := 0) (by decide)).mono ?_
  rintro e w9 ⟨rfl, h9⟩
  clear h8
  go_wp2_with fail
  refine (crash_lit h9 [2] (by decide)).mono ?_
  rintro e w10 ⟨rfl, h10⟩
  clear h9
  go_wp2_with fail
  refine (start_in h10).mono ?_
  rintro e w11 ⟨rfl, h11⟩
  clear h10
  go_wp2_with fail
  refine (fuse_in h11 2 (by decide)).mono ?_
  rintro e w12 ⟨rfl, h12⟩
  clear h11
  go_wp2_with fail
  refine (append_in h12 ⟨#[97]⟩ ⟨#[120]⟩ (by decide) (by decide) (c := 0) (by decide)).mono ?_
  rintro e w13 ⟨rfl, h13⟩
  clear h12
  go_wp2_with fail
  refine (rename_in h13 ⟨#[97]⟩ ⟨#[98]⟩ (by decide) (by decide) (c := 7) (by decide)).mono ?_
  rintro e w14 ⟨rfl, h14⟩
  clear h13
  go_wp2_with fail
  refine (down_in h14 (b := true) (by decide)).mono ?_
  rintro e w15 ⟨rfl, rfl⟩
  go_wp2_with fail
  refine (start_in h14).mono ?_
  rintro e w15 ⟨rfl, h15⟩
  clear h14
  go_wp2_with fail
  refine (read_in h15 ⟨#[97]⟩ (by decide) (l := [104, 101, 108, 108, 111, 119, 111]) (c := 0) (by decide) (by decide)).mono ?_
  rintro e w16 ⟨rfl, rfl⟩
  go_wp2_with fail
  refine (list_in h15).mono ?_
  rintro e w16 ⟨v, rfl, hl, h16⟩
  obtain ⟨p, cap, rfl, hsm⟩ := list_same (k := [97]) hl
  have hsm1 := Lib.hid hsm
  clear h15 hl hsm
  go_wp2_with fail
  refine (hsm1.out).mono ?_
  rintro e w17 ⟨rfl, hb17⟩
  have h17 := h16.same hb17
  clear h16 hb17 hsm1
  go_wp2_with fail
  refine (fuse_in h17 1 (by decide)).mono ?_
  rintro e w18 ⟨rfl, h18⟩
  clear h17
  go_wp2_with fail
  refine (append_in h18 ⟨#[97]⟩ ⟨#[120, 121, 122]⟩ (by decide) (by decide) (c := 7) (by decide)).mono ?_
  rintro e w19 ⟨rfl, h19⟩
  clear h18
  go_wp2_with fail
  refine (crash_lit h19 [0, 5] (by decide)).mono ?_
  rintro e w20 ⟨rfl, h20⟩
  clear h19
  go_wp2_with fail
  refine (crash_lit h20 [5] (by decide)).mono ?_
  rintro e w21 ⟨rfl, h21⟩
  clear h20
  go_wp2_with fail
  refine (start_in h21).mono ?_
  rintro e w22 ⟨rfl, h22⟩
  clear h21
  go_wp2_with fail
  refine (read_in h22 ⟨#[97]⟩ (by decide) (l := [104, 101, 108, 108, 111, 119, 111]) (c := 0) (by decide) (by decide)).mono ?_
  rintro e w23 ⟨rfl, rfl⟩
  go_wp2_with fail
  refine (room_in h22 8 (by decide)).mono ?_
  rintro e w23 ⟨rfl, h23⟩
  clear h22
  go_wp2_with fail
  refine (append_in h23 ⟨#[97]⟩ ⟨#[121, 122]⟩ (by decide) (by decide) (c := 6) (by decide)).mono ?_
  rintro e w24 ⟨rfl, h24⟩
  clear h23
  go_wp2_with fail
  refine (append_in h24 ⟨#[97]⟩ ⟨#[121]⟩ (by decide) (by decide) (c := 0) (by decide)).mono ?_
  rintro e w25 ⟨rfl, h25⟩
  clear h24
  go_wp2_with fail
  refine (rename_in h25 ⟨#[97]⟩ ⟨#[98]⟩ (by decide) (by decide) (c := 0) (by decide)).mono ?_
  rintro e w26 ⟨rfl, h26⟩
  clear h25
  go_wp2_with fail
  refine (list_in h26).mono ?_
  rintro e w27 ⟨v, rfl, hl, h27⟩
  obtain ⟨p2, cap2, rfl, hsm⟩ := list_same (k := [98]) hl
  have hsm2 := Lib.hid hsm
  clear h26 hl hsm
  go_wp2_with fail
  refine (hsm2.out).mono ?_
  rintro e w28 ⟨rfl, hb28⟩
  have h28 := (h27.same hb28).below
  clear h27 hb28 hsm2
  go_wp2_with fail
  refine (New_disk w28).mono ?_
  rintro e w29 ⟨x, rfl, hx, hb29⟩
  have hx1 := hx.tight
  have hb29' : Below w.heap.size w w29 := h28.trans (hb29.mono h28.size)
  clear hx
  go_wp2_with fail
  refine (New_disk w29).mono ?_
  rintro e w30 ⟨y, rfl, hy, hb30⟩
  have hb30' : Below w.heap.size w w30 := hb29'.trans (hb30.mono hb29'.size)
  have hx2 : Disk w30 x Dm.new (fun k => w.heap.size ≤ k ∧ k < w29.heap.size) := (hx1.stay (turned_of_below (S := fun _ => False) hb30) fun _ _ h => h).mono fun k hk => ⟨Nat.le_trans h28.size hk.1, hk.2⟩
  have hy1 : Disk w30 y Dm.new (fun k => w29.heap.size ≤ k ∧ k < w30.heap.size) := hy.tight
  clear hx1 hy hb29 hb30
  go_wp2_with fail
  refine (Fuse_disk hx2 1 (by decide)).mono ?_
  rintro e w31 ⟨rfl, hx3, ht31⟩
  have hy3 := hy1.stay ht31 fun k hk h => by omega
  have hz31 := ht31.size
  have hb31 : Below w.heap.size w w31 := hb30'.trans (ht31.below hb30'.size fun _ e => e.1)
  clear hx2 hy1 ht31
  go_wp2_with fail
  refine (Create_disk hx3 ⟨#[97]⟩ (by decide)).mono ?_
  rintro e w32 ⟨he, hx4, ht32⟩
  obtain rfl : e = .returned (.int .i64 7) := he
  have hy4 := hy3.stay ht32 fun k hk h => by omega
  have hb32 : Below w.heap.size w w32 := hb31.trans (ht32.below hb31.size fun _ e => e.1)
  clear hx3 hy3 ht32
  go_wp2_with fail
  refine (Crash_disk hy4 none 0 [] (Nat.le_refl _) fun _ hi => nomatch hi).mono ?_
  rintro e w33 ⟨rfl, hy5, ht33⟩
  have hx5 := hx4.stay ht33 fun k hk h => by unfold Grow at hk; omega
  have hb33 : Below w.heap.size w w33 := hb32.trans (ht33.below hb32.size fun _ e => by have := hb29'.size; omega)
  clear hx4 hy4 ht33
  go_wp2_with fail
  refine (Same_disk hx5 hy5).mono ?_
  rintro e w34 ⟨he, hb34⟩
  have hv : Dm.same (Dm.create (Dm.fuseTo Dm.new 1) [97]).2 (Dm.crash Dm.new []) = true := by decide
  obtain rfl : e = .returned (.bool true) := he.trans (congrArg (fun b => Ending.returned (.bool b)) hv)
  have hb34' : Below w.heap.size w w34 := hb33.trans (hb34.mono hb33.size)
  clear hx5 hy5 hv hb34
  go_wp2_with fail
  refine (Fuse_nil 1 _).mono ?_
  rintro e w35 ⟨rfl, rfl⟩
  go_wp2_with fail
  refine (Room_nil 1 _).mono ?_
  rintro e w35 ⟨rfl, rfl⟩
  go_wp2_with fail
  refine (Crash_nil _ _).mono ?_
  rintro e w35 ⟨rfl, rfl⟩
  go_wp2_with fail
  refine (Start_nil _).mono ?_
  rintro e w35 ⟨rfl, rfl⟩
  go_wp2_with fail
  refine (Read_nil _ _).mono ?_
  rintro e w35 ⟨rfl, rfl⟩
  go_wp2_with fail
  refine (diskAwake_any _).mono ?_
  rintro e w35 ⟨rfl, hb35⟩
  go_wp2_with fail
  refine (Create_nil _ _).mono ?_
  rintro e w36 ⟨rfl, hb36⟩
  go_wp2_with fail
  refine (Down_nil _).mono ?_
  rintro e w37 ⟨rfl, rfl⟩
  go_wp2_with fail
  refine (Used_nil _).mono ?_
  rintro e w37 ⟨rfl, rfl⟩
  go_wp2_with fail
  refine (List_nil _).mono ?_
  rintro e w37 ⟨rfl, rfl⟩
  go_wp2_with fail
  refine (Twin_nil _).mono ?_
  rintro e w37 ⟨rfl, rfl⟩
  go_wp2_with fail
  refine (Same_nils _).mono ?_
  rintro e w37 ⟨rfl, rfl⟩
  go_wp2
  go_ret
  exact ⟨rfl, hb34'.trans ((hb35.mono hb34'.size).trans (hb36.mono (Nat.le_trans hb34'.size hb35.size)))⟩
end Go.Proofs.Ytgcjjpmcphpcjaa
