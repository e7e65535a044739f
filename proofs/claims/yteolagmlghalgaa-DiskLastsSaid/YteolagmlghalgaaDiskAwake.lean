/-
  Walks over the laws of package disk: awake. No condition.
-/
import Derived.Test.YteolagmlghalgaaDiskLaw
namespace Go.Proofs.Yteolagmlghalgaa
open Go.RowKit Go.Maps Go.Sort Go.Shelf

set_option maxRecDepth 100000 in
set_option maxHeartbeats 2000000 in
theorem diskAwake_any (w : World) : Calls Try.prog 24 #[] w fun e w' => e = .returned (.bool true) ∧ Below w.heap.size w w' := by
  go_enter Try.func24, Try.ntmps24
  go_wp2_with fail
  refine (new_in (Below.refl _ w)).mono ?_
  rintro e w1 ⟨a, rfl, h1⟩
  go_wp2_with fail
  refine (create_in h1 ⟨#[97]⟩ (by decide) (c := 0) (by decide)).mono ?_
  rintro e w2 ⟨rfl, h2⟩
  clear h1
  go_wp2_with fail
  refine (append_in h2 ⟨#[97]⟩ ⟨#[104, 101, 108, 108, 111]⟩ (by decide) (by decide) (c := 0) (by decide)).mono ?_
  rintro e w3 ⟨rfl, h3⟩
  clear h2
  go_wp2_with fail
  refine (sync_in h3 ⟨#[97]⟩ (by decide) (c := 0) (by decide)).mono ?_
  rintro e w4 ⟨rfl, h4⟩
  clear h3
  go_wp2_with fail
  refine (append_in h4 ⟨#[97]⟩ ⟨#[119, 111, 114, 108, 100]⟩ (by decide) (by decide) (c := 0) (by decide)).mono ?_
  rintro e w5 ⟨rfl, h5⟩
  clear h4
  go_wp2_with fail
  refine (crash_lit h5 [2] (by decide)).mono ?_
  rintro e w6 ⟨rfl, h6⟩
  clear h5
  go_wp2_with fail
  refine (read_in h6 ⟨#[97]⟩ (by decide) (l := []) (c := 7) (by decide) (by decide)).mono ?_
  rintro e w7 ⟨rfl, rfl⟩
  go_wp2_with fail
  refine (start_in h6).mono ?_
  rintro e w7 ⟨rfl, h7⟩
  clear h6
  go_wp2_with fail
  refine (read_in h7 ⟨#[97]⟩ (by decide) (l := [104, 101, 108, 108, 111, 119, 111]) (c := 0) (by decide) (by decide)).mono ?_
  rintro e w8 ⟨rfl, rfl⟩
  have hb := h7.below
  clear h7
  go_wp2
  go_ret
  exact ⟨rfl, hb⟩
end Go.Proofs.Yteolagmlghalgaa
