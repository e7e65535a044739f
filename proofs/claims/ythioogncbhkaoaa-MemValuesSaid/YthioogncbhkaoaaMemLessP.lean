/-
  Walks over a table's tree, values of pairs: first, both, without, floor. Conditions: those in the theorems.
-/
import Derived.Test.YthioogncbhkaoaaMemTreeP
import Derived.Deep.LoopGhost
namespace Go.Proofs.Ythioogncbhkaoaa.MP
open Go.RowKit

/-- What comes back is an item with p's key and value; nothing has turned. -/
def GivesItem (w : World) (p : ByteArray × Value) (e : Ending) (w' : World) : Prop := ∃ i, e = .returned (.pointer (some ⟨i, 0, none⟩)) ∧ Item w i p.1 p.2 ∧ w = w'
theorem first_left (a : Mm.Tr) (b : ByteArray) (c : Value) (d : Mm.Tr) (k : ByteArray) (v : Value) (r : Mm.Tr) : (Mm.Tr.node (.node a b c d) k v r).first = (Mm.Tr.node a b c d).first := rfl
set_option maxHeartbeats 2000000 in
theorem first_at {w : World} {l r : Mm.Tr} {k : ByteArray} {v p : Value} (h : At w (.node l k v r) p) :
    Calls Try.prog 72 #[p] w (GivesItem w (Mm.Tr.node l k v r).first) := by
  obtain ⟨op, rfl⟩ := h.ptr
  have H := Lib.hid h
  clear h
  go_enter Try.func72, Try.ntmps72
  go_wp2_with fail
  go_loopg [0] l.count (fun g pv wr => ∃ (l2 : Mm.Tr) (k2 : ByteArray) (v2 : Value) (r2 : Mm.Tr), g = l2.count ∧ Hid (At w (.node l2 k2 v2 r2) pv ∧ (Mm.Tr.node l2 k2 v2 r2).first = (Mm.Tr.node l k v r).first) ∧ wr = w)
  case atStart => exact ⟨l, k, v, r, rfl, Lib.hid ⟨H.out, rfl⟩, rfl⟩
  case round =>
    obtain ⟨l2, k2, v2, r2, rfl, HA, rfl⟩ := hrel
    obtain ⟨hat, hf⟩ := HA.out
    obtain ⟨a, i, pl, pr, rfl, hrow, hi, hl, hr⟩ := hat
    obtain ⟨c0, c1, c2, -⟩ := cells4 hrow
    have HI := Lib.hid hi
    have HF := Lib.hid hf
    clear hi hf hrow HA
    cases l2 with
    | nil =>
      obtain rfl : pl = .pointer none := hl
      go_wp2_with fail
      go_ret
      exact ⟨i, rfl, by rw [← HF.out]; exact HI.out, rfl⟩
    | node a' b' c' d' =>
      have HL := Lib.hid hl
      obtain ⟨q, i2, -, -, rfl, -⟩ := hl
      go_wp2_with fail
      go_roundg a'.count
      case measure => simp only [Mm.Tr.count]; omega
      case rel => exact ⟨a', b', c', d', rfl, Lib.hid ⟨HL.out, by rw [← HF.out]; rfl⟩, rfl⟩

set_option maxHeartbeats 4000000 in
theorem both_at {w : World} {l r : Mm.Tr} {pl pr : Value} (hl : At w l pl) (hr : At w r pr) (hn : l.count + r.count ≤ 999999)
    (ih : ∀ (k : ByteArray) (w : World) (p : Value), At w r p → Calls Try.prog 46 #[p, .string k] w (Gives w (r.without k))) :
    Calls Try.prog 62 #[pl, pr] w (Gives w (Mm.bothOf l r)) := by
  obtain ⟨ol, rfl⟩ := hl.ptr
  cases r with
  | nil =>
    obtain rfl : pr = .pointer none := hr
    have HL := Lib.hid hl
    clear hl ih hn
    go_enter Try.func62, Try.ntmps62
    go_wp2_with fail
    go_ret
    exact ⟨_, rfl, HL.out, Below.refl _ _⟩
  | node a b c d =>
    have HL := Lib.hid hl
    have HR := Lib.hid hr
    have HF := Lib.hid (first_at hr)
    obtain ⟨ra, -, -, -, rfl, -⟩ := hr
    have HN := Lib.hid hn
    have HM := Lib.hid (Mm.count_without_le (Mm.Tr.node a b c d) (Mm.Tr.node a b c d).first.1)
    have IH := Lib.hid ih
    clear hl hn ih
    show Calls _ _ _ _ (Gives w (Mm.balance l (Mm.Tr.first (.node a b c d)).1 (Mm.Tr.first (.node a b c d)).2 (Mm.Tr.without (.node a b c d) (Mm.Tr.first (.node a b c d)).1)))
    generalize (Mm.Tr.node a b c d) = t at *
    go_enter Try.func62, Try.ntmps62
    go_wp2_with fail
    refine HF.out.mono ?_
    rintro e w' ⟨i, rfl, hi, rfl⟩
    have HI := Lib.hid hi
    obtain ⟨-, x, -, hrow⟩ := hi
    obtain ⟨c0, -, -, -⟩ := cells3 hrow
    clear hrow
    go_wp2_with fail
    (with_reducible refine (IH.out _ _ _ HR.out).mono ?_)
    rintro e w3 ⟨p3, rfl, ha3, hb3⟩
    have HA3 := Lib.hid ha3
    have HB3 := Lib.hid hb3
    clear ha3 hb3
    go_wp2_with fail
    (with_reducible refine (balance_at (HL.out.below HB3.out) HA3.out (HI.out.below HB3.out) (by have := HN.out; have := HM.out; omega)).mono ?_)
    rintro e w4 ⟨p4, rfl, ha4, hb4⟩
    have HP := Lib.hid (And.intro ha4 (below_two HB3.out hb4))
    clear ha4 hb4
    go_wp2_with fail
    go_ret
    exact ⟨_, rfl, HP.out⟩

set_option maxRecDepth 100000 in
set_option maxHeartbeats 8000000 in
theorem without_all (t : Mm.Tr) : t.count ≤ 999999 → ∀ (k : ByteArray) (w : World) (p : Value), At w t p →
    Calls Try.prog 46 #[p, .string k] w (Gives w (t.without k)) := by
  induction t with
  | nil =>
    intro hn k w p h
    obtain rfl : p = .pointer none := h
    go_enter Try.func46, Try.ntmps46
    go_wp2_with fail
    go_ret
    exact ⟨_, rfl, rfl, Below.refl _ _⟩
  | node l k' v' r ih1 ih2 =>
    intro hn k w p h
    have hn' : l.count + 1 + r.count ≤ 999999 := hn
    obtain ⟨a, i', pl, pr, rfl, hrow, hi', hl, hr⟩ := h
    obtain ⟨c0, c1, c2, -⟩ := cells4 hrow
    obtain ⟨ol, rfl⟩ := hl.ptr
    obtain ⟨orr, rfl⟩ := hr.ptr
    have hi0' := hi'
    obtain ⟨hks', x', hx', hirow'⟩ := hi0'
    obtain ⟨m0, -, -, -⟩ := cells3 hirow'
    have HI' := Lib.hid hi'
    have HL := Lib.hid hl
    have HR := Lib.hid hr
    have HN := Lib.hid hn'
    have IH1 := Lib.hid (ih1 (by omega))
    have IH2 := Lib.hid (ih2 (by omega))
    have HC0 := Lib.hid c0
    have HC1 := Lib.hid c1
    have HC2 := Lib.hid c2
    have HM1 := Lib.hid (Mm.count_without_le l k)
    have HM2 := Lib.hid (Mm.count_without_le r k)
    have HK := Lib.hid ih2
    clear hi' hl hr hn hn' ih1 ih2 hrow hirow' hks' hx'
    by_cases h1 : Mm.lt k k' = true
    · rw [Mm.without_left _ _ _ h1]
      obtain ⟨d1, d2, d3, d4⟩ := lt_eqs.1 h1
      clear h1
      go_enter Try.func46, Try.ntmps46
      go_wp2_with fail
      clear m0 d1 d2 d3 d4
      have hB0 : Below w.heap.size w w := Below.refl _ _
      go_region_held3 (fun w' => w'.cell? ⟨a, 0, none⟩ = some (.pointer (some ⟨i', 0, none⟩)) ∧ w'.cell? ⟨a, 1, none⟩ = some (.pointer ol) ∧ w'.cell? ⟨a, 2, none⟩ = some (.pointer orr) ∧ Below w.heap.size w w')
        (first
          | exact ⟨c0, c1, c2, hB0.drew⟩ | exact sees3 HC0.out HC1.out HC2.out (below_two hB0.drew hb3) | exact sees3 HC0.out HC1.out HC2.out (below_two (below_two hB0.drew hb3) hb4))
        (first
          | (go_at_call 46; (with_reducible refine (IH1.out _ _ _ (HL.out.below hB0.drew)).mono ?_); rintro e w3 ⟨p3, rfl, ha3, hb3⟩)
          | (go_at_call 61; (with_reducible refine (balance_at ha3 (HR.out.below (below_two hB0.drew hb3)) (HI'.out.below (below_two hB0.drew hb3)) (by have := HN.out; have := HM1.out; omega)).mono ?_); rintro e w4 ⟨p4, rfl, ha4, hb4⟩)
          | fail)
      go_wp2_with fail
      go_ret
      exact ⟨_, rfl, ha4, below_two (below_two hB0.drew hb3) hb4⟩
    · have d1 : Op.bytesLess k.toList k'.toList = false := by simpa [Mm.lt] using h1
      by_cases h2 : Mm.lt k' k = true
      · rw [Mm.without_right _ _ _ h1 h2]
        obtain ⟨d2, -, d3, d4⟩ := lt_eqs.1 h2
        clear h1 h2
        go_enter Try.func46, Try.ntmps46
        go_wp2_with fail
        clear m0 d1 d2 d3 d4
        have hB0 : Below w.heap.size w w := Below.refl _ _
        go_region_held3 (fun w' => w'.cell? ⟨a, 0, none⟩ = some (.pointer (some ⟨i', 0, none⟩)) ∧ w'.cell? ⟨a, 1, none⟩ = some (.pointer ol) ∧ w'.cell? ⟨a, 2, none⟩ = some (.pointer orr) ∧ Below w.heap.size w w')
          (first
            | exact ⟨c0, c1, c2, hB0.drew⟩ | exact sees3 HC0.out HC1.out HC2.out (below_two hB0.drew hb3) | exact sees3 HC0.out HC1.out HC2.out (below_two (below_two hB0.drew hb3) hb4))
          (first
            | (go_at_call 46; (with_reducible refine (IH2.out _ _ _ (HR.out.below hB0.drew)).mono ?_); rintro e w3 ⟨p3, rfl, ha3, hb3⟩)
            | (go_at_call 61; (with_reducible refine (balance_at (HL.out.below (below_two hB0.drew hb3)) ha3 (HI'.out.below (below_two hB0.drew hb3)) (by have := HN.out; have := HM2.out; omega)).mono ?_); rintro e w4 ⟨p4, rfl, ha4, hb4⟩)
            | fail)
        go_wp2_with fail
        go_ret
        exact ⟨_, rfl, ha4, below_two (below_two hB0.drew hb3) hb4⟩
      · rw [Mm.without_both _ _ _ h1 h2]
        obtain rfl : k = k' := Mm.eq_of_not (by simpa using h1) (by simpa using h2)
        clear h1 h2
        have HQ2 : Hid (∀ u, Below w.heap.size w u → Calls Try.prog 62 #[.pointer ol, .pointer orr] u (Gives u (Mm.bothOf l r))) :=
          Lib.hid fun u hu => both_at (HL.out.below hu) (HR.out.below hu) (by have := HN.out; omega) (HK.out (by have := HN.out; omega))
        generalize Mm.bothOf l r = res at *
        go_enter Try.func46, Try.ntmps46
        go_wp2_with fail
        clear m0 d1 c0
        have hB0 : Below w.heap.size w w := Below.refl _ _
        go_region_held3 (fun w' => w'.cell? ⟨a, 1, none⟩ = some (.pointer ol) ∧ w'.cell? ⟨a, 2, none⟩ = some (.pointer orr) ∧ Below w.heap.size w w')
          (first
            | exact ⟨c1, c2, hB0.drew⟩ | exact sees2 HC1.out HC2.out (below_two hB0.drew hb3))
          (first
            | (go_at_call 62; (with_reducible refine (HQ2.out _ hB0.drew).mono ?_); rintro e w3 ⟨p3, rfl, ha3, hb3⟩)
            | fail)
        go_wp2_with fail
        go_ret
        exact ⟨_, rfl, ha3, below_two hB0.drew hb3⟩
end Go.Proofs.Ythioogncbhkaoaa.MP
