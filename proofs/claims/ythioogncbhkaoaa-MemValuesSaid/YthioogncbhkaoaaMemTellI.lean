/-
  Walks over a table, values of type int: tell (an iterator's inside), From and what it gives. Conditions: those in the theorems.
-/
import Derived.Test.YthioogncbhkaoaaMemCallsI
import Derived.Test.YthioogncbhkaoaaHeldIn
import Derived.RangeFuncNested
import Derived.RangeFuncBound
import Derived.RangeFuncCalls
import Derived.RangeFuncLeaves
import Derived.Shelf.Abstract
import Derived.Shelf.RegionOpen
import Derived.OwnWalkIn
import Derived.TacticsInMore
import Derived.LoopNIn
import Derived.LoopIn
namespace Go.Proofs.Ythioogncbhkaoaa.MI
open Go.RowKit
attribute [local go_sem] Oper.semAt_some

theorem wideN {m : Nat} : Fence.wide.depth.isSome = true → 1 ≤ m := fun h => by simp [Fence.wide] at h
theorem roundIn_m {m m' : Nat} {P : Program} {l : Nat} {f : FuncId} {tmps : Array Value} {assign body : Code} {w : World} {R : Ending → World → Prop}
    (h : RoundIn Fence.wide m P l f tmps assign body w R) : RoundIn Fence.wide m' P l f tmps assign body w R := ⟨h.1, fun c cs _ => h.2 c cs (room_wide _)⟩
/-- What a telling leaves: all nodes of w0 as they were; more are wanted, and J holds at i; or none are, and Jx holds. -/
def Told (w0 : World) (J : Nat → World → Prop) (Jx : World → Prop) (i : Nat) (e : Ending) (W' : World) : Prop :=
  Kept w0 W' ∧ ∃ r : Bool, e = .returned (.bool r) ∧ (r = true → J i W') ∧ (r = false → Jx W')
/-- The pairs as they are handed out. -/
def pairV (q : ByteArray × Value) : Array Value := #[.string q.1, q.2]

theorem from_above {L : Mm.Row} {k : ByteArray} {v : Value} {R : Mm.Row} {low : ByteArray} (h : Mm.Sorted (L ++ (k, v) :: R)) (hlt : Mm.lt k low = true) : Mm.from_ (L ++ (k, v) :: R) low = Mm.from_ R low := by
  obtain ⟨-, -, h3, -, -⟩ := Mm.sorted_mid.1 h
  unfold Mm.from_
  rw [List.filter_append, List.filter_eq_nil_iff.2 (fun q hq => by rw [Mm.lt_trans (h3 q hq) hlt]; simp), List.filter_cons_of_neg (by simp [hlt])]
  rfl
theorem from_mid {L : Mm.Row} {k : ByteArray} {v : Value} {R : Mm.Row} {low : ByteArray} (hlt : Mm.lt k low = false) : Mm.from_ (L ++ (k, v) :: R) low = Mm.from_ L low ++ (k, v) :: Mm.from_ R low := by
  unfold Mm.from_
  rw [List.filter_append, List.filter_cons_of_pos (by simp [hlt])]

theorem get_left {α : Type} {A B C : List α} (e : C = A ++ B) {j : Nat} (h : j < A.length) : ∃ h' : j < C.length, C[j] = A[j] := by
  subst e; exact ⟨by rw [List.length_append]; omega, List.getElem_append_left h⟩
theorem get_mid {α : Type} {A B C : List α} {x : α} (e : C = A ++ x :: B) : ∃ h' : A.length < C.length, C[A.length] = x := by
  subst e; exact ⟨by rw [List.length_append, List.length_cons]; omega, by rw [List.getElem_append_right (Nat.le_refl _)]; simp⟩
theorem get_right {α : Type} {A B C : List α} {x : α} (e : C = A ++ x :: B) {j : Nat} (h : j < B.length) : ∃ h' : A.length + 1 + j < C.length, C[A.length + 1 + j] = B[j] := by
  subst e; exact ⟨by rw [List.length_append, List.length_cons]; omega, by rw [List.getElem_append_right (by omega)]; simp only [show A.length + 1 + j - A.length = j + 1 by omega, List.getElem_cons_succ]⟩

/-- What the yield owes, of the pairs of M. -/
def Yields (w0 : World) (l : Nat) (J : Nat → World → Prop) (Jx : World → Prop) (i : Nat) (M : Mm.Row) : Prop :=
  ∀ j (hj : j < M.length) W1, Kept w0 W1 → J (i + j) W1 → YieldAt Fence.wide 0 Try.prog l (pairV M[j]) W1 (Told w0 J Jx (i + j + 1))

set_option maxRecDepth 100000 in
set_option maxHeartbeats 16000000 in
theorem tell_all (w0 : World) (l : Nat) (low : ByteArray) (J : Nat → World → Prop) (Jx : World → Prop) (hJ : ∀ i W W', J i W → Below W.heap.size W W' → J i W') (t : Mm.Tr) : ∀ (p : Value) (i n : Nat) (W : World),
    At w0 t p → Mm.Sorted t.flat → Kept w0 W → J i W → Yields w0 l J Jx i (Mm.from_ t.flat low) →
    CallsIn Fence.wide n Try.prog 53 #[p, .string low, .func (.yield l) #[] #[]] W (Told w0 J Jx (i + (Mm.from_ t.flat low).length)) := by
  induction t with
  | nil =>
    intro p i n W h hs hk hj hY
    obtain rfl : p = .pointer none := h
    refine callsIn_wide.2 ?_
    go_enter Try.func53, Try.ntmps53
    go_wp2_with fail
    go_ret
    exact ⟨hk, true, rfl, fun _ => hj, fun h => (by cases h)⟩
  | node lt k v rt ih1 ih2 =>
    intro p i n W h hs hk hj hY
    obtain ⟨a, i', pl, pr, rfl, hrow, hi', hl, hr⟩ := h
    have hs' : Mm.Sorted (lt.flat ++ (k, v) :: rt.flat) := hs
    have hsl := (Mm.sorted_mid.1 hs').1
    have hsr := (Mm.sorted_mid.1 hs').2.1
    obtain ⟨ol, rfl⟩ := hl.ptr
    obtain ⟨orr, rfl⟩ := hr.ptr
    have hcells : ∀ W', Kept w0 W' → W'.cell? ⟨a, 0, none⟩ = some (.pointer (some ⟨i', 0, none⟩)) ∧ W'.cell? ⟨a, 1, none⟩ = some (.pointer ol) ∧ W'.cell? ⟨a, 2, none⟩ = some (.pointer orr) := fun W' hk' => by
      obtain ⟨c0, c1, c2, -⟩ := cells4 ((hk'.node a ⟨_, _, nodeT_node, hrow⟩).trans hrow)
      exact ⟨c0, c1, c2⟩
    obtain ⟨hks, x, rfl, hirow⟩ := hi'
    have hitem : ∀ W', Kept w0 W' → W'.cell? ⟨i', 0, none⟩ = some (.string k) ∧ W'.cell? ⟨i', 1, none⟩ = some (.int .i64 x) := fun W' hk' => by
      obtain ⟨c0, c1, -⟩ := cells2 ((hk'.node i' ⟨_, _, nodeT_item, hirow⟩).trans hirow)
      exact ⟨c0, c1⟩
    by_cases hlt : Mm.lt k low = true
    · have e : Mm.from_ (Mm.Tr.node lt k (.int .i64 x) rt).flat low = Mm.from_ rt.flat low := from_above hs' hlt
      rw [e] at hY ⊢
      have HI := Lib.hid (ih2 _ i (n - 1) W hr hsr hk hj hY)
      obtain ⟨c0, c1, c2⟩ := hcells W hk
      obtain ⟨d0, d1⟩ := hitem W hk
      have z1 : Op.bytesLess k.toList low.toList = true := hlt
      clear hs hs' hsl hsr hl hr hrow hcells hitem hY ih1 ih2 e hlt hk hj hJ hirow
      refine callsIn_of_wp Try.func53 rfl trivial ?_ rfl
      simp only [Try.ntmps53, List.size_toArray, List.length_cons, List.length_nil, Nat.reduceAdd, Nat.reduceSub, Array.replicate_succ, Array.replicate_zero, List.push_toArray, List.append_toArray, List.nil_append, List.cons_append]
      gi_wp2_with fail
      refine ⟨trivial, wideN, HI.out.mono ?_⟩
      rintro e W' ⟨hk', r, rfl, h1, h2⟩
      have H1 := Lib.hid h1
      have H2 := Lib.hid h2
      have HK := Lib.hid hk'
      clear h1 h2 hk'
      gi_wp2_with fail
      go_ret
      exact ⟨HK.out, r, rfl, H1.out, H2.out⟩
    · have hlt' : Mm.lt k low = false := by simpa using hlt
      have e : Mm.from_ (Mm.Tr.node lt k (.int .i64 x) rt).flat low = Mm.from_ lt.flat low ++ (k, .int .i64 x) :: Mm.from_ rt.flat low := from_mid hlt'
      have HL : Hid (∀ W1, Kept w0 W1 → J i W1 → CallsIn Fence.wide (n - 1) Try.prog 53 #[.pointer ol, .string low, .func (.yield l) #[] #[]] W1 (Told w0 J Jx (i + (Mm.from_ lt.flat low).length))) := Lib.hid fun W1 hk1 hj1 => by
        refine ih1 _ i (n - 1) W1 hl hsl hk1 hj1 fun j hj2 W2 hk2 hj3 => ?_
        obtain ⟨h', e'⟩ := get_left e hj2
        have := hY j h' W2 hk2 hj3
        rw [e'] at this; exact this
      have HY : Hid (∀ W1, Kept w0 W1 → J (i + (Mm.from_ lt.flat low).length) W1 → YieldAt Fence.wide (n - 1) Try.prog l #[.string k, .int .i64 x] W1 (Told w0 J Jx (i + (Mm.from_ lt.flat low).length + 1))) := Lib.hid fun W1 hk1 hj1 => by
        obtain ⟨h', e'⟩ := get_mid e
        have := hY _ h' W1 hk1 hj1
        rw [e'] at this
        obtain ⟨fn, tmps, assign, body, hy, hR⟩ := this
        exact ⟨fn, tmps, assign, body, hy, roundIn_m hR⟩
      have HR : Hid (∀ W1, Kept w0 W1 → J (i + (Mm.from_ lt.flat low).length + 1) W1 → CallsIn Fence.wide (n - 1) Try.prog 53 #[.pointer orr, .string low, .func (.yield l) #[] #[]] W1 (Told w0 J Jx (i + (Mm.from_ (Mm.Tr.node lt k (.int .i64 x) rt).flat low).length))) := Lib.hid fun W1 hk1 hj1 => by
        rw [e, List.length_append, List.length_cons, show i + ((Mm.from_ lt.flat low).length + ((Mm.from_ rt.flat low).length + 1)) = i + (Mm.from_ lt.flat low).length + 1 + (Mm.from_ rt.flat low).length by omega]
        refine ih2 _ _ (n - 1) W1 hr hsr hk1 hj1 fun j hj2 W2 hk2 hj3 => ?_
        obtain ⟨h', e'⟩ := get_right e hj2
        have := hY _ h' W2 hk2 (by rw [show i + ((Mm.from_ lt.flat low).length + 1 + j) = i + (Mm.from_ lt.flat low).length + 1 + j by omega]; exact hj3)
        rw [e', show i + ((Mm.from_ lt.flat low).length + 1 + j) + 1 = i + (Mm.from_ lt.flat low).length + 1 + j + 1 by omega] at this; exact this
      generalize i + (Mm.from_ (Mm.Tr.node lt k (.int .i64 x) rt).flat low).length = i3 at *
      generalize i + (Mm.from_ lt.flat low).length = i2 at *
      have HC := Lib.hid hcells
      have HT := Lib.hid hitem
      have HJ := Lib.hid hJ
      obtain ⟨c0, c1, c2⟩ := hcells W hk
      obtain ⟨d0, d1⟩ := hitem W hk
      have z1 : Op.bytesLess k.toList low.toList = false := hlt'
      have hS0 : W.drew.cell? ⟨a, 0, none⟩ = some (.pointer (some ⟨i', 0, none⟩)) ∧ W.drew.cell? ⟨a, 1, none⟩ = some (.pointer ol) ∧ W.drew.cell? ⟨a, 2, none⟩ = some (.pointer orr) ∧ W.drew.cell? ⟨i', 0, none⟩ = some (.string k) ∧ W.drew.cell? ⟨i', 1, none⟩ = some (.int .i64 x) := ⟨c0, c1, c2, d0, d1⟩
      have HS : Hid (∀ W', Kept w0 W' → W'.cell? ⟨a, 0, none⟩ = some (.pointer (some ⟨i', 0, none⟩)) ∧ W'.cell? ⟨a, 1, none⟩ = some (.pointer ol) ∧ W'.cell? ⟨a, 2, none⟩ = some (.pointer orr) ∧ W'.cell? ⟨i', 0, none⟩ = some (.string k) ∧ W'.cell? ⟨i', 1, none⟩ = some (.int .i64 x)) :=
        Lib.hid fun W' hk' => ⟨(HC.out W' hk').1, (HC.out W' hk').2.1, (HC.out W' hk').2.2, (HT.out W' hk').1, (HT.out W' hk').2⟩
      have HK := Lib.hid (hk.trans (kept_drew W))
      have HJ0 := Lib.hid (hJ _ _ _ hj (Below.refl _ W).drew)
      clear hs hs' hsl hsr hl hr hrow hcells hitem hY ih1 ih2 e hlt hlt' hk hj hJ hirow
      refine callsIn_of_wp Try.func53 rfl trivial ?_ rfl
      simp only [Try.ntmps53, List.size_toArray, List.length_cons, List.length_nil, Nat.reduceAdd, Nat.reduceSub, Array.replicate_succ, Array.replicate_zero, List.push_toArray, List.append_toArray, List.nil_append, List.cons_append]
      gi_wp2_with fail
      clear c0 c1 c2 d0 d1 z1
      refine Hi.begin (S := fun W' => W'.cell? ⟨a, 0, none⟩ = some (.pointer (some ⟨i', 0, none⟩)) ∧ W'.cell? ⟨a, 1, none⟩ = some (.pointer ol) ∧ W'.cell? ⟨a, 2, none⟩ = some (.pointer orr) ∧ W'.cell? ⟨i', 0, none⟩ = some (.string k) ∧ W'.cell? ⟨i', 1, none⟩ = some (.int .i64 x)) 36 #[false, false, false, false, false, false, false, false, false, false, false, false, false, false, false, false, false, false, false, false, false, false, false, false, false, false, false, false, false, false, false, false, false, false, false, false] (by kernel_rfl) rfl (by kernel_rfl) ?_
      refine Hi.take 0 (some 25) ?_ rfl rfl (by kernel_rfl) (by kernel_rfl) (by kernel_rfl) (by kernel_rfl) (fun _ _ _ h => h) (Or.inl ⟨by kernel_rfl, ?_⟩) (fun _ _ _ => trivial) (by assumption) ?_
      rotate_left 1
      · intro w hSw
        (try dsimp only at hSw)
        (try (obtain ⟨q0, q1, q2, q3, q4, q5⟩ := hSw))
        go_simp
        (try with_reducible rfl)
      (try simp only [Act.put, List.setIfInBounds_toArray, List.set_cons_zero, List.set_cons_succ])
      refine Hi.take 1 (some 26) ?_ rfl rfl (by kernel_rfl) (by kernel_rfl) (by kernel_rfl) (by kernel_rfl) (fun _ _ _ h => h) (Or.inl ⟨by kernel_rfl, ?_⟩) (fun _ _ _ => trivial) (by assumption) ?_
      rotate_left 1
      · intro w hSw
        (try dsimp only at hSw)
        (try (obtain ⟨q0, q1, q2, q3, q4, q5⟩ := hSw))
        go_simp
        (try with_reducible rfl)
      (try simp only [Act.put, List.setIfInBounds_toArray, List.set_cons_zero, List.set_cons_succ])
      refine Hi.take 2 (some 27) ?_ rfl rfl (by kernel_rfl) (by kernel_rfl) (by kernel_rfl) (by kernel_rfl) (fun _ _ _ h => h) (Or.inl ⟨by kernel_rfl, ?_⟩) (fun _ _ _ => trivial) (by assumption) ?_
      rotate_left 1
      · intro w hSw
        (try dsimp only at hSw)
        (try (obtain ⟨q0, q1, q2, q3, q4, q5⟩ := hSw))
        go_simp
        (try with_reducible rfl)
      (try simp only [Act.put, List.setIfInBounds_toArray, List.set_cons_zero, List.set_cons_succ])
      refine Hi.take 3 (some 28) ?_ rfl rfl (by kernel_rfl) (by kernel_rfl) (by kernel_rfl) (by kernel_rfl) (fun _ _ _ h => h) (Or.inl ⟨by kernel_rfl, ?_⟩) (fun _ _ _ => trivial) (by assumption) ?_
      rotate_left 1
      · intro w hSw
        (try dsimp only at hSw)
        (try (obtain ⟨q0, q1, q2, q3, q4, q5⟩ := hSw))
        go_simp
        (try with_reducible rfl)
      (try simp only [Act.put, List.setIfInBounds_toArray, List.set_cons_zero, List.set_cons_succ])
      refine Hi.take 4 (some 29) ?_ rfl rfl (by kernel_rfl) (by kernel_rfl) (by kernel_rfl) (by kernel_rfl) (fun _ _ _ h => h) (Or.inl ⟨by kernel_rfl, ?_⟩) (fun _ _ _ => trivial) (by assumption) ?_
      rotate_left 1
      · intro w hSw
        (try dsimp only at hSw)
        (try (obtain ⟨q0, q1, q2, q3, q4, q5⟩ := hSw))
        go_simp
        (try with_reducible rfl)
      (try simp only [Act.put, List.setIfInBounds_toArray, List.set_cons_zero, List.set_cons_succ])
      refine Hi.take 5 (some 30) ?_ rfl rfl (by kernel_rfl) (by kernel_rfl) (by kernel_rfl) (by kernel_rfl) (fun _ _ _ h => h) (Or.inl ⟨by kernel_rfl, ?_⟩) (fun _ _ _ => trivial) (by assumption) ?_
      rotate_left 1
      · intro w hSw
        (try dsimp only at hSw)
        (try (obtain ⟨q0, q1, q2, q3, q4, q5⟩ := hSw))
        go_simp
        (try with_reducible rfl)
      (try simp only [Act.put, List.setIfInBounds_toArray, List.set_cons_zero, List.set_cons_succ])
      refine Hi.only 6 rfl (by kernel_rfl) (by kernel_rfl) ?_
      gi_wp2_with fail
      refine ⟨trivial, wideN, (HL.out W.drew HK.out HJ0.out).mono ?_⟩
      rintro e W1 ⟨hk1, r, rfl, h1, h2⟩
      have hS1 := HS.out W1 hk1
      refine ⟨hS1, ?_⟩
      have HK1 := Lib.hid hk1
      have H1 := Lib.hid h1
      have H2 := Lib.hid h2
      clear h1 h2 hk1 hS0
      (try simp only [Act.put, List.setIfInBounds_toArray, List.set_cons_zero, List.set_cons_succ])
      cases r with
      | false =>
        have HX1 := Lib.hid (H2.out rfl)
        clear H1 H2
        refine Hi.take 7 (some 32) ?_ rfl rfl (by kernel_rfl) (by kernel_rfl) (by kernel_rfl) (by kernel_rfl) (fun _ _ _ h => h) (Or.inl ⟨by kernel_rfl, ?_⟩) (fun _ _ _ => trivial) (by assumption) ?_
        rotate_left 1
        · intro w hSw
          (try dsimp only at hSw)
          (try (obtain ⟨q0, q1, q2, q3, q4, q5⟩ := hSw))
          go_simp
          (try with_reducible rfl)
        (try simp only [Act.put, List.setIfInBounds_toArray, List.set_cons_zero, List.set_cons_succ])
        refine Hi.take 8 (some 33) undef rfl rfl (by kernel_rfl) (by kernel_rfl) (by kernel_rfl) (by kernel_rfl) (fun _ _ _ h => h) (Or.inr ⟨by kernel_rfl, rfl⟩) (fun _ _ _ => trivial) (by assumption) ?_
        (try simp only [Act.put, List.setIfInBounds_toArray, List.set_cons_zero, List.set_cons_succ])
        refine Hi.take 9 (some 34) undef rfl rfl (by kernel_rfl) (by kernel_rfl) (by kernel_rfl) (by kernel_rfl) (fun _ _ _ h => h) (Or.inr ⟨by kernel_rfl, rfl⟩) (fun _ _ _ => trivial) (by assumption) ?_
        (try simp only [Act.put, List.setIfInBounds_toArray, List.set_cons_zero, List.set_cons_succ])
        refine Hi.take 10 (some 35) undef rfl rfl (by kernel_rfl) (by kernel_rfl) (by kernel_rfl) (by kernel_rfl) (fun _ _ _ h => h) (Or.inr ⟨by kernel_rfl, rfl⟩) (fun _ _ _ => trivial) (by assumption) ?_
        (try simp only [Act.put, List.setIfInBounds_toArray, List.set_cons_zero, List.set_cons_succ])
        refine Hi.take 11 (some 36) undef rfl rfl (by kernel_rfl) (by kernel_rfl) (by kernel_rfl) (by kernel_rfl) (fun _ _ _ h => h) (Or.inr ⟨by kernel_rfl, rfl⟩) (fun _ _ _ => trivial) (by assumption) ?_
        (try simp only [Act.put, List.setIfInBounds_toArray, List.set_cons_zero, List.set_cons_succ])
        refine Hi.take 12 (some 37) undef rfl rfl (by kernel_rfl) (by kernel_rfl) (by kernel_rfl) (by kernel_rfl) (fun _ _ _ h => h) (Or.inr ⟨by kernel_rfl, rfl⟩) (fun _ _ _ => trivial) (by assumption) ?_
        (try simp only [Act.put, List.setIfInBounds_toArray, List.set_cons_zero, List.set_cons_succ])
        refine Hi.take 13 (some 38) undef rfl rfl (by kernel_rfl) (by kernel_rfl) (by kernel_rfl) (by kernel_rfl) (fun _ _ _ h => h) (Or.inr ⟨by kernel_rfl, rfl⟩) (fun _ _ _ => trivial) (by assumption) ?_
        (try simp only [Act.put, List.setIfInBounds_toArray, List.set_cons_zero, List.set_cons_succ])
        refine Hi.take 14 (some 39) undef rfl rfl (by kernel_rfl) (by kernel_rfl) (by kernel_rfl) (by kernel_rfl) (fun _ _ _ h => h) (Or.inr ⟨by kernel_rfl, rfl⟩) (fun _ _ _ => trivial) (by assumption) ?_
        (try simp only [Act.put, List.setIfInBounds_toArray, List.set_cons_zero, List.set_cons_succ])
        refine Hi.take 15 (some 40) undef rfl rfl (by kernel_rfl) (by kernel_rfl) (by kernel_rfl) (by kernel_rfl) (fun _ _ _ h => h) (Or.inr ⟨by kernel_rfl, rfl⟩) (fun _ _ _ => trivial) (by assumption) ?_
        (try simp only [Act.put, List.setIfInBounds_toArray, List.set_cons_zero, List.set_cons_succ])
        refine Hi.take 16 (some 41) undef rfl rfl (by kernel_rfl) (by kernel_rfl) (by kernel_rfl) (by kernel_rfl) (fun _ _ _ h => h) (Or.inr ⟨by kernel_rfl, rfl⟩) (fun _ _ _ => trivial) (by assumption) ?_
        (try simp only [Act.put, List.setIfInBounds_toArray, List.set_cons_zero, List.set_cons_succ])
        refine Hi.take 17 (some 42) undef rfl rfl (by kernel_rfl) (by kernel_rfl) (by kernel_rfl) (by kernel_rfl) (fun _ _ _ h => h) (Or.inr ⟨by kernel_rfl, rfl⟩) (fun _ _ _ => trivial) (by assumption) ?_
        (try simp only [Act.put, List.setIfInBounds_toArray, List.set_cons_zero, List.set_cons_succ])
        refine Hi.take 18 (some 43) undef rfl rfl (by kernel_rfl) (by kernel_rfl) (by kernel_rfl) (by kernel_rfl) (fun _ _ _ h => h) (Or.inr ⟨by kernel_rfl, rfl⟩) (fun _ _ _ => trivial) (by assumption) ?_
        (try simp only [Act.put, List.setIfInBounds_toArray, List.set_cons_zero, List.set_cons_succ])
        refine Hi.take 19 (some 44) undef rfl rfl (by kernel_rfl) (by kernel_rfl) (by kernel_rfl) (by kernel_rfl) (fun _ _ _ h => h) (Or.inr ⟨by kernel_rfl, rfl⟩) (fun _ _ _ => trivial) (by assumption) ?_
        (try simp only [Act.put, List.setIfInBounds_toArray, List.set_cons_zero, List.set_cons_succ])
        refine Hi.take 20 (some 45) undef rfl rfl (by kernel_rfl) (by kernel_rfl) (by kernel_rfl) (by kernel_rfl) (fun _ _ _ h => h) (Or.inr ⟨by kernel_rfl, rfl⟩) (fun _ _ _ => trivial) (by assumption) ?_
        (try simp only [Act.put, List.setIfInBounds_toArray, List.set_cons_zero, List.set_cons_succ])
        refine Hi.take 21 (some 46) undef rfl rfl (by kernel_rfl) (by kernel_rfl) (by kernel_rfl) (by kernel_rfl) (fun _ _ _ h => h) (Or.inr ⟨by kernel_rfl, rfl⟩) (fun _ _ _ => trivial) (by assumption) ?_
        (try simp only [Act.put, List.setIfInBounds_toArray, List.set_cons_zero, List.set_cons_succ])
        refine Hi.take 22 (some 47) undef rfl rfl (by kernel_rfl) (by kernel_rfl) (by kernel_rfl) (by kernel_rfl) (fun _ _ _ h => h) (Or.inr ⟨by kernel_rfl, rfl⟩) (fun _ _ _ => trivial) (by assumption) ?_
        (try simp only [Act.put, List.setIfInBounds_toArray, List.set_cons_zero, List.set_cons_succ])
        refine Hi.take 23 (some 48) undef rfl rfl (by kernel_rfl) (by kernel_rfl) (by kernel_rfl) (by kernel_rfl) (fun _ _ _ h => h) (Or.inr ⟨by kernel_rfl, rfl⟩) (fun _ _ _ => trivial) (by assumption) ?_
        (try simp only [Act.put, List.setIfInBounds_toArray, List.set_cons_zero, List.set_cons_succ])
        refine Hi.take 24 (some 49) undef rfl rfl (by kernel_rfl) (by kernel_rfl) (by kernel_rfl) (by kernel_rfl) (fun _ _ _ h => h) (Or.inr ⟨by kernel_rfl, rfl⟩) (fun _ _ _ => trivial) (by assumption) ?_
        (try simp only [Act.put, List.setIfInBounds_toArray, List.set_cons_zero, List.set_cons_succ])
        refine Hi.take 25 (some 50) ?_ rfl rfl (by kernel_rfl) (by kernel_rfl) (by kernel_rfl) (by kernel_rfl) (fun _ _ _ h => h) (Or.inl ⟨by kernel_rfl, ?_⟩) (fun _ _ _ => trivial) (by assumption) ?_
        rotate_left 1
        · intro w hSw
          (try dsimp only at hSw)
          (try (obtain ⟨q0, q1, q2, q3, q4, q5⟩ := hSw))
          go_simp
          (try with_reducible rfl)
        (try simp only [Act.put, List.setIfInBounds_toArray, List.set_cons_zero, List.set_cons_succ])
        refine Hi.take 26 (some 51) ?_ rfl rfl (by kernel_rfl) (by kernel_rfl) (by kernel_rfl) (by kernel_rfl) (fun _ _ _ h => h) (Or.inl ⟨by kernel_rfl, ?_⟩) (fun _ _ _ => trivial) (by assumption) ?_
        rotate_left 1
        · intro w hSw
          (try dsimp only at hSw)
          (try (obtain ⟨q0, q1, q2, q3, q4, q5⟩ := hSw))
          go_simp
          (try with_reducible rfl)
        (try simp only [Act.put, List.setIfInBounds_toArray, List.set_cons_zero, List.set_cons_succ])
        refine Hi.take 27 (some 52) undef rfl rfl (by kernel_rfl) (by kernel_rfl) (by kernel_rfl) (by kernel_rfl) (fun _ _ _ h => h) (Or.inr ⟨by kernel_rfl, rfl⟩) (fun _ _ _ => trivial) (by assumption) ?_
        (try simp only [Act.put, List.setIfInBounds_toArray, List.set_cons_zero, List.set_cons_succ])
        refine Hi.take 28 (some 53) undef rfl rfl (by kernel_rfl) (by kernel_rfl) (by kernel_rfl) (by kernel_rfl) (fun _ _ _ h => h) (Or.inr ⟨by kernel_rfl, rfl⟩) (fun _ _ _ => trivial) (by assumption) ?_
        (try simp only [Act.put, List.setIfInBounds_toArray, List.set_cons_zero, List.set_cons_succ])
        refine Hi.take 29 (some 54) undef rfl rfl (by kernel_rfl) (by kernel_rfl) (by kernel_rfl) (by kernel_rfl) (fun _ _ _ h => h) (Or.inr ⟨by kernel_rfl, rfl⟩) (fun _ _ _ => trivial) (by assumption) ?_
        (try simp only [Act.put, List.setIfInBounds_toArray, List.set_cons_zero, List.set_cons_succ])
        refine Hi.take 30 (some 55) undef rfl rfl (by kernel_rfl) (by kernel_rfl) (by kernel_rfl) (by kernel_rfl) (fun _ _ _ h => h) (Or.inr ⟨by kernel_rfl, rfl⟩) (fun _ _ _ => trivial) (by assumption) ?_
        (try simp only [Act.put, List.setIfInBounds_toArray, List.set_cons_zero, List.set_cons_succ])
        refine Hi.take 31 (some 56) undef rfl rfl (by kernel_rfl) (by kernel_rfl) (by kernel_rfl) (by kernel_rfl) (fun _ _ _ h => h) (Or.inr ⟨by kernel_rfl, rfl⟩) (fun _ _ _ => trivial) (by assumption) ?_
        (try simp only [Act.put, List.setIfInBounds_toArray, List.set_cons_zero, List.set_cons_succ])
        refine Hi.take 32 (some 57) undef rfl rfl (by kernel_rfl) (by kernel_rfl) (by kernel_rfl) (by kernel_rfl) (fun _ _ _ h => h) (Or.inr ⟨by kernel_rfl, rfl⟩) (fun _ _ _ => trivial) (by assumption) ?_
        (try simp only [Act.put, List.setIfInBounds_toArray, List.set_cons_zero, List.set_cons_succ])
        refine Hi.take 33 (some 58) undef rfl rfl (by kernel_rfl) (by kernel_rfl) (by kernel_rfl) (by kernel_rfl) (fun _ _ _ h => h) (Or.inr ⟨by kernel_rfl, rfl⟩) (fun _ _ _ => trivial) (by assumption) ?_
        (try simp only [Act.put, List.setIfInBounds_toArray, List.set_cons_zero, List.set_cons_succ])
        refine Hi.take 34 (some 59) ?_ rfl rfl (by kernel_rfl) (by kernel_rfl) (by kernel_rfl) (by kernel_rfl) (fun _ _ _ h => h) (Or.inl ⟨by kernel_rfl, ?_⟩) (fun _ _ _ => trivial) (by assumption) ?_
        rotate_left 1
        · intro w hSw
          (try dsimp only at hSw)
          (try (obtain ⟨q0, q1, q2, q3, q4, q5⟩ := hSw))
          go_simp
          (try with_reducible rfl)
        (try simp only [Act.put, List.setIfInBounds_toArray, List.set_cons_zero, List.set_cons_succ])
        refine Hi.take 35 (some 6) ?_ rfl rfl (by kernel_rfl) (by kernel_rfl) (by kernel_rfl) (by kernel_rfl) (fun _ _ _ h => h) (Or.inl ⟨by kernel_rfl, ?_⟩) (fun _ _ _ => trivial) (by assumption) ?_
        rotate_left 1
        · intro w hSw
          (try dsimp only at hSw)
          (try (obtain ⟨q0, q1, q2, q3, q4, q5⟩ := hSw))
          go_simp
          (try with_reducible rfl)
        (try simp only [Act.put, List.setIfInBounds_toArray, List.set_cons_zero, List.set_cons_succ])
        refine Hi.done (by kernel_rfl) ?_ _
        clear hS1
        gi_wp2_with fail
        go_ret
        exact ⟨HK1.out, false, rfl, fun h => (by cases h), fun _ => HX1.out⟩
      | true =>
        have HJ1 := Lib.hid (H1.out rfl)
        clear H1 H2
        refine Hi.take 7 (some 32) ?_ rfl rfl (by kernel_rfl) (by kernel_rfl) (by kernel_rfl) (by kernel_rfl) (fun _ _ _ h => h) (Or.inl ⟨by kernel_rfl, ?_⟩) (fun _ _ _ => trivial) (by assumption) ?_
        rotate_left 1
        · intro w hSw
          (try dsimp only at hSw)
          (try (obtain ⟨q0, q1, q2, q3, q4, q5⟩ := hSw))
          go_simp
          (try with_reducible rfl)
        (try simp only [Act.put, List.setIfInBounds_toArray, List.set_cons_zero, List.set_cons_succ])
        refine Hi.take 8 (some 33) ?_ rfl rfl (by kernel_rfl) (by kernel_rfl) (by kernel_rfl) (by kernel_rfl) (fun _ _ _ h => h) (Or.inl ⟨by kernel_rfl, ?_⟩) (fun _ _ _ => trivial) (by assumption) ?_
        rotate_left 1
        · intro w hSw
          (try dsimp only at hSw)
          (try (obtain ⟨q0, q1, q2, q3, q4, q5⟩ := hSw))
          go_simp
          (try with_reducible rfl)
        (try simp only [Act.put, List.setIfInBounds_toArray, List.set_cons_zero, List.set_cons_succ])
        refine Hi.take 9 (some 34) ?_ rfl rfl (by kernel_rfl) (by kernel_rfl) (by kernel_rfl) (by kernel_rfl) (fun _ _ _ h => h) (Or.inl ⟨by kernel_rfl, ?_⟩) (fun _ _ _ => trivial) (by assumption) ?_
        rotate_left 1
        · intro w hSw
          (try dsimp only at hSw)
          (try (obtain ⟨q0, q1, q2, q3, q4, q5⟩ := hSw))
          go_simp
          (try with_reducible rfl)
        (try simp only [Act.put, List.setIfInBounds_toArray, List.set_cons_zero, List.set_cons_succ])
        refine Hi.take 10 (some 35) ?_ rfl rfl (by kernel_rfl) (by kernel_rfl) (by kernel_rfl) (by kernel_rfl) (fun _ _ _ h => h) (Or.inl ⟨by kernel_rfl, ?_⟩) (fun _ _ _ => trivial) (by assumption) ?_
        rotate_left 1
        · intro w hSw
          (try dsimp only at hSw)
          (try (obtain ⟨q0, q1, q2, q3, q4, q5⟩ := hSw))
          go_simp
          (try with_reducible rfl)
        (try simp only [Act.put, List.setIfInBounds_toArray, List.set_cons_zero, List.set_cons_succ])
        refine Hi.take 11 (some 36) ?_ rfl rfl (by kernel_rfl) (by kernel_rfl) (by kernel_rfl) (by kernel_rfl) (fun _ _ _ h => h) (Or.inl ⟨by kernel_rfl, ?_⟩) (fun _ _ _ => trivial) (by assumption) ?_
        rotate_left 1
        · intro w hSw
          (try dsimp only at hSw)
          (try (obtain ⟨q0, q1, q2, q3, q4, q5⟩ := hSw))
          go_simp
          (try with_reducible rfl)
        (try simp only [Act.put, List.setIfInBounds_toArray, List.set_cons_zero, List.set_cons_succ])
        refine Hi.take 12 (some 37) ?_ rfl rfl (by kernel_rfl) (by kernel_rfl) (by kernel_rfl) (by kernel_rfl) (fun _ _ _ h => h) (Or.inl ⟨by kernel_rfl, ?_⟩) (fun _ _ _ => trivial) (by assumption) ?_
        rotate_left 1
        · intro w hSw
          (try dsimp only at hSw)
          (try (obtain ⟨q0, q1, q2, q3, q4, q5⟩ := hSw))
          go_simp
          (try with_reducible rfl)
        (try simp only [Act.put, List.setIfInBounds_toArray, List.set_cons_zero, List.set_cons_succ])
        refine Hi.take 13 (some 38) ?_ rfl rfl (by kernel_rfl) (by kernel_rfl) (by kernel_rfl) (by kernel_rfl) (fun _ _ _ h => h) (Or.inl ⟨by kernel_rfl, ?_⟩) (fun _ _ _ => trivial) (by assumption) ?_
        rotate_left 1
        · intro w hSw
          (try dsimp only at hSw)
          (try (obtain ⟨q0, q1, q2, q3, q4, q5⟩ := hSw))
          go_simp
          (try with_reducible rfl)
        (try simp only [Act.put, List.setIfInBounds_toArray, List.set_cons_zero, List.set_cons_succ])
        refine Hi.take 14 (some 39) ?_ rfl rfl (by kernel_rfl) (by kernel_rfl) (by kernel_rfl) (by kernel_rfl) (fun _ _ _ h => h) (Or.inl ⟨by kernel_rfl, ?_⟩) (fun _ _ _ => trivial) (by assumption) ?_
        rotate_left 1
        · intro w hSw
          (try dsimp only at hSw)
          (try (obtain ⟨q0, q1, q2, q3, q4, q5⟩ := hSw))
          go_simp
          (try with_reducible rfl)
        (try simp only [Act.put, List.setIfInBounds_toArray, List.set_cons_zero, List.set_cons_succ])
        refine Hi.take 15 (some 40) ?_ rfl rfl (by kernel_rfl) (by kernel_rfl) (by kernel_rfl) (by kernel_rfl) (fun _ _ _ h => h) (Or.inl ⟨by kernel_rfl, ?_⟩) (fun _ _ _ => trivial) (by assumption) ?_
        rotate_left 1
        · intro w hSw
          (try dsimp only at hSw)
          (try (obtain ⟨q0, q1, q2, q3, q4, q5⟩ := hSw))
          go_simp
          (try with_reducible rfl)
        (try simp only [Act.put, List.setIfInBounds_toArray, List.set_cons_zero, List.set_cons_succ])
        refine Hi.take 17 (some 42) ?_ rfl rfl (by kernel_rfl) (by kernel_rfl) (by kernel_rfl) (by kernel_rfl) (fun _ _ _ h => h) (Or.inl ⟨by kernel_rfl, ?_⟩) (fun _ _ _ => trivial) (by assumption) ?_
        rotate_left 1
        · intro w hSw
          (try dsimp only at hSw)
          (try (obtain ⟨q0, q1, q2, q3, q4, q5⟩ := hSw))
          go_simp
          (try with_reducible rfl)
        (try simp only [Act.put, List.setIfInBounds_toArray, List.set_cons_zero, List.set_cons_succ])
        refine Hi.take 18 (some 43) ?_ rfl rfl (by kernel_rfl) (by kernel_rfl) (by kernel_rfl) (by kernel_rfl) (fun _ _ _ h => h) (Or.inl ⟨by kernel_rfl, ?_⟩) (fun _ _ _ => trivial) (by assumption) ?_
        rotate_left 1
        · intro w hSw
          (try dsimp only at hSw)
          (try (obtain ⟨q0, q1, q2, q3, q4, q5⟩ := hSw))
          go_simp
          (try with_reducible rfl)
        (try simp only [Act.put, List.setIfInBounds_toArray, List.set_cons_zero, List.set_cons_succ])
        refine Hi.take 19 (some 44) ?_ rfl rfl (by kernel_rfl) (by kernel_rfl) (by kernel_rfl) (by kernel_rfl) (fun _ _ _ h => h) (Or.inl ⟨by kernel_rfl, ?_⟩) (fun _ _ _ => trivial) (by assumption) ?_
        rotate_left 1
        · intro w hSw
          (try dsimp only at hSw)
          (try (obtain ⟨q0, q1, q2, q3, q4, q5⟩ := hSw))
          go_simp
          (try with_reducible rfl)
        (try simp only [Act.put, List.setIfInBounds_toArray, List.set_cons_zero, List.set_cons_succ])
        refine Hi.take 20 (some 45) ?_ rfl rfl (by kernel_rfl) (by kernel_rfl) (by kernel_rfl) (by kernel_rfl) (fun _ _ _ h => h) (Or.inl ⟨by kernel_rfl, ?_⟩) (fun _ _ _ => trivial) (by assumption) ?_
        rotate_left 1
        · intro w hSw
          (try dsimp only at hSw)
          (try (obtain ⟨q0, q1, q2, q3, q4, q5⟩ := hSw))
          go_simp
          (try with_reducible rfl)
        (try simp only [Act.put, List.setIfInBounds_toArray, List.set_cons_zero, List.set_cons_succ])
        refine Hi.take 21 (some 46) ?_ rfl rfl (by kernel_rfl) (by kernel_rfl) (by kernel_rfl) (by kernel_rfl) (fun _ _ _ h => h) (Or.inl ⟨by kernel_rfl, ?_⟩) (fun _ _ _ => trivial) (by assumption) ?_
        rotate_left 1
        · intro w hSw
          (try dsimp only at hSw)
          (try (obtain ⟨q0, q1, q2, q3, q4, q5⟩ := hSw))
          go_simp
          (try with_reducible rfl)
        (try simp only [Act.put, List.setIfInBounds_toArray, List.set_cons_zero, List.set_cons_succ])
        refine Hi.take 22 (some 47) ?_ rfl rfl (by kernel_rfl) (by kernel_rfl) (by kernel_rfl) (by kernel_rfl) (fun _ _ _ h => h) (Or.inl ⟨by kernel_rfl, ?_⟩) (fun _ _ _ => trivial) (by assumption) ?_
        rotate_left 1
        · intro w hSw
          (try dsimp only at hSw)
          (try (obtain ⟨q0, q1, q2, q3, q4, q5⟩ := hSw))
          go_simp
          (try with_reducible rfl)
        (try simp only [Act.put, List.setIfInBounds_toArray, List.set_cons_zero, List.set_cons_succ])
        refine Hi.take 23 (some 48) ?_ rfl rfl (by kernel_rfl) (by kernel_rfl) (by kernel_rfl) (by kernel_rfl) (fun _ _ _ h => h) (Or.inl ⟨by kernel_rfl, ?_⟩) (fun _ _ _ => trivial) (by assumption) ?_
        rotate_left 1
        · intro w hSw
          (try dsimp only at hSw)
          (try (obtain ⟨q0, q1, q2, q3, q4, q5⟩ := hSw))
          go_simp
          (try with_reducible rfl)
        (try simp only [Act.put, List.setIfInBounds_toArray, List.set_cons_zero, List.set_cons_succ])
        refine Hi.only 16 rfl (by kernel_rfl) (by kernel_rfl) ?_
        have HS1 := Lib.hid hS1
        clear hS1
        gi_wp2_with fail
        refine ⟨trivial, wideN, (callsIn_wide.2 (clone_any k W1 hks)).mono ?_⟩
        rintro e W2 ⟨rfl, hb2⟩
        have hk2 : Kept w0 W2 := HK1.out.trans (.of_below hb2)
        have hj2 := HJ.out _ _ _ HJ1.out hb2
        have hS2 := HS.out W2 hk2
        obtain ⟨fn, tmps, assign, body, hy, hR⟩ := HY.out W2 hk2 hj2
        refine ⟨hS2, ?_⟩
        clear hk2 hj2 hb2
        (try simp only [Act.put, List.setIfInBounds_toArray, List.set_cons_zero, List.set_cons_succ])
        refine Hi.only 24 rfl (by kernel_rfl) (by kernel_rfl) ?_
        have HS2 := Lib.hid hS2
        clear hS2
        gi_wp2_with fail
        refine ⟨wideN, hR.mono ?_⟩
        clear hy hR
        rintro e W3 ⟨hk3, r2, rfl, h3, h4⟩
        have hS3 := HS.out W3 hk3
        refine ⟨hS3, ?_⟩
        have HK3 := Lib.hid hk3
        have H3 := Lib.hid h3
        have H4 := Lib.hid h4
        clear h3 h4 hk3
        (try simp only [Act.put, List.setIfInBounds_toArray, List.set_cons_zero, List.set_cons_succ])
        cases r2 with
        | false =>
          have HX3 := Lib.hid (H4.out rfl)
          clear H3 H4
          refine Hi.take 25 (some 50) ?_ rfl rfl (by kernel_rfl) (by kernel_rfl) (by kernel_rfl) (by kernel_rfl) (fun _ _ _ h => h) (Or.inl ⟨by kernel_rfl, ?_⟩) (fun _ _ _ => trivial) (by assumption) ?_
          rotate_left 1
          · intro w hSw
            (try dsimp only at hSw)
            (try (obtain ⟨q0, q1, q2, q3, q4, q5⟩ := hSw))
            go_simp
            (try with_reducible rfl)
          (try simp only [Act.put, List.setIfInBounds_toArray, List.set_cons_zero, List.set_cons_succ])
          refine Hi.take 26 (some 51) ?_ rfl rfl (by kernel_rfl) (by kernel_rfl) (by kernel_rfl) (by kernel_rfl) (fun _ _ _ h => h) (Or.inl ⟨by kernel_rfl, ?_⟩) (fun _ _ _ => trivial) (by assumption) ?_
          rotate_left 1
          · intro w hSw
            (try dsimp only at hSw)
            (try (obtain ⟨q0, q1, q2, q3, q4, q5⟩ := hSw))
            go_simp
            (try with_reducible rfl)
          (try simp only [Act.put, List.setIfInBounds_toArray, List.set_cons_zero, List.set_cons_succ])
          refine Hi.take 27 (some 52) undef rfl rfl (by kernel_rfl) (by kernel_rfl) (by kernel_rfl) (by kernel_rfl) (fun _ _ _ h => h) (Or.inr ⟨by kernel_rfl, rfl⟩) (fun _ _ _ => trivial) (by assumption) ?_
          (try simp only [Act.put, List.setIfInBounds_toArray, List.set_cons_zero, List.set_cons_succ])
          refine Hi.take 28 (some 53) undef rfl rfl (by kernel_rfl) (by kernel_rfl) (by kernel_rfl) (by kernel_rfl) (fun _ _ _ h => h) (Or.inr ⟨by kernel_rfl, rfl⟩) (fun _ _ _ => trivial) (by assumption) ?_
          (try simp only [Act.put, List.setIfInBounds_toArray, List.set_cons_zero, List.set_cons_succ])
          refine Hi.take 29 (some 54) undef rfl rfl (by kernel_rfl) (by kernel_rfl) (by kernel_rfl) (by kernel_rfl) (fun _ _ _ h => h) (Or.inr ⟨by kernel_rfl, rfl⟩) (fun _ _ _ => trivial) (by assumption) ?_
          (try simp only [Act.put, List.setIfInBounds_toArray, List.set_cons_zero, List.set_cons_succ])
          refine Hi.take 30 (some 55) undef rfl rfl (by kernel_rfl) (by kernel_rfl) (by kernel_rfl) (by kernel_rfl) (fun _ _ _ h => h) (Or.inr ⟨by kernel_rfl, rfl⟩) (fun _ _ _ => trivial) (by assumption) ?_
          (try simp only [Act.put, List.setIfInBounds_toArray, List.set_cons_zero, List.set_cons_succ])
          refine Hi.take 31 (some 56) undef rfl rfl (by kernel_rfl) (by kernel_rfl) (by kernel_rfl) (by kernel_rfl) (fun _ _ _ h => h) (Or.inr ⟨by kernel_rfl, rfl⟩) (fun _ _ _ => trivial) (by assumption) ?_
          (try simp only [Act.put, List.setIfInBounds_toArray, List.set_cons_zero, List.set_cons_succ])
          refine Hi.take 32 (some 57) undef rfl rfl (by kernel_rfl) (by kernel_rfl) (by kernel_rfl) (by kernel_rfl) (fun _ _ _ h => h) (Or.inr ⟨by kernel_rfl, rfl⟩) (fun _ _ _ => trivial) (by assumption) ?_
          (try simp only [Act.put, List.setIfInBounds_toArray, List.set_cons_zero, List.set_cons_succ])
          refine Hi.take 33 (some 58) undef rfl rfl (by kernel_rfl) (by kernel_rfl) (by kernel_rfl) (by kernel_rfl) (fun _ _ _ h => h) (Or.inr ⟨by kernel_rfl, rfl⟩) (fun _ _ _ => trivial) (by assumption) ?_
          (try simp only [Act.put, List.setIfInBounds_toArray, List.set_cons_zero, List.set_cons_succ])
          refine Hi.take 34 (some 59) ?_ rfl rfl (by kernel_rfl) (by kernel_rfl) (by kernel_rfl) (by kernel_rfl) (fun _ _ _ h => h) (Or.inl ⟨by kernel_rfl, ?_⟩) (fun _ _ _ => trivial) (by assumption) ?_
          rotate_left 1
          · intro w hSw
            (try dsimp only at hSw)
            (try (obtain ⟨q0, q1, q2, q3, q4, q5⟩ := hSw))
            go_simp
            (try with_reducible rfl)
          (try simp only [Act.put, List.setIfInBounds_toArray, List.set_cons_zero, List.set_cons_succ])
          refine Hi.take 35 (some 6) ?_ rfl rfl (by kernel_rfl) (by kernel_rfl) (by kernel_rfl) (by kernel_rfl) (fun _ _ _ h => h) (Or.inl ⟨by kernel_rfl, ?_⟩) (fun _ _ _ => trivial) (by assumption) ?_
          rotate_left 1
          · intro w hSw
            (try dsimp only at hSw)
            (try (obtain ⟨q0, q1, q2, q3, q4, q5⟩ := hSw))
            go_simp
            (try with_reducible rfl)
          (try simp only [Act.put, List.setIfInBounds_toArray, List.set_cons_zero, List.set_cons_succ])
          refine Hi.done (by kernel_rfl) ?_ _
          clear hS3
          gi_wp2_with fail
          go_ret
          exact ⟨HK3.out, false, rfl, fun h => (by cases h), fun _ => HX3.out⟩
        | true =>
          have HJ3 := Lib.hid (H3.out rfl)
          clear H3 H4
          refine Hi.take 25 (some 50) ?_ rfl rfl (by kernel_rfl) (by kernel_rfl) (by kernel_rfl) (by kernel_rfl) (fun _ _ _ h => h) (Or.inl ⟨by kernel_rfl, ?_⟩) (fun _ _ _ => trivial) (by assumption) ?_
          rotate_left 1
          · intro w hSw
            (try dsimp only at hSw)
            (try (obtain ⟨q0, q1, q2, q3, q4, q5⟩ := hSw))
            go_simp
            (try with_reducible rfl)
          (try simp only [Act.put, List.setIfInBounds_toArray, List.set_cons_zero, List.set_cons_succ])
          refine Hi.take 26 (some 51) ?_ rfl rfl (by kernel_rfl) (by kernel_rfl) (by kernel_rfl) (by kernel_rfl) (fun _ _ _ h => h) (Or.inl ⟨by kernel_rfl, ?_⟩) (fun _ _ _ => trivial) (by assumption) ?_
          rotate_left 1
          · intro w hSw
            (try dsimp only at hSw)
            (try (obtain ⟨q0, q1, q2, q3, q4, q5⟩ := hSw))
            go_simp
            (try with_reducible rfl)
          (try simp only [Act.put, List.setIfInBounds_toArray, List.set_cons_zero, List.set_cons_succ])
          refine Hi.take 27 (some 52) ?_ rfl rfl (by kernel_rfl) (by kernel_rfl) (by kernel_rfl) (by kernel_rfl) (fun _ _ _ h => h) (Or.inl ⟨by kernel_rfl, ?_⟩) (fun _ _ _ => trivial) (by assumption) ?_
          rotate_left 1
          · intro w hSw
            (try dsimp only at hSw)
            (try (obtain ⟨q0, q1, q2, q3, q4, q5⟩ := hSw))
            go_simp
            (try with_reducible rfl)
          (try simp only [Act.put, List.setIfInBounds_toArray, List.set_cons_zero, List.set_cons_succ])
          refine Hi.take 28 (some 53) ?_ rfl rfl (by kernel_rfl) (by kernel_rfl) (by kernel_rfl) (by kernel_rfl) (fun _ _ _ h => h) (Or.inl ⟨by kernel_rfl, ?_⟩) (fun _ _ _ => trivial) (by assumption) ?_
          rotate_left 1
          · intro w hSw
            (try dsimp only at hSw)
            (try (obtain ⟨q0, q1, q2, q3, q4, q5⟩ := hSw))
            go_simp
            (try with_reducible rfl)
          (try simp only [Act.put, List.setIfInBounds_toArray, List.set_cons_zero, List.set_cons_succ])
          refine Hi.take 29 (some 54) ?_ rfl rfl (by kernel_rfl) (by kernel_rfl) (by kernel_rfl) (by kernel_rfl) (fun _ _ _ h => h) (Or.inl ⟨by kernel_rfl, ?_⟩) (fun _ _ _ => trivial) (by assumption) ?_
          rotate_left 1
          · intro w hSw
            (try dsimp only at hSw)
            (try (obtain ⟨q0, q1, q2, q3, q4, q5⟩ := hSw))
            go_simp
            (try with_reducible rfl)
          (try simp only [Act.put, List.setIfInBounds_toArray, List.set_cons_zero, List.set_cons_succ])
          refine Hi.take 30 (some 55) ?_ rfl rfl (by kernel_rfl) (by kernel_rfl) (by kernel_rfl) (by kernel_rfl) (fun _ _ _ h => h) (Or.inl ⟨by kernel_rfl, ?_⟩) (fun _ _ _ => trivial) (by assumption) ?_
          rotate_left 1
          · intro w hSw
            (try dsimp only at hSw)
            (try (obtain ⟨q0, q1, q2, q3, q4, q5⟩ := hSw))
            go_simp
            (try with_reducible rfl)
          (try simp only [Act.put, List.setIfInBounds_toArray, List.set_cons_zero, List.set_cons_succ])
          refine Hi.take 31 (some 56) ?_ rfl rfl (by kernel_rfl) (by kernel_rfl) (by kernel_rfl) (by kernel_rfl) (fun _ _ _ h => h) (Or.inl ⟨by kernel_rfl, ?_⟩) (fun _ _ _ => trivial) (by assumption) ?_
          rotate_left 1
          · intro w hSw
            (try dsimp only at hSw)
            (try (obtain ⟨q0, q1, q2, q3, q4, q5⟩ := hSw))
            go_simp
            (try with_reducible rfl)
          (try simp only [Act.put, List.setIfInBounds_toArray, List.set_cons_zero, List.set_cons_succ])
          refine Hi.take 32 (some 57) ?_ rfl rfl (by kernel_rfl) (by kernel_rfl) (by kernel_rfl) (by kernel_rfl) (fun _ _ _ h => h) (Or.inl ⟨by kernel_rfl, ?_⟩) (fun _ _ _ => trivial) (by assumption) ?_
          rotate_left 1
          · intro w hSw
            (try dsimp only at hSw)
            (try (obtain ⟨q0, q1, q2, q3, q4, q5⟩ := hSw))
            go_simp
            (try with_reducible rfl)
          (try simp only [Act.put, List.setIfInBounds_toArray, List.set_cons_zero, List.set_cons_succ])
          refine Hi.only 33 rfl (by kernel_rfl) (by kernel_rfl) ?_
          clear hS3
          gi_wp2_with fail
          refine ⟨trivial, wideN, (HR.out W3 HK3.out HJ3.out).mono ?_⟩
          rintro e W4 ⟨hk4, r3, rfl, h5, h6⟩
          have hS4 := HS.out W4 hk4
          refine ⟨hS4, ?_⟩
          have HK4 := Lib.hid hk4
          have H5 := Lib.hid h5
          have H6 := Lib.hid h6
          clear h5 h6 hk4
          (try simp only [Act.put, List.setIfInBounds_toArray, List.set_cons_zero, List.set_cons_succ])
          refine Hi.take 34 (some 59) ?_ rfl rfl (by kernel_rfl) (by kernel_rfl) (by kernel_rfl) (by kernel_rfl) (fun _ _ _ h => h) (Or.inl ⟨by kernel_rfl, ?_⟩) (fun _ _ _ => trivial) (by assumption) ?_
          rotate_left 1
          · intro w hSw
            (try dsimp only at hSw)
            (try (obtain ⟨q0, q1, q2, q3, q4, q5⟩ := hSw))
            go_simp
            (try with_reducible rfl)
          (try simp only [Act.put, List.setIfInBounds_toArray, List.set_cons_zero, List.set_cons_succ])
          refine Hi.take 35 (some 6) ?_ rfl rfl (by kernel_rfl) (by kernel_rfl) (by kernel_rfl) (by kernel_rfl) (fun _ _ _ h => h) (Or.inl ⟨by kernel_rfl, ?_⟩) (fun _ _ _ => trivial) (by assumption) ?_
          rotate_left 1
          · intro w hSw
            (try dsimp only at hSw)
            (try (obtain ⟨q0, q1, q2, q3, q4, q5⟩ := hSw))
            go_simp
            (try with_reducible rfl)
          (try simp only [Act.put, List.setIfInBounds_toArray, List.set_cons_zero, List.set_cons_succ])
          refine Hi.done (by kernel_rfl) ?_ _
          clear hS4
          gi_wp2_with fail
          go_ret
          exact ⟨HK4.out, r3, rfl, H5.out, H6.out⟩
end Go.Proofs.Ythioogncbhkaoaa.MI
