/-
  Walks over package table: behind and its iterator. Condition: rows of at most 2^47 bytes.
-/
import Derived.Test.YtgmaccfhgeocdaaTabAt
import Derived.Test.YtgmaccfhgeocdaaRangeZ
import Derived.Test.YtgmaccfhgeocdaaTabOuts
import Derived.TacticsInMore
import Derived.LoopNIn
import Derived.LoopIn
import Derived.OwnWalkIn
namespace Go.Proofs.Ytgmaccfhgeocdaa
open Go.RowKit Tb
attribute [local go_sem] Oper.semAt_some

/-- The entries from a place on, each with the place behind it. -/
def Ents (R : List UInt8) : Nat → List (En × Nat) → Prop
  | p, [] => atR R p = none
  | p, x :: r => atR R p = some x ∧ Ents R x.2 r
def plc (p : Nat) (xs : List (En × Nat)) (i : Nat) : Nat := match i with
  | 0 => p
  | i + 1 => (xs[i]?.map Prod.snd).getD 0
theorem plc_cons (p : Nat) (x : En × Nat) (r : List (En × Nat)) (i : Nat) : plc p (x :: r) (i + 1) = plc x.2 r i := by
  cases i with
  | zero => simp [plc]
  | succ i => simp [plc]
theorem plc_succ (p : Nat) (xs : List (En × Nat)) {i : Nat} (h : i < xs.length) : plc p xs (i + 1) = xs[i].2 := by simp [plc, h]
theorem Ents.step {R : List UInt8} {p : Nat} {xs : List (En × Nat)} (h : Ents R p xs) {i : Nat} (hi : i < xs.length) : atR R (plc p xs i) = some xs[i] := by
  induction xs generalizing p i with
  | nil => simp at hi
  | cons x r ih =>
    cases i with
    | zero => exact h.1
    | succ i => rw [plc_cons]; exact ih h.2 (by simpa using hi)
theorem Ents.done {R : List UInt8} {p : Nat} {xs : List (En × Nat)} (h : Ents R p xs) : atR R (plc p xs xs.length) = none := by
  induction xs generalizing p with
  | nil => exact h
  | cons x r ih => rw [List.length_cons, plc_cons]; exact ih h.2
theorem ents_any (R : List UInt8) (p : Nat) : ∃ xs, Ents R p xs := by
  have key : ∀ n p, R.length - p ≤ n → ∃ xs, Ents R p xs := by
    intro n
    induction n with
    | zero => intro p hp; exact ⟨[], at_end R (by omega)⟩
    | succ n ih =>
      intro p hp
      cases h : atR R p with
      | none => exact ⟨[], h⟩
      | some x =>
        have := atR_next (q := x.2) (e := x.1) h
        by_cases hle : R.length ≤ p
        · rw [at_end R hle] at h; cases h
        · obtain ⟨xs, hx⟩ := ih x.2 (by omega)
          exact ⟨x :: xs, h, hx⟩
  exact key _ p (Nat.le_refl _)
theorem Ents.le {R : List UInt8} {p : Nat} {xs : List (En × Nat)} (h : Ents R p xs) {i : Nat} (hi : i ≤ xs.length) : plc p xs i ≤ p + R.length := by
  cases i with
  | zero => simp [plc]
  | succ i =>
    rw [plc_succ p xs (by omega)]
    have := atR_next (q := xs[i].2) (e := xs[i].1) (h.step (i := i) (by omega))
    omega
def atE (o : Option (En × Nat)) : En := match o with
  | some (e, _) => e
  | none => ⟨⟨#[]⟩, ⟨#[]⟩, false⟩
def atN (o : Option (En × Nat)) : Nat := match o with
  | some (_, q) => q
  | none => 0
theorem atV_eq (o : Option (En × Nat)) : atV o = .tuple #[enV (atE o), .int .i64 (atN o : Nat), .bool o.isSome] := by
  cases o with
  | none => rfl
  | some x => rfl
theorem box_steps {w : World} {b : Nat} (v0 v1 v2 : Value) (o : Obj) : StepsZ (fun k => k = b) (fun k => k = w.heap.size) w ((((w.setCell ⟨b, 0, none⟩ v0).setCell ⟨b, 1, none⟩ v1).setCell ⟨b, 2, none⟩ v2).alloc o) :=
  ⟨rfl, rfl, rfl, by simp [World.setCell], fun k hk hb => (Below.heap_alloc _ _ _ (by simpa [World.setCell] using hk)).trans ((Below.heap_setCell _ _ _ _ hb).trans ((Below.heap_setCell _ _ _ _ hb).trans (Below.heap_setCell _ _ _ _ hb))), fun k hk => .inr (by rw [hk]; exact Nat.le_refl _)⟩
theorem box_new {w : World} {b : Nat} (v0 v1 v2 : Value) (o : Obj) : ((((w.setCell ⟨b, 0, none⟩ v0).setCell ⟨b, 1, none⟩ v1).setCell ⟨b, 2, none⟩ v2).alloc o).heap[w.heap.size]? = some o := by
  have h := heap_alloc_new (((w.setCell ⟨b, 0, none⟩ v0).setCell ⟨b, 1, none⟩ v1).setCell ⟨b, 2, none⟩ v2) o
  have e : (((w.setCell ⟨b, 0, none⟩ v0).setCell ⟨b, 1, none⟩ v1).setCell ⟨b, 2, none⟩ v2).heap.size = w.heap.size := by simp [World.setCell]
  rwa [e] at h
theorem atE_some (x : En × Nat) : atE (some x) = x.1 := rfl
theorem atN_some (x : En × Nat) : atN (some x) = x.2 := rfl
theorem atE_none : atE none = ⟨⟨#[]⟩, ⟨#[]⟩, false⟩ := rfl
theorem atN_none : atN none = 0 := rfl
theorem wideN {m : Nat} : Fence.wide.depth.isSome = true → 1 ≤ m := fun h => by simp [Fence.wide] at h

set_option maxRecDepth 100000 in
set_option maxHeartbeats 4000000 in
theorem behind1_seq (n : Nat) (R : List UInt8) (hR : R.length ≤ 70000000000000) (p : Nat) (hp : p ≤ 70000000000000) (xs : List (En × Nat)) (hx : Ents R p xs) (a b1 b2 : Nat) (w : World) (hr : RowsAt w a R)
    (h1 : w.heap[b1]? = some (.cells #[.pointer (some ⟨a, 0, none⟩)] 27 (0, 0))) (h2 : w.heap[b2]? = some (.cells #[.int .i64 (p : Nat)] 3 (0, 0))) :
    SeqZ Fence.wide n Try.prog 42 #[.pointer (some ⟨b1, 0, none⟩), .pointer (some ⟨b2, 0, none⟩)] (fun x : En × Nat => #[enV x.1]) xs (fun k => k = b1 ∨ k = b2 ∨ k = a) w := fun l J Jx W hW hJ hY hJx h0 => by
  have hr0 := hr.below hW
  have hr0' := hr0
  obtain ⟨ct, hT⟩ := hr0'
  refine callsIn_of_wp Try.func42 rfl trivial ?_ rfl
  simp only [Try.ntmps42, List.size_toArray, List.length_cons, List.length_nil, Nat.reduceAdd, Nat.reduceSub, Array.replicate_succ, Array.replicate_zero, List.push_toArray, List.append_toArray, List.nil_append, List.cons_append]
  have l1 : b1 < w.heap.size := (Array.getElem?_eq_some_iff.1 h1).1
  have l2 : b2 < w.heap.size := (Array.getElem?_eq_some_iff.1 h2).1
  have hB1 := (hW.block b1 l1).trans h1
  have hB2 := (hW.block b2 l2).trans h2
  have c1 := (cells1 hB1).1
  have c2 := (cells1 hB2).1
  have hle0 : p ≤ 140737488355328 := by omega
  have hxl : ∀ i, i ≤ xs.length → plc p xs i ≤ 140737488355328 := fun i hi => by have := hx.le hi; omega
  have HXL := Lib.hid hxl
  have HX := Lib.hid hx
  clear hxl hx
  gi_wp2_with fail
  refine ⟨trivial, wideN, ?_⟩
  refine (callsIn_wide.2 (at_any hr0 (by omega) p hle0)).mono ?_
  rintro e w1 ⟨rfl, hb1⟩
  obtain ⟨o0, ho0⟩ : ∃ o0, o0 = atR R (plc p xs 0) := ⟨_, rfl⟩
  have ho1 : atR R p = o0 := ho0.symm
  rw [atV_eq, ho1]
  have HO := Lib.hid ho0
  have HR1 := Lib.hid (hr0.below hb1)
  have HB1 := Lib.hid ((hb1.block b1 (by have := hW.size; omega)).trans hB1)
  have HB2 := Lib.hid ((hb1.block b2 (by have := hW.size; omega)).trans hB2)
  have hz1 := hb1.size
  have HST : Hid (StepsZ (fun _ => False) (fun k => k = w1.heap.size) W (w1.alloc (entO (atE o0)))) := Lib.hid (by
    have h := hb1.trans ((below_alloc w1 (entO (atE o0))).mono hb1.size)
    exact ⟨h.os, h.tape, h.output, h.size, fun k hk _ => h.block k hk, fun k hk => .inr (by rw [hk]; exact hz1)⟩)
  clear ho0 ho1 hb1 c1 c2 hB1 hB2
  unfold enV
  gi_wp2_with fail
  gi_loopw [4, 5, 6] (fun pv nv kv wr => ∃ i b : Nat, i ≤ xs.length ∧ pv = .pointer (some ⟨b, 0, none⟩) ∧ nv = .int .i64 (atN (atR R (plc p xs i)) : Nat) ∧ kv = .bool (atR R (plc p xs i)).isSome ∧
      Hid (wr.heap[b]? = some (entO (atE (atR R (plc p xs i)))) ∧ RowsAt wr a R ∧ wr.heap[b1]? = some (.cells #[.pointer (some ⟨a, 0, none⟩)] 27 (0, 0)) ∧ wr.heap[b2]? = some (.cells #[.int .i64 (p : Nat)] 3 (0, 0)) ∧ W.heap.size ≤ b ∧ W.heap.size ≤ wr.heap.size ∧ J (fun k => k = b) i wr))
    (fun _ nv kv _ => match kv with | .bool true => R.length + 1 - (intOf nv).toNat | _ => 0)
  case atStart =>
    refine ⟨0, w1.heap.size, Nat.zero_le _, rfl, by rw [← HO.out], by rw [← HO.out], Lib.hid ⟨?_, HR1.out.below (below_alloc _ _), (Below.heap_alloc _ _ _ (Array.getElem?_eq_some_iff.1 HB1.out).1).trans HB1.out, (Below.heap_alloc _ _ _ (Array.getElem?_eq_some_iff.1 HB2.out).1).trans HB2.out, hz1, HST.out.size, hJ _ _ _ _ _ h0 HST.out⟩⟩
    rw [← HO.out]; exact heap_alloc_new w1 _
  case round =>
    obtain ⟨i, b, hi, rfl, rfl, rfl, H⟩ := hrel
    obtain ⟨e0, e1, e2⟩ := cells3 (show wr.heap[b]? = some (.cells #[.string (atE (atR R (plc p xs i))).key, .string (atE (atR R (plc p xs i))).value, .bool (atE (atR R (plc p xs i))).gone] 31 (0, 0)) from H.out.1)
    by_cases hlt : i < xs.length
    · have hst := HX.out.step hlt
      have hnx := atR_next (e := xs[i].1) (q := xs[i].2) hst
      obtain ⟨fn, tmps, assign, body, hy, hR'⟩ := hY (fun k => k = b) i hlt wr H.out.2.2.2.2.2.1 (fun k hk => by subst hk; exact ⟨H.out.2.2.2.2.1, (Array.getElem?_eq_some_iff.1 H.out.1).1⟩) H.out.2.2.2.2.2.2
      have hps := plc_succ p xs hlt
      rw [hst] at e0 e1 e2 ⊢
      have hxs := HXL.out (i + 1) (by omega)
      rw [hps] at hxs
      have HPS := Lib.hid hps
      have HST2 := Lib.hid hst
      clear hst hps
      obtain ⟨x, hx⟩ : ∃ x, x = xs[i] := ⟨_, rfl⟩
      have HXI := Lib.hid hx
      rw [← hx] at e0 e1 e2 hnx hxs hy HPS HST2 ⊢
      rw [atE_some] at e0 e1 e2
      rw [atN_some, Option.isSome_some]
      clear hx
      unfold enV at hy
      obtain ⟨xq, hxq⟩ : ∃ xq, xq = x.2 := ⟨_, rfl⟩
      rw [← hxq] at hnx hxs HPS ⊢
      have HQ := Lib.hid hxq
      clear hxq
      gi_wp2_with fail
      refine ⟨wideN, hR'.mono ?_⟩
      rintro e W3 (⟨rfl, hj3, hk3⟩ | ⟨rfl, hj3, -⟩)
      · have hbl : b < wr.heap.size := (Array.getElem?_eq_some_iff.1 H.out.1).1
        have hb3 : W3.heap[b]? = some (entO x.1) := (hk3.block b hbl (.inr rfl)).trans (by rw [H.out.1, HST2.out, atE_some])
        have hb13 := (hk3.block b1 (Array.getElem?_eq_some_iff.1 H.out.2.2.1).1 (.inl (.inl rfl))).trans H.out.2.2.1
        have hb23 := (hk3.block b2 (Array.getElem?_eq_some_iff.1 H.out.2.2.2.1).1 (.inl (.inr (.inl rfl)))).trans H.out.2.2.2.1
        have hr3 : RowsAt W3 a R := by
          obtain ⟨c, v, h⟩ := H.out.2.1
          exact ⟨c, v, (hk3.block a (Array.getElem?_eq_some_iff.1 h).1 (.inl (.inr (.inr rfl)))).trans h⟩
        have hW3 : W.heap.size ≤ W3.heap.size := Nat.le_trans H.out.2.2.2.2.2.1 hk3.size
        have c1 := (cells1 hb13).1
        have HWb : Hid (W.heap.size ≤ b) := Lib.hid H.out.2.2.2.2.1
        have HBL := Lib.hid (Nat.lt_of_lt_of_le hbl hk3.size)
        have HB3 := Lib.hid hb3
        have HB13 := Lib.hid hb13
        have HB23 := Lib.hid hb23
        have HR3 := Lib.hid hr3
        have HJ3 := Lib.hid hj3
        clear hk3 hj3 hb3 hb13 hb23 hr3 e0 e1 e2 hy hR' hbl H
        gi_wp2_with fail
        refine ⟨trivial, wideN, ?_⟩
        refine (callsIn_wide.2 (at_any HR3.out (by omega) xq hxs)).mono ?_
        rintro e w4 ⟨rfl, hb4⟩
        rw [← HPS.out]
        obtain ⟨o, ho⟩ : ∃ o, o = atR R (plc p xs (i + 1)) := ⟨_, rfl⟩
        have HO2 := Lib.hid ho
        rw [← ho, atV_eq]
        unfold enV
        have hb4b : w4.heap[b]? = some (entO x.1) := (hb4.block b HBL.out).trans HB3.out
        obtain ⟨g0, g1, g2⟩ := cells3 (show w4.heap[b]? = some (.cells #[.string x.1.key, .string x.1.value, .bool x.1.gone] 31 (0, 0)) from hb4b)
        have gf0 := frozen_of_row w4 b 0 _ _ hb4b
        have gf1 := frozen_of_row w4 b 1 _ _ hb4b
        have gf2 := frozen_of_row w4 b 2 _ _ hb4b
        clear ho c1
        gi_wp2_with fail
        have st := box_steps (w := w4) (b := b) (.string (atE o).key) (.string (atE o).value) (.bool (atE o).gone) (.cells #[.string (atE o).key, .string (atE o).value, .bool (atE o).gone] 31)
        have hWs := hW.size
        have hz4 := hb4.size
        have hWb := HWb.out
        obtain ⟨cA, vA, hA⟩ := HR3.out
        have hal := (Array.getElem?_eq_some_iff.1 hA).1
        have haw : a < w.heap.size := by obtain ⟨_, _, h⟩ := hr; exact (Array.getElem?_eq_some_iff.1 h).1
        refine ⟨⟨i + 1, w4.heap.size, by omega, rfl, by rw [← HO2.out], by rw [← HO2.out], Lib.hid ⟨?_, ⟨cA, vA, (st.block a (by omega) (by omega)).trans ((hb4.block a hal).trans hA)⟩, (st.block b1 (by omega) (by omega)).trans ((hb4.block b1 (by omega)).trans HB13.out), (st.block b2 (by omega) (by omega)).trans ((hb4.block b2 (by omega)).trans HB23.out), by omega, Nat.le_trans (by omega) st.size, hJ _ _ _ _ _ HJ3.out ((StepsZ.of_below hb4).trans st)⟩⟩, ?_⟩
        · rw [← HO2.out]; exact box_new _ _ _ _
        · have h2 := HO2.out
          rw [HPS.out] at h2
          cases o with
          | none => simp only [intOf, Option.isSome_none]; omega
          | some y =>
            have := atR_next (e := y.1) (q := y.2) h2.symm
            simp only [intOf, Option.isSome_some, atN_some]; omega
      · gi_wp2
        go_end0
        exact ⟨⟨_, rfl⟩, _, fun k hk => by rw [hk]; exact H.out.2.2.2.2.1, .inr ⟨i + 1, by omega, hj3⟩⟩
    · obtain rfl : i = xs.length := by omega
      rw [HX.out.done]
      rw [HX.out.done] at e0 e1 e2
      rw [atE_none] at e0 e1 e2
      rw [atN_none, Option.isSome_none]
      gi_wp2_with fail
      refine ⟨fun _ h => (by cases h), ?_⟩
      gi_wp2_with fail
      go_end0
      exact ⟨⟨_, rfl⟩, _, fun k hk => by rw [hk]; exact H.out.2.2.2.2.1, .inl H.out.2.2.2.2.2.2⟩

/-- What behind gives: a function over two blocks of its own. -/
def Beh (w : World) (tv : Value) (p : Int) (e : Ending) (w' : World) : Prop :=
  ∃ b1 b2, e = .returned (.func (.func 42) #[] #[.pointer (some ⟨b1, 0, none⟩), .pointer (some ⟨b2, 0, none⟩)]) ∧ w'.heap[b1]? = some (.cells #[tv] 27 (0, 0)) ∧ w'.heap[b2]? = some (.cells #[.int .i64 p] 3 (0, 0)) ∧
    w.heap.size ≤ b1 ∧ b1 < b2 ∧ Below w.heap.size w w'
theorem behind_any (w : World) (op : Option Addr) (p : Int) : Calls Try.prog 31 #[.pointer op, .int .i64 p] w (Beh w (.pointer op) p) := by
  go_enter Try.func31, Try.ntmps31
  go_wp2_with fail
  go_ret
  refine ⟨_, _, rfl, (Below.heap_alloc _ _ _ (by simp)).trans (heap_alloc_new w _), ?_, Nat.le_refl _, Nat.lt_succ_self _, (below_alloc w _).alloc (by simp) _⟩
  have := heap_alloc_new (w.alloc (.cells #[.pointer op] 27)) (.cells #[.int .i64 p] 3); rw [World.size_alloc] at this; exact this
end Go.Proofs.Ytgmaccfhgeocdaa
