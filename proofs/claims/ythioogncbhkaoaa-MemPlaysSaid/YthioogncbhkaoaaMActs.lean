/-
  A list of acts on a table as it is handed in, opened; how great it is. No condition.
-/
import Derived.Test.YthioogncbhkaoaaMemMean
namespace Go.Proofs.Ythioogncbhkaoaa
open Go.ChangeShapes Go.WideShapes Go.ChangeAt Go.RowKit

def MActOk (x : MAct) : Prop := (-9223372036854775808 ≤ x.act ∧ x.act ≤ 9223372036854775807) ∧ x.key.size ≤ maxLen ∧ x.val.size ≤ maxLen ∧ (-9223372036854775808 ≤ x.n ∧ x.n ≤ 9223372036854775807)
def MActs (W : World) (p : Option Addr) (xs : List MAct) : Prop := ∀ i (h : i < xs.length), ∃ A, p = some A ∧ A.block < W.heap.size ∧ (∀ j, j < 4 → W.cell? (A.add (i * 4 + j)) = xs[i].cells[j]?) ∧ MActOk xs[i]
theorem MActs.at {w W : World} {p : Option Addr} {xs : List MAct} (h : MActs w p xs) (hb : Below w.heap.size w W) {i : Nat} (hi : i < xs.length) :
    ∃ A, p = some A ∧ W.cell? (A.add (i * 4)) = some (.int .i64 xs[i].act) ∧ W.cell? ⟨(A.add (i * 4)).block, (A.add (i * 4)).off + 1, none⟩ = some (.string xs[i].key) ∧ W.cell? ⟨(A.add (i * 4)).block, (A.add (i * 4)).off + 2, none⟩ = some (.string xs[i].val) ∧
      W.cell? ⟨(A.add (i * 4)).block, (A.add (i * 4)).off + 3, none⟩ = some (.int .i64 xs[i].n) ∧ MActOk xs[i] := by
  obtain ⟨A, rfl, h2, h3, h4⟩ := h i hi
  have cell : ∀ j, j < 4 → W.cell? ((A.add (i * 4)).add j) = xs[i].cells[j]? := fun j hj => by
    rw [addr_add]; exact (hb.cell (by rw [add_block]; exact h2)).trans (h3 j hj)
  exact ⟨A, rfl, cell 0 (by omega), cell 1 (by omega), cell 2 (by omega), cell 3 (by omega), h4⟩

theorem one_mact : Try.prog.cellsOf 32 = 4 ∧ Try.prog.cellsOf 9 = 1 ∧ Try.prog.cellsOf 3 = 1 := ⟨by kernel_rfl, by kernel_rfl, by kernel_rfl⟩
set_option maxRecDepth 100000 in
theorem open_mact {H : Type} {enc : TypeId × Value → H} {W : World} {fuel : Nat} {cs : List Value} {x : DataW H × List MemPlace} (h : DataW.trod enc Try.prog W 0 (fun _ => true) true fuel 32 cs = some x) :
    ∃ v : MAct, cs = v.cells ∧ MActOk v := by
  obtain ⟨z4, z1, z0⟩ := one_mact
  obtain ⟨xs, m, -, -, hl, hlen, hf⟩ := DataW.trod_struct Try.underlying32 h
  rw [z4] at hl
  obtain ⟨c0, c1, c2, c3, rfl⟩ : ∃ c0 c1 c2 c3, cs = [c0, c1, c2, c3] := by
    match cs, hl with
    | [c0, c1, c2, c3], _ => exact ⟨_, _, _, _, rfl⟩
  obtain ⟨y0, y1, y2, y3, rfl⟩ : ∃ c0 c1 c2 c3, xs = [c0, c1, c2, c3] := by
    match xs, hlen with
    | [c0, c1, c2, c3], _ => exact ⟨_, _, _, _, rfl⟩
  have f0 := hf 0 _ rfl
  have f1 := hf 1 _ rfl
  have f2 := hf 2 _ rfl
  have f3 := hf 3 _ rfl
  simp only [z0, z1, List.drop, List.take, List.getElem?_cons_zero, List.getElem?_cons_succ] at f0 f1 f2 f3
  obtain ⟨n0, e0, -, w0⟩ := DataW.trod_int Try.underlying3 f0
  obtain ⟨s1, e1, -, w1⟩ := DataW.trod_string Try.underlying9 f1
  obtain ⟨s2, e2, -, w2⟩ := DataW.trod_string Try.underlying9 f2
  obtain ⟨n3, e3, -, w3⟩ := DataW.trod_int Try.underlying3 f3
  have b0 : -9223372036854775808 ≤ n0 ∧ n0 ≤ 9223372036854775807 := by simpa [Lit.wf, IntKind.min, IntKind.max, IntKind.signed, IntKind.bits] using w0
  have b3 : -9223372036854775808 ≤ n3 ∧ n3 ≤ 9223372036854775807 := by simpa [Lit.wf, IntKind.min, IntKind.max, IntKind.signed, IntKind.bits] using w3
  obtain rfl := List.head_eq_of_cons_eq e0
  obtain rfl := List.head_eq_of_cons_eq e1
  obtain rfl := List.head_eq_of_cons_eq e2
  obtain rfl := List.head_eq_of_cons_eq e3
  exact ⟨⟨n0, s1, s2, n3⟩, rfl, b0, w1, w2, b3⟩

set_option maxRecDepth 100000 in
theorem open_macts {H : Type} {enc : TypeId × Value → H} {W : World} {base : Nat} {v : Value} {d : DataW H} {ps : List MemPlace} (hval : Value.okWide Try.prog W .any base 22 v) (h : DataW.Trod enc Try.prog W 0 (fun _ => true) true 22 v d ps) :
    ∃ (p : Option Addr) (cap : Nat) (xs : List MAct), v = .slice p xs.length cap ∧ MActs W p xs := by
  obtain ⟨a0, len, cap, rfl⟩ := okWide_slice Try.underlying22 hval
  obtain ⟨fuel, hf⟩ := h
  obtain ⟨z4, -⟩ := one_mact
  rcases DataW.trod_slice Try.underlying22 hf with ⟨e, -⟩ | ⟨a, len', cap', elems, rest, m, -, e, -, -, -, -, hlen, hel, -, -⟩
  · obtain h0 := List.head_eq_of_cons_eq e
    obtain ⟨rfl, rfl, rfl⟩ := Value.slice.inj h0
    exact ⟨none, 0, [], rfl, fun i hi => nomatch hi⟩
  · obtain h0 := List.head_eq_of_cons_eq e
    obtain ⟨rfl, rfl, rfl⟩ := Value.slice.inj h0
    have key : ∀ i, i < len → ∃ x : MAct, a.block < W.heap.size ∧ (∀ j, j < 4 → W.cell? (a.add (i * 4 + j)) = x.cells[j]?) ∧ MActOk x := by
      intro i hi
      have h1 := hel i hi
      rw [List.getElem?_eq_getElem (by omega), z4] at h1
      obtain ⟨cs, h2, h3⟩ := Option.bind_eq_some_iff.1 h1
      obtain ⟨x, rfl, hx⟩ := open_mact h3
      unfold World.cells? at h2
      rw [if_pos (Nat.zero_le _)] at h2
      have h4 : ∀ j, j < 4 → W.cell? (a.add (i * 4 + j)) = x.cells[j]? := fun j hj => by
        have := mapM_some_get h2 j j (by simp [hj])
        rwa [addr_add] at this
      refine ⟨x, ?_, h4, hx⟩
      have h5 : W.cell? (a.add (i * 4 + 0)) = Option.some (.int .i64 x.act) := h4 0 (by omega)
      have h6 := cell_block h5
      rwa [add_block] at h6
    refine ⟨Option.some a, cap, (List.range len).attach.map fun i => (key i.1 (List.mem_range.1 i.2)).choose, by simp, fun i hi => ?_⟩
    have hi' : i < len := by simpa using hi
    have hs := (key i hi').choose_spec
    refine ⟨a, rfl, hs.1, ?_⟩
    simp only [List.getElem_map, List.getElem_attach, List.getElem_range]
    exact hs.2

/-- What Great tells. -/
def GreatM (xs : List MAct) (w : World) (e : Ending) (w' : World) : Prop := ∃ b, e = .returned (.bool b) ∧ Below w.heap.size w w' ∧ (b = false → xs.length ≤ 200 ∧ ∀ x ∈ xs, x.key.size ≤ 20000 ∧ x.val.size ≤ 20000)
set_option maxRecDepth 100000 in
set_option maxHeartbeats 4000000 in
theorem greatM_any (p : Option Addr) (cap : Nat) (xs : List MAct) (w : World) (hxs : MActs w p xs) :
    Calls Try.prog 6 #[.slice p xs.length cap] w fun e w' => GreatM xs w e w' := by
  have HX := Lib.hid hxs
  clear hxs
  go_enter Try.func6, Try.ntmps6
  go_wp2_with fail
  go_loopw [3, 4] (fun nv iv wr => ∃ k s : Nat, k ≤ xs.length ∧ k ≤ 201 ∧ iv = .int .i64 (k : Nat) ∧ nv = .int .i64 (s : Nat) ∧ Hid (Below w.heap.size w wr ∧ s ≤ k * 60000 ∧ (s ≤ 20000 → ∀ x ∈ xs.take k, x.key.size ≤ 20000 ∧ x.val.size ≤ 20000))) (fun _ iv _ => 201 - (intOf iv).toNat)
  case atStart => exact ⟨0, 0, Nat.zero_le _, Nat.zero_le _, rfl, rfl, Lib.hid ⟨Below.refl _ w, Nat.zero_le _, fun _ x hx => nomatch hx⟩⟩
  case round =>
    obtain ⟨k, s, hk, hk81, rfl, rfl, HB⟩ := hrel
    have hs60 := HB.out.2.1
    by_cases hlt : k < xs.length
    · have i1 : (k : Int) < (xs.length : Int) := by omega
      have i2 : (0 : Int) ≤ (k : Int) := by omega
      by_cases hle : k ≤ 200
      · have i3 : (k : Int) ≤ 200 := by omega
        obtain ⟨A, rfl, c0, c1, c2, c3, -, hkz, hvz, -⟩ := HX.out.at HB.out.1 hlt
        unfold maxLen at hkz hvz
        have HT := Lib.hid (List.take_succ_eq_append_getElem hlt)
        generalize xs[k] = x at *
        go_wp2_with fail
        go_quiet (fail)
        go_wp2_with fail
        go_roundw
        case rel =>
          refine ⟨k + 1, s + min x.key.size 20001 + min x.val.size 20001, by omega, by omega, by go_num, by congr 1; omega, Lib.hid ⟨below_dN HB.out.1 _, by omega, fun hs y hy => ?_⟩⟩
          rw [HT.out] at hy
          rcases List.mem_append.1 hy with hy | hy
          · exact HB.out.2.2 (by omega) y hy
          · obtain rfl := List.mem_singleton.1 hy
            omega
        case measure => simp [intOf]; omega
      · obtain rfl : k = 201 := by omega
        have i4 : decide ((xs.length : Int) ≤ 200) = false := decide_eq_false (by omega)
        have i5 : decide ((200 : Int) < (xs.length : Int)) = true := decide_eq_true (by omega)
        have hb := HB.out.1
        go_wp2
        go_ret
        exact ⟨true, rfl, hb, fun h => Bool.noConfusion h⟩
    · obtain rfl : k = xs.length := by omega
      have i1 : ¬ (xs.length : Int) < (xs.length : Int) := by omega
      have hb := HB.out.1
      by_cases h80 : 200 < xs.length
      · have i5 : decide ((200 : Int) < (xs.length : Int)) = true := decide_eq_true (by omega)
        go_wp2
        go_ret
        exact ⟨true, rfl, hb, fun h => Bool.noConfusion h⟩
      · have i5 : decide ((200 : Int) < (xs.length : Int)) = false := decide_eq_false (by omega)
        by_cases hs : 20000 < s
        · have i6 : decide ((20000 : Int) < (s : Int)) = true := decide_eq_true (by omega)
          go_wp2
          go_ret
          exact ⟨true, rfl, hb, fun h => Bool.noConfusion h⟩
        · have i6 : decide ((20000 : Int) < (s : Int)) = false := decide_eq_false (by omega)
          have HF := HB.out.2.2 (by omega)
          rw [List.take_length] at HF
          go_wp2
          go_ret
          exact ⟨false, rfl, hb, fun _ => ⟨by omega, HF⟩⟩
end Go.Proofs.Ythioogncbhkaoaa
