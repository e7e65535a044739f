/-
  A list of acts as it is handed in, opened: each act's six cells, and the numbers behind its last. Conditions: those in the theorems.
-/
import Derived.Test.YteolagmlghalgaaDiskWalkN
import Derived.ChangeSlices
namespace Go.Proofs.Yteolagmlghalgaa
open Go.ChangeShapes Go.WideShapes Go.ChangeAt Go.RowKit

structure ActV where
  act : Int
  name : ByteArray
  to : ByteArray
  data : ByteArray
  n : Int
  kp : Option Addr
  kcap : Nat
  ks : List Int
def ActV.cells (v : ActV) : List Value := [.int .i64 v.act, .string v.name, .string v.to, .string v.data, .int .i64 v.n, .slice v.kp v.ks.length v.kcap]
/-- What is so of each act that is handed in. -/
structure ActV.Ok (W : World) (v : ActV) : Prop where
  act : -9223372036854775808 ≤ v.act ∧ v.act ≤ 9223372036854775807
  name : v.name.size ≤ maxLen
  to : v.to.size ≤ maxLen
  data : v.data.size ≤ maxLen
  n : -9223372036854775808 ≤ v.n ∧ v.n ≤ 9223372036854775807
  keep : v.ks.length ≤ v.kcap ∧ v.kcap ≤ maxLen
  ints : Ints W (W.heap.size ≤ ·) v.kp v.ks
def Acts (W : World) (p : Option Addr) (xs : List ActV) : Prop := ∀ i (h : i < xs.length), ∃ A, p = some A ∧ A.block < W.heap.size ∧ (∀ j, j < 6 → W.cell? (A.add (i * 6 + j)) = xs[i].cells[j]?) ∧ xs[i].Ok W

theorem one_act : Try.prog.cellsOf 44 = 6 ∧ Try.prog.cellsOf 3 = 1 ∧ Try.prog.cellsOf 9 = 1 ∧ Try.prog.cellsOf 29 = 1 := ⟨by kernel_rfl, by kernel_rfl, by kernel_rfl, by kernel_rfl⟩

set_option maxRecDepth 100000 in
theorem open_act {H : Type} {enc : TypeId × Value → H} {W : World} {fuel : Nat} {cs : List Value} {x : DataW H × List MemPlace} (h : DataW.trod enc Try.prog W 0 (fun _ => true) true fuel 44 cs = some x) :
    ∃ v : ActV, cs = v.cells ∧ v.Ok W := by
  obtain ⟨z6, z0, z1, z2⟩ := one_act
  obtain ⟨xs, m, -, -, hl, hlen, hf⟩ := DataW.trod_struct Try.underlying44 h
  rw [z6] at hl
  obtain ⟨c0, c1, c2, c3, c4, c5, rfl⟩ : ∃ c0 c1 c2 c3 c4 c5, cs = [c0, c1, c2, c3, c4, c5] := by
    match cs, hl with
    | [c0, c1, c2, c3, c4, c5], _ => exact ⟨_, _, _, _, _, _, rfl⟩
  obtain ⟨y0, y1, y2, y3, y4, y5, rfl⟩ : ∃ c0 c1 c2 c3 c4 c5, xs = [c0, c1, c2, c3, c4, c5] := by
    match xs, hlen with
    | [c0, c1, c2, c3, c4, c5], _ => exact ⟨_, _, _, _, _, _, rfl⟩
  have f0 := hf 0 _ rfl
  have f1 := hf 1 _ rfl
  have f2 := hf 2 _ rfl
  have f3 := hf 3 _ rfl
  have f4 := hf 4 _ rfl
  have f5 := hf 5 _ rfl
  simp only [z0, z1, z2, List.drop, List.take, List.getElem?_cons_zero, List.getElem?_cons_succ] at f0 f1 f2 f3 f4 f5
  obtain ⟨n0, e0, -, w0⟩ := DataW.trod_int Try.underlying3 f0
  obtain ⟨s1, e1, -, w1⟩ := DataW.trod_string Try.underlying9 f1
  obtain ⟨s2, e2, -, w2⟩ := DataW.trod_string Try.underlying9 f2
  obtain ⟨s3, e3, -, w3⟩ := DataW.trod_string Try.underlying9 f3
  obtain ⟨n4, e4, -, w4⟩ := DataW.trod_int Try.underlying3 f4
  have b0 : -9223372036854775808 ≤ n0 ∧ n0 ≤ 9223372036854775807 := by simpa [Lit.wf, IntKind.min, IntKind.max, IntKind.signed, IntKind.bits] using w0
  have b4 : -9223372036854775808 ≤ n4 ∧ n4 ≤ 9223372036854775807 := by simpa [Lit.wf, IntKind.min, IntKind.max, IntKind.signed, IntKind.bits] using w4
  obtain rfl := List.head_eq_of_cons_eq e0
  obtain rfl := List.head_eq_of_cons_eq e1
  obtain rfl := List.head_eq_of_cons_eq e2
  obtain rfl := List.head_eq_of_cons_eq e3
  obtain rfl := List.head_eq_of_cons_eq e4
  rcases open_ints Try.underlying29 Try.underlying3 z0 f5 with ⟨e5, -⟩ | ⟨a, len, cap, zs, e5, -, hlc, hc, hz, -, hcell, -⟩
  · obtain rfl := List.head_eq_of_cons_eq e5
    exact ⟨⟨n0, s1, s2, s3, n4, none, 0, []⟩, rfl, ⟨b0, w1, w2, w3, b4, ⟨Nat.le_refl _, Nat.zero_le _⟩, fun i hi => nomatch hi⟩⟩
  · obtain rfl := List.head_eq_of_cons_eq e5
    rw [if_pos rfl] at hz
    have e : (zs.take len).length = len := by rw [List.length_take]; omega
    refine ⟨⟨n0, s1, s2, s3, n4, some a, cap, zs.take len⟩, by unfold ActV.cells; simp only [e], ⟨b0, w1, w2, w3, b4, ⟨by simp only [e]; exact hlc, hc⟩, fun i hi => ?_⟩⟩
    simp only [e] at hi
    have hiz : i < zs.length := by omega
    have h1 := hcell i hiz
    have h2 : (a.add i).block < W.heap.size := World.block_lt_of_cell? W _ h1
    rw [add_blk] at h2
    refine ⟨a, rfl, by omega, h2, ?_⟩
    have hg : zs.getD i 0 = zs[i] := by rw [List.getD_eq_getElem?_getD, List.getElem?_eq_getElem hiz]; rfl
    rw [h1, hg]
    simp

set_option maxRecDepth 100000 in
/-- A list of acts as it is handed in. -/
theorem open_acts {H : Type} {enc : TypeId × Value → H} {W : World} {base : Nat} {v : Value} {d : DataW H} {ps : List MemPlace} (hval : Value.okWide Try.prog W .any base 40 v) (h : DataW.Trod enc Try.prog W 0 (fun _ => true) true 40 v d ps) :
    ∃ (p : Option Addr) (cap : Nat) (xs : List ActV), v = .slice p xs.length cap ∧ Acts W p xs := by
  obtain ⟨a0, len, cap, rfl⟩ := okWide_slice Try.underlying40 hval
  obtain ⟨fuel, hf⟩ := h
  obtain ⟨z6, -⟩ := one_act
  rcases DataW.trod_slice Try.underlying40 hf with ⟨e, -⟩ | ⟨a, len', cap', elems, rest, m, -, e, -, -, -, -, hlen, hel, -, -⟩
  · obtain h0 := List.head_eq_of_cons_eq e
    obtain ⟨rfl, rfl, rfl⟩ := Value.slice.inj h0
    exact ⟨none, 0, [], rfl, fun i hi => nomatch hi⟩
  · obtain h0 := List.head_eq_of_cons_eq e
    obtain ⟨rfl, rfl, rfl⟩ := Value.slice.inj h0
    have key : ∀ i, i < len → ∃ x : ActV, a.block < W.heap.size ∧ (∀ j, j < 6 → W.cell? (a.add (i * 6 + j)) = x.cells[j]?) ∧ x.Ok W := by
      intro i hi
      have h1 := hel i hi
      rw [List.getElem?_eq_getElem (by omega), z6] at h1
      obtain ⟨cs, h2, h3⟩ := Option.bind_eq_some_iff.1 h1
      obtain ⟨x, rfl, hx⟩ := open_act h3
      unfold World.cells? at h2
      rw [if_pos (Nat.zero_le _)] at h2
      have h4 : ∀ j, j < 6 → W.cell? (a.add (i * 6 + j)) = x.cells[j]? := fun j hj => by
        have := mapM_some_get h2 j j (by simp [hj])
        rwa [add_add] at this
      refine ⟨x, ?_, h4, hx⟩
      have h5 : W.cell? (a.add (i * 6 + 0)) = some (.int .i64 x.act) := h4 0 (by omega)
      have h6 := World.block_lt_of_cell? W _ h5
      rwa [add_blk] at h6
    refine ⟨some a, cap, (List.range len).attach.map fun i => (key i.1 (List.mem_range.1 i.2)).choose, by simp, fun i hi => ?_⟩
    have hi' : i < len := by simpa using hi
    have hs := (key i hi').choose_spec
    refine ⟨a, rfl, hs.1, ?_⟩
    simp only [List.getElem_map, List.getElem_attach, List.getElem_range]
    exact hs.2
end Go.Proofs.Yteolagmlghalgaa
