/-
  Values as they are handed in, opened; rows of parts that are read only; pieces of rows. Conditions: those in the theorems.
-/
import Derived.Test.YtnkdhmoocomjfaaGreatDoorCkKp
import Derived.Test.YtnkdhmoocomjfaaGreatDoorVaMath
set_option linter.unusedSimpArgs false
set_option linter.unusedVariables false
namespace Go.Proofs.YtnkdhmoocomjfaaGreatDoor
open Go.ChangeShapes Go.WideShapes Go.ChangeAt Go.RowKit
def kNd : RowKind Vl.Nd := ⟨71, 54, 4, 40, #[.int .u8 0, .int .i64 0, .string ⟨#[]⟩, .int .i64 0], fun x _ => [.int .u8 (x.kind : Nat), .int .i64 x.int, .string x.text, .int .i64 x.kids], fun _ _ _ _ => True, fun _ => False⟩
theorem okNd : kNd.Ok := by
  refine ⟨by kernel_rfl, Tryz.underlying54, by decide, by decide, rfl, fun _ _ => rfl, fun _ _ x t _ u hu => ?_, fun _ _ _ _ _ _ _ _ _ => trivial, fun h => h⟩
  simp [kNd] at hu; rcases hu with rfl | rfl | rfl | rfl <;> rfl
def NdIn (x : Vl.Nd) : Prop := x.kind < 256 ∧ I64 x.int ∧ Sm_ x.text ∧ I64 x.kids
def RoNd := RoIs kNd NdIn fun _ _ _ => True
section
variable {W W' : World} {v : Value}
theorem RoNd.below {L} (h : RoNd W v L) (hb : Below W.heap.size W W') : RoNd W' v L := RoIs.below (fun _ _ _ => trivial) h hb
theorem RoNd.kp {L} (h : RoNd W v L) (hb : Kp W W') : RoNd W' v L := RoIs.kp (fun _ _ _ => trivial) h hb
theorem nd_at {L : List Vl.Nd} {i : Nat} (h : RoNd W v L) (hi : i < L.length) : ∃ A c, v = .slice (some A) L.length c ∧ A.block < W.heap.size ∧ W.cell? (A.add (i * 4)) = some (.int .u8 (L[i].kind : Nat)) ∧ W.cell? ⟨(A.add (i * 4)).block, (A.add (i * 4)).off + 1, none⟩ = some (.int .i64 L[i].int) ∧
    W.cell? ⟨(A.add (i * 4)).block, (A.add (i * 4)).off + 2, none⟩ = some (.string L[i].text) ∧ W.cell? ⟨(A.add (i * 4)).block, (A.add (i * 4)).off + 3, none⟩ = some (.int .i64 L[i].kids) ∧ NdIn L[i] := by
  obtain ⟨A, c, t, e, hA, -, hin, c0, c1⟩ := RoIs.at h (by decide) (fun _ _ => rfl) hi
  exact ⟨A, c, e, hA, c0 _ rfl, c1 1 _ (by decide) rfl, c1 2 _ (by decide) rfl, c1 3 _ (by decide) rfl, hin⟩
variable {H : Type} {enc : TypeId × Value → H} {fuel : Nat} {cs : List Value} {x : DataW H × List MemPlace}
set_option maxRecDepth 100000 in
theorem open_nd (h : DataW.trod enc Tryz.prog W 0 (fun _ => true) true fuel 71 cs = some x) : ∃ v t, cs = kNd.cells v t ∧ NdIn v ∧ True := by
  obtain ⟨zs, zi, zu, zb, z1, z2, z3, z4⟩ := cell1
  obtain ⟨xs, m, -, -, hl, hlen, hf⟩ := DataW.trod_struct Tryz.underlying71 h
  rw [show Tryz.prog.cellsOf 71 = 4 by kernel_rfl] at hl
  obtain ⟨c0, c1, c2, c3, rfl⟩ : ∃ c0 c1 c2 c3, cs = [c0, c1, c2, c3] := by
    match cs, hl with
    | [c0, c1, c2, c3], _ => exact ⟨_, _, _, _, rfl⟩
  obtain ⟨y0, y1, y2, y3, rfl⟩ : ∃ c0 c1 c2 c3, xs = [c0, c1, c2, c3] := by
    match xs, hlen with
    | [c0, c1, c2, c3], _ => exact ⟨_, _, _, _, rfl⟩
  have f0 := hf 0 _ rfl
  have f1 := hf 1 _ rfl
  have f2 := hf 2 _ rfl
  have f3 := hf 3 _ rfl
  have zq : Tryz.prog.cellsOf 2 = 1 := by kernel_rfl
  simp only [zs, zi, zu, zq, List.drop, List.take, List.getElem?_cons_zero, List.getElem?_cons_succ] at f0 f1 f2 f3
  obtain ⟨n0, e0, -, w0⟩ := DataW.trod_int Tryz.underlying5 f0
  obtain ⟨n1, e1, -, w1⟩ := DataW.trod_int Tryz.underlying2 f1
  obtain ⟨s2, e2, -, w2⟩ := DataW.trod_string Tryz.underlying9 f2
  obtain ⟨n3, e3, -, w3⟩ := DataW.trod_int Tryz.underlying3 f3
  obtain rfl := List.head_eq_of_cons_eq e0
  obtain rfl := List.head_eq_of_cons_eq e1
  obtain rfl := List.head_eq_of_cons_eq e2
  obtain rfl := List.head_eq_of_cons_eq e3
  have h0 := u8_of w0
  refine ⟨⟨n0.toNat, n1, s2, n3⟩, .bool false, ?_, ⟨by show n0.toNat < 256; omega, i64_of w1, w2, i64_of w3⟩, trivial⟩
  show _ = [Value.int .u8 ((n0.toNat : Nat) : Int), .int .i64 n1, .string s2, .int .i64 n3]
  rw [Int.toNat_of_nonneg h0.1]
end
section
variable {α : Type} {K : RowKind α} {inn : α → Prop} {sub : World → Value → α → Prop} {W : World} {L : List α} {A : Addr} {c n : Nat}
theorem add_add (A : Addr) (i j : Nat) : (A.add i).add j = A.add (i + j) := tadd A i j
/-- What stands from some place on. -/
theorem RoIs.drop (h : RoIs K inn sub W (.slice (some A) n c) L) {i : Nat} (hi : i ≤ n) : RoIs K inn sub W (.slice (some (A.add (i * K.k))) (n - i) (c - i)) (L.drop i) := by
  obtain ⟨p, c', e, h2, h3, h4⟩ := h
  obtain ⟨rfl, rfl, rfl⟩ := Value.slice.inj e
  refine ⟨_, _, by rw [List.length_drop], by rw [List.length_drop]; omega, by omega, fun j hj => ?_⟩
  rw [List.length_drop] at hj
  obtain ⟨A', t, e2, a2, a3, a4, a5⟩ := h4 (i + j) (by omega)
  cases e2
  refine ⟨_, t, rfl, by rw [tadd_block]; exact a2, by rw [List.getElem_drop]; exact a3, by rw [List.getElem_drop]; exact a4, fun q hq => ?_⟩
  rw [List.getElem_drop, add_add, ← a5 q hq]
  congr 2
  rw [Nat.add_mul]; omega
/-- What stands ahead of some place. -/
theorem RoIs.take {p : Option Addr} (h : RoIs K inn sub W (.slice p n c) L) {i : Nat} (hi : i ≤ n) : RoIs K inn sub W (.slice p i c) (L.take i) := by
  obtain ⟨p', c', e, h2, h3, h4⟩ := h
  obtain ⟨rfl, rfl, rfl⟩ := Value.slice.inj e
  have hl : (L.take i).length = i := by rw [List.length_take]; omega
  refine ⟨_, _, by rw [hl], by omega, h3, fun j hj => ?_⟩
  rw [hl] at hj
  obtain ⟨A', t, e2, a2, a3, a4, a5⟩ := h4 j (by omega)
  exact ⟨A', t, e2, a2, by rw [List.getElem_take]; exact a3, by rw [List.getElem_take]; exact a4, fun q hq => by rw [List.getElem_take]; exact a5 q hq⟩
end
end Go.Proofs.YtnkdhmoocomjfaaGreatDoor
