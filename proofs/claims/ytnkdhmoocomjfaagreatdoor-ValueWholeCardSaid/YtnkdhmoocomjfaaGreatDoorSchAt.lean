/-
  Schemas as they are handed in, opened; rows that are read only, wherever they lie. Conditions: those in the theorems.
-/
import Derived.Test.YtnkdhmoocomjfaaGreatDoorIdlBase
import Derived.ChangeSlices
import Derived.Lib.SmallJoins
set_option linter.unusedSimpArgs false
set_option linter.unusedVariables false
namespace Go.Proofs.YtnkdhmoocomjfaaGreatDoor
open Go.ChangeShapes Go.WideShapes Go.ChangeAt Go.RowKit
theorem i64_of {n : Int} (w : (Lit.int .i64 n).wf = true) : I64 n := by
  unfold I64
  simpa [Lit.wf, IntKind.min, IntKind.max, IntKind.signed, IntKind.bits] using w
theorem u8_of {n : Int} (w : (Lit.int .u8 n).wf = true) : 0 ≤ n ∧ n ≤ 255 := by
  simpa [Lit.wf, IntKind.min, IntKind.max, IntKind.signed, IntKind.bits] using w
theorem mapM_get {α β : Type} {f : α → Option β} {l : List α} {r : List β} (h : l.mapM f = some r) (j : Nat) (x : α) (hj : l[j]? = some x) : f x = r[j]? := by
  induction l generalizing r j with
  | nil => cases hj
  | cons a l ih =>
    rw [List.mapM_cons] at h
    simp only [bind, Option.bind_eq_some_iff] at h
    obtain ⟨b, hb, rs, hrs, e⟩ := h
    simp only [pure, Option.some.injEq] at e
    subst e
    cases j with
    | zero => simp at hj; subst hj; simpa using hb
    | succ j => simpa using ih hrs j (by simpa using hj)
/-- A row of which only is known how it reads: element by element, each with its part. -/
def RoIs {α : Type} (K : RowKind α) (inn : α → Prop) (sub : World → Value → α → Prop) (W : World) (v : Value) (L : List α) : Prop :=
  ∃ p c, v = .slice p L.length c ∧ L.length ≤ c ∧ c ≤ maxLen ∧ ∀ i (hi : i < L.length), ∃ A t, p = some A ∧ A.block < W.heap.size ∧ sub W t L[i] ∧ inn L[i] ∧ ∀ j, j < K.k → W.cell? (A.add (i * K.k + j)) = (K.cells L[i] t)[j]?
section
variable {α : Type} {K : RowKind α} {inn : α → Prop} {sub : World → Value → α → Prop} {W W' : World} {v : Value} {L : List α}
theorem RoIs.shape (h : RoIs K inn sub W v L) : ∃ p c, v = .slice p L.length c ∧ L.length ≤ c ∧ c ≤ maxLen := by
  obtain ⟨p, c, h1, h2, h3, -⟩ := h; exact ⟨p, c, h1, h2, h3⟩
theorem RoIs.nil (p : Option Addr) {c : Nat} (hc : c ≤ maxLen) : RoIs K inn sub W (.slice p 0 c) [] := ⟨p, c, rfl, Nat.zero_le _, hc, fun i hi => nomatch hi⟩
theorem RoIs.below (hs : ∀ t x, sub W t x → sub W' t x) (h : RoIs K inn sub W v L) (hb : Below W.heap.size W W') : RoIs K inn sub W' v L := by
  obtain ⟨p, c, h1, h2, h3, h4⟩ := h
  refine ⟨p, c, h1, h2, h3, fun i hi => ?_⟩
  obtain ⟨A, t, a1, a2, a3, a4, a5⟩ := h4 i hi
  exact ⟨A, t, a1, Nat.lt_of_lt_of_le a2 hb.size, hs _ _ a3, a4, fun j hj => (hb.cell (by rw [tadd_block]; exact a2)).trans (a5 j hj)⟩
theorem RoIs.ok (h : RoIs K inn sub W v L) : ∀ x ∈ L, inn x := fun x hx => by
  obtain ⟨p, c, -, -, -, h4⟩ := h
  obtain ⟨i, hi, rfl⟩ := List.getElem_of_mem hx
  obtain ⟨A, t, -, -, -, a4, -⟩ := h4 i hi; exact a4
/-- An element, as a walk reads it. -/
theorem RoIs.at (h : RoIs K inn sub W v L) (hk : 0 < K.k) (hlen : ∀ x t, (K.cells x t).length = K.k) {i : Nat} (hi : i < L.length) :
    ∃ A c t, v = .slice (some A) L.length c ∧ A.block < W.heap.size ∧ sub W t L[i] ∧ inn L[i] ∧ (∀ u, (K.cells L[i] t)[0]? = some u → W.cell? (A.add (i * K.k)) = some u) ∧ ∀ j u, 0 < j → (K.cells L[i] t)[j]? = some u → W.cell? ⟨(A.add (i * K.k)).block, (A.add (i * K.k)).off + j, none⟩ = some u := by
  obtain ⟨p, c, h1, h2, h3, h4⟩ := h
  obtain ⟨A, t, rfl, a2, a3, a4, a5⟩ := h4 i hi
  refine ⟨A, c, t, h1, a2, a3, a4, fun u hu => by rw [← hu]; exact a5 0 hk, fun j u hj hu => ?_⟩
  have hjk : j < K.k := by have := (List.getElem?_eq_some_iff.1 hu).1; rw [hlen] at this; exact this
  have := a5 j hjk
  rw [hu, ← tadd] at this
  rw [← this]
  have e : ∀ (B : Addr), B.add j = ⟨B.block, B.off + j, none⟩ := fun B => by unfold Addr.add; rw [if_neg (by omega)]
  rw [e]
/-- A row that a call has made reads so too. -/
theorem RowIs.ro (ok : K.Ok) {base : Nat} (hs : ∀ t x, K.sub W base t x → sub W t x) (hin : ∀ x ∈ L, inn x) (h : RowIs K W base v L) : RoIs K inn sub W v L := by
  obtain ⟨p, c, rfl, h2, h3⟩ := h.shape
  refine ⟨p, c, rfl, h2, h3, fun i hi => ?_⟩
  obtain ⟨g, c', t, e, -, hg, ht, hc⟩ := h.at ok hi
  obtain ⟨rfl, -, rfl⟩ := Value.slice.inj e
  refine ⟨⟨g, 0, none⟩, t, rfl, hg, hs _ _ ht, hin _ (List.getElem_mem hi), fun j hj => ?_⟩
  have hu : (K.cells L[i] t)[j]? = some ((K.cells L[i] t)[j]'(by rw [ok.len]; exact hj)) := List.getElem?_eq_getElem _
  have hadd : (⟨g, 0, none⟩ : Addr).add (i * K.k + j) = ⟨g, i * K.k + j, none⟩ := by unfold Addr.add; split <;> simp_all
  rw [hadd, hu]
  exact hc j _ hu
variable {H : Type} {enc : TypeId × Value → H}
/-- A row that is handed in. -/
theorem open_rows (hsl : Tryz.prog.underlying K.sl = some (.slice K.ty)) (hk : Tryz.prog.cellsOf K.ty = K.k) (hk0 : 0 < K.k) (hlen : ∀ x t, (K.cells x t).length = K.k) (hel : ∀ fuel cs y, DataW.trod enc Tryz.prog W 0 (fun _ => true) true fuel K.ty cs = some y → ∃ x t, cs = K.cells x t ∧ inn x ∧ sub W t x) {fuel : Nat} {y : DataW H × List MemPlace} (hf : DataW.trod enc Tryz.prog W 0 (fun _ => true) true fuel K.sl [v] = some y) :
    ∃ L, RoIs K inn sub W v L := by
  rcases DataW.trod_slice hsl hf with ⟨e, -⟩ | ⟨a, len, cap, elems, rest, m, -, e, -, -, hlc, hcm, hln, hes, -, -⟩
  · obtain h0 := List.head_eq_of_cons_eq e
    subst h0
    exact ⟨[], RoIs.nil none (Nat.zero_le _)⟩
  · obtain h0 := List.head_eq_of_cons_eq e
    have key : ∀ i, i < len → ∃ x t, a.block < W.heap.size ∧ sub W t x ∧ inn x ∧ ∀ j, j < K.k → W.cell? (a.add (i * K.k + j)) = (K.cells x t)[j]? := by
      intro i hi
      have h1 := hes i hi
      rw [List.getElem?_eq_getElem (by omega), hk] at h1
      obtain ⟨cs, h2, h3⟩ := Option.bind_eq_some_iff.1 h1
      obtain ⟨x, t, rfl, hx, ht⟩ := hel _ _ _ h3
      unfold World.cells? at h2
      rw [if_pos (Nat.zero_le _)] at h2
      have h4 : ∀ j, j < K.k → W.cell? (a.add (i * K.k + j)) = (K.cells x t)[j]? := fun j hj => by
        have := mapM_get h2 j j (by simp [hj])
        rwa [tadd] at this
      refine ⟨x, t, ?_, ht, hx, h4⟩
      have h5 := h4 0 hk0
      rw [List.getElem?_eq_getElem (by rw [hlen]; exact hk0)] at h5
      have h6 := tcell_block h5
      rwa [tadd_block] at h6
    have hn : ∀ n, n ≤ len → ∃ L : List α, L.length = n ∧ ∀ i (h : i < L.length), ∃ t, a.block < W.heap.size ∧ sub W t L[i] ∧ inn L[i] ∧ ∀ j, j < K.k → W.cell? (a.add (i * K.k + j)) = (K.cells L[i] t)[j]? := by
      intro n
      induction n with
      | zero => exact fun _ => ⟨[], rfl, fun i hi => nomatch hi⟩
      | succ n ih =>
        intro hle
        obtain ⟨xs, hl, hx⟩ := ih (by omega)
        obtain ⟨x, t, h1⟩ := key n (by omega)
        refine ⟨xs ++ [x], by simp [hl], fun i hi => ?_⟩
        by_cases c : i < xs.length
        · rw [List.getElem_append_left c]; exact hx i c
        · have e : i = n := by simp at hi; omega
          subst e
          rw [List.getElem_append_right (by omega)]
          exact ⟨t, by simpa [hl] using h1⟩
    obtain ⟨xs, hl, hx⟩ := hn len (Nat.le_refl _)
    subst hl
    exact ⟨xs, some a, cap, h0, hlc, hcm, fun i hi => by obtain ⟨t, b1, b2, b3, b4⟩ := hx i hi; exact ⟨a, t, rfl, b1, b2, b3, b4⟩⟩
end
/-! ### a schema's parts -/
def Sm_ (s : ByteArray) : Prop := s.size ≤ maxLen
def SoIn (x : Ip.So) : Prop := x.kind < 256 ∧ Sm_ x.name
def MthIn (x : Ip.Mth) : Prop := Sm_ x.name ∧ Sm_ x.arg ∧ x.result < 256 ∧ Sm_ x.effect ∧ Sm_ x.undo
def StpIn (x : Ip.Stp) : Prop := Sm_ x.service ∧ Sm_ x.method ∧ I64 x.at_
def FldIn (x : Ip.Fld) : Prop := Sm_ x.name
def RcdIn (x : Ip.Rcd) : Prop := Sm_ x.name
def SrvIn (x : Ip.Srv) : Prop := Sm_ x.name
def SgaIn (x : Ip.Sga) : Prop := Sm_ x.name ∧ Sm_ x.arg
def RoSo := RoIs kSo SoIn fun _ _ _ => True
def RoMth := RoIs kMth MthIn fun _ _ _ => True
def RoStp := RoIs kStp StpIn fun _ _ _ => True
def RoFld := RoIs kFld FldIn fun W t x => RoSo W t x.type
def RoRcd := RoIs kRcd RcdIn fun W t x => RoFld W t x.fields
def RoSrv := RoIs kSrv SrvIn fun W t x => RoMth W t x.methods
def RoSga := RoIs kSga SgaIn fun W t x => RoStp W t x.steps
/-- A schema that is read only. -/
def RoSch (W : World) (v : Value) (s : Ip.Sch) : Prop := ∃ vr vs vg, v = .agg #[.string s.name, vr, vs, vg] ∧ Sm_ s.name ∧ RoRcd W vr s.records ∧ RoSrv W vs s.services ∧ RoSga W vg s.sagas
section
variable {W W' : World} {v : Value}
theorem RoSo.below {L} (h : RoSo W v L) (hb : Below W.heap.size W W') : RoSo W' v L := RoIs.below (fun _ _ _ => trivial) h hb
theorem RoMth.below {L} (h : RoMth W v L) (hb : Below W.heap.size W W') : RoMth W' v L := RoIs.below (fun _ _ _ => trivial) h hb
theorem RoStp.below {L} (h : RoStp W v L) (hb : Below W.heap.size W W') : RoStp W' v L := RoIs.below (fun _ _ _ => trivial) h hb
theorem RoFld.below {L} (h : RoFld W v L) (hb : Below W.heap.size W W') : RoFld W' v L := RoIs.below (fun _ _ h => RoSo.below h hb) h hb
theorem RoRcd.below {L} (h : RoRcd W v L) (hb : Below W.heap.size W W') : RoRcd W' v L := RoIs.below (fun _ _ h => RoFld.below h hb) h hb
theorem RoSrv.below {L} (h : RoSrv W v L) (hb : Below W.heap.size W W') : RoSrv W' v L := RoIs.below (fun _ _ h => RoMth.below h hb) h hb
theorem RoSga.below {L} (h : RoSga W v L) (hb : Below W.heap.size W W') : RoSga W' v L := RoIs.below (fun _ _ h => RoStp.below h hb) h hb
theorem RoSch.below {s} (h : RoSch W v s) (hb : Below W.heap.size W W') : RoSch W' v s := by
  obtain ⟨vr, vs, vg, e, h0, h1, h2, h3⟩ := h
  exact ⟨vr, vs, vg, e, h0, h1.below hb, h2.below hb, h3.below hb⟩
variable {H : Type} {enc : TypeId × Value → H} {fuel : Nat} {cs : List Value} {x : DataW H × List MemPlace}
theorem cell1 : Tryz.prog.cellsOf 9 = 1 ∧ Tryz.prog.cellsOf 3 = 1 ∧ Tryz.prog.cellsOf 5 = 1 ∧ Tryz.prog.cellsOf 4 = 1 ∧ Tryz.prog.cellsOf 37 = 1 ∧ Tryz.prog.cellsOf 32 = 1 ∧ Tryz.prog.cellsOf 96 = 1 ∧ Tryz.prog.cellsOf 42 = 1 := ⟨by kernel_rfl, by kernel_rfl, by kernel_rfl, by kernel_rfl, by kernel_rfl, by kernel_rfl, by kernel_rfl, by kernel_rfl⟩
set_option maxRecDepth 100000 in
theorem open_so (h : DataW.trod enc Tryz.prog W 0 (fun _ => true) true fuel 41 cs = some x) : ∃ v t, cs = kSo.cells v t ∧ SoIn v ∧ True := by
  obtain ⟨zs, zi, zu, zb, z1, z2, z3, z4⟩ := cell1
  obtain ⟨xs, m, -, -, hl, hlen, hf⟩ := DataW.trod_struct Tryz.underlying41 h
  rw [show Tryz.prog.cellsOf 41 = 2 by kernel_rfl] at hl
  obtain ⟨c0, c1, rfl⟩ : ∃ c0 c1, cs = [c0, c1] := by
    match cs, hl with
    | [c0, c1], _ => exact ⟨_, _, rfl⟩
  obtain ⟨y0, y1, rfl⟩ : ∃ c0 c1, xs = [c0, c1] := by
    match xs, hlen with
    | [c0, c1], _ => exact ⟨_, _, rfl⟩
  have f0 := hf 0 _ rfl
  have f1 := hf 1 _ rfl
  simp only [zs, zi, zu, List.drop, List.take, List.getElem?_cons_zero, List.getElem?_cons_succ] at f0 f1
  obtain ⟨n0, e0, -, w0⟩ := DataW.trod_int Tryz.underlying5 f0
  obtain ⟨s1, e1, -, w1⟩ := DataW.trod_string Tryz.underlying9 f1
  obtain rfl := List.head_eq_of_cons_eq e0
  obtain rfl := List.head_eq_of_cons_eq e1
  obtain ⟨h1, h2⟩ := u8_of w0
  obtain ⟨k, rfl⟩ : ∃ k : Nat, n0 = k := ⟨n0.toNat, by omega⟩
  exact ⟨⟨k, s1⟩, .bool false, rfl, ⟨by show k < 256; omega, w1⟩, trivial⟩
set_option maxRecDepth 100000 in
theorem open_mth (h : DataW.trod enc Tryz.prog W 0 (fun _ => true) true fuel 100 cs = some x) : ∃ v t, cs = kMth.cells v t ∧ MthIn v ∧ True := by
  obtain ⟨zs, zi, zu, zb, z1, z2, z3, z4⟩ := cell1
  obtain ⟨xs, m, -, -, hl, hlen, hf⟩ := DataW.trod_struct Tryz.underlying100 h
  rw [show Tryz.prog.cellsOf 100 = 5 by kernel_rfl] at hl
  obtain ⟨c0, c1, c2, c3, c4, rfl⟩ : ∃ c0 c1 c2 c3 c4, cs = [c0, c1, c2, c3, c4] := by
    match cs, hl with
    | [c0, c1, c2, c3, c4], _ => exact ⟨_, _, _, _, _, rfl⟩
  obtain ⟨y0, y1, y2, y3, y4, rfl⟩ : ∃ c0 c1 c2 c3 c4, xs = [c0, c1, c2, c3, c4] := by
    match xs, hlen with
    | [c0, c1, c2, c3, c4], _ => exact ⟨_, _, _, _, _, rfl⟩
  have f0 := hf 0 _ rfl
  have f1 := hf 1 _ rfl
  have f2 := hf 2 _ rfl
  have f3 := hf 3 _ rfl
  have f4 := hf 4 _ rfl
  simp only [zs, zi, zu, List.drop, List.take, List.getElem?_cons_zero, List.getElem?_cons_succ] at f0 f1 f2 f3 f4
  obtain ⟨s0, e0, -, w0⟩ := DataW.trod_string Tryz.underlying9 f0
  obtain ⟨s1, e1, -, w1⟩ := DataW.trod_string Tryz.underlying9 f1
  obtain ⟨n2, e2, -, w2⟩ := DataW.trod_int Tryz.underlying5 f2
  obtain ⟨s3, e3, -, w3⟩ := DataW.trod_string Tryz.underlying9 f3
  obtain ⟨s4, e4, -, w4⟩ := DataW.trod_string Tryz.underlying9 f4
  obtain rfl := List.head_eq_of_cons_eq e0
  obtain rfl := List.head_eq_of_cons_eq e1
  obtain rfl := List.head_eq_of_cons_eq e2
  obtain rfl := List.head_eq_of_cons_eq e3
  obtain rfl := List.head_eq_of_cons_eq e4
  obtain ⟨h1, h2⟩ := u8_of w2
  obtain ⟨k, rfl⟩ : ∃ k : Nat, n2 = k := ⟨n2.toNat, by omega⟩
  exact ⟨⟨s0, s1, k, s3, s4⟩, .bool false, rfl, ⟨w0, w1, by show k < 256; omega, w3, w4⟩, trivial⟩
set_option maxRecDepth 100000 in
theorem open_stp (h : DataW.trod enc Tryz.prog W 0 (fun _ => true) true fuel 48 cs = some x) : ∃ v t, cs = kStp.cells v t ∧ StpIn v ∧ True := by
  obtain ⟨zs, zi, zu, zb, z1, z2, z3, z4⟩ := cell1
  obtain ⟨xs, m, -, -, hl, hlen, hf⟩ := DataW.trod_struct Tryz.underlying48 h
  rw [show Tryz.prog.cellsOf 48 = 3 by kernel_rfl] at hl
  obtain ⟨c0, c1, c2, rfl⟩ : ∃ c0 c1 c2, cs = [c0, c1, c2] := by
    match cs, hl with
    | [c0, c1, c2], _ => exact ⟨_, _, _, rfl⟩
  obtain ⟨y0, y1, y2, rfl⟩ : ∃ c0 c1 c2, xs = [c0, c1, c2] := by
    match xs, hlen with
    | [c0, c1, c2], _ => exact ⟨_, _, _, rfl⟩
  have f0 := hf 0 _ rfl
  have f1 := hf 1 _ rfl
  have f2 := hf 2 _ rfl
  simp only [zs, zi, zu, List.drop, List.take, List.getElem?_cons_zero, List.getElem?_cons_succ] at f0 f1 f2
  obtain ⟨s0, e0, -, w0⟩ := DataW.trod_string Tryz.underlying9 f0
  obtain ⟨s1, e1, -, w1⟩ := DataW.trod_string Tryz.underlying9 f1
  obtain ⟨n2, e2, -, w2⟩ := DataW.trod_int Tryz.underlying3 f2
  obtain rfl := List.head_eq_of_cons_eq e0
  obtain rfl := List.head_eq_of_cons_eq e1
  obtain rfl := List.head_eq_of_cons_eq e2
  exact ⟨⟨s0, s1, n2⟩, .bool false, rfl, ⟨w0, w1, i64_of w2⟩, trivial⟩
set_option maxRecDepth 100000 in
theorem open_fld (h : DataW.trod enc Tryz.prog W 0 (fun _ => true) true fuel 39 cs = some x) : ∃ v t, cs = kFld.cells v t ∧ FldIn v ∧ RoSo W t v.type := by
  obtain ⟨zs, zi, zu, zb, z1, z2, z3, z4⟩ := cell1
  obtain ⟨xs, m, -, -, hl, hlen, hf⟩ := DataW.trod_struct Tryz.underlying39 h
  rw [show Tryz.prog.cellsOf 39 = 2 by kernel_rfl] at hl
  obtain ⟨c0, c1, rfl⟩ : ∃ c0 c1, cs = [c0, c1] := by
    match cs, hl with
    | [c0, c1], _ => exact ⟨_, _, rfl⟩
  obtain ⟨y0, y1, rfl⟩ : ∃ c0 c1, xs = [c0, c1] := by
    match xs, hlen with
    | [c0, c1], _ => exact ⟨_, _, rfl⟩
  have f0 := hf 0 _ rfl
  have f1 := hf 1 _ rfl
  simp only [zs, z1, List.drop, List.take, List.getElem?_cons_zero, List.getElem?_cons_succ] at f0 f1
  obtain ⟨s0, e0, -, w0⟩ := DataW.trod_string Tryz.underlying9 f0
  obtain rfl := List.head_eq_of_cons_eq e0
  obtain ⟨L, hL⟩ := open_rows (K := kSo) (inn := SoIn) (sub := fun _ _ _ => True) Tryz.underlying37 (by kernel_rfl) (by decide) (fun _ _ => rfl) (fun _ _ _ h => open_so h) f1
  exact ⟨⟨s0, L⟩, c1, rfl, w0, hL⟩
set_option maxRecDepth 100000 in
theorem open_rcd (h : DataW.trod enc Tryz.prog W 0 (fun _ => true) true fuel 34 cs = some x) : ∃ v t, cs = kRcd.cells v t ∧ RcdIn v ∧ RoFld W t v.fields := by
  obtain ⟨zs, zi, zu, zb, z1, z2, z3, z4⟩ := cell1
  obtain ⟨xs, m, -, -, hl, hlen, hf⟩ := DataW.trod_struct Tryz.underlying34 h
  rw [show Tryz.prog.cellsOf 34 = 3 by kernel_rfl] at hl
  obtain ⟨c0, c1, c2, rfl⟩ : ∃ c0 c1 c2, cs = [c0, c1, c2] := by
    match cs, hl with
    | [c0, c1, c2], _ => exact ⟨_, _, _, rfl⟩
  obtain ⟨y0, y1, y2, rfl⟩ : ∃ c0 c1 c2, xs = [c0, c1, c2] := by
    match xs, hlen with
    | [c0, c1, c2], _ => exact ⟨_, _, _, rfl⟩
  have f0 := hf 0 _ rfl
  have f1 := hf 1 _ rfl
  have f2 := hf 2 _ rfl
  simp only [zs, zb, z2, List.drop, List.take, List.getElem?_cons_zero, List.getElem?_cons_succ] at f0 f1 f2
  obtain ⟨s0, e0, -, w0⟩ := DataW.trod_string Tryz.underlying9 f0
  obtain ⟨b1, e1, -⟩ := DataW.trod_bool Tryz.underlying4 f1
  obtain rfl := List.head_eq_of_cons_eq e0
  obtain rfl := List.head_eq_of_cons_eq e1
  obtain ⟨L, hL⟩ := open_rows (K := kFld) (inn := FldIn) (sub := fun W t x => RoSo W t x.type) Tryz.underlying32 (by kernel_rfl) (by decide) (fun _ _ => rfl) (fun _ _ _ h => open_fld h) f2
  exact ⟨⟨s0, b1, L⟩, c2, rfl, w0, hL⟩
set_option maxRecDepth 100000 in
theorem open_srv (h : DataW.trod enc Tryz.prog W 0 (fun _ => true) true fuel 98 cs = some x) : ∃ v t, cs = kSrv.cells v t ∧ SrvIn v ∧ RoMth W t v.methods := by
  obtain ⟨zs, zi, zu, zb, z1, z2, z3, z4⟩ := cell1
  obtain ⟨xs, m, -, -, hl, hlen, hf⟩ := DataW.trod_struct Tryz.underlying98 h
  rw [show Tryz.prog.cellsOf 98 = 2 by kernel_rfl] at hl
  obtain ⟨c0, c1, rfl⟩ : ∃ c0 c1, cs = [c0, c1] := by
    match cs, hl with
    | [c0, c1], _ => exact ⟨_, _, rfl⟩
  obtain ⟨y0, y1, rfl⟩ : ∃ c0 c1, xs = [c0, c1] := by
    match xs, hlen with
    | [c0, c1], _ => exact ⟨_, _, rfl⟩
  have f0 := hf 0 _ rfl
  have f1 := hf 1 _ rfl
  simp only [zs, z3, List.drop, List.take, List.getElem?_cons_zero, List.getElem?_cons_succ] at f0 f1
  obtain ⟨s0, e0, -, w0⟩ := DataW.trod_string Tryz.underlying9 f0
  obtain rfl := List.head_eq_of_cons_eq e0
  obtain ⟨L, hL⟩ := open_rows (K := kMth) (inn := MthIn) (sub := fun _ _ _ => True) Tryz.underlying96 (by kernel_rfl) (by decide) (fun _ _ => rfl) (fun _ _ _ h => open_mth h) f1
  exact ⟨⟨s0, L⟩, c1, rfl, w0, hL⟩
set_option maxRecDepth 100000 in
theorem open_sga (h : DataW.trod enc Tryz.prog W 0 (fun _ => true) true fuel 44 cs = some x) : ∃ v t, cs = kSga.cells v t ∧ SgaIn v ∧ RoStp W t v.steps := by
  obtain ⟨zs, zi, zu, zb, z1, z2, z3, z4⟩ := cell1
  obtain ⟨xs, m, -, -, hl, hlen, hf⟩ := DataW.trod_struct Tryz.underlying44 h
  rw [show Tryz.prog.cellsOf 44 = 3 by kernel_rfl] at hl
  obtain ⟨c0, c1, c2, rfl⟩ : ∃ c0 c1 c2, cs = [c0, c1, c2] := by
    match cs, hl with
    | [c0, c1, c2], _ => exact ⟨_, _, _, rfl⟩
  obtain ⟨y0, y1, y2, rfl⟩ : ∃ c0 c1 c2, xs = [c0, c1, c2] := by
    match xs, hlen with
    | [c0, c1, c2], _ => exact ⟨_, _, _, rfl⟩
  have f0 := hf 0 _ rfl
  have f1 := hf 1 _ rfl
  have f2 := hf 2 _ rfl
  simp only [zs, z4, List.drop, List.take, List.getElem?_cons_zero, List.getElem?_cons_succ] at f0 f1 f2
  obtain ⟨s0, e0, -, w0⟩ := DataW.trod_string Tryz.underlying9 f0
  obtain ⟨s1, e1, -, w1⟩ := DataW.trod_string Tryz.underlying9 f1
  obtain rfl := List.head_eq_of_cons_eq e0
  obtain rfl := List.head_eq_of_cons_eq e1
  obtain ⟨L, hL⟩ := open_rows (K := kStp) (inn := StpIn) (sub := fun _ _ _ => True) Tryz.underlying42 (by kernel_rfl) (by decide) (fun _ _ => rfl) (fun _ _ _ h => open_stp h) f2
  exact ⟨⟨s0, s1, L⟩, c2, rfl, ⟨w0, w1⟩, hL⟩
set_option maxRecDepth 100000 in
theorem open_schema {base : Nat} {d : DataW H} {ps : List MemPlace} (hval : Value.okWide Tryz.prog W .any base 26 v) (h : DataW.Trod enc Tryz.prog W 0 (fun _ => true) true 26 v d ps) : ∃ s, RoSch W v s := by
  obtain ⟨v0, v1, v2, v3, y0, y1, y2, y3, n, rfl, -, -, h0, h1, h2, h3⟩ := Go.Joins.open_agg4 Tryz.underlying26 (by kernel_rfl) (by kernel_rfl) hval h
  obtain ⟨s0, e0, -, w0⟩ := DataW.trod_string Tryz.underlying9 h0
  obtain rfl := List.head_eq_of_cons_eq e0
  obtain ⟨L1, hL1⟩ := open_rows (K := kRcd) (inn := RcdIn) (sub := fun W t x => RoFld W t x.fields) Tryz.underlying22 (by kernel_rfl) (by decide) (fun _ _ => rfl) (fun _ _ _ h => open_rcd h) h1
  obtain ⟨L2, hL2⟩ := open_rows (K := kSrv) (inn := SrvIn) (sub := fun W t x => RoMth W t x.methods) Tryz.underlying23 (by kernel_rfl) (by decide) (fun _ _ => rfl) (fun _ _ _ h => open_srv h) h2
  obtain ⟨L3, hL3⟩ := open_rows (K := kSga) (inn := SgaIn) (sub := fun W t x => RoStp W t x.steps) Tryz.underlying24 (by kernel_rfl) (by decide) (fun _ _ => rfl) (fun _ _ _ h => open_sga h) h3
  exact ⟨⟨s0, L1, L2, L3⟩, _, _, _, rfl, w0, hL1, hL2, hL3⟩
end
end Go.Proofs.YtnkdhmoocomjfaaGreatDoor
