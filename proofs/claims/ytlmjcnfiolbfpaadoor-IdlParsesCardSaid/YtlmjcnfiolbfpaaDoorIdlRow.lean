/-
  Rows of what a text declares, as a call builds them by append: rows whose elements have rows of their own. Conditions: those in the theorems.
-/
import Derived.Test.YtlmjcnfiolbfpaaDoorIdlMath
set_option linter.unusedSimpArgs false
set_option linter.unusedVariables false
namespace Go.Proofs.YtlmjcnfiolbfpaaDoor
open Go.ChangeShapes Go.WideShapes Go.ChangeAt Go.RowKit

/-- What a row's elements are: their type, their cells (by a part of their own), what that part is, and the types of the blocks that it lies in. -/
structure RowKind (α : Type) where
  ty : TypeId
  sl : TypeId
  k : Nat
  bytes : Nat
  zero : Array Value
  cells : α → Value → List Value
  sub : World → Nat → Value → α → Prop
  tys : TypeId → Prop
structure RowKind.Ok {α : Type} (K : RowKind α) : Prop where
  info : (Tryd.prog.info? K.ty).map (fun i => (i.zero, i.size, i.bytes)) = some (some (.agg K.zero), K.k, K.bytes)
  under : Tryd.prog.underlying K.sl = some (.slice K.ty)
  pos : 0 < K.k
  bound : K.bytes ≤ 100
  zlen : K.zero.size = K.k
  len : ∀ x t, (K.cells x t).length = K.k
  one : ∀ W base x t, K.sub W base t x → ∀ u ∈ K.cells x t, u.oneCell' = true
  keep : ∀ W W' base base' t x, K.sub W base t x → base' ≤ base → (∀ j cs ty, base ≤ j → W.heap[j]? = some (.cells cs ty (0, 0)) → K.tys ty → W'.heap[j]? = W.heap[j]?) → K.sub W' base' t x
  fresh : ¬ K.tys K.ty
section
variable {α : Type} {K : RowKind α} {W W' : World} {base base' : Nat} {v : Value} {L : List α}
def RowIs (K : RowKind α) (W : World) (base : Nat) (v : Value) (L : List α) : Prop :=
  ∃ Z : List (α × Value), Z.map Prod.fst = L ∧ W.ownsRow base K.ty K.k v L.length (Z.flatMap fun z => K.cells z.1 z.2) ∧ ∀ z ∈ Z, K.sub W base z.2 z.1
theorem RowIs.nil (K : RowKind α) (W : World) (base : Nat) : RowIs K W base (.slice none 0 0) [] := ⟨[], rfl, World.ownsRow_nil _ _ _ _, fun z hz => by cases hz⟩
theorem row_keeps {e : TypeId} {size n : Nat} {xs : List Value} (h : W.ownsRow base e size v n xs) (hb : base' ≤ base) (hk : ∀ j cs, base ≤ j → W.heap[j]? = some (.cells cs e (0, 0)) → W'.heap[j]? = W.heap[j]?) : W'.ownsRow base' e size v n xs := by
  refine ⟨h.1, ?_⟩
  rcases h.2 with hn | ⟨g, cap, cur, rfl, h1, h2, h3⟩
  · exact .inl hn
  · exact .inr ⟨g, cap, cur, rfl, Nat.le_trans hb h1, (hk g cur h1 h2).trans h2, h3⟩
theorem RowIs.keep (ok : K.Ok) (h : RowIs K W base v L) (hb : base' ≤ base) (hk : ∀ j cs ty, base ≤ j → W.heap[j]? = some (.cells cs ty (0, 0)) → ty = K.ty ∨ K.tys ty → W'.heap[j]? = W.heap[j]?) : RowIs K W' base' v L := by
  obtain ⟨Z, h1, h2, h3⟩ := h
  exact ⟨Z, h1, row_keeps h2 hb fun j cs hj hc => hk j cs _ hj hc (.inl rfl), fun z hz => ok.keep _ _ _ _ _ _ (h3 z hz) hb fun j cs ty hj hc ht => hk j cs ty hj hc (.inr ht)⟩
theorem RowIs.below (ok : K.Ok) (h : RowIs K W base v L) (hb : Below W.heap.size W W') : RowIs K W' base v L :=
  h.keep ok (Nat.le_refl _) fun j cs ty hj hc _ => hb.block j (Array.getElem?_eq_some_iff.1 hc).1
theorem RowIs.mono (ok : K.Ok) (h : RowIs K W base v L) (hb : base' ≤ base) : RowIs K W base' v L := h.keep ok hb fun _ _ _ _ _ _ => rfl
theorem RowIs.shape (h : RowIs K W base v L) : ∃ p c, v = .slice p L.length c ∧ L.length ≤ c ∧ c ≤ maxLen := by
  obtain ⟨Z, h1, h2, h3⟩ := h
  rcases h2.2 with ⟨rfl, e⟩ | ⟨g, cap, cur, rfl, _, _, h4, h5, -⟩
  · rw [e]; exact ⟨none, 0, rfl, Nat.le_refl _, Nat.zero_le _⟩
  · exact ⟨_, _, rfl, h4, h5⟩
theorem RowIs.lt (h : RowIs K W base v L) : ∀ k, v.ownBlock = some k → base ≤ k ∧ k < W.heap.size := by
  obtain ⟨Z, h1, h2, h3⟩ := h; exact h2.lt
theorem RowIs.ownTy (h : RowIs K W base v L) : ∀ k, v.ownBlock = some k → ∃ cs, W.heap[k]? = some (.cells cs K.ty (0, 0)) := by
  obtain ⟨Z, h1, h2, h3⟩ := h
  rcases h2.2 with ⟨rfl, e⟩ | ⟨g, cap, cur, rfl, _, hg, _⟩
  · intro k hk; cases hk
  · intro k hk; cases hk; exact ⟨cur, hg⟩
theorem flat_len (hlen : ∀ x t, (K.cells x t).length = K.k) (Z : List (α × Value)) : (Z.flatMap fun z => K.cells z.1 z.2).length = Z.length * K.k := by
  induction Z with
  | nil => simp
  | cons z Z ih => rw [List.flatMap_cons, List.length_append, ih, hlen, List.length_cons, Nat.add_mul]; omega
theorem flat_get (hlen : ∀ x t, (K.cells x t).length = K.k) {Z : List (α × Value)} {i : Nat} (hi : i < Z.length) {j : Nat} (hj : j < K.k) : (Z.flatMap fun z => K.cells z.1 z.2)[i * K.k + j]? = (K.cells Z[i].1 Z[i].2)[j]? := by
  induction Z generalizing i with
  | nil => exact absurd hi (Nat.not_lt_zero _)
  | cons z Z ih =>
    rw [List.flatMap_cons]
    cases i with
    | zero => rw [List.getElem?_append_left (by rw [hlen]; omega)]; simp
    | succ i =>
      rw [List.getElem?_append_right (by rw [hlen, Nat.add_mul]; omega), hlen, show (i + 1) * K.k + j - K.k = i * K.k + j by rw [Nat.add_mul]; omega]
      exact ih (by simpa using hi)
/-- An element of the row. -/
theorem RowIs.at (ok : K.Ok) (h : RowIs K W base v L) {i : Nat} (hi : i < L.length) : ∃ g c t, v = .slice (some ⟨g, 0, none⟩) L.length c ∧ base ≤ g ∧ g < W.heap.size ∧ K.sub W base t L[i] ∧ ∀ j u, (K.cells L[i] t)[j]? = some u → W.cell? ⟨g, i * K.k + j, none⟩ = some u := by
  obtain ⟨Z, h1, h2, h3⟩ := h
  have hz : i < Z.length := by rw [← h1, List.length_map] at hi; exact hi
  have hl : Z[i].1 = L[i] := by subst h1; rw [List.getElem_map]
  rcases h2.2 with ⟨-, e⟩ | ⟨g, cap, cur, rfl, hg, hh, h4, h5, h6, h7⟩
  · omega
  · refine ⟨g, cap, Z[i].2, rfl, hg, (Array.getElem?_eq_some_iff.1 hh).1, ?_, fun j u hu => ?_⟩
    · rw [← hl]; exact h3 _ (List.getElem_mem hz)
    · rw [← hl] at hu
      have hj : j < K.k := by have := (List.getElem?_eq_some_iff.1 hu).1; rw [ok.len] at this; exact this
      rw [cell_of_row W g _ cur _ _ hh]
      have hlt : i * K.k + j < L.length * K.k := Nat.lt_of_lt_of_le (by rw [Nat.add_mul]; omega : i * K.k + j < (i + 1) * K.k) (Nat.mul_le_mul_right _ hi)
      rw [← hu, ← flat_get ok.len hz hj, ← h7, List.getElem?_take, if_pos hlt]; simp
/-- An element that lies at A is appended. -/
theorem row_append (ok : K.Ok) (h : RowIs K W base v L) (x : α) (t : Value) (ht : K.sub W base t x) (A : Addr) (c : Nat) (hnews : ∀ q u, (K.cells x t)[q]? = some u → W.cell? (A.add q) = some u) (hs : L.length + 1 ≤ 1000000) (hb : base ≤ W.heap.size) (ty : TypeId) :
    ∃ (pv : Option Addr) (cv : Nat) (W' : World), (Builtin.append_ #[K.sl, K.sl] ty #[v, .slice (some A) 1 c]).run Tryd.prog W = .ok (.slice pv (L.length + 1) cv) W' ∧
      RowIs K W' base (.slice pv (L.length + 1) cv) (L ++ [x]) ∧ GrewT v (.slice pv (L.length + 1) cv) W W' := by
  obtain ⟨Z, h1, h2, h3⟩ := h
  obtain ⟨i0, hi0, hz0, hz1, hz2⟩ := info_parts ok.info
  obtain ⟨v', W', hrun, ho, hg, -, hown⟩ := run_append_own_at (P := Tryd.prog) W base K.sl ty K.ty i0 _ K.k K.bytes ok.under hi0 hz0 hz1 hz2 ok.zlen ok.pos v _ _ h2
    A 1 c (K.cells x t) (by rw [ok.len, Nat.one_mul]) hnews (ok.one _ _ _ _ ht) (by unfold maxLen; omega) (by have := ok.bound; have := Nat.mul_le_mul hs this; omega) (by omega)
  have hgr : ∀ k, k < W.heap.size → v.ownBlock ≠ some k → W'.heap[k]? = W.heap[k]? := fun k hk hn => hg.block k hk fun e => hn e.symm
  have hty : ∀ k, v.ownBlock = some k → ∃ cs, W.heap[k]? = some (Obj.cells cs K.ty (0, 0)) := RowIs.ownTy (K := K) (L := L) ⟨Z, h1, h2, h3⟩
  have hne : ∀ (j : Nat) (cs : Array Value) (ty' : TypeId), W.heap[j]? = some (Obj.cells cs ty' (0, 0)) → K.tys ty' → W'.heap[j]? = W.heap[j]? := by
    intro j cs ty' hj ht'
    refine hgr j (Array.getElem?_eq_some_iff.1 hj).1 fun e => ?_
    obtain ⟨cs', hc'⟩ := hty j e
    rw [hj] at hc'
    cases hc'
    exact ok.fresh ht'
  have hR : RowIs K W' base v' (L ++ [x]) := by
    refine ⟨Z ++ [(x, t)], by rw [List.map_append, h1]; rfl, ?_, fun z hz => ?_⟩
    · rw [List.flatMap_append, List.length_append]
      simpa using ho
    · rcases List.mem_append.1 hz with hz | hz
      · exact ok.keep _ _ _ _ _ _ (h3 z hz) (Nat.le_refl _) fun j cs ty' _ hj ht' => hne j cs ty' hj ht'
      · rw [List.mem_singleton.1 hz]
        exact ok.keep _ _ _ _ _ _ ht (Nat.le_refl _) fun j cs ty' _ hj ht' => hne j cs ty' hj ht'
  obtain ⟨pv, cv, rfl, -, -⟩ := hR.shape
  rw [List.length_append] at hrun hR hown
  refine ⟨pv, cv, W', hrun, hR, hg.os, hg.tape, hg.output, hg.size, hgr, fun k hk => ?_⟩
  rcases hown with e | e
  · exact .inl (e ▸ hk)
  · have e2 : (Value.slice pv (L.length + 1) cv).ownBlock = some W.heap.size := e
    rw [e2] at hk
    simp only [Option.some.injEq] at hk
    exact .inr (by omega)
end
/-! ### the kinds -/
def kSo : RowKind Ip.So := ⟨70, 33, 2, 24, #[.int .u8 0, .string ⟨#[]⟩], fun x _ => [.int .u8 (x.kind : Nat), .string x.name], fun _ _ _ _ => True, fun _ => False⟩
def kMth : RowKind Ip.Mth := ⟨94, 54, 5, 72, #[.string ⟨#[]⟩, .string ⟨#[]⟩, .int .u8 0, .string ⟨#[]⟩, .string ⟨#[]⟩], fun x _ => [.string x.name, .string x.arg, .int .u8 (x.result : Nat), .string x.effect, .string x.undo], fun _ _ _ _ => True, fun _ => False⟩
def kStp : RowKind Ip.Stp := ⟨64, 58, 3, 40, #[.string ⟨#[]⟩, .string ⟨#[]⟩, .int .i64 0], fun x _ => [.string x.service, .string x.method, .int .i64 x.at_], fun _ _ _ _ => True, fun _ => False⟩
def kFld : RowKind Ip.Fld := ⟨62, 50, 2, 40, #[.string ⟨#[]⟩, .slice none 0 0], fun x t => [.string x.name, t], fun W base t x => RowIs kSo W base t x.type, fun ty => ty = 70⟩
def kRcd : RowKind Ip.Rcd := ⟨52, 22, 3, 48, #[.string ⟨#[]⟩, .bool false, .slice none 0 0], fun x t => [.string x.name, .bool x.choice, t], fun W base t x => RowIs kFld W base t x.fields, fun ty => ty = 62 ∨ ty = 70⟩
def kSrv : RowKind Ip.Srv := ⟨56, 23, 2, 40, #[.string ⟨#[]⟩, .slice none 0 0], fun x t => [.string x.name, t], fun W base t x => RowIs kMth W base t x.methods, fun ty => ty = 94⟩
def kSga : RowKind Ip.Sga := ⟨60, 24, 3, 56, #[.string ⟨#[]⟩, .string ⟨#[]⟩, .slice none 0 0], fun x t => [.string x.name, .string x.arg, t], fun W base t x => RowIs kStp W base t x.steps, fun ty => ty = 64⟩
theorem one_slice {α : Type} {K : RowKind α} {W : World} {base : Nat} {v : Value} {L : List α} (h : RowIs K W base v L) : v.oneCell' = true := by
  obtain ⟨p, c, rfl, -⟩ := h.shape; rfl
theorem okSo : kSo.Ok := by
  refine ⟨by kernel_rfl, Tryd.underlying33, by decide, by decide, rfl, fun _ _ => rfl, fun _ _ x t _ u hu => ?_, fun _ _ _ _ _ _ _ _ _ => trivial, fun h => h⟩
  simp [kSo] at hu; rcases hu with rfl | rfl <;> rfl
theorem okMth : kMth.Ok := by
  refine ⟨by kernel_rfl, Tryd.underlying54, by decide, by decide, rfl, fun _ _ => rfl, fun _ _ x t _ u hu => ?_, fun _ _ _ _ _ _ _ _ _ => trivial, fun h => h⟩
  simp [kMth] at hu; rcases hu with rfl | rfl | rfl | rfl | rfl <;> rfl
theorem okStp : kStp.Ok := by
  refine ⟨by kernel_rfl, Tryd.underlying58, by decide, by decide, rfl, fun _ _ => rfl, fun _ _ x t _ u hu => ?_, fun _ _ _ _ _ _ _ _ _ => trivial, fun h => h⟩
  simp [kStp] at hu; rcases hu with rfl | rfl | rfl <;> rfl
theorem okFld : kFld.Ok := by
  refine ⟨by kernel_rfl, Tryd.underlying50, by decide, by decide, rfl, fun _ _ => rfl, fun _ _ x t h u hu => ?_, fun W W' b b' t x h hb hk => RowIs.keep okSo h hb fun j cs ty hj hc ht => hk j cs ty hj hc (by rcases ht with e | e; exact e; exact e.elim), by show ¬ (62 : Nat) = 70; decide⟩
  simp [kFld] at hu
  rcases hu with rfl | rfl
  · rfl
  · exact one_slice h
theorem okRcd : kRcd.Ok := by
  refine ⟨by kernel_rfl, Tryd.underlying22, by decide, by decide, rfl, fun _ _ => rfl, fun _ _ x t h u hu => ?_, fun W W' b b' t x h hb hk => RowIs.keep okFld h hb fun j cs ty hj hc ht => hk j cs ty hj hc ht, by show ¬ ((52 : Nat) = 62 ∨ (52 : Nat) = 70); decide⟩
  simp [kRcd] at hu
  rcases hu with rfl | rfl | rfl
  · rfl
  · rfl
  · exact one_slice h
theorem okSrv : kSrv.Ok := by
  refine ⟨by kernel_rfl, Tryd.underlying23, by decide, by decide, rfl, fun _ _ => rfl, fun _ _ x t h u hu => ?_, fun W W' b b' t x h hb hk => RowIs.keep okMth h hb fun j cs ty hj hc ht => hk j cs ty hj hc (by rcases ht with e | e; exact e; exact e.elim), by show ¬ (56 : Nat) = 94; decide⟩
  simp [kSrv] at hu
  rcases hu with rfl | rfl
  · rfl
  · exact one_slice h
theorem okSga : kSga.Ok := by
  refine ⟨by kernel_rfl, Tryd.underlying24, by decide, by decide, rfl, fun _ _ => rfl, fun _ _ x t h u hu => ?_, fun W W' b b' t x h hb hk => RowIs.keep okStp h hb fun j cs ty hj hc ht => hk j cs ty hj hc (by rcases ht with e | e; exact e; exact e.elim), by show ¬ (60 : Nat) = 64; decide⟩
  simp [kSga] at hu
  rcases hu with rfl | rfl | rfl
  · rfl
  · rfl
  · exact one_slice h
end Go.Proofs.YtlmjcnfiolbfpaaDoor
