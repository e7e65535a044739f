/-
  Walks over package table: texts that are appended to a row of bytes; row. Conditions: those in the theorems.
-/
import Derived.Test.YtgmaccfhgeocdaaTabBytes
namespace Go.Proofs.Ytgmaccfhgeocdaa
open Go.RowKit Tb

theorem own_mono {W : World} {b b' : Nat} {v : Value} {l : List UInt8} (h : OwnB W b v l) (hb : b' ≤ b) : OwnB W b' v l := by
  refine ⟨h.1, ?_⟩
  rcases h.2 with hn | ⟨g, cap, cur, rfl, h1, h2⟩
  · exact .inl hn
  · exact .inr ⟨g, cap, cur, rfl, Nat.le_trans hb h1, h2⟩
theorem strCells_bl (s : ByteArray) : Lib.strCells s = bcells (bl s) := by
  unfold Lib.strCells bcells bl; rfl
/-- A text is appended. -/
theorem b_append_str {W : World} {base : Nat} {v : Value} {l : List UInt8} (h : OwnB W base v l) (s : ByteArray) (hs : l.length + s.size ≤ 100000000) (hb : base ≤ W.heap.size) (ty : TypeId) :
    ∃ (pv : Option Addr) (cv : Nat) (W' : World), (Builtin.append_ #[39, 9] ty #[v, .string s]).run Try.prog W = .ok (.slice pv (l.length + s.size) cv) W' ∧
      OwnB W' base (.slice pv (l.length + s.size) cv) (l ++ bl s) ∧ Grew v (.slice pv (l.length + s.size) cv) W W' := by
  obtain ⟨i0, hi0, hz0, hz1, hz2⟩ := info_parts infoB
  have key : ∀ v' W' base', (Builtin.append_ #[39, 9] ty #[v, .string s]).run Try.prog W = .ok v' W' → W'.ownsRow base' 5 1 v' (l.length + s.size) (bcells l ++ Lib.strCells s) → base ≤ base' → W.grownBy W' v.ownBlock → (∀ k, v'.ownBlock = some k → v.ownBlock = some k ∨ W.heap.size ≤ k) →
      ∃ (pv : Option Addr) (cv : Nat) (W' : World), (Builtin.append_ #[39, 9] ty #[v, .string s]).run Try.prog W = .ok (.slice pv (l.length + s.size) cv) W' ∧
        OwnB W' base (.slice pv (l.length + s.size) cv) (l ++ bl s) ∧ Grew v (.slice pv (l.length + s.size) cv) W W' := by
    intro v' W' base' hr ho hbb hg hk
    have ho2 : OwnB W' base' v' (l ++ bl s) := by unfold OwnB; rw [bcells_append, List.length_append, bl_len, ← strCells_bl]; exact ho
    obtain ⟨pv, cv, rfl, -, -⟩ := ho2.shape
    rw [List.length_append, bl_len] at hr ho2 hk
    exact ⟨pv, cv, W', hr, own_mono ho2 hbb, hg.os, hg.tape, hg.output, hg.size, fun k hk2 hn => hg.block k hk2 fun e => hn e.symm, hk⟩
  rcases h.2 with ⟨rfl, hl0⟩ | ⟨g, cap, cur, rfl, hbg, hg, hnc, hcm, hcs, htake⟩
  · obtain ⟨v', W', hr, ho, hgr, -⟩ := Lib.run_append_own_string (P := Try.prog) W W.heap.size 39 9 ty 5 i0 Try.underlying39 Try.underlying9 hi0 hz0 hz1 hz2 (.slice none 0 0) l.length (bcells l)
      ⟨h.1, .inl ⟨rfl, hl0⟩⟩ s (by unfold maxLen; omega) (by omega) (Nat.le_refl _)
    exact key v' W' _ hr ho hb hgr fun k hk => .inr (World.ownsRow.lt ho k hk).1
  · obtain ⟨v', W', hr, ho, hgr, -⟩ := Lib.run_append_own_string (P := Try.prog) W base 39 9 ty 5 i0 Try.underlying39 Try.underlying9 hi0 hz0 hz1 hz2 _ l.length (bcells l)
      h s (by unfold maxLen; omega) (by omega) hb
    refine key v' W' _ hr ho (Nat.le_refl _) hgr fun k hk => ?_
    by_cases hroom : l.length + s.size ≤ cap
    · have h2 := Lib.run_append_room_string (P := Try.prog) W 39 9 ty 5 i0 Try.underlying39 Try.underlying9 hi0 hz1 g l.length cap cur hg s hroom (by omega)
      rw [hr] at h2
      simp only [Result.ok.injEq] at h2
      rw [h2.1] at hk
      exact .inl hk
    · have holds : ∀ j u, (bcells l)[j]? = some u → W.cell? ((⟨g, 0, none⟩ : Addr).add j) = some u := World.ownsRow.cells (g := g) h rfl
      have h2 := Lib.run_append_grow_string (P := Try.prog) W 39 9 ty 5 i0 _ Try.underlying39 Try.underlying9 hi0 hz0 ⟨g, 0, none⟩ l.length cap (bcells l) (by rw [hz1, bcells_len]; omega) holds s (by omega) (by omega) (by rw [hz2]; exact growslice_fits (by omega) (by omega))
      rw [hr] at h2
      simp only [Result.ok.injEq] at h2
      rw [h2.1] at hk
      simp only [Value.ownBlock, Option.some.injEq] at hk
      exact .inr (by omega)
theorem Grew.ofBelow {v : Value} {W W' : World} (h : Below W.heap.size W W') : Grew v v W W' := ⟨h.os, h.tape, h.output, h.size, fun k hk _ => h.block k hk, fun _ h => .inl h⟩
def enV (e : En) : Value := .agg #[.string e.key, .string e.value, .bool e.gone]

theorem number_is {W : World} {base : Nat} {v : Value} {l : List UInt8} (h : OwnB W base v l) (hb : base ≤ W.heap.size) {wi ni : Int} (wd n : Nat) (ew : wi = (wd : Nat)) (en : ni = (n : Nat)) (hw : wd ≤ 8) (hl : l.length ≤ 50000000) (hn : n < 4611686018427387904) :
    Calls Try.prog 35 #[v, .int .i64 wi, .int .i64 ni] W fun e W' => ∃ v', e = .returned v' ∧ OwnB W' base v' (l ++ le wd n) ∧ Grew v v' W W' := by
  subst ew en; exact number_any h hb wd n hw hl hn
theorem Grew.box {v v' : Value} {W W' : World} {b : Nat} {o : Obj} (g : Grew v v' W W') (hb : W.heap[b]? = some o) (hn : v.ownBlock ≠ some b) : W'.heap[b]? = some o ∧ v'.ownBlock ≠ some b := by
  have hl := (Array.getElem?_eq_some_iff.1 hb).1
  exact ⟨(g.block b hl hn).trans hb, fun e => (g.own b e).elim hn fun h => by omega⟩
theorem cells3 {W : World} {b : Nat} {x y z : Value} {T : TypeId} (h : W.heap[b]? = some (.cells #[x, y, z] T (0, 0))) : W.cell? ⟨b, 0, none⟩ = some x ∧ W.cell? ⟨b, 1, none⟩ = some y ∧ W.cell? ⟨b, 2, none⟩ = some z := by
  refine ⟨?_, ?_, ?_⟩ <;> rw [cell_of_row W b _ _ _ _ h] <;> rfl

set_option maxRecDepth 100000 in
set_option maxHeartbeats 8000000 in
theorem row_any {W : World} {base : Nat} {v : Value} {l : List UInt8} (h : OwnB W base v l) (hb : base ≤ W.heap.size) (hl : l.length ≤ 10000000) (e : En) (he : Ok e) :
    Calls Try.prog 36 #[v, enV e] W fun r W' => ∃ v', r = .returned v' ∧ OwnB W' base v' (l ++ row e) ∧ Grew v v' W W' := by
  obtain ⟨p0, c0, rfl, -, -⟩ := h.shape
  obtain ⟨k, s, gn⟩ := e
  obtain ⟨h1, h2, h3, h4⟩ := he
  simp only at h1 h2 h3 h4
  obtain ⟨vn, hvn⟩ : ∃ vn, vn = vlen ⟨k, s, gn⟩ := ⟨_, rfl⟩
  have HVN := Lib.hid hvn
  have hv16 : vn ≤ 16385 := by rw [hvn]; unfold vlen; simp only; split <;> omega
  have HRL : Hid (l ++ row ⟨k, s, gn⟩ = ((l ++ le 1 k.size) ++ le 2 vn) ++ bl k ++ bl s) := Lib.hid (by rw [hvn]; unfold row; simp [List.append_assoc])
  have hO1 := h.below (below_alloc W (.cells #[.string k, .string s, .bool gn] 31))
  have HG0 := Lib.hid (Grew.ofBelow (v := .slice p0 l.length c0) (below_alloc W (.cells #[.string k, .string s, .bool gn] 31)))
  have hbx := heap_alloc_new W (.cells #[.string k, .string s, .bool gn] 31)
  have hb1 : base ≤ (W.alloc (.cells #[.string k, .string s, .bool gn] 31)).heap.size := by simp; omega
  obtain ⟨b, hbb⟩ : ∃ b, b = W.heap.size := ⟨_, rfl⟩
  have hown : (Value.slice p0 l.length c0).ownBlock ≠ some b := fun e => by have := (h.lt b e).2; omega
  rw [← hbb] at hbx
  obtain ⟨d0, d1, d2⟩ := cells3 hbx
  have HH := Lib.hid (And.intro hO1 (And.intro hbx (And.intro hown hb1)))
  have HB := Lib.hid hbb
  rw [hbb] at d0 d1 d2
  clear h hb hO1 hbx hown hb1 hvn h4 hbb
  unfold enV
  go_enter Try.func36, Try.ntmps36
  cases gn with
  | true =>
    have HV : Hid (vn = 16385) := Lib.hid HVN.out
    go_wp2_with fail
    refine (number_is HH.out.1 HH.out.2.2.2 1 k.size rfl rfl (by omega) (by omega) (by omega)).mono ?_
    rintro r W1 ⟨v1, rfl, o1, g1⟩
    obtain ⟨b1, n1⟩ := g1.box HH.out.2.1 HH.out.2.2.1
    have z1 := Nat.le_trans HH.out.2.2.2 g1.size
    clear d0 d1 d2
    go_wp2_with fail
    refine (number_is o1 z1 2 vn rfl (by first | (rw [HV.out]; rfl) | rw [HV.out]) (by omega) (by rw [List.length_append, le_len]; omega) (by omega)).mono ?_
    rintro r W2 ⟨v2, rfl, o2, g2⟩
    obtain ⟨b2, n2⟩ := g2.box b1 n1
    have z2 := Nat.le_trans z1 g2.size
    obtain ⟨d0, d1, d2⟩ := cells3 b2
    obtain ⟨L2, hL2⟩ : ∃ L2, L2 = l ++ le 1 k.size ++ le 2 vn := ⟨_, rfl⟩
    have hl2 : L2.length ≤ 20000000 := by rw [hL2, List.length_append, List.length_append, le_len, le_len]; omega
    have HRL2 := Lib.hid (HRL.out.trans (by rw [← hL2]))
    rw [← hL2] at o2
    obtain ⟨p2, c2, rfl, -, -⟩ := o2.shape
    obtain ⟨pk, ck, W3, r3, o3, g3⟩ := b_append_str o2 k (by omega) z2 39
    obtain ⟨b3, n3⟩ := g3.box b2 n2
    obtain ⟨e0, e1, e2⟩ := cells3 b3
    obtain ⟨ps, cs, W4, r4, o4, g4⟩ := b_append_str o3 s (by rw [List.length_append, bl_len]; omega) (Nat.le_trans z2 g3.size) 39
    rw [List.length_append] at r4 o4 g4
    have HO := Lib.hid o4
    have HG := Lib.hid ((((HG0.out.trans g1).trans g2).trans g3).trans g4)
    rw [HB.out] at d0 d1 d2 e0 e1 e2
    clear o1 o2 o3 o4 g1 g2 g3 g4 hL2 b1 b2 b3 n1 n2 n3
    go_wp2_with (at_builtin; first
      | refine Lib.wpList_append_run _ rfl (.tmp 19) (.tmp 21) _ _ rfl _ _ rfl rfl _ _ r3 ?_
      | refine Lib.wpList_append_run _ rfl (.tmp 23) (.tmp 25) _ _ rfl _ _ rfl rfl _ _ r4 ?_)
    go_ret
    exact ⟨_, rfl, by rw [HRL2.out]; exact HO.out, HG.out⟩
  | false =>
    have HV : Hid (vn = s.size) := Lib.hid HVN.out
    go_wp2_with fail
    refine (number_is HH.out.1 HH.out.2.2.2 1 k.size rfl rfl (by omega) (by omega) (by omega)).mono ?_
    rintro r W1 ⟨v1, rfl, o1, g1⟩
    obtain ⟨b1, n1⟩ := g1.box HH.out.2.1 HH.out.2.2.1
    have z1 := Nat.le_trans HH.out.2.2.2 g1.size
    clear d0 d1 d2
    go_wp2_with fail
    refine (number_is o1 z1 2 vn rfl (by first | (rw [HV.out]; rfl) | rw [HV.out]) (by omega) (by rw [List.length_append, le_len]; omega) (by omega)).mono ?_
    rintro r W2 ⟨v2, rfl, o2, g2⟩
    obtain ⟨b2, n2⟩ := g2.box b1 n1
    have z2 := Nat.le_trans z1 g2.size
    obtain ⟨d0, d1, d2⟩ := cells3 b2
    obtain ⟨L2, hL2⟩ : ∃ L2, L2 = l ++ le 1 k.size ++ le 2 vn := ⟨_, rfl⟩
    have hl2 : L2.length ≤ 20000000 := by rw [hL2, List.length_append, List.length_append, le_len, le_len]; omega
    have HRL2 := Lib.hid (HRL.out.trans (by rw [← hL2]))
    rw [← hL2] at o2
    obtain ⟨p2, c2, rfl, -, -⟩ := o2.shape
    obtain ⟨pk, ck, W3, r3, o3, g3⟩ := b_append_str o2 k (by omega) z2 39
    obtain ⟨b3, n3⟩ := g3.box b2 n2
    obtain ⟨e0, e1, e2⟩ := cells3 b3
    obtain ⟨ps, cs, W4, r4, o4, g4⟩ := b_append_str o3 s (by rw [List.length_append, bl_len]; omega) (Nat.le_trans z2 g3.size) 39
    rw [List.length_append] at r4 o4 g4
    have HO := Lib.hid o4
    have HG := Lib.hid ((((HG0.out.trans g1).trans g2).trans g3).trans g4)
    rw [HB.out] at d0 d1 d2 e0 e1 e2
    clear o1 o2 o3 o4 g1 g2 g3 g4 hL2 b1 b2 b3 n1 n2 n3
    go_wp2_with (at_builtin; first
      | refine Lib.wpList_append_run _ rfl (.tmp 19) (.tmp 21) _ _ rfl _ _ rfl rfl _ _ r3 ?_
      | refine Lib.wpList_append_run _ rfl (.tmp 23) (.tmp 25) _ _ rfl _ _ rfl rfl _ _ r4 ?_)
    go_ret
    exact ⟨_, rfl, by rw [HRL2.out]; exact HO.out, HG.out⟩
end Go.Proofs.Ytgmaccfhgeocdaa
