/-
  Walks over the laws of package mem: MemKnown. No condition.
-/
import Derived.Test.YtdgmmokagaechaaMemAwake
import Derived.Test.YtdgmmokagaechaaMemRangeI
namespace Go.Proofs.Ytdgmmokagaechaa
open Go.RowKit MI
attribute [local go_sem] Oper.semAt_some

theorem lt_lits {x y : List UInt8} (h : Go.Op.bytesLess x y = true) : Mm.lt ⟨x.toArray⟩ ⟨y.toArray⟩ = true := by unfold Mm.lt; rw [ByteArray.toList_eq, ByteArray.toList_eq]; simpa using h
theorem lt_a_aa : Mm.lt ⟨#[97]⟩ ⟨#[97, 97]⟩ = true := lt_lits (x := [97]) (y := [97, 97]) (by decide)
theorem lt_aa_b : Mm.lt ⟨#[97, 97]⟩ ⟨#[98]⟩ = true := lt_lits (x := [97, 97]) (y := [98]) (by decide)
theorem lt_a_ab : Mm.lt ⟨#[97]⟩ ⟨#[97, 98]⟩ = true := lt_lits (x := [97]) (y := [97, 98]) (by decide)
theorem lt_ab_b : Mm.lt ⟨#[97, 98]⟩ ⟨#[98]⟩ = true := lt_lits (x := [97, 98]) (y := [98]) (by decide)
theorem lt_A_a : Mm.lt ⟨#[65]⟩ ⟨#[97]⟩ = true := lt_lits (x := [65]) (y := [97]) (by decide)
theorem lt_A_b : Mm.lt ⟨#[65]⟩ ⟨#[98]⟩ = true := lt_lits (x := [65]) (y := [98]) (by decide)
theorem lt_b_c : Mm.lt ⟨#[98]⟩ ⟨#[99]⟩ = true := lt_lits (x := [98]) (y := [99]) (by decide)
theorem lt_a_c : Mm.lt ⟨#[97]⟩ ⟨#[99]⟩ = true := Mm.lt_trans lt_ab lt_b_c
def knL : Mm.Row := [(⟨#[98]⟩, .int .i64 3)]
theorem kn_from : Mm.from_ awL ⟨#[97, 97]⟩ = knL := by simp [Mm.from_, awL, knL, lt_a_aa, Mm.lt_asymm lt_aa_b]
theorem kn_get : Mm.get awL ⟨#[99]⟩ = none := by simp [Mm.get, awL, Mm.lt_ne lt_a_c, Mm.lt_ne lt_b_c]
theorem kn_floor : Mm.floor awL ⟨#[97, 98]⟩ = some (⟨#[97]⟩, .int .i64 1) := by simp [Mm.floor, Mm.upTo, awL, lt_ab_b, Mm.lt_asymm lt_a_ab]
theorem kn_below : Mm.floor awL ⟨#[65]⟩ = none := by simp [Mm.floor, Mm.upTo, awL, lt_A_a, lt_A_b]
theorem kn_del : Mm.del awL ⟨#[97]⟩ = knL := by simp [Mm.del, awL, knL, Ne.symm ne_ab]
theorem kn_get2 : Mm.get awL ⟨#[97]⟩ = some (.int .i64 1) := by simp [Mm.get, awL]
theorem kn_get3 : Mm.get knL ⟨#[97]⟩ = none := by simp [Mm.get, knL, Ne.symm ne_ab]
theorem kn_del2 : Mm.del knL ⟨#[97]⟩ = knL := Mm.del_none kn_get3
/-- The sum of digits on its way. -/
def ns1 (i : Nat) : Int := if i = 0 then 0 else 3
def ns2 (i : Nat) : Int := if i = 0 then 3 else if i = 1 then 31 else 313
theorem ns1_succ {i : Nat} (h : i < knL.length) : ∃ x : Int, knL[i].2 = .int .i64 x ∧ ns1 (i + 1) = 10 * ns1 i + x ∧ (0 ≤ ns1 i ∧ ns1 i ≤ 1000 ∧ 0 ≤ x ∧ x ≤ 9) := by
  obtain rfl : i = 0 := by simp [knL] at h; omega
  exact ⟨3, rfl, rfl, by decide⟩
theorem ns2_succ {i : Nat} (h : i < awL.length) : ∃ x : Int, awL[i].2 = .int .i64 x ∧ ns2 (i + 1) = 10 * ns2 i + x ∧ (0 ≤ ns2 i ∧ ns2 i ≤ 1000 ∧ 0 ≤ x ∧ x ≤ 9) := by
  have : i = 0 ∨ i = 1 := by simp [awL] at h; omega
  rcases this with rfl | rfl
  · exact ⟨1, rfl, rfl, by decide⟩
  · exact ⟨3, rfl, rfl, by decide⟩

set_option maxRecDepth 100000 in
set_option maxHeartbeats 16000000 in
theorem memKnown_any (w : World) : Calls Try.prog 3 #[] w fun e w' => e = .returned (.bool true) ∧ Below w.heap.size w w' := by
  refine (callsIn_wide (n := 9)).1 ?_
  refine callsIn_of_wp_marks Try.func3 rfl trivial ?_ rfl
  simp only [Try.ntmps3, List.size_toArray, List.length_cons, List.length_nil, Nat.reduceAdd, Nat.reduceSub, Array.replicate_succ, Array.replicate_zero, List.push_toArray, List.append_toArray, List.nil_append, List.cons_append]
  gi_wp2_with fail
  refine ⟨trivial, ?_⟩
  refine (callsIn_wide.2 (new_m (B := []) (R := []) (now_start w) (fun _ h => nomatch h))).mono ?_
  rintro e w1 ⟨a, rfl, h1, -⟩
  gi_wp2_with fail
  refine ⟨trivial, ?_⟩
  refine (callsIn_wide.2 (set_m h1 ⟨#[98]⟩ (by decide) (by decide) 2 (b := false) rfl)).mono ?_
  rintro e w2 ⟨rfl, h2, -⟩
  rw [aw1] at h2
  clear h1
  gi_wp2_with fail
  refine ⟨trivial, ?_⟩
  refine (callsIn_wide.2 (set_m h2 ⟨#[97]⟩ (by decide) (by decide) 1 (b := false) (by simp [Mm.get, Ne.symm ne_ab]))).mono ?_
  rintro e w3 ⟨rfl, h3, -⟩
  rw [aw2] at h3
  clear h2
  gi_wp2_with fail
  refine ⟨trivial, ?_⟩
  refine (callsIn_wide.2 (set_m h3 ⟨#[98]⟩ (by decide) (by decide) 3 (b := true) (by simp [Mm.get, ne_ab]))).mono ?_
  rintro e w4 ⟨rfl, h4, -⟩
  rw [aw3] at h4
  clear h3
  gi_wp2_with fail
  refine ⟨trivial, ?_⟩
  refine (callsIn_wide.2 (get_m h4 ⟨#[99]⟩ kn_get)).mono ?_
  rintro e w5 ⟨rfl, h5, -⟩
  clear h4
  gi_wp2_with fail
  refine ⟨trivial, ?_⟩
  refine (callsIn_wide.2 (floor_m h5 ⟨#[97, 98]⟩ kn_floor)).mono ?_
  rintro e w6 ⟨rfl, h6, -⟩
  clear h5
  unfold floorV
  gi_wp2_with fail
  refine ⟨trivial, ?_⟩
  refine (callsIn_wide.2 (floor_m h6 ⟨#[65]⟩ kn_below)).mono ?_
  rintro e w7 ⟨rfl, h7, -⟩
  clear h6
  unfold floorV
  gi_wp2_with fail
  refine ⟨trivial, ?_⟩
  have h8 := h7.alloc (.cells #[.int .i64 0] 3)
  refine (callsIn_wide.2 (from_m h8 ⟨#[97, 97]⟩ (by decide))).mono ?_
  rintro e w9 ⟨b1, b2, p, rfl, h9, -⟩
  have hen := fun (u : World) (c d : Nat) => eql_seq u (.func 54) #[] #[.pointer (some ⟨c, 0, none⟩), .pointer (some ⟨d, 0, none⟩)]
  have HEN := Lib.hid hen
  unfold fromV
  obtain ⟨g, hg⟩ : ∃ g, g = w7.heap.size := ⟨_, rfl⟩
  rw [← hg] at h9 ⊢
  clear h7 h8 hg
  gi_wp2_with fail
  clear hen
  have hsq := h9.seq (p := p) (L := awL) (b1 := b1) (b2 := b2) (key := ⟨#[97, 97]⟩) (by simp) (by simp) (by simp) 8
  rw [kn_from] at hsq
  have hgb : w9.heap[g]? = some (.cells #[.int .i64 0] 3 (0, 0)) := h9.box (q := (g, _)) (by simp)
  have hgl : g < w9.heap.size := (Array.getElem?_eq_some_iff.1 hgb).1
  have hgn : ¬ IsNode w9 g := not_node hgb int_not
  have H9 := Lib.hid (h9.sub (B' := [(g, .cells #[.int .i64 0] 3 (0, 0))]) (by simp))
  clear h9
  apply wpIn_rangeY rfl (by omega) (gf := 54) (lb := #[.pointer (some ⟨b1, 0, none⟩), .pointer (some ⟨b2, 0, none⟩)]) rfl trivial (enters_of Try.func54 (by kernel_rfl) rfl)
    (encs := fun q : ByteArray × Value => #[.string q.1, q.2]) (xs := knL) (cap := IsNode w9) hsq (fun k hk => hk.lt) (fun _ => rfl)
    (fun i A => Outs [g] w9 A ∧ A.heap[g]? = some (.cells #[.int .i64 (ns1 i)] 3 (0, 0)))
    (fun _ _ _ => False)
    (fun i A C hs st => ⟨hs.1.its st, (st.block g (by have := hs.1.size; omega) (.inl hgl)).trans hs.2⟩)
    (fun _ _ _ _ hs _ => hs)
    ⟨Outs.refl _ _, hgb⟩
  case hassign =>
    intro l x W K hK
    gi_wp2
    exact hK
  case hbody =>
    rintro l i hi A hT ⟨ho, hgA⟩
    obtain ⟨c0, f0⟩ := cells1 hgA
    have f1 := f0 0
    obtain ⟨x, hx, hs, hbd1, hbd2, hbd3, hbd4⟩ := ns1_succ hi
    have HS := Lib.hid hs
    generalize knL[i] = q at *
    obtain ⟨k, v⟩ := q
    obtain rfl : v = .int .i64 x := hx
    have HB := Lib.hid (fun v : Value => BodyK.setCell (cap := IsNode w9) (p := ⟨g, 0, none⟩) v hgA hgn)
    generalize ns1 i = y at *
    clear f0 hs
    gi_wp2_with fail
    exact ⟨HB.out _, ho.set (by simp) 0 _, by rw [HS.out]; exact heap_setCell_same A g 0 _ _ _ hgA⟩
  case hstop =>
    rintro D c i A _ _ h _
    exact h.elim
  case hdone =>
    rintro D A hD ⟨ho, hgA⟩ hK
    have h10 := H9.out.ranged (G := [(g, .cells #[.int .i64 0] 3 (0, 0))]) (G' := [(g, .cells #[.int .i64 3] 3 (0, 0))]) (B := []) ho rfl (fun q hq => by rw [List.mem_singleton.1 hq]; exact hgA) (fun b hb => by simp at hb; rw [hb]; exact hgn) hD hK
    clear hgb hgl hgn hgA ho hK hsq
    gi_wp2_with fail
    refine ⟨trivial, ?_⟩
    refine (callsIn_wide.2 (from_m h10 ⟨#[]⟩ (by decide))).mono ?_
    rintro e w11 ⟨b3, b4, p2, rfl, h11, -⟩
    have hen := HEN.out
    unfold fromV
    clear h10
    gi_wp2_with fail
    clear hen
    have hsq := h11.seq (p := p2) (L := awL) (b1 := b3) (b2 := b4) (key := ⟨#[]⟩) (by simp) (by simp) (by simp) 8
    rw [aw_from] at hsq
    have hgb : w11.heap[g]? = some (.cells #[.int .i64 3] 3 (0, 0)) := h11.box (q := (g, _)) (by simp)
    have hgl : g < w11.heap.size := (Array.getElem?_eq_some_iff.1 hgb).1
    have hgn : ¬ IsNode w11 g := not_node hgb int_not
    have H11 := Lib.hid ((h11.sub (B' := [(D, MarkO), (g, .cells #[.int .i64 3] 3 (0, 0))]) (by simp)).perm (B' := [(g, .cells #[.int .i64 3] 3 (0, 0)), (D, MarkO)]) (List.Perm.swap _ _ _))
    clear h11
    apply wpIn_rangeY rfl (by omega) (gf := 54) (lb := #[.pointer (some ⟨b3, 0, none⟩), .pointer (some ⟨b4, 0, none⟩)]) rfl trivial (enters_of Try.func54 (by kernel_rfl) rfl)
      (encs := fun q : ByteArray × Value => #[.string q.1, q.2]) (xs := awL) (cap := IsNode w11) hsq (fun k hk => hk.lt) (fun _ => rfl)
      (fun i A => Outs [g] w11 A ∧ A.heap[g]? = some (.cells #[.int .i64 (ns2 i)] 3 (0, 0)))
      (fun _ _ _ => False)
      (fun i A C hs st => ⟨hs.1.its st, (st.block g (by have := hs.1.size; omega) (.inl hgl)).trans hs.2⟩)
      (fun _ _ _ _ hs _ => hs)
      ⟨Outs.refl _ _, hgb⟩
    case hassign =>
      intro l x W K hK
      gi_wp2
      exact hK
    case hbody =>
      rintro l i hi A hT ⟨ho, hgA⟩
      obtain ⟨c0, f0⟩ := cells1 hgA
      have f1 := f0 0
      obtain ⟨x, hx, hs, hbd1, hbd2, hbd3, hbd4⟩ := ns2_succ hi
      have HS := Lib.hid hs
      generalize awL[i] = q at *
      obtain ⟨k, v⟩ := q
      obtain rfl : v = .int .i64 x := hx
      have HB := Lib.hid (fun v : Value => BodyK.setCell (cap := IsNode w11) (p := ⟨g, 0, none⟩) v hgA hgn)
      generalize ns2 i = y at *
      clear f0 hs
      gi_wp2_with fail
      exact ⟨HB.out _, ho.set (by simp) 0 _, by rw [HS.out]; exact heap_setCell_same A g 0 _ _ _ hgA⟩
    case hstop =>
      rintro D2 c i A _ _ h _
      exact h.elim
    case hdone =>
      rintro D2 A2 hD2 ⟨ho, hgA⟩ hK
      have h12 := H11.out.ranged (G := [(g, .cells #[.int .i64 3] 3 (0, 0))]) (G' := [(g, .cells #[.int .i64 313] 3 (0, 0))]) (B := [(D, MarkO)]) ho rfl (fun q hq => by rw [List.mem_singleton.1 hq]; exact hgA) (fun b hb => by simp at hb; rw [hb]; exact hgn) hD2 hK
      clear hgb hgl hgn hgA ho hK hsq
      gi_wp2_with fail
      refine ⟨trivial, ?_⟩
      refine (callsIn_wide.2 (memAwake_any A2)).mono ?_
      rintro e w13 ⟨rfl, hb13⟩
      have h13 := h12.same hb13
      have hgb : w13.heap[g]? = some (.cells #[.int .i64 313] 3 (0, 0)) := h13.box (q := (g, .cells #[.int .i64 313] 3 (0, 0))) (by simp)
      clear h12 hb13
      obtain ⟨c0, -⟩ := cells1 hgb
      clear hgb
      gi_wp2_with fail
      refine ⟨trivial, ?_⟩
      refine (callsIn_wide.2 (delete_m h13 ⟨#[97]⟩ (by decide) (b := true) (by rw [kn_get2]; rfl))).mono ?_
      rintro e w14 ⟨rfl, h14, -⟩
      rw [kn_del] at h14
      clear h13 c0
      gi_wp2_with fail
      refine ⟨trivial, ?_⟩
      refine (callsIn_wide.2 (delete_m h14 ⟨#[97]⟩ (by decide) (b := false) (by rw [kn_get3]; rfl))).mono ?_
      rintro e w15 ⟨rfl, h15, -⟩
      rw [kn_del2] at h15
      clear h14
      gi_wp2_with fail
      refine ⟨trivial, ?_⟩
      refine (callsIn_wide.2 (len_m h15 (c := 1) rfl)).mono ?_
      rintro e w16 ⟨rfl, rfl⟩
      have HN := Lib.hid (h15.now.perm (B' := [(D2, MarkO), (D, MarkO), (g, .cells #[.int .i64 313] 3 (0, 0))]) (List.Perm.cons _ (List.Perm.swap _ _ _)))
      clear h15
      gi_wp2_with fail
      exact leaves_now w (fun W => results_tmp rfl _ _ _) [D2, D] w15 (HN.out.sub (by simp)) (fun W' hb => ⟨rfl, hb⟩)
end Go.Proofs.Ytdgmmokagaechaa
