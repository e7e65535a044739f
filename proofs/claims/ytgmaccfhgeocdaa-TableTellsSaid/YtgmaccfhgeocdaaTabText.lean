/-
  Walks over package table: text. Condition: a right list.
-/
import Derived.Test.YtgmaccfhgeocdaaTabEnts
import Derived.Test.YtgmaccfhgeocdaaTabPlaces
import Derived.Deep.RegionHeld3
import Derived.Deep.RegionLaw
import Derived.Lib.ConvBytes
namespace Go.Proofs.Ytgmaccfhgeocdaa
open Go.RowKit Tb

theorem idx_snoc (l : List En) (e : En) (i o : Nat) : idx i o (l ++ [e]) = idx i o l ++ (if (i + l.length) % 16 = 0 then le 4 (o + (rows l).length) ++ (le 1 e.key.size ++ bl e.key) else []) := by
  induction l generalizing i o with
  | nil => simp [idx, rows]
  | cons x r ih =>
    rw [List.cons_append, idx, ih, idx, List.append_assoc, List.length_cons, rows_cons, List.length_append]
    rw [show i + 1 + r.length = i + (r.length + 1) by omega, show o + (row x).length + (rows r).length = o + ((row x).length + (rows r).length) by omega]
theorem rows_snoc (l : List En) (e : En) : rows (l ++ [e]) = rows l ++ row e := by rw [rows_append]; simp [rows]
/-- Rows of bytes in blocks of their own. -/
def Two (w W : World) (iv rv : Value) (I R : List UInt8) : Prop :=
  OwnB W w.heap.size iv I ∧ OwnB W w.heap.size rv R ∧ (∀ b, iv.ownBlock = some b → rv.ownBlock ≠ some b) ∧ Below w.heap.size w W
theorem Two.size {w W : World} {iv rv : Value} {I R : List UInt8} (h : Two w W iv rv I R) : w.heap.size ≤ W.heap.size := h.2.2.2.size
theorem Two.below {w W W' : World} {iv rv : Value} {I R : List UInt8} (h : Two w W iv rv I R) (hb : Below W.heap.size W W') : Two w W' iv rv I R :=
  ⟨h.1.below hb, h.2.1.below hb, h.2.2.1, h.2.2.2.trans (hb.mono h.size)⟩
theorem Two.grewI {w W W' : World} {iv rv iv' : Value} {I R I' : List UInt8} (h : Two w W iv rv I R) (o : OwnB W' w.heap.size iv' I') (g : Grew iv iv' W W') : Two w W' iv' rv I' R := by
  refine ⟨o, h.2.1.stays fun k hk hb => g.block k hk fun e => h.2.2.1 k e hb, fun b hb hr => ?_, g.below h.2.2.2 h.size fun k hk => (h.1.lt k hk).1⟩
  have h2 := (h.2.1.lt b hr).2
  rcases g.own b hb with e | e
  · exact h.2.2.1 b e hr
  · omega
theorem Two.grewR {w W W' : World} {iv rv rv' : Value} {I R R' : List UInt8} (h : Two w W iv rv I R) (o : OwnB W' w.heap.size rv' R') (g : Grew rv rv' W W') : Two w W' iv rv' I R' := by
  refine ⟨h.1.stays fun k hk hb => g.block k hk fun e => h.2.2.1 k hb e, o, fun b hb hr => ?_, g.below h.2.2.2 h.size fun k hk => (h.2.1.lt k hk).1⟩
  have h2 := (h.1.lt b hb).2
  rcases g.own b hr with e | e
  · exact h.2.2.1 b hb e
  · omega

theorem own_conv {W : World} {base : Nat} {p : Option Addr} {cap : Nat} {l : List UInt8} {n : Nat} (h : OwnB W base (.slice p n cap) l) (hn : n = l.length) :
    (convert 39 9 (.slice p n cap)).run Try.prog W = .ok (.string ⟨l.toArray⟩) W := by
  subst hn
  rcases h.2 with ⟨h1, h2⟩ | ⟨g, cap', cur, h1, -, h3, -⟩
  · obtain rfl := List.eq_nil_of_length_eq_zero h2
    cases h1
    exact run_convert_bytes_nil W 39 5 Try.underlying39 Try.underlying5 0 0 9 Try.underlying9
  · cases h1
    exact run_convert_bytes_back (P := Try.prog) W 39 9 5 ⟨g, 0, none⟩ cap l Try.underlying39 Try.underlying5 Try.underlying9 (fun j hj => World.ownsRow.cells (g := g) h rfl j _ (by unfold bcells; rw [List.getElem?_map, List.getElem?_eq_getElem hj]; rfl))
/-- append, its run known, at a step of a region that draws its order. -/
theorem tab_append_run {P : Program} {ops : Array Oper} {o : Oper} {a : Act} {w : World} {K : Act → World → Prop} {Q : Exit → Act → World → Prop} {E : Prop}
    (hg : o.guard = none) (s x : Operand) (t tn : TypeId) (ho : o.op = .call { callee := .builtin .append, args := #[s, x], argTypes := #[t, tn] }) (vs vx : Value) (hs : a.eval s = vs) (hx : a.eval x = vx)
    (v' : Value) (w' : World) (hr : (Builtin.append_ #[t, tn] o.type #[vs, vx]).run P w = .ok v' w') (hK : K (a.put o.dst v') w') :
    if Region.wanted o (yielded ops a.tmps) = true then Oper.wp P o a w K Q else E := by
  have hw : Region.wanted o (yielded ops a.tmps) = true := by simp [Region.wanted, hg]
  rw [if_pos hw]
  exact Lib.wp_append_run w s x t tn ho vs vx hs hx v' w' hr hK
theorem tsize (l : List UInt8) : (⟨l.toArray⟩ : ByteArray).size = l.length := by simp [ByteArray.size]
theorem Grew.none {v' : Value} {W W' : World} (g : Grew (.slice none 0 0) v' W W') : Below W.heap.size W W' := ⟨g.os, g.tape, g.output, g.size, fun k hk => g.block k hk fun e => by simp [Value.ownBlock] at e⟩
theorem below_drew (w : World) : Below w.heap.size w w.drew := (Below.refl _ _).drew
/-- A row of the index, or rows of entries, have grown by a call. -/
theorem Two.idx {w W : World} {iv rv iv' rv' : Value} {l : List En} {e : En} (h : Two w W iv' rv' (Tb.idx 0 0 l ++ (if l.length % 16 = 0 then le 4 (rows l).length ++ (le 1 e.key.size ++ bl e.key) else [])) (rows l ++ row e)) :
    Two w W iv' rv' (Tb.idx 0 0 (l ++ [e])) (rows (l ++ [e])) := by
  rw [idx_snoc, rows_snoc, Nat.zero_add, Nat.zero_add]; exact h
/-- A text of a table, out of its parts. -/
theorem text_parts (l : List En) : (⟨(le 2 l.length).toArray⟩ : ByteArray) ++ ⟨(Tb.idx 0 0 l).toArray⟩ ++ ⟨(rows l).toArray⟩ = ⟨(Tb.body l).toArray⟩ := by
  unfold Tb.body
  rw [ByteArray.mk_append_mk, ByteArray.mk_append_mk, List.append_assoc]

set_option maxRecDepth 100000 in
set_option maxHeartbeats 8000000 in
theorem text_any {w : World} {p : Option Addr} {cap : Nat} {l : List En} (hl : EntsAt w p l) (hr : Right l) :
    Calls Try.prog 26 #[.slice p l.length cap] w fun e w' => e = .returned (.string ⟨(Tb.text l).toArray⟩) ∧ Below w.heap.size w w' := by
  have HL := Lib.hid hl
  have HR := Lib.hid hr
  have hfew := hr.few
  have HI : Hid (∀ k, (Tb.idx 0 0 (l.take k)).length ≤ 1000000) := Lib.hid fun k => by
    have := idx_small (l.take k) (fun e he => hr.ok e (List.mem_of_mem_take he)) 0 0
    have : (l.take k).length ≤ 4096 := by rw [List.length_take]; omega
    omega
  have HW : Hid (∀ k, (rows (l.take k)).length ≤ 1000000) := Lib.hid fun k => by
    have h1 := off_le l k
    have h2 := rows_len l
    have h3 := hr.light
    unfold off at h1
    omega
  clear hl hr
  go_enter Try.func26, Try.ntmps26
  go_wp2_with fail
  go_loopw [3, 4, 10] (fun iv rv kv wr => ∃ k : Nat, k ≤ l.length ∧ kv = .int .i64 (k : Nat) ∧ Hid (Two w wr iv rv (Tb.idx 0 0 (l.take k)) (rows (l.take k)))) (fun _ _ kv _ => l.length - (intOf kv).toNat)
  case atStart => exact ⟨0, Nat.zero_le _, rfl, Lib.hid ⟨OwnB.nil _ _, OwnB.nil _ _, fun b hb => by simp [Value.ownBlock] at hb, Below.refl _ _⟩⟩
  case round =>
    obtain ⟨k, hk, rfl, H2⟩ := hrel
    by_cases hlt : k < l.length
    · have i0 : (k : Int) < (l.length : Int) := by omega
      have i1 : (0 : Int) ≤ (k : Int) := by omega
      obtain ⟨A, rfl, c0, c1, c2, hin⟩ := HL.out.at H2.out.2.2.2 hlt
      obtain ⟨pi, ci, e1, -, -⟩ := H2.out.1.shape
      obtain ⟨pr, cr, e2, -, -⟩ := H2.out.2.1.shape
      have HTK : Hid (l.take (k + 1) = l.take k ++ [l[k]]) := Lib.hid (List.take_succ_eq_append_getElem hlt)
      have HOK := Lib.hid (HR.out.ok _ (List.getElem_mem hlt))
      have hIl := HI.out k
      have hRl := HW.out k
      have hkl : (l.take k).length = k := by rw [List.length_take]; omega
      have HKL := Lib.hid hkl
      clear hkl
      generalize hX : l[k] = x at *
      have hok := HOK.out.2.1
      obtain ⟨T, hT⟩ : ∃ T, T = l.take k := ⟨_, rfl⟩
      rw [← hT] at H2 e1 e2 hIl hRl HTK HKL
      have HT := Lib.hid hT
      clear hT hX hin
      obtain ⟨I, hI⟩ : ∃ I, I = Tb.idx 0 0 T := ⟨_, rfl⟩
      obtain ⟨R, hRR⟩ : ∃ R, R = rows T := ⟨_, rfl⟩
      have HIR := Lib.hid (And.intro hI hRR)
      rw [← hI, ← hRR] at H2
      rw [← hI] at e1 hIl
      rw [← hRR] at e2 hRl
      subst e1 e2
      clear hI hRR
      have HN : Hid (∀ (W : World) (iv rv : Value), Two w W iv rv (I ++ (if k % 16 = 0 then le 4 R.length ++ (le 1 x.key.size ++ bl x.key) else [])) (R ++ row x) → Two w W iv rv (Tb.idx 0 0 (l.take (k + 1))) (rows (l.take (k + 1)))) := Lib.hid fun W iv rv h => by
        rw [HTK.out]; refine Two.idx (l := T) (iv := iv) (rv := rv) ?_; rw [← HIR.out.1, ← HIR.out.2, HKL.out]; exact h
      clear HIR HTK HT HKL
      have H3 := Lib.hid (H2.out.below (below_alloc wr (.cells #[.string x.key, .string x.value, .bool x.gone] 31)))
      have hb3 := heap_alloc_new wr (.cells #[.string x.key, .string x.value, .bool x.gone] 31)
      have hz := H2.out.size
      obtain ⟨b, hb⟩ : ∃ b, b = wr.heap.size := ⟨_, rfl⟩
      rw [← hb] at hb3
      have HBN : Hid ((∀ k, (Value.slice pi I.length ci).ownBlock = some k → k ≠ b) ∧ (∀ k, (Value.slice pr R.length cr).ownBlock = some k → k ≠ b)) := Lib.hid ⟨fun k hk => by have := (H2.out.1.lt k hk).2; omega, fun k hk => by have := (H2.out.2.1.lt k hk).2; omega⟩
      have HB3 := Lib.hid hb3
      have HB := Lib.hid hb
      have z3 : w.heap.size ≤ (wr.alloc (.cells #[.string x.key, .string x.value, .bool x.gone] 31)).heap.size := H3.out.size
      clear hb3 hb H2
      have hrow : ∀ (W : World) (iv rv : Value), Two w W iv rv I R → True := fun _ _ _ _ => trivial
      clear hrow
      by_cases h16 : k % 16 = 0
      · have d16 : ((k : Int) % 16 == 0) = true := by rw [beq_iff_eq]; omega
        have HN2 : Hid (∀ (W : World) (iv rv : Value), Two w W iv rv (I ++ le 4 R.length ++ le 1 x.key.size ++ bl x.key) (R ++ row x) → Two w W iv rv (Tb.idx 0 0 (l.take (k + 1))) (rows (l.take (k + 1)))) := Lib.hid fun W iv rv h => HN.out W iv rv (by rw [if_pos h16]; simpa [List.append_assoc] using h)
        clear HN h16
        go_wp2_with fail
        refine (number_is H3.out.1 z3 4 R.length rfl rfl (by omega) (by omega) (by omega)).mono ?_
        rintro r W1 ⟨v1, rfl, o1, g1⟩
        have H4 := Lib.hid (H3.out.grewI o1 g1)
        have hb4 := g1.box HB3.out (fun e => HBN.out.1 _ e rfl)
        have HB4 := Lib.hid hb4
        obtain ⟨d0, d1, d2⟩ := cells3 hb4.1
        obtain ⟨D, hD⟩ : ∃ D, D = I ++ le 4 R.length := ⟨_, rfl⟩
        have hDl : D.length ≤ 1000004 := by rw [hD, List.length_append, le_len]; omega
        rw [← hD] at H4 HN2 o1
        obtain ⟨p1, c1', e1, -, -⟩ := o1.shape
        subst e1
        rw [HB.out] at d0 d1 d2
        have z4 := Nat.le_trans z3 g1.size
        clear o1 g1 hb4 hD c0 c1 c2
        go_wp2_with fail
        have H4d := Lib.hid (H4.out.below (below_drew W1))
        have HB4d : Hid (W1.drew.heap[b]? = some (.cells #[.string x.key, .string x.value, .bool x.gone] 31 (0, 0)) ∧ (Value.slice p1 D.length c1').ownBlock ≠ some b) := HB4
        have z4d : w.heap.size ≤ W1.drew.heap.size := z4
        go_region_law (first
          | (go_simp; go_at_call 35; refine (number_is H4d.out.1 z4d 1 x.key.size rfl rfl (by omega) (by omega) (by omega)).mono ?_; rintro r W2 ⟨v2, rfl, o2, g2⟩; have H5 := Lib.hid (H4d.out.grewI o2 g2); have hb5 := g2.box HB4d.out.1 HB4d.out.2; have HB5 := Lib.hid hb5; obtain ⟨f0, f1, f2⟩ := cells3 hb5.1; rw [HB.out] at f0 f1 f2; have z5 := Nat.le_trans z4d g2.size; obtain ⟨p2, c2', e2, -, -⟩ := o2.shape; subst e2; clear g2 hb5 d0 d1 d2)
          | (obtain ⟨pv, cv, W3, hrun, o3, g3⟩ := b_append_str H5.out.1 x.key (by rw [List.length_append, le_len]; omega) z5 39; have H6 := Lib.hid (H5.out.grewI o3 g3); have HB6 := Lib.hid (g3.box HB5.out.1 HB5.out.2); have z6 := Nat.le_trans z5 g3.size; refine tab_append_run rfl (.tmp 26) (.tmp 28) 39 9 rfl _ _ (by simp [Act.eval, Act.put]) (by simp [Act.eval, Act.put]) _ _ hrun ?_; clear hrun g3 o3))
        all_goals
          obtain ⟨f0, f1, f2⟩ := cells3 HB6.out.1
          rw [HB.out] at f0 f1 f2
          go_wp2_with fail
          refine (row_any H6.out.2.1 z6 (by omega) x HOK.out).mono ?_
          rintro r W4 ⟨v4, rfl, o4, g4⟩
          have H7 := Lib.hid (HN2.out _ _ _ (H6.out.grewR o4 g4))
          clear o4 g4 f0 f1 f2
          go_wp2_with fail
          go_roundw
          case rel => exact ⟨k + 1, by omega, by go_num, by rw [List.length_append] at H7; exact H7⟩
          case measure => simp [intOf]; omega
      · have d16 : ((k : Int) % 16 == 0) = false := by rw [beq_eq_false_iff_ne]; omega
        have HN2 : Hid (∀ (W : World) (iv rv : Value), Two w W iv rv I (R ++ row x) → Two w W iv rv (Tb.idx 0 0 (l.take (k + 1))) (rows (l.take (k + 1)))) := Lib.hid fun W iv rv h => HN.out W iv rv (by rw [if_neg h16, List.append_nil]; exact h)
        clear HN h16
        go_wp2_with fail
        refine (row_any H3.out.2.1 z3 (by omega) x HOK.out).mono ?_
        rintro r W1 ⟨v1, rfl, o1, g1⟩
        have H4 := Lib.hid (HN2.out _ _ _ (H3.out.grewR o1 g1))
        clear o1 g1 c0 c1 c2
        go_wp2_with fail
        go_roundw
        case rel => exact ⟨k + 1, by omega, by go_num, H4⟩
        case measure => simp [intOf]; omega
    · obtain rfl : k = l.length := by omega
      have i0 : ¬ (l.length : Int) < (l.length : Int) := by omega
      have hIl := HI.out l.length
      have hRl := HW.out l.length
      rw [List.take_length] at H2 hIl hRl
      have HP := Lib.hid (text_parts l)
      obtain ⟨C, hC⟩ : ∃ C, C = Sm.crc (Tb.body l) := ⟨_, rfl⟩
      have HBT : Hid (Tb.text l = Tb.body l ++ le 4 C) := Lib.hid (by rw [hC]; rfl)
      have hc : C < 4294967296 := by rw [hC]; exact crc_lt (Tb.body l)
      have hbl : (Tb.body l).length ≤ 2000002 := by unfold Tb.body; rw [List.length_append, List.length_append, le_len]; omega
      obtain ⟨I, hI⟩ : ∃ I, I = Tb.idx 0 0 l := ⟨_, rfl⟩
      obtain ⟨R, hRR⟩ : ∃ R, R = rows l := ⟨_, rfl⟩
      rw [← hI, ← hRR] at H2 HP
      rw [← hI] at hIl
      rw [← hRR] at hRl
      obtain ⟨pi, ci, e1, -, -⟩ := H2.out.1.shape
      obtain ⟨pr, cr, e2, -, -⟩ := H2.out.2.1.shape
      subst e1 e2
      have H2d := Lib.hid (H2.out.below (below_drew wr))
      have z2 : w.heap.size ≤ wr.drew.heap.size := H2.out.size
      obtain ⟨S2, hS2⟩ : ∃ S2 : ByteArray, S2 = ⟨(le 2 l.length).toArray⟩ := ⟨_, rfl⟩
      obtain ⟨SI, hSI⟩ : ∃ S2 : ByteArray, S2 = ⟨I.toArray⟩ := ⟨_, rfl⟩
      obtain ⟨SR, hSR⟩ : ∃ S2 : ByteArray, S2 = ⟨R.toArray⟩ := ⟨_, rfl⟩
      obtain ⟨SB, hSB⟩ : ∃ S2 : ByteArray, S2 = ⟨(Tb.body l).toArray⟩ := ⟨_, rfl⟩
      have s2 : S2.size = 2 := by rw [hS2, tsize, le_len]
      have sI : SI.size ≤ 1000000 := by rw [hSI, tsize]; omega
      have sR : SR.size ≤ 1000000 := by rw [hSR, tsize]; omega
      have sB : SB.size ≤ 2000002 := by rw [hSB, tsize]; omega
      have HSB : Hid (SB.data.toList = Tb.body l) := Lib.hid (by rw [hSB])
      have hv1 := own_conv H2d.out.1 rfl
      have hv2 := own_conv H2d.out.2.1 rfl
      rw [← hSI] at hv1
      rw [← hSR] at hv2
      rw [← hS2, ← hSI, ← hSR, ← hSB] at HP
      have HS2 := Lib.hid hS2
      have HSI := Lib.hid hSI
      have HSR := Lib.hid hSR
      have HSB2 := Lib.hid hSB
      have a1 := fun u => run_string_add_sum (P := Try.prog) u S2 SI (by omega)
      have a2 := fun u => run_string_add_sum (P := Try.prog) u (S2 ++ SI) SR (by rw [ByteArray.size_append]; omega)
      have HC := Lib.hid hC
      clear hI hRR hS2 hSI hSR hSB s2 hC
      go_wp2_with fail
      go_region_law (go_simp; go_at_call 35; refine (number_is (OwnB.nil _ w.heap.size) z2 2 l.length rfl rfl (by omega) (by simp) (by omega)).mono ?_; rintro r W2 ⟨v2, rfl, o2, g2⟩; have hb := g2.none; have H3 := Lib.hid (H2d.out.below hb); have hv1 := own_conv H3.out.1 rfl; have hv2 := own_conv H3.out.2.1 rfl; rw [← HSI.out] at hv1; rw [← HSR.out] at hv2; obtain ⟨p2, c2, e2, -, -⟩ := o2.shape; subst e2; have hv3 := own_conv o2 rfl; rw [List.nil_append, ← HS2.out] at hv3; clear o2 g2 hb)
      all_goals
        rename_i W2 _ _
        clear hv1 hv2 hv3 a1 a2
        rw [HP.out]
        go_wp2_with fail
        refine (Crc_any SB W2 (by unfold maxLen; omega)).mono ?_
        rintro e W5 ⟨rfl, hb5⟩
        have H5 := Lib.hid (H3.out.below hb5)
        clear hb5
        rw [HSB.out, ← HC.out]
        go_wp2_with fail
        refine (number_is (OwnB.nil W5 w.heap.size) H5.out.size 4 C rfl rfl (by omega) (by simp) (by omega)).mono ?_
        rintro r W6 ⟨v6, rfl, o6, g6⟩
        have H6 := Lib.hid (H5.out.below g6.none).2.2.2
        obtain ⟨p6, c6, e6, -, -⟩ := o6.shape
        subst e6
        have hv := own_conv o6 rfl
        rw [List.nil_append] at hv
        have HE : Hid (SB ++ ⟨(le 4 C).toArray⟩ = ⟨(Tb.text l).toArray⟩) := Lib.hid (by rw [HSB2.out, HBT.out, ByteArray.mk_append_mk])
        have a3 := fun u => run_string_add_sum (P := Try.prog) u SB ⟨(le 4 C).toArray⟩ (by rw [tsize (le 4 C), le_len]; omega)
        clear o6 g6
        go_wp2_with fail
        go_ret
        exact ⟨by rw [HE.out]; rfl, H6.out⟩
end Go.Proofs.Ytgmaccfhgeocdaa
