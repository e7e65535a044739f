/-
  Walks over the document's answer for tables of entries: rows that it builds (entries, From). Conditions: those in the theorems.
-/
import Derived.Test.YtgmaccfhgeocdaaTabRefA
import Derived.Test.YtgmaccfhgeocdaaTabLess
namespace Go.Proofs.Ytgmaccfhgeocdaa
open Go.RowKit Tb

theorem infoRef : (Try.prog.info? 46).map (fun i => (i.zero, i.size, i.bytes)) = some (some (.agg #[.string ⟨#[]⟩, .string ⟨#[]⟩, .bool false]), 3, 40) := by kernel_rfl
/-- v is a row of the entries xs, in a block of its own, not below base. -/
def OwnRef (W : World) (base : Nat) (v : Value) (xs : List En) : Prop := W.ownsRow base 46 3 v xs.length (ensCells xs)
section
variable {W C : World} {base : Nat} {v : Value} {xs : List En}
theorem OwnRef.nil (W : World) (base : Nat) : OwnRef W base (.slice none 0 0) [] := World.ownsRow_nil _ _ _ _
theorem OwnRef.lt (h : OwnRef W base v xs) : ∀ k, v.ownBlock = some k → base ≤ k ∧ k < W.heap.size := World.ownsRow.lt h
theorem OwnRef.shape (h : OwnRef W base v xs) : ∃ p cap, v = .slice p xs.length cap ∧ xs.length ≤ cap ∧ cap ≤ maxLen := by
  rcases h.2 with ⟨rfl, e⟩ | ⟨g, cap, cur, rfl, h2, h3, h4, h5, -⟩
  · rw [e]; exact ⟨none, 0, rfl, Nat.le_refl _, Nat.zero_le _⟩
  · exact ⟨_, _, rfl, h4, h5⟩
theorem OwnRef.stays (h : OwnRef W base v xs) (hb : ∀ k, k < W.heap.size → v.ownBlock = some k → C.heap[k]? = W.heap[k]?) : OwnRef C base v xs := by
  refine ⟨h.1, ?_⟩
  rcases h.2 with hn | ⟨g, cap, cur, rfl, h1, h2, h3⟩
  · exact .inl hn
  · exact .inr ⟨g, cap, cur, rfl, h1, (hb g (Array.getElem?_eq_some_iff.1 h2).1 rfl).trans h2, h3⟩
theorem OwnRef.below (h : OwnRef W base v xs) (hb : Below W.heap.size W C) : OwnRef C base v xs := h.stays fun k hk _ => hb.block k hk
theorem OwnRef.ents (h : OwnRef W base v xs) (hp : ∀ x ∈ xs, EnIn x) : ∃ p cap, v = .slice p xs.length cap ∧ xs.length ≤ cap ∧ cap ≤ maxLen ∧ EntsAt W p xs := by
  rcases h.2 with ⟨rfl, hn⟩ | ⟨g, cap, cur, rfl, h1, h2, h3, h4, h5, h6⟩
  · rw [hn]; exact ⟨none, 0, rfl, Nat.le_refl _, Nat.zero_le _, fun i hi => by omega⟩
  · refine ⟨some ⟨g, 0, none⟩, cap, rfl, h3, h4, fun i hi => ⟨_, rfl, (Array.getElem?_eq_some_iff.1 h2).1, fun j hj => ?_, hp _ (List.getElem_mem hi)⟩⟩
    have hadd : (⟨g, 0, none⟩ : Addr).add (i * 3 + j) = ⟨g, i * 3 + j, none⟩ := by unfold Addr.add; split <;> simp_all
    rw [hadd, cell_of_row W g _ cur _ _ h2, ← ensCells_get hi hj, ← h6, List.getElem?_take, if_pos (by omega)]; simp
end
/-- Entries that lie at A are appended; the world may have new blocks since the row was looked at. -/
theorem r_append {W0 W : World} {base : Nat} {v : Value} {l : List En} (h : OwnRef W0 base v l) (hb0 : Below W0.heap.size W0 W) (A : Addr) (r : List En) (m c : Nat) (hm : r.length = m) (hnews : ∀ q u, (ensCells r)[q]? = some u → W.cell? (A.add q) = some u) (hs : l.length + m ≤ 1000000) (hb : base ≤ W0.heap.size) (ty : TypeId) :
    ∃ (pv : Option Addr) (cv : Nat) (W' : World), (Builtin.append_ #[43, 43] ty #[v, .slice (some A) m c]).run Try.prog W = .ok (.slice pv (l.length + m) cv) W' ∧
      OwnRef W' base (.slice pv (l.length + m) cv) (l ++ r) ∧ Grew v (.slice pv (l.length + m) cv) W0 W' := by
  subst hm
  have h0 := h.below hb0
  have hz := hb0.size
  obtain ⟨i0, hi0, hz0, hz1, hz2⟩ := info_parts infoRef
  obtain ⟨v', W', hrun, ho, hg, -, hown⟩ := run_append_own_at (P := Try.prog) W base 43 ty 46 i0 _ 3 40 Try.underlying43 hi0 hz0 hz1 hz2 rfl (by decide) v _ _ h0
    A r.length c (ensCells r) (ensCells_length r) hnews (ensCells_one r) (by unfold maxLen; omega) (by omega) (by omega)
  have ho2 : OwnRef W' base v' (l ++ r) := by unfold OwnRef; rw [ensCells_append, List.length_append]; exact ho
  obtain ⟨pv, cv, rfl, -, -⟩ := ho2.shape
  rw [List.length_append] at hrun ho2 hown
  refine ⟨pv, cv, W', hrun, ho2, hg.os.trans hb0.os, hg.tape.trans hb0.tape, hg.output.trans hb0.output, Nat.le_trans hz hg.size, fun k hk hn => ?_, fun k hk => ?_⟩
  · exact (hg.block k (by omega) fun e => hn e.symm).trans (hb0.block k hk)
  · rcases hown with e | e
    · exact .inl (e ▸ hk)
    · rw [e] at hk
      simp only [Option.some.injEq] at hk
      exact .inr (by omega)

/-- A row of entries that a call has made. -/
def Made (l : List En) (w : World) (e : Ending) (w' : World) : Prop := ∃ q c, e = .returned (.slice q l.length c) ∧ EntsAt w' q l ∧ Below w.heap.size w w' ∧ l.length ≤ c ∧ c ≤ maxLen
set_option maxRecDepth 100000 in
set_option maxHeartbeats 4000000 in
theorem entries_any {w : World} {p : Option Addr} {cap : Nat} {l : List En} (hl : EntsAt w p l) (hn : l.length ≤ 5000) :
    Calls Try.prog 16 #[.slice p l.length cap] w (Made l w) := by
  have HL := Lib.hid hl
  clear hl
  go_enter Try.func16, Try.ntmps16
  go_wp2_with fail
  go_loopw [3, 4] (fun mv iv wr => ∃ k : Nat, k ≤ l.length ∧ iv = .int .i64 (k : Nat) ∧ Hid (Below w.heap.size w wr ∧ OwnRef wr w.heap.size mv (l.take k))) (fun _ iv _ => l.length - (intOf iv).toNat)
  case atStart => exact ⟨0, Nat.zero_le _, rfl, Lib.hid ⟨Below.refl _ _, OwnRef.nil _ _⟩⟩
  case round =>
    obtain ⟨k, hk, rfl, HR⟩ := hrel
    obtain ⟨pm, cm, hmv, -, -⟩ := HR.out.2.shape
    have hml : (l.take k).length = k := by rw [List.length_take]; omega
    rw [hml] at hmv
    subst hmv
    by_cases hlt : k < l.length
    · obtain ⟨A, rfl, a0, a1, a2, -⟩ := HL.out.at HR.out.1 hlt
      have i0 : (k : Int) < (l.length : Int) := by omega
      have i1 : (0 : Int) ≤ (k : Int) := by omega
      have HTK := Lib.hid (List.take_succ_eq_append_getElem hlt)
      generalize l[k] = x at *
      have hbw := below_alloc wr (.cells #[.string x.key, .string x.value, .bool x.gone] 46)
      obtain ⟨pv, cv, W3, hrun, ho3, hg3⟩ := r_append HR.out.2 hbw ⟨wr.heap.size, 0, none⟩ [x] 1 1 rfl (news_three wr _ _ _ _) (by rw [hml]; omega) HR.out.1.size 43
      rw [hml] at hrun ho3 hg3
      have HB3 := Lib.hid (hg3.below HR.out.1 HR.out.1.size fun q hq => (HR.out.2.lt q hq).1)
      have HO3 := Lib.hid ho3
      clear hbw ho3 hg3
      go_wp2_with (at_builtin; refine Lib.wpList_append_run _ rfl (.tmp 11) (.tmp 16) _ _ rfl _ _ rfl rfl _ _ hrun ?_)
      go_roundw
      case rel => exact ⟨k + 1, by omega, by go_num, Lib.hid ⟨HB3.out, by rw [HTK.out]; exact HO3.out⟩⟩
      case measure => simp [intOf]; omega
    · obtain rfl : k = l.length := by omega
      have i0 : ¬ (l.length : Int) < (l.length : Int) := by omega
      have ho := HR.out.2
      rw [List.take_length] at ho
      obtain ⟨q2, c2, e2, hc1, hc2, hat⟩ := ho.ents fun e he => by
        obtain ⟨i, hi, rfl⟩ := List.getElem_of_mem he
        exact (HL.out i hi).elim fun _ h => h.2.2.2
      have HAT := Lib.hid hat
      have HE := Lib.hid e2
      have HC := Lib.hid (And.intro hc1 hc2)
      clear ho hat e2 hc1 hc2
      go_wp2_with fail
      go_ret
      exact ⟨q2, c2, by have := HE.out; simp at this ⊢; exact this, HAT.out, HR.out.1, HC.out⟩
theorem filter_take {l : List En} {k : Nat} (h : k < l.length) (f : En → Bool) : (l.take (k + 1)).filter f = (l.take k).filter f ++ (if f l[k] then [l[k]] else []) := by
  rw [List.take_succ_eq_append_getElem h, List.filter_append]
  congr 1
  by_cases hf : f l[k] = true
  · simp [hf]
  · simp [hf]
/-- The entries whose keys are not less than the key. -/
def fromE (l : List En) (key : ByteArray) : List En := l.filter fun e => !Mm.lt e.key key
set_option maxRecDepth 100000 in
set_option maxHeartbeats 4000000 in
theorem reffrom_any {w : World} {p : Option Addr} {cap : Nat} {l : List En} (hl : EntsAt w p l) (hn : l.length ≤ 5000) (key : ByteArray) (hk : key.size ≤ maxLen) :
    Calls Try.prog 20 #[.slice p l.length cap, .string key] w (Made (fromE l key) w) := by
  have HL := Lib.hid hl
  have HK := Lib.hid hk
  clear hl hk
  go_enter Try.func20, Try.ntmps20
  go_wp2_with fail
  go_loopw [5, 6] (fun mv iv wr => ∃ k : Nat, k ≤ l.length ∧ iv = .int .i64 (k : Nat) ∧ Hid (Below w.heap.size w wr ∧ OwnRef wr w.heap.size mv (fromE (l.take k) key))) (fun _ iv _ => l.length - (intOf iv).toNat)
  case atStart => exact ⟨0, Nat.zero_le _, rfl, Lib.hid ⟨Below.refl _ _, OwnRef.nil _ _⟩⟩
  case round =>
    obtain ⟨k, hk, rfl, HR⟩ := hrel
    obtain ⟨pm, cm, hmv, -, -⟩ := HR.out.2.shape
    obtain ⟨m, hm⟩ : ∃ m, m = fromE (l.take k) key := ⟨_, rfl⟩
    have hml : m.length ≤ 5000 := by
      rw [hm]; unfold fromE
      refine Nat.le_trans (List.length_filter_le _ _) ?_
      rw [List.length_take]; omega
    rw [← hm] at hmv HR
    have HM := Lib.hid hm
    clear hm
    subst hmv
    by_cases hlt : k < l.length
    · obtain ⟨A, rfl, a0, a1, a2, hin⟩ := HL.out.at HR.out.1 hlt
      have i0 : (k : Int) < (l.length : Int) := by omega
      have i1 : (0 : Int) ≤ (k : Int) := by omega
      have HTK := Lib.hid (filter_take hlt fun e => !Mm.lt e.key key)
      have hks := hin.1
      generalize l[k] = x at *
      have HLS : Hid (∀ W, Calls Try.prog 32 #[.string x.key, .string key] W fun e w' => e = .returned (.bool (Mm.lt x.key key)) ∧ ∃ n, w' = W.drewN n) := Lib.hid fun W => refLess_any _ _ (Nat.le_trans hks (by unfold maxLen; decide)) (Nat.le_trans HK.out (by unfold maxLen; decide)) W
      clear hin hks
      go_wp2_with fail
      refine (HLS.out wr).mono ?_
      rintro e w2 ⟨rfl, nq, rfl⟩
      cases hc : Mm.lt x.key key with
      | true =>
        have HEQ : Hid (fromE (l.take (k + 1)) key = m) := Lib.hid (by unfold fromE; rw [HTK.out]; simp only [hc]; rw [HM.out]; unfold fromE; simp)
        clear hc
        go_wp2_with fail
        go_roundw
        case rel => exact ⟨k + 1, by omega, by go_num, Lib.hid ⟨below_drewN HR.out.1 _, by rw [HEQ.out]; exact HR.out.2.below (below_drewN (Below.refl _ _) _)⟩⟩
        case measure => simp [intOf]; omega
      | false =>
        have HEQ : Hid (fromE (l.take (k + 1)) key = m ++ [x]) := Lib.hid (by unfold fromE; rw [HTK.out]; simp only [hc]; rw [HM.out]; unfold fromE; simp)
        clear hc
        have hb1 := below_drewN HR.out.1 nq
        have ho1 := HR.out.2.below (below_drewN (Below.refl _ _) nq)
        have d0 : (wr.drewN nq).cell? (A.add (k * 3)) = some (.string x.key) := a0
        have d1 : (wr.drewN nq).cell? ⟨(A.add (k * 3)).block, (A.add (k * 3)).off + 1, none⟩ = some (.string x.value) := a1
        have d2 : (wr.drewN nq).cell? ⟨(A.add (k * 3)).block, (A.add (k * 3)).off + 2, none⟩ = some (.bool x.gone) := a2
        generalize wr.drewN nq = w2 at *
        have hbw := below_alloc w2 (.cells #[.string x.key, .string x.value, .bool x.gone] 46)
        obtain ⟨pv, cv, W3, hrun, ho3, hg3⟩ := r_append ho1 hbw ⟨w2.heap.size, 0, none⟩ [x] 1 1 rfl (news_three w2 _ _ _ _) (by omega) hb1.size 43
        have HB3 := Lib.hid (hg3.below hb1 hb1.size fun q hq => (ho1.lt q hq).1)
        have HO3 := Lib.hid ho3
        clear hbw ho3 hg3 hb1 ho1 a0 a1 a2
        go_wp2_with (at_builtin; refine Lib.wpList_append_run _ rfl (.tmp 21) (.tmp 26) _ _ rfl _ _ rfl rfl _ _ hrun ?_)
        go_roundw
        case rel => exact ⟨k + 1, by omega, by go_num, Lib.hid ⟨HB3.out, by rw [HEQ.out]; exact HO3.out⟩⟩
        case measure => simp [intOf]; omega
    · obtain rfl : k = l.length := by omega
      have i0 : ¬ (l.length : Int) < (l.length : Int) := by omega
      have ho := HR.out.2
      have hm := HM.out
      rw [List.take_length] at hm
      obtain ⟨q2, c2, e2, hc1, hc2, hat⟩ := ho.ents fun e he => by
        rw [hm] at he
        obtain ⟨i, hi, rfl⟩ := List.getElem_of_mem (List.mem_filter.1 he).1
        exact (HL.out i hi).elim fun _ h => h.2.2.2
      have HAT := Lib.hid hat
      have HE := Lib.hid e2
      have HMM := Lib.hid hm
      have HC := Lib.hid (And.intro hc1 hc2)
      clear ho hat e2 hm hc1 hc2
      go_wp2_with fail
      go_ret
      exact ⟨q2, c2, by have := HE.out; rw [← HMM.out]; simp at this ⊢; exact this, by rw [← HMM.out]; exact HAT.out, HR.out.1, by rw [← HMM.out]; exact HC.out⟩
end Go.Proofs.Ytgmaccfhgeocdaa
