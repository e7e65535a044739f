/-
  Rows of kept (a name, its bytes) in a walk; but, of. Conditions: at most a thousand of them.
-/
import Derived.Test.YteolagmlghalgaaActsBox
import Derived.Test.YteolagmlghalgaaDiskLastsMath
import Derived.Maps.AppendAt
import Derived.Lib.AppendZeros
namespace Go.Proofs.Yteolagmlghalgaa
open Go.RowKit Go.Maps

abbrev KList := List (ByteArray × ByteArray)
def kCells (e : ByteArray × ByteArray) : List Value := [.string e.1, .string e.2]
def kRow (l : KList) : List Value := l.flatMap kCells
/-- What a list of kept says, in plain lists. -/
def plain (l : KList) : List (List UInt8 × List UInt8) := l.map fun e => (e.1.data.toList, e.2.data.toList)
theorem kRow_length (l : KList) : (kRow l).length = l.length * 2 := by
  unfold kRow
  induction l with
  | nil => rfl
  | cons p r ih => rw [List.flatMap_cons, List.length_append, ih]; simp [kCells]; omega
theorem kRow_append (l m : KList) : kRow (l ++ m) = kRow l ++ kRow m := by unfold kRow; rw [List.flatMap_append]
theorem kRow_get {l : KList} {k : Nat} (hk : k < l.length) {j : Nat} (hj : j < 2) : (kRow l)[k * 2 + j]? = (kCells l[k])[j]? := by
  have h : kRow l = kRow (l.take k) ++ (kCells l[k] ++ kRow (l.drop (k + 1))) := by
    have h1 : kCells l[k] ++ kRow (l.drop (k + 1)) = kRow (l[k] :: l.drop (k + 1)) := by unfold kRow; rw [List.flatMap_cons]
    rw [h1, ← kRow_append, ← List.drop_eq_getElem_cons hk, List.take_append_drop]
  rw [h, List.getElem?_append_right (by rw [kRow_length, List.length_take]; omega), kRow_length, List.length_take]
  have e : k * 2 + j - min k l.length * 2 = j := by omega
  rw [e, List.getElem?_append_left (by simpa [kCells] using hj)]
def KRow (w : World) (v : Value) (l : KList) : Prop := w.ownsRow 0 47 2 v l.length (kRow l)
theorem KRow.shape {w : World} {v : Value} {l : KList} (h : KRow w v l) : ∃ p cap, v = .slice p l.length cap ∧ l.length ≤ cap ∧ cap ≤ maxLen := by
  rcases h.2 with ⟨rfl, e⟩ | ⟨g, cap, cur, rfl, h2, h3, h4, h5, -⟩
  · rw [e]; exact ⟨none, 0, rfl, Nat.le_refl _, Nat.zero_le _⟩
  · exact ⟨_, _, rfl, h4, h5⟩
theorem KRow.at {w : World} {p : Option Addr} {n cap : Nat} {l : KList} (h : KRow w (.slice p n cap) l) {i : Nat} (hi : i < l.length) :
    ∃ g, p = some ⟨g, 0, none⟩ ∧ w.cell? ⟨g, i * 2, none⟩ = some (.string l[i].1) ∧ w.cell? ⟨g, i * 2 + 1, none⟩ = some (.string l[i].2) := by
  rcases h.2 with ⟨e, e2⟩ | ⟨g, cap', cur, e, h2, hg, h4, h5, h6, h7⟩
  · omega
  · cases e
    have cell : ∀ j, j < 2 → w.cell? ⟨g, i * 2 + j, none⟩ = (kCells l[i])[j]? := fun j hj => by
      rw [cell_of_row w g _ cur _ _ hg, ← kRow_get hi hj, ← h7, List.getElem?_take, if_pos (by omega)]; simp
    exact ⟨g, rfl, cell 0 (by omega), cell 1 (by omega)⟩
theorem KRow.of {w W : World} {v : Value} {l : KList} (h : KRow w v l) (hk : ∀ k ∈ rowBlk v, W.heap[k]? = w.heap[k]?) : KRow W v l := by
  refine ⟨h.1, ?_⟩
  rcases h.2 with h1 | ⟨g, cap, cur, rfl, h2, h3, h4⟩
  · exact .inl h1
  · exact .inr ⟨g, cap, cur, rfl, h2, (hk g (by simp [rowBlk])).trans h3, h4⟩
theorem KRow.lt {w : World} {v : Value} {l : KList} (h : KRow w v l) : ∀ k ∈ rowBlk v, k < w.heap.size := by
  rcases h.2 with ⟨rfl, -⟩ | ⟨g, cap, cur, rfl, h2, h3, h4⟩
  · exact fun k hk => nomatch hk
  · intro k hk; simp [rowBlk] at hk; rw [hk]; exact (Array.getElem?_eq_some_iff.1 h3).1
theorem KRow.below {w W : World} {v : Value} {l : KList} (h : KRow w v l) (hb : Below w.heap.size w W) : KRow W v l := h.of fun k hk => hb.block k (h.lt k hk)
theorem KRow.nil (w : World) : KRow w (.slice none 0 0) [] := World.ownsRow_nil _ _ _ _
theorem ownBlock_row {v : Value} {k : Nat} : v.ownBlock = some k ↔ k ∈ rowBlk v := by
  unfold Value.ownBlock rowBlk
  split <;> simp_all [eq_comm]
theorem infoKept : (Try.prog.info? 47).map (fun i => (i.zero, i.size, i.bytes)) = some (some (.agg #[.string ⟨#[]⟩, .string ⟨#[]⟩]), 2, 32) := by kernel_rfl

/-- An append of one to the list. -/
theorem append_kept {w : World} {v : Value} {l : KList} (h : KRow w v l) (n d : ByteArray) (g : Nat) (hsrc : w.heap[g]? = some (.cells #[.string n, .string d] 47 (0, 0))) (hl : l.length < 1000000) (ty : TypeId) :
    ∃ (pv : Option Addr) (cv : Nat) (w4 : World), (Builtin.append_ #[42, 42] ty #[v, .slice (some ⟨g, 0, none⟩) 1 1]).run Try.prog w = .ok (.slice pv (l ++ [(n, d)]).length cv) w4 ∧
      KRow w4 (.slice pv (l ++ [(n, d)]).length cv) (l ++ [(n, d)]) ∧ Turned (fun k => k ∈ rowBlk v) w w4 ∧ (∀ k ∈ rowBlk (.slice pv (l ++ [(n, d)]).length cv), k ∈ rowBlk v ∨ w.heap.size ≤ k) := by
  obtain ⟨i0, hi0, hz0, hz1, hz2⟩ := info_parts infoKept
  have hnews : ∀ j u, (kCells (n, d))[j]? = some u → w.cell? ((⟨g, 0, none⟩ : Addr).add j) = some u := fun j u hu => by
    have hadd : (⟨g, 0, none⟩ : Addr).add j = ⟨g, j, none⟩ := by unfold Addr.add; split <;> simp_all
    rw [hadd, cell_of_row _ _ _ _ _ _ hsrc]
    simpa [kCells] using hu
  obtain ⟨v', w4, hrun, ho, hg, hnil, hat⟩ := run_append_own_at (P := Try.prog) w 0 42 ty 47 i0 _ 2 32 Try.underlying42 hi0 hz0 hz1 hz2 rfl (by decide) v _ _ h
    ⟨g, 0, none⟩ 1 1 (kCells (n, d)) rfl hnews (fun u hu => by simp [kCells] at hu; rcases hu with rfl | rfl <;> rfl) (by unfold maxLen; omega) (by omega) (Nat.zero_le _)
  have ho2 : KRow w4 v' (l ++ [(n, d)]) := by
    unfold KRow
    rw [kRow_append, List.length_append]
    have e : kRow [(n, d)] = kCells (n, d) := by simp [kRow]
    rw [e]; exact ho
  obtain ⟨pv, cv, rfl, -, -⟩ := ho2.shape
  refine ⟨pv, cv, w4, hrun, ho2, turned_grown (S := fun k => k ∈ rowBlk v) hg fun k hk => ownBlock_row.1 hk, fun k hk => ?_⟩
  rcases hat with e | e
  · exact .inl (ownBlock_row.1 (by rw [← e]; exact ownBlock_row.2 hk))
  · have e2 := ownBlock_row.2 hk
    rw [e] at e2
    have e3 := Option.some.inj e2
    exact .inr (by omega)

def butK (l : KList) (n : ByteArray) : KList := l.filter fun e => !(e.1.data.toList == n.data.toList)
theorem plain_but (l : KList) (n : ByteArray) : plain (butK l n) = Dm.but (plain l) n.data.toList := by
  unfold plain butK Dm.but; rw [List.filter_map]; rfl
theorem butK_len (l : KList) (n : ByteArray) : (butK l n).length ≤ l.length := List.length_filter_le _ _
theorem butK_yes {l : KList} {n : ByteArray} {k : Nat} (hk : k < l.length) (h : l[k].1.data.toList ≠ n.data.toList) : butK (l.take (k + 1)) n = butK (l.take k) n ++ [l[k]] := by
  unfold butK; rw [List.take_succ_eq_append_getElem hk, List.filter_append]
  congr 1
  rw [List.filter_cons_of_pos (by simpa using h)]; rfl
theorem butK_no {l : KList} {n : ByteArray} {k : Nat} (hk : k < l.length) (h : l[k].1.data.toList = n.data.toList) : butK (l.take (k + 1)) n = butK (l.take k) n := by
  unfold butK; rw [List.take_succ_eq_append_getElem hk, List.filter_append]
  rw [List.filter_cons_of_neg (by simpa using h)]; simp

set_option maxRecDepth 100000 in
set_option maxHeartbeats 4000000 in
theorem but_any {w : World} {p : Option Addr} {cap : Nat} {l : KList} (h : KRow w (.slice p l.length cap) l) (n : ByteArray) (hl : l.length ≤ 1000) :
    Calls Try.prog 28 #[.slice p l.length cap, .string n] w fun e w' => ∃ pv cv, e = .returned (.slice pv (butK l n).length cv) ∧ KRow w' (.slice pv (butK l n).length cv) (butK l n) ∧ (∀ k ∈ rowBlk (.slice pv (butK l n).length cv), w.heap.size ≤ k) ∧ Below w.heap.size w w' := by
  have HL := Lib.hid h
  clear h
  go_enter Try.func28, Try.ntmps28
  go_wp2_with fail
  go_loopw [5, 6] (fun mv iv wr => ∃ (k : Nat) (pv : Option Addr) (cv : Nat), k ≤ l.length ∧ iv = .int .i64 (k : Nat) ∧ mv = .slice pv (butK (l.take k) n).length cv ∧ Hid (KRow wr (.slice pv (butK (l.take k) n).length cv) (butK (l.take k) n) ∧ (∀ k' ∈ rowBlk (.slice pv (butK (l.take k) n).length cv), w.heap.size ≤ k') ∧ Below w.heap.size w wr)) (fun _ iv _ => l.length - (intOf iv).toNat)
  case atStart => exact ⟨0, none, 0, Nat.zero_le _, rfl, rfl, Lib.hid ⟨KRow.nil w, (fun _ h => nomatch h), Below.refl _ _⟩⟩
  case round =>
    obtain ⟨k, pv, cv, hk, rfl, rfl, HK⟩ := hrel
    by_cases hlt : k < l.length
    · have i1 : (k : Int) < (l.length : Int) := by omega
      have i2 : (0 : Int) ≤ (k : Int) := by omega
      obtain ⟨g, rfl, c0, c1⟩ := (HL.out.below HK.out.2.2).at hlt
      by_cases hn : l[k].1.data.toList = n.data.toList
      · have HE := Lib.hid (butK_no hlt hn)
        have hq : l[k].1 = n := by
          have h1 : l[k].1.data = n.data := Array.toList_inj.1 hn
          cases hx : l[k].1; cases n; simp_all
        rw [hq] at c0
        clear hn hq
        go_wp2_with fail
        go_roundw
        case rel => exact ⟨k + 1, pv, cv, by omega, rfl, by rw [HE.out], by rw [HE.out]; exact HK⟩
        case measure => simp [intOf]; omega
      · have HE := Lib.hid (butK_yes hlt hn)
        have hne : (l[k].1.toList == n.toList) = false := by
          rw [beq_eq_false_iff_ne, ByteArray.toList_eq, ByteArray.toList_eq]; exact hn
        have hle := butK_len (l.take k) n
        have hle2 : (l.take k).length ≤ k := List.length_take_le _ _
        have hbA : Below wr.heap.size wr (wr.alloc (.cells #[.string l[k].1, .string l[k].2] 47)) := (Below.refl _ _).alloc (Nat.le_refl _) _
        obtain ⟨pv', cv', w4, hrun, h4, hT, hb⟩ := append_kept (HK.out.1.below hbA) l[k].1 l[k].2 wr.heap.size (heap_alloc_new wr _) (by omega) 42
        have HN := Lib.hid (show KRow w4 _ _ ∧ (∀ k' ∈ rowBlk (.slice pv' (butK (l.take k) n ++ [l[k]]).length cv'), w.heap.size ≤ k') ∧ Below w.heap.size w w4 from
          ⟨h4, fun k' hk' => (hb k' hk').elim (HK.out.2.1 k') fun e => Nat.le_trans HK.out.2.2.size (Nat.le_trans hbA.size e), (HK.out.2.2.trans (hbA.mono HK.out.2.2.size)).trans (hT.below (Nat.le_trans HK.out.2.2.size hbA.size) HK.out.2.1)⟩)
        clear h4 hT hb hle hle2 hn hbA
        go_wp2_with (at_builtin; refine Lib.wpList_append_run _ rfl (.tmp 20) (.tmp 25) _ _ rfl _ _ rfl rfl _ _ hrun ?_)
        go_roundw
        case rel => exact ⟨k + 1, pv', cv', by omega, rfl, by rw [HE.out, List.length_append]; rfl, by rw [HE.out]; exact HN⟩
        case measure => simp [intOf]; omega
    · obtain rfl : k = l.length := by omega
      have i1 : ¬ (l.length : Int) < (l.length : Int) := by omega
      rw [List.take_length] at HK ⊢
      go_wp2_with fail
      go_ret
      exact ⟨pv, cv, rfl, HK.out⟩

/-- What is known of a file. -/
def ofK (l : KList) (n : ByteArray) : ByteArray × Bool := match l.find? fun e => e.1.data.toList == n.data.toList with
  | some e => (e.2, true)
  | none => (⟨#[]⟩, false)
theorem ofK_mem {l : KList} {n : ByteArray} (h : (ofK l n).2 = true) : (n.data.toList, (ofK l n).1.data.toList) ∈ plain l := by
  unfold ofK at h ⊢
  cases hf : l.find? (fun e => e.1.data.toList == n.data.toList) with
  | none => rw [hf] at h; cases h
  | some e =>
    have h1 := List.find?_some hf
    have h2 := List.mem_of_find?_eq_some hf
    simp only at h1 ⊢
    unfold plain
    refine List.mem_map.2 ⟨e, h2, ?_⟩
    rw [beq_iff_eq.1 h1]
theorem ofK_at {l : KList} {n : ByteArray} {k : Nat} (hk : k < l.length) (hb : ∀ j (hj : j < k), l[j].1.data.toList ≠ n.data.toList) (h : l[k].1.data.toList = n.data.toList) : ofK l n = (l[k].2, true) := by
  unfold ofK
  have : l.find? (fun e => e.1.data.toList == n.data.toList) = some l[k] := by
    rw [List.find?_eq_some_iff_getElem]
    exact ⟨by simpa using h, k, hk, rfl, fun j hj => by simpa using hb j hj⟩
  rw [this]
theorem ofK_none {l : KList} {n : ByteArray} (hb : ∀ j (hj : j < l.length), l[j].1.data.toList ≠ n.data.toList) : ofK l n = (⟨#[]⟩, false) := by
  unfold ofK
  have : l.find? (fun e => e.1.data.toList == n.data.toList) = none := by
    rw [List.find?_eq_none]
    intro e he
    obtain ⟨j, hj, rfl⟩ := List.getElem_of_mem he
    simpa using hb j hj
  rw [this]

set_option maxRecDepth 100000 in
set_option maxHeartbeats 4000000 in
theorem of_any {w : World} {p : Option Addr} {cap : Nat} {l : KList} (h : KRow w (.slice p l.length cap) l) (n : ByteArray) (hl : l.length ≤ 1000) :
    Calls Try.prog 29 #[.slice p l.length cap, .string n] w fun e w' => e = .returned (.tuple #[.string (ofK l n).1, .bool (ofK l n).2]) ∧ Below w.heap.size w w' := by
  have HL := Lib.hid h
  clear h
  go_enter Try.func29, Try.ntmps29
  go_wp2_with fail
  go_loopw [6] (fun iv wr => ∃ k : Nat, k ≤ l.length ∧ iv = .int .i64 (k : Nat) ∧ Hid ((∀ j (hj : j < l.length), j < k → l[j].1.data.toList ≠ n.data.toList) ∧ Below w.heap.size w wr)) (fun iv _ => l.length - (intOf iv).toNat)
  case atStart => exact ⟨0, Nat.zero_le _, rfl, Lib.hid ⟨fun _ _ h => by omega, Below.refl _ _⟩⟩
  case round =>
    obtain ⟨k, hk, rfl, HK⟩ := hrel
    by_cases hlt : k < l.length
    · have i1 : (k : Int) < (l.length : Int) := by omega
      have i2 : (0 : Int) ≤ (k : Int) := by omega
      obtain ⟨g, rfl, c0, c1⟩ := (HL.out.below HK.out.2).at hlt
      by_cases hn : l[k].1.data.toList = n.data.toList
      · have hv := ofK_at hlt (fun j hj => HK.out.1 j (by omega) hj) hn
        have HV := Lib.hid hv
        have hq : l[k].1 = n := by
          have h1 : l[k].1.data = n.data := Array.toList_inj.1 hn
          cases hx : l[k].1; cases n; simp_all
        rw [hq] at c0
        clear hn hq hv
        go_wp2_with fail
        go_ret2
        exact ⟨by rw [HV.out]; rfl, HK.out.2⟩
      · have hne : (l[k].1.toList == n.toList) = false := by
          rw [beq_eq_false_iff_ne, ByteArray.toList_eq, ByteArray.toList_eq]; exact hn
        have HN := Lib.hid hn
        clear hn
        go_wp2_with fail
        go_roundw
        case rel => exact ⟨k + 1, by omega, rfl, Lib.hid ⟨fun j hj h => by
          by_cases e : j = k
          · subst e; exact HN.out
          · exact HK.out.1 j hj (by omega), HK.out.2⟩⟩
        case measure => simp [intOf]; omega
    · obtain rfl : k = l.length := by omega
      have i1 : ¬ (l.length : Int) < (l.length : Int) := by omega
      have HV := Lib.hid (ofK_none (l := l) (n := n) fun j hj => HK.out.1 j hj hj)
      go_wp2_with fail
      go_ret2
      exact ⟨by rw [HV.out]; rfl, HK.out.2⟩
end Go.Proofs.Yteolagmlghalgaa
