/-
  Plain facts: what is read of a text that tokens were put into is these tokens; what is read of a right schema's text is that schema. No program. Conditions: those in the theorems.
  Plain facts on types that could be read: what is read as a type is one; a type's text is read as that type. No program. Conditions: those in the theorems.
  The parts of PrType, PrTypes that a seat without their package has. Conditions: those in the theorems.
  Plain facts on the text that the document puts together part by part: it is the program's. No program. Conditions: those in the theorems.
-/
import Derived.Test.YtnkdhmoocomjfaaGreatDoorPrTextM
import Derived.Test.YtnkdhmoocomjfaaGreatDoorCkMath
import Derived.Test.YtnkdhmoocomjfaaGreatDoorIdlBase
import Derived.Test.YtnkdhmoocomjfaaGreatDoorCkOrder
import Derived.Deep.RegionHeldLaw
set_option linter.unusedSimpArgs false
set_option linter.unusedVariables false
namespace Pp
open Ip
open Tk (Token Out)
/-! ### the tokens of a text that was put -/
/-- A text that is one token. -/
def One (t : ByteArray) : Prop := ∃ k v, Tk.first t.data.toList = .tok k t.data.toList.length v
theorem One.ne {t : ByteArray} (h : One t) : t.data.toList ≠ [] := by
  obtain ⟨k, v, h⟩ := h
  intro e
  rw [e, show Tk.first [] = .no 110 from rfl] at h
  cases h
def flat (ts : List ByteArray) : List UInt8 := ts.flatMap fun t => 32 :: t.data.toList
theorem puts_flat : ∀ (ts : List ByteArray) (l : List UInt8), l ≠ [] → puts l ts = l ++ flat ts
  | [], l, _ => by simp [puts, flat]
  | t :: ts, l, h => by
    rw [puts_cons, puts_flat ts]
    · unfold put1 flat; rw [if_neg h]; simp
    · unfold put1; rw [if_neg h]; simp
theorem puts_first {t : ByteArray} {ts : List ByteArray} (h : One t) : puts [] (t :: ts) = t.data.toList ++ flat ts := by
  rw [puts_cons, show put1 [] t = t.data.toList from rfl, puts_flat _ _ h.ne]
/-! ### reading them -/
section
variable {α β : Type} {f : M α} {g : α → M β} {a b : List ByteArray} {x : α} {y : β}
end
/-- A sort that could be read. -/
def SoOk (x : So) : Prop := (1 ≤ x.kind ∧ x.kind ≤ 6 ∧ x.name = ⟨#[]⟩) ∨ (x.kind = 7 ∧ Tk.name x.name = true)
/-- A type that could be read: all but the last are about another one. -/
def TyOk : List So → Prop
  | [] => False
  | [x] => SoOk x ∧ x.goes = false
  | x :: t => SoOk x ∧ x.goes = true ∧ TyOk t
/-! ### declarations -/
def FlOk (f : Fld) : Prop := Tk.name f.name = true ∧ TyOk f.type
def RcOk (r : Rcd) : Prop := Tk.name r.name = true ∧ ∀ f ∈ r.fields, FlOk f
def MtOk (m : Mth) : Prop := (m.effect = kGive ∨ m.effect = kTake ∨ m.effect = kNote) ∧ Tk.name m.name = true ∧ Tk.name m.arg = true ∧ (m.result = 1 ∨ m.result = 3) ∧ (m.undo = ⟨#[]⟩ ∨ Tk.name m.undo = true)
def SvOk (v : Srv) : Prop := Tk.name v.name = true ∧ ∀ m ∈ v.methods, MtOk m
def SpOk (p : Stp) : Prop := Tk.name p.service = true ∧ Tk.name p.method = true ∧ 0 ≤ p.at_ ∧ p.at_ ≤ 3
def SgOk (g : Sga) : Prop := Tk.name g.name = true ∧ Tk.name g.arg = true ∧ ∀ p ∈ g.steps, SpOk p
/-! ### whole schemas -/
/-- A schema all of whose parts could be read. -/
def ScOk (s : Sch) : Prop := Tk.name s.name = true ∧ (∀ r ∈ s.records, RcOk r) ∧ (∀ v ∈ s.services, SvOk v) ∧ ∀ g ∈ s.sagas, SgOk g
/-! ### right schemas -/
def Ones (ts : List ByteArray) : Prop := ∀ t ∈ ts, One t
theorem ty_mem : ∀ {t : List So}, TyOk t → ∀ x ∈ t, SoOk x
  | [x], h, y, hy => by rw [List.mem_singleton.1 hy]; exact h.1
  | x :: y :: t, h, z, hz => by
    rcases List.mem_cons.1 hz with rfl | hz
    · exact h.1
    · exact ty_mem h.2.2 z hz
theorem nm_none {n : ByteArray} (h : Ck.nm n = none) : Tk.name n = true := by
  unfold Ck.nm at h
  split at h
  · assumption
  · cases h
theorem names_all {s : Sch} (h : Ck.names s = none) : Tk.name s.name = true ∧ (∀ r ∈ s.records, Tk.name r.name = true ∧ ∀ f ∈ r.fields, Tk.name f.name = true) ∧ (∀ v ∈ s.services, Tk.name v.name = true ∧ ∀ m ∈ v.methods, Tk.name m.name = true) ∧ ∀ g ∈ s.sagas, Tk.name g.name = true := by
  unfold Ck.names at h
  split at h
  case isFalse => cases h
  case isTrue h0 =>
  rw [Option.or_eq_none_iff, Option.or_eq_none_iff] at h
  obtain ⟨h1, h2, h3⟩ := h
  refine ⟨h0, fun r hr => ?_, fun v hv => ?_, fun g hg => nm_none (Ck.none_mem h3 hg)⟩
  · have := Ck.none_mem h1 hr
    rw [Option.or_eq_none_iff] at this
    exact ⟨nm_none this.1, fun f hf => nm_none (Ck.none_mem this.2 hf)⟩
  · have := Ck.none_mem h2 hv
    rw [Option.or_eq_none_iff] at this
    exact ⟨nm_none this.1, fun f hf => nm_none (Ck.none_mem this.2 hf)⟩
theorem heads_ty {s : Sch} (hf : ∀ n, (Ck.find s n).isSome = true → Tk.name n = true) : ∀ {t : List So}, Ck.heads t = true → Ck.lastOk s t = true → TyOk t
  | [], _, h2 => by cases h2
  | [x], _, h2 => by
    have h2 : (if x.kind = 7 then (Ck.find s x.name).isSome else decide (1 ≤ x.kind) && decide (x.kind ≤ 4) && Ck.empty x.name) = true := h2
    by_cases h7 : x.kind = 7
    · rw [if_pos h7] at h2
      exact ⟨.inr ⟨h7, hf _ h2⟩, by unfold So.goes; rw [h7]; decide⟩
    · rw [if_neg h7] at h2
      simp only [Bool.and_eq_true, decide_eq_true_eq] at h2
      exact ⟨.inl ⟨h2.1.1, by omega, eqB_iff.1 h2.2⟩, by unfold So.goes; simp; omega⟩
  | x :: y :: t, h1, h2 => by
    have h1 : (((decide (x.kind = 5) || decide (x.kind = 6)) && Ck.empty x.name) && Ck.heads (y :: t)) = true := h1
    simp only [Bool.and_eq_true, Bool.or_eq_true, decide_eq_true_eq] at h1
    have h3 : Ck.lastOk s (y :: t) = true := by unfold Ck.lastOk at h2 ⊢; rwa [List.getLast?_cons_cons] at h2
    exact ⟨.inl ⟨by omega, by omega, eqB_iff.1 h1.1.2⟩, by unfold So.goes; simpa using h1.1.1, heads_ty hf h1.2 h3⟩
/-- All parts of a right schema could be read. -/
theorem ok_read {s : Sch} (h : Ck.Ok s) : ScOk s := by
  obtain ⟨n1, n2, n3, n4⟩ := names_all (h (120, Ck.names) (by simp [Ck.rules]))
  have ht : Ck.types s = none := h (131, Ck.types) (by simp [Ck.rules])
  have he : Ck.effects s = none := h (134, Ck.effects) (by simp [Ck.rules])
  have hu : Ck.undos s = none := h (133, Ck.undos) (by simp [Ck.rules])
  have hg : Ck.sagas s = none := h (240, Ck.sagas) (by simp [Ck.rules])
  unfold Ck.types at ht
  rw [Option.or_eq_none_iff] at ht
  have hf : ∀ n, (Ck.find s n).isSome = true → Tk.name n = true := fun n hn => by
    obtain ⟨r, hr⟩ := Option.isSome_iff_exists.1 hn
    obtain ⟨hr1, hr2⟩ := Ck.find_name hr
    rw [← hr2]; exact (n2 r hr1).1
  have ho : ∀ n, Ck.order s n = true → Tk.name n = true := fun n hn => by
    refine hf n ?_
    unfold Ck.order at hn
    cases hx : Ck.find s n with
    | none => rw [hx] at hn; cases hn
    | some r => rfl
  refine ⟨n1, fun r hr => ⟨(n2 r hr).1, fun f hfm => ⟨(n2 r hr).2 f hfm, ?_⟩⟩, fun v hv => ⟨(n3 v hv).1, fun m hm => ⟨?_, (n3 v hv).2 m hm, ?_, ?_, ?_⟩⟩, fun g hgm => ⟨n4 g hgm, ?_, fun p hp => ?_⟩⟩
  · have h1 := Ck.none_mem (Ck.none_mem ht.1 hr) hfm
    have h2 : Ck.right s f.type = true := by
      cases hb : Ck.right s f.type with
      | true => rfl
      | false => simp only [hb] at h1; cases h1
    unfold Ck.right at h2
    simp only [Bool.and_eq_true] at h2
    exact heads_ty hf h2.1.2 h2.2
  · have h1 := Ck.none_mem (Ck.none_mem he hv) hm
    split at h1
    · rename_i h2
      simp only [Bool.and_eq_true, Bool.or_eq_true, eqB_iff] at h2
      rcases h2.1 with (h3 | h3) | h3
      · exact .inl h3
      · exact .inr (.inl h3)
      · exact .inr (.inr h3)
    · cases h1
  · have h1 := Ck.none_mem (Ck.none_mem he hv) hm
    split at h1
    · rename_i h2
      simp only [Bool.and_eq_true] at h2
      exact ho _ h2.2
    · cases h1
  · have h1 := Ck.none_mem (Ck.none_mem ht.2 hv) hm
    split at h1
    · assumption
    · cases h1
  · have h1 := Ck.none_mem (Ck.none_mem hu hv) hm
    split at h1
    · rename_i h2
      simp only [Bool.or_eq_true] at h2
      rcases h2 with h2 | h2
      · exact .inl (eqB_iff.1 h2)
      · right
        unfold Ck.undoOk at h2
        cases hx : Ck.method s v.name m.undo with
        | none => rw [hx] at h2; cases h2
        | some u =>
          obtain ⟨v', hv', -, hm', e⟩ := Ck.method_in hx
          rw [← e]; exact (n3 v' hv').2 u hm'
    · cases h1
  · have h1 := Ck.none_mem hg hgm
    split at h1
    · rename_i h2; exact ho _ h2
    · cases h1
  · have ha := ok_at h g hgm p hp
    obtain ⟨k, hk, rfl⟩ := List.getElem_of_mem hp
    obtain ⟨m, hm, -, -⟩ := h.step hgm hk
    obtain ⟨v, hv, e1, hm', e2⟩ := Ck.method_in hm
    exact ⟨by rw [← e1]; exact (n3 v hv).1, by rw [← e2]; exact (n3 v hv).2 m hm', ha⟩
end Pp
set_option linter.unusedSimpArgs false
set_option linter.unusedVariables false
namespace Pp
open Ip
open Tk (Token)
end Pp
set_option linter.unusedSimpArgs false
set_option linter.unusedVariables false
namespace Go.Proofs.YtnkdhmoocomjfaaGreatDoor
open Go.RowKit
end Go.Proofs.YtnkdhmoocomjfaaGreatDoor
namespace Pp
open Ip
/-- A sort's word, as the document has it. -/
def refW (x : So) : ByteArray := if x.kind = 1 then kNone else if x.kind = 2 then kBool else if x.kind = 3 then kInt else if x.kind = 4 then kText else if x.kind = 5 then kList else if x.kind = 6 then kOpt else x.name
def sBlank : ByteArray := ⟨#[32]⟩
def wordsB (t : List So) : ByteArray := t.foldl (fun s x => s ++ refW x ++ sBlank) ⟨#[]⟩
theorem wordsB_snoc (t : List So) (x : So) : wordsB (t ++ [x]) = wordsB t ++ refW x ++ sBlank := by unfold wordsB; rw [List.foldl_append]; rfl
theorem refW_size {x : So} (h : x.name.size ≤ 200) : (refW x).size ≤ 200 := by
  unfold refW
  repeat' split
  all_goals first | exact h | decide
theorem wordsB_size : ∀ (t : List So) (s : ByteArray), (∀ x ∈ t, x.name.size ≤ 200) → (t.foldl (fun s x => s ++ refW x ++ sBlank) s).size ≤ s.size + t.length * 201
  | [], s, _ => by simp
  | x :: t, s, h => by
    have h1 := wordsB_size t (s ++ refW x ++ sBlank) fun y hy => h y (List.mem_cons_of_mem _ hy)
    have h2 := refW_size (h x List.mem_cons_self)
    rw [List.foldl_cons, List.length_cons]
    rw [ByteArray.size_append, ByteArray.size_append, show sBlank.size = 1 from rfl] at h1
    omega
theorem refW_soW {x : So} (h : SoOk x) : refW x = soW x := by
  rcases h with ⟨h1, h2, -⟩ | ⟨h7, -⟩
  · unfold soW; rw [if_neg (by omega)]
    unfold refW kw
    obtain e | e | e | e | e | e : x.kind = 1 ∨ x.kind = 2 ∨ x.kind = 3 ∨ x.kind = 4 ∨ x.kind = 5 ∨ x.kind = 6 := by omega
    all_goals rw [e]; rfl
  · unfold soW; rw [if_pos h7]
    unfold refW
    rw [if_neg (by omega), if_neg (by omega), if_neg (by omega), if_neg (by omega), if_neg (by omega), if_neg (by omega)]
theorem append_list (a b : ByteArray) : (a ++ b).data.toList = a.data.toList ++ b.data.toList := by simp
theorem wordsB_list : ∀ (t : List So) (s : ByteArray), (∀ x ∈ t, SoOk x) → (t.foldl (fun s x => s ++ refW x ++ sBlank) s).data.toList = s.data.toList ++ t.flatMap fun x => (soW x).data.toList ++ [32]
  | [], s, _ => by simp
  | x :: t, s, h => by
    rw [List.foldl_cons, wordsB_list t _ fun y hy => h y (List.mem_cons_of_mem _ hy), append_list, append_list, refW_soW (h x List.mem_cons_self)]
    simp [sBlank]
end Pp
namespace Go.Proofs.YtnkdhmoocomjfaaGreatDoor
open Go.RowKit
set_option maxRecDepth 100000 in
set_option maxHeartbeats 4000000 in
theorem refWord_any (x : Ip.So) (w : World) : Calls Tryz.prog 61 #[.agg #[.int .u8 (x.kind : Nat), .string x.name]] w fun e w' => e = .returned (.string (Pp.refW x)) ∧ Below w.heap.size w w' := by
  obtain ⟨k, n⟩ := x
  obtain ⟨W1, hW1⟩ : ∃ W1, W1 = w.alloc (.cells #[.int .u8 (k : Nat), .string n] 41) := ⟨_, rfl⟩
  have hn1 : W1.heap[w.heap.size]? = some (.cells #[.int .u8 (k : Nat), .string n] 41 (0, 0)) := by rw [hW1]; exact heap_alloc_new w _
  obtain ⟨y0, y1⟩ := cells2 hn1
  have HB : Hid (Below w.heap.size w W1) := Lib.hid (by rw [hW1]; exact tk_alloc w _)
  clear hn1
  simp only
  go_enter Tryz.func61, Tryz.ntmps61
  go_upto_region 1 with fail
  rw [← hW1]
  clear hW1
  by_cases h1 : k = 1
  · subst h1; go_wp2_with fail; go_ret; exact ⟨rfl, HB.out⟩
  by_cases h2 : k = 2
  · subst h2; go_wp2_with fail; go_ret; exact ⟨rfl, HB.out⟩
  by_cases h3 : k = 3
  · subst h3; go_wp2_with fail; go_ret; exact ⟨rfl, HB.out⟩
  by_cases h4 : k = 4
  · subst h4; go_wp2_with fail; go_ret; exact ⟨rfl, HB.out⟩
  by_cases h5 : k = 5
  · subst h5; go_wp2_with fail; go_ret; exact ⟨rfl, HB.out⟩
  by_cases h6 : k = 6
  · subst h6; go_wp2_with fail; go_ret; exact ⟨rfl, HB.out⟩
  have e1 : (((k : Nat) : Int) == 1) = false := by rw [beq_eq_false_iff_ne]; omega
  have e2 : (((k : Nat) : Int) == 2) = false := by rw [beq_eq_false_iff_ne]; omega
  have e3 : (((k : Nat) : Int) == 3) = false := by rw [beq_eq_false_iff_ne]; omega
  have e4 : (((k : Nat) : Int) == 4) = false := by rw [beq_eq_false_iff_ne]; omega
  have e5 : (((k : Nat) : Int) == 5) = false := by rw [beq_eq_false_iff_ne]; omega
  have e6 : (((k : Nat) : Int) == 6) = false := by rw [beq_eq_false_iff_ne]; omega
  have HK : Hid (Pp.refW ⟨k, n⟩ = n) := Lib.hid (by unfold Pp.refW; rw [if_neg h1, if_neg h2, if_neg h3, if_neg h4, if_neg h5, if_neg h6])
  clear h1 h2 h3 h4 h5 h6
  go_wp2_with fail
  go_ret
  exact ⟨by rw [HK.out]; rfl, HB.out⟩
set_option maxRecDepth 100000 in
set_option maxHeartbeats 4000000 in
theorem refWords_any {u w : World} {p : Option Addr} {t : List Ip.So} {c : Nat} (hp : RoSo u (.slice p t.length c) t) (hu : Kp u w) (hl : t.length ≤ 300) (hn : ∀ x ∈ t, x.name.size ≤ 200) :
    Calls Tryz.prog 60 #[.slice p t.length c] w fun e w' => e = .returned (.string (Pp.wordsB t)) ∧ Below w.heap.size w w' := by
  obtain ⟨_, _, e9, hsl⟩ := ro_len hp
  cases e9
  have HP := Lib.hid hp
  have HU := Lib.hid hu
  have HL : Hid (∀ k, (hk : k < t.length) → Pp.wordsB (t.take (k + 1)) = Pp.wordsB (t.take k) ++ Pp.refW t[k] ++ Pp.sBlank) := Lib.hid fun k hk => by rw [List.take_succ_eq_append_getElem hk, Pp.wordsB_snoc]
  have HW : Hid (∀ k, k ≤ t.length → (Pp.wordsB (t.take k)).size ≤ 60300) := Lib.hid fun k hk => by
    have h1 := Pp.wordsB_size (t.take k) ⟨#[]⟩ fun x hx => hn x (List.mem_of_mem_take hx)
    have h2 : (t.take k).length * 201 ≤ 300 * 201 := Nat.mul_le_mul_right _ (by rw [List.length_take]; omega)
    have h3 : (⟨#[]⟩ : ByteArray).size = 0 := rfl
    unfold Pp.wordsB
    omega
  have HNM := Lib.hid hn
  clear hp hu hn
  go_enter Tryz.func60, Tryz.ntmps60
  go_wp2_with fail
  go_loopw [3, 4] (fun sv kv wr => ∃ k : Nat, k ≤ t.length ∧ kv = .int .i64 (k : Nat) ∧ sv = .string (Pp.wordsB (t.take k)) ∧ Hid (Below w.heap.size w wr)) (fun _ kv _ => t.length - (intOf kv).toNat)
  case atStart => exact ⟨0, Nat.zero_le _, rfl, rfl, Lib.hid (Below.refl _ _)⟩
  case round =>
    obtain ⟨k, hk, rfl, rfl, H⟩ := hrel
    by_cases hlt : k < t.length
    · have i1 : (k : Int) < (t.length : Int) := by omega
      have i2 : (0 : Int) ≤ (k : Int) := by omega
      obtain ⟨A, cc, e3, hA, d0, d1, hin⟩ := so_at (HP.out.kp (HU.out.below H.out)) hlt
      cases e3
      have HS := Lib.hid (HL.out k hlt)
      have hsz := HW.out k hk
      have hxz := Pp.refW_size (HNM.out _ (List.getElem_mem hlt))
      generalize t[k] = x at *
      generalize Pp.wordsB (t.take k) = m at *
      have i4 : ¬ 9223372036854775807 < m.size + (Pp.refW x).size := by omega
      have i5 : ¬ 9223372036854775807 < m.size + (Pp.refW x).size + 1 := by omega
      have i6 : ¬ 9223372036854775807 < (m ++ Pp.refW x).size + 1 := by rw [ByteArray.size_append]; omega
      clear hsz hxz
      go_wp2_with fail
      refine (refWord_any x _).mono ?_
      rintro e w2 ⟨rfl, hb2⟩
      have HB2 := Lib.hid (H.out.trans (hb2.mono H.out.size))
      clear hb2
      go_wp2_with fail
      go_roundw
      case rel => exact ⟨k + 1, by omega, by go_num, by rw [HS.out]; rfl, HB2⟩
      case measure => simp [intOf]; omega
    · obtain rfl : k = t.length := by omega
      have i1 : ¬ (t.length : Int) < (t.length : Int) := by omega
      have HT := Lib.hid (show Pp.wordsB (t.take t.length) = Pp.wordsB t by rw [List.take_length])
      go_wp2_with fail
      go_ret
      exact ⟨by rw [← HT.out]; rfl, H.out⟩
end Go.Proofs.YtnkdhmoocomjfaaGreatDoor
set_option linter.unusedSimpArgs false
set_option linter.unusedVariables false
namespace Pp
open Ip
/-- Tokens, a blank ahead of each. -/
def fl (ts : List ByteArray) : ByteArray := Tk.bs (flat ts)
theorem bs_append (a b : List UInt8) : Tk.bs (a ++ b) = Tk.bs a ++ Tk.bs b := by
  apply ByteArray.ext
  apply Array.toList_inj.1
  simp [Tk.bs]
theorem fl_nil : fl [] = ⟨#[]⟩ := rfl
theorem fl_append (a b : List ByteArray) : fl (a ++ b) = fl a ++ fl b := by
  unfold fl
  rw [← bs_append]
  unfold flat
  rw [List.flatMap_append]
theorem fl_one (t : ByteArray) : fl [t] = sBlank ++ t := by
  have : fl [t] = Tk.bs ([32] ++ t.data.toList) := by unfold fl flat; simp
  rw [this, bs_append, Tk.data_bs]; rfl
theorem flat_len : ∀ ts : List ByteArray, (flat ts).length = cost ts
  | [] => rfl
  | t :: ts => by
    show (([32] ++ t.data.toList) ++ flat ts).length = _
    rw [List.length_append, List.length_append, data_len, flat_len ts, cost_cons]
    simp; omega
theorem bs_size (l : List UInt8) : (Tk.bs l).size = l.length := by unfold Tk.bs; simp [ByteArray.size]
theorem fl_size (ts : List ByteArray) : (fl ts).size = cost ts := by unfold fl; rw [bs_size, flat_len]
theorem fl_step {α : Type} (f : α → List ByteArray) (L : List α) {i : Nat} (hi : i < L.length) : fl ((L.take (i + 1)).flatMap f) = fl ((L.take i).flatMap f) ++ fl (f L[i]) := by
  rw [List.take_succ_eq_append_getElem hi, List.flatMap_append, fl_append]; simp
theorem cost_take {α : Type} (f : α → List ByteArray) (L : List α) (i : Nat) : cost ((L.take i).flatMap f) ≤ cost (L.flatMap f) := by
  have h : cost (L.flatMap f) = cost (((L.take i) ++ L.drop i).flatMap f) := by rw [List.take_append_drop]
  rw [h, List.flatMap_append, cost_append]; omega
/-- The head of a schema's text, and all of it. -/
def headB (s : Sch) : ByteArray := kModule ++ fl [s.name, sSemi]
def bodyB (s : Sch) : ByteArray := headB s ++ fl (s.records.flatMap rcdT) ++ fl (s.services.flatMap srvT) ++ fl (s.sagas.flatMap sgaT)
theorem bext {a b : ByteArray} (h : a.data.toList = b.data.toList) : a = b := by
  apply ByteArray.ext
  exact Array.toList_inj.1 h
theorem one_module : One kModule := ⟨1, 0, rfl⟩
theorem bs_line (s : Sch) : Tk.bs (line s) = bodyB s := by
  have h : line s = kModule.data.toList ++ flat ([s.name, sSemi] ++ s.records.flatMap rcdT ++ s.services.flatMap srvT ++ s.sagas.flatMap sgaT) := by
    unfold line schT
    exact puts_first one_module
  rw [h, bs_append, Tk.data_bs]
  show kModule ++ fl _ = _
  rw [fl_append, fl_append, fl_append]
  unfold bodyB headB
  simp only [ByteArray.append_assoc]
theorem line_size (s : Sch) : (line s).length = (bodyB s).size := by rw [← bs_line, bs_size]
theorem text_is {s : Sch} (h : (Ck.check s).2 = 0) : text s = if 65536 < (bodyB s).size then (⟨#[]⟩, 3) else (bodyB s, 0) := by
  unfold text
  rw [if_neg (by omega), line_size, bs_line]
theorem text_no {s : Sch} (h : (Ck.check s).2 ≠ 0) : text s = (⟨#[]⟩, (Ck.check s).2) := by unfold text; rw [if_pos h]
/-! ### each part, as the document puts it behind the others -/
theorem head_ref (n : ByteArray) : (⟨#[109, 111, 100, 117, 108, 101, 32]⟩ : ByteArray) ++ n ++ ⟨#[32, 59]⟩ = kModule ++ fl [n, sSemi] := by
  apply bext
  simp [fl, flat, Tk.bs, kModule, sSemi]
theorem record_ref (B n : ByteArray) : B ++ (⟨#[32, 114, 101, 99, 111, 114, 100, 32]⟩ : ByteArray) ++ n ++ ⟨#[32, 123]⟩ = B ++ fl [kRecord, n, sOpen] := by
  apply bext
  simp [fl, flat, Tk.bs, kRecord, sOpen]
theorem choice_ref (B n : ByteArray) : B ++ (⟨#[32, 99, 104, 111, 105, 99, 101, 32]⟩ : ByteArray) ++ n ++ ⟨#[32, 123]⟩ = B ++ fl [kChoice, n, sOpen] := by
  apply bext
  simp [fl, flat, Tk.bs, kChoice, sOpen]
theorem shut_ref (B : ByteArray) : B ++ (⟨#[32, 125]⟩ : ByteArray) = B ++ fl [sShut] := by
  apply bext
  simp [fl, flat, Tk.bs, sShut]
theorem service_ref (B n : ByteArray) : B ++ (⟨#[32, 115, 101, 114, 118, 105, 99, 101, 32]⟩ : ByteArray) ++ n ++ ⟨#[32, 123]⟩ = B ++ fl [kService, n, sOpen] := by
  apply bext
  simp [fl, flat, Tk.bs, kService, sOpen]
theorem saga_ref (B n a : ByteArray) : B ++ (⟨#[32, 115, 97, 103, 97, 32]⟩ : ByteArray) ++ n ++ ⟨#[32, 40, 32]⟩ ++ a ++ ⟨#[32, 41, 32, 123]⟩ = B ++ fl [kSaga, n, sIn, a, sOut, sOpen] := by
  apply bext
  simp [fl, flat, Tk.bs, kSaga, sIn, sOut, sOpen]
theorem step_ref (B v m k : ByteArray) : B ++ (⟨#[32, 100, 111, 32]⟩ : ByteArray) ++ v ++ ⟨#[32, 46, 32]⟩ ++ m ++ ⟨#[32, 97, 116, 32]⟩ ++ k ++ ⟨#[32, 59]⟩ = B ++ fl [kDo, v, sDot, m, kAt, k, sSemi] := by
  apply bext
  simp [fl, flat, Tk.bs, kDo, sDot, kAt, sSemi]
theorem method_ref (B e m a k : ByteArray) : B ++ (⟨#[32]⟩ : ByteArray) ++ e ++ ⟨#[32]⟩ ++ m ++ ⟨#[32, 40, 32]⟩ ++ a ++ ⟨#[32, 41, 32, 45, 62, 32]⟩ ++ k = B ++ fl [e, m, sIn, a, sOut, sArrow, k] := by
  apply bext
  simp [fl, flat, Tk.bs, sIn, sOut, sArrow]
theorem undo_ref (B u : ByteArray) : B ++ (⟨#[32, 117, 110, 100, 111, 32]⟩ : ByteArray) ++ u = B ++ fl [kUndo, u] := by
  apply bext
  simp [fl, flat, Tk.bs, kUndo]
theorem semi_ref (B : ByteArray) : B ++ (⟨#[32, 59]⟩ : ByteArray) = B ++ fl [sSemi] := by
  apply bext
  simp [fl, flat, Tk.bs, sSemi]
theorem blank_turn (t : List So) : [32] ++ (t.flatMap fun x => (soW x).data.toList ++ [32]) = (flat (t.flatMap soT)) ++ [32] := by
  induction t with
  | nil => rfl
  | cons x t ih =>
    have e : flat ((x :: t).flatMap soT) = [32] ++ (soW x).data.toList ++ flat (t.flatMap soT) := by
      unfold flat soT; simp
    rw [e, List.flatMap_cons]
    have h := ih
    simp only [List.append_assoc] at h ⊢
    rw [← h]
theorem field_ref (B n : ByteArray) {t : List So} (h : ∀ x ∈ t, SoOk x) : B ++ (⟨#[32]⟩ : ByteArray) ++ n ++ ⟨#[32, 58, 32]⟩ ++ wordsB t ++ ⟨#[59]⟩ = B ++ fl ([n, sColon] ++ t.flatMap soT ++ [sSemi]) := by
  have h1 := wordsB_list t ⟨#[]⟩ h
  have h2 := blank_turn t
  apply bext
  have hw : (wordsB t).data.toList = t.flatMap fun x => (soW x).data.toList ++ [32] := by unfold wordsB; rw [h1]; rfl
  have hf : (fl ([n, sColon] ++ t.flatMap soT ++ [sSemi])).data.toList = ([32] ++ n.data.toList ++ [32, 58]) ++ flat (t.flatMap soT) ++ [32, 59] := by
    unfold fl flat
    rw [List.flatMap_append, List.flatMap_append]
    simp [Tk.bs, sColon, sSemi]
  simp only [append_list, hw, hf]
  rw [show ([32] ++ n.data.toList ++ [32, 58]) ++ flat (t.flatMap soT) ++ [32, 59] = ([32] ++ n.data.toList ++ [32, 58]) ++ (flat (t.flatMap soT) ++ [32]) ++ [59] by simp, ← h2]
  simp
theorem word_ref {k : Nat} (h : k = 1 ∨ k = 3) : refW ⟨k, ⟨#[]⟩⟩ = kw k := by rcases h with rfl | rfl <;> rfl
end Pp
