/-
  PROVED: the card of the law PrintsRead, where what it reads is of bulk at most 1048576: it answers true for every input, and leaves its arguments as they were: a type that is read is printed and read again; one that is printed is read as it was. Condition: the variables that the row lists hold what the text of the program lays (the card ties that).
-/
import Derived.Test.YtamkkdmbefekmaaGreatDoorRows
import Derived.Test.YtamkkdmbefekmaaGreatDoorTie
import Derived.Test.YtamkkdmbefekmaaGreatDoorCards
import Derived.Test.YtamkkdmbefekmaaGreatDoorPrRead
import Derived.Test.YtamkkdmbefekmaaGreatDoorLawKit
import Derived.Lay
import Derived.JoinedCond
import Derived.Stop.Joined
import Derived.LaidOnce
import Derived.LaidMore
import Derived.SevenTiedAt
import Derived.Test.YtamkkdmbefekmaaGreatDoorCkLaidPrRead
set_option linter.unusedSimpArgs false
set_option linter.unusedVariables false
namespace Go.Proofs.YtamkkdmbefekmaaGreatDoor
open Go.ChangeShapes Go.WideShapes Go.ChangeAt Go.RowKit
open Go.ChangeMaps (open_string shut_string)

theorem bulk_mem {H : Type} : ∀ {l : List (DataW H)} {x : DataW H}, x ∈ l → Rows.uptoBulk x ≤ Rows.uptoBulkAll l
  | y :: l, x, h => by
    simp only [Rows.uptoBulkAll]
    rcases List.mem_cons.1 h with rfl | h
    · omega
    · have := bulk_mem h; omega
set_option maxRecDepth 100000 in
/-- Names are no longer than the bulk of what is read. -/
theorem names_bulk {H : Type} {enc : TypeId × Value → H} {W : World} {v : Value} {fuel : Nat} {d : DataW H} {ps : List MemPlace} {t : List Ip.So} (hp : RoSo W v t) (hf : DataW.trod enc Tryz.prog W 0 (fun _ => true) true fuel 50 [v] = some (d, ps)) : ∀ x ∈ t, x.name.size ≤ Rows.uptoBulk d := fun x hx => by
  obtain ⟨i, hi, rfl⟩ := List.getElem_of_mem hx
  obtain ⟨p, c, h1, -, -, h4⟩ := hp
  obtain ⟨A, tt, rfl, -, -, -, hc⟩ := h4 i hi
  have hc1 := hc 1 (by decide)
  rcases DataW.trod_slice Tryz.underlying50 hf with ⟨e, -⟩ | ⟨a, len, cap, elems, rest, m, -, e, hd, -, -, -, hln, hes, -, -⟩
  · obtain h0 := List.head_eq_of_cons_eq e
    rw [h1] at h0
    cases h0
  · obtain h0 := List.head_eq_of_cons_eq e
    rw [h1] at h0
    obtain ⟨ha, hl, -⟩ := Value.slice.inj h0
    obtain rfl := Option.some.inj ha
    subst hl
    have h2 := hes i hi
    rw [List.getElem?_eq_getElem (by omega), show Tryz.prog.cellsOf 54 = 2 by kernel_rfl] at h2
    obtain ⟨cs, h3, h5⟩ := Option.bind_eq_some_iff.1 h2
    unfold World.cells? at h3
    rw [if_pos (Nat.zero_le _)] at h3
    have h6 := mapM_get h3 1 1 (by simp)
    rw [tadd] at h6
    have h7 : W.cell? (A.add (i * 2 + 1)) = some (.string t[i].name) := hc1
    rw [h7] at h6
    obtain ⟨xs, m', -, hx2, hcl, hxl, hxf⟩ := DataW.trod_struct Tryz.underlying54 h5
    rw [show Tryz.prog.cellsOf 54 = 2 by kernel_rfl] at hcl
    obtain ⟨c0, c1, rfl⟩ : ∃ c0 c1, cs = [c0, c1] := by
      match cs, hcl with
      | [c0, c1], _ => exact ⟨_, _, rfl⟩
    obtain ⟨y0, y1, rfl⟩ : ∃ c0 c1, xs = [c0, c1] := by
      match xs, hxl with
      | [c0, c1], _ => exact ⟨_, _, rfl⟩
    obtain ⟨zs, zi, zu, zb, z1, z2, z3, z4⟩ := cell1
    have f1 := hxf 1 _ rfl
    simp only [zs, zi, zu, List.drop, List.take, List.getElem?_cons_zero, List.getElem?_cons_succ] at f1
    obtain ⟨s1, e1, hy1, -⟩ := DataW.trod_string Tryz.underlying9 f1
    obtain rfl := List.head_eq_of_cons_eq e1
    simp only [List.getElem?_cons_succ, List.getElem?_cons_zero, Option.some.injEq, Value.string.injEq] at h6
    have hel : elems[i].1 ∈ elems.map (·.1) := List.mem_map.2 ⟨_, List.getElem_mem _, rfl⟩
    have hb := bulk_mem hel
    have hdd : d = .slice (elems.map (·.1)) (rest.map (·.1)) := (Prod.mk.inj hd).1
    have hb2 : Rows.uptoBulkAll (elems.map (·.1)) ≤ Rows.uptoBulk d := by rw [hdd]; simp only [Rows.uptoBulk]; omega
    have hb3 : t[i].name.size ≤ Rows.uptoBulk elems[i].1 := by
      rw [hx2, hy1, h6]
      simp only [List.map_cons, List.map_nil, Rows.uptoBulk, Rows.uptoBulkAll]
      have : s1.data.toList.length = s1.size := Pp.data_len s1
      omega
    omega
/-- What the law asks of its arguments besides: the variables, and that what is read is of no great bulk. -/
def readMet {H : Type} (enc : TypeId × Value → H) (w : World) (args : Array Value) : Prop := laidMetH Tryz.prog Rows.printsReadUptoRow.laid w ∧ ∃ ds gs before, DataW.Whole enc Tryz.prog Tryz.f10.params.toList Rows.printsReadSpec.vars false w args.toList ds gs before ∧ Rows.uptoSmall H (ds ++ gs) = true
set_option maxRecDepth 100000 in
theorem printsRead_lifted (os : Os) (started : os.Started) (H : Type) (enc : TypeId × Value → H) :
    ReturnsInHanded {} Tryz.checked os 10 .any (fun w args => (Rows.printsReadSpec.pre enc Tryz.prog Tryz.f10 [] false w args ∧ readMet enc w args) ∧ sizedMet enc Tryz.prog Tryz.f10 (OpenSpec.ofChange Rows.printsReadSpec) false w args)
      (Rows.printsReadSpec.post enc Tryz.prog Tryz.f10 false true false false) := by
  refine returnsInHanded_of_change_and (C := Tryz.checked) (X := readMet enc) (fun _ _ _ hh h => ⟨h.1.of_heap hh, by obtain ⟨ds, gs, b, hw, hk⟩ := h.2; exact ⟨ds, gs, b, DataW.Whole.of_heap hh hw, hk⟩⟩) own started (by kernel_rfl) Tryz.func10
    (ChangeSpec.witness_shaped (enc := enc) (C := Tryz.checked) (os := os) (X := readMet enc) false (World.laidAll Tryz.prog os Rows.printsReadUptoRow.laid) #[.string ⟨#[]⟩, .slice none 0 0] 8 (World.laidAll_os _ _ _)
      (World.shaped_of_ZipB (by kernel_rfl) (by kernel_rfl)) (by kernel_rfl) (by kernel_rfl) (by kernel_rfl)
      ⟨by rw [MakeChecks.laidMetH_plain _ _ _ (by kernel_rfl)]; exact laidMet_laidAll _ (by kernel_rfl) (by kernel_rfl), by
        have hw : (DataW.whole enc Tryz.prog ((World.laidAll Tryz.prog os Rows.printsReadUptoRow.laid).forCall (fun _ _ => 0) ⟨#[], #[.string ⟨#[]⟩, .slice none 0 0], []⟩).memory Tryz.f10.params.toList Rows.printsReadSpec.vars false (#[Value.string ⟨#[]⟩, .slice none 0 0] : Array Value).toList 8).map (fun x => (x.1, x.2.1)) = some ([.lit (.string []), .nil], []) := by kernel_rfl
        obtain ⟨⟨x1, x2, x3⟩, hx, hx1⟩ := Option.map_eq_some_iff.1 hw
        simp only [Prod.mk.injEq] at hx1
        obtain ⟨rfl, rfl⟩ := hx1
        exact ⟨_, _, _, DataW.Whole_of_whole hx, by kernel_rfl⟩⟩) ?_
  intro W base args ds gs before hval0 hW _ _ hL _
  obtain ⟨hL, ds', gs', before', hW2, hbk⟩ := hL
  rw [MakeChecks.laidMetH_plain _ _ _ (by kernel_rfl)] at hL
  have hval : ∀ (j : Nat) t v, Tryz.f10.params[j]? = some t → args[j]? = some v → Value.okWide Tryz.prog W .any base t v := hval0
  have hW' := hW
  obtain ⟨p, q, hA0, hV, rfl, hfz, hnd⟩ := hW
  obtain ⟨p', q', hA2, -, -, -, -⟩ := hW2
  have hA : DataW.TrodAll enc Tryz.prog W 0 (fun _ => true) true Tryz.f10.params.toList args.toList ds p := hA0
  have hA' : DataW.TrodAll enc Tryz.prog W 0 (fun _ => true) true Tryz.f10.params.toList args.toList ds' p' := hA2
  rw [Tryz.params10] at hA hA' hval
  obtain ⟨v0, vs0, d0, ds0, p0, q0, hargs, rfl, rfl, h0, r0⟩ := trodAll_cons hA
  obtain ⟨v1, vs1, d1, ds1, p1, q1, rfl, rfl, rfl, h1, r1⟩ := trodAll_cons r0
  obtain ⟨rfl, rfl, rfl⟩ := trodAll_nil r1
  obtain rfl : args = #[v0, v1] := by cases args; simp_all
  obtain ⟨w0, vt0, e0, es0, o0, u0, hargs', rfl, rfl, k0, s0⟩ := trodAll_cons hA'
  obtain ⟨rfl, rfl⟩ : w0 = v0 ∧ vt0 = [v1] := by simpa using hargs'.symm
  obtain ⟨w1, vt1, e1, es1, o1, u1, hargs2, rfl, rfl, k1, s1⟩ := trodAll_cons s0
  obtain ⟨rfl, rfl⟩ : w1 = v1 ∧ vt1 = [] := by simpa using hargs2.symm
  obtain ⟨-, rfl, rfl⟩ := trodAll_nil s1
  obtain ⟨rfl, rfl⟩ := trodVars_none hV
  obtain ⟨m1, hm1⟩ := open_sorts (hval 1 50 w1 rfl rfl) h1
  obtain ⟨m0, rfl, rfl, rfl, m0w⟩ := open_string Tryz.underlying9 (hval 0 9 w0 rfl rfl) h0
  have hcost : m1.length ≤ 12 → Pp.cost (m1.flatMap Pp.soT) ≤ 140737488355328 := fun hl => by
    have hb : ∀ x ∈ m1, x.name.size ≤ 1048576 := fun x hx => by
      obtain ⟨fuel, hf⟩ := k1
      obtain ⟨pp, cc, e9, -⟩ := hm1.shape
      have h9 := names_bulk hm1 (by rw [e9] at hf ⊢; exact hf) x hx
      unfold Rows.uptoSmall at hbk
      have h10 := of_decide_eq_true hbk
      have h11 : Rows.uptoBulk e1 ≤ Rows.uptoBulkAll ([e0, e1] ++ gs') := bulk_mem (by simp)
      omega
    have h5 := Pp.cost_flat Pp.soT (L := m1) (k := 1048577) fun x hx => by
      show Pp.cost [Pp.soW x] ≤ 1048577
      rw [Pp.cost_cons, Pp.cost_nil]
      have : (Pp.soW x).size ≤ 1048576 := by
        unfold Pp.soW
        split
        · exact hb x hx
        · have := Pp.kw_size x.kind; omega
      omega
    have h6 := Nat.mul_le_mul_right 1048577 hl
    omega
  clear hA0 hval0
  refine (printsRead_any m0 m0w hm1 (kwIs_of hL) hcost).mono fun e W' ⟨he, hb⟩ => ?_
  exact ⟨_, he, law_post hW' rfl (by kernel_rfl) rfl rfl hb⟩
theorem printsRead_pre (H : Type) (enc : TypeId × Value → H) : Rows.printsReadUptoRow.pre enc Tryz.prog Tryz.f10 (Rows.OpenSpec.upto Rows.printsReadSpec) = fun w args => (Rows.printsReadSpec.pre enc Tryz.prog Tryz.f10 [] false w args ∧ readMet enc w args) ∧ sizedMet enc Tryz.prog Tryz.f10 (OpenSpec.ofChange Rows.printsReadSpec) false w args := by
  funext w args
  refine propext ⟨?_, ?_⟩
  · rintro ⟨⟨⟨ds, gs, b, hW, hc, hk⟩, hl⟩, hs⟩
    exact ⟨⟨⟨ds, gs, b, hW, hc⟩, hl, ds, gs, b, hW, hk⟩, hs⟩
  · rintro ⟨⟨-, hl, ds, gs, b, hW, hk⟩, hs⟩
    exact ⟨⟨⟨ds, gs, b, hW, rfl, hk⟩, hl⟩, hs⟩

theorem printsRead_holds : Rows.PrintsReadUptoSaid :=
  OpenClaim.holds_of_cond 10 Tryz.f10 rfl rfl rfl rfl rfl rfl rfl ⟨rfl, rfl, rfl, rfl, rfl⟩ rfl rfl rfl rfl rfl (by kernel_rfl) Tryz.func10 (by kernel_rfl)
    (of_decide_eq_true (by kernel_rfl)) (by unfold Func.isWrapper; first | (rw [if_pos (by decide +kernel)]; kernel_rfl) | (rw [if_neg (by decide +kernel)]; exact ⟨rfl, rfl⟩))
    (fun os started H enc _ F => by
      show ReturnsInHanded {} Tryz.checked os 10 .any (OpenClaim.pre enc Tryz.prog Tryz.f10 (Rows.OpenSpec.upto Rows.printsReadSpec) Rows.printsReadUptoRow) (Rows.printsReadSpec.post enc Tryz.prog Tryz.f10 false true false false)
      rw [printsRead_pre]; exact printsRead_lifted os started H enc)
/-- THE CARD. -/
theorem printsRead_card : Rows.PrintsReadUptoCardSaid :=
  Claim7.holds_tied_plain_at .later [] [.data, .data, .data, .data] true (true, "6166065e1f57778e031d01a24fcf289c1831225ba9f12ec55ae818f9d3a1a117") false printsRead_holds (fun _ h => by cases h) (by kernel_rfl) (fun _ h => by cases h) printsReadUpto_row_tie rfl ⟨rfl, rfl⟩ (by kernel_rfl) rfl
    (fun f fn hf hfn => by
      obtain rfl : f = 10 := Option.some.inj ((show Tryz.prog.funcNamed "redress/redresslaw14.PrintsRead" = some 10 by kernel_rfl).symm.trans hf) |>.symm
      obtain rfl : fn = Tryz.f10 := (Option.some.inj (Tryz.func10.symm.trans hfn)).symm
      exact ⟨by kernel_rfl, fun j t ht => by
        rw [Tryz.params10] at ht
        have hm : t ∈ ([9, 50] : List Nat) := by
          have h2 := Array.mem_of_getElem? ht
          simpa using h2
        have hall : (([9, 50] : List Nat).all fun u => !Tryz.prog.wantsStandIn u) = true := by kernel_rfl
        exact (show Tryz.prog.wantsStandIn t = false by simpa using List.all_eq_true.1 hall t hm)⟩)
    (by kernel_rfl)
end Go.Proofs.YtamkkdmbefekmaaGreatDoor
