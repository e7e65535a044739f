/-
  Walks over package check: the iterator declared. Conditions: those in the theorems.
-/
import Derived.Test.YtnkdhmoocomjfaaGreatDoorCkSeqs
import Derived.Shelf.RegionOpen
set_option linter.unusedSimpArgs false
set_option linter.unusedVariables false
namespace Go.Proofs.YtnkdhmoocomjfaaGreatDoor
open Go.RowKit
attribute [local go_sem] Oper.semAt_some

section
variable {u W : World} {v : Value} {i : Nat}
theorem rcd_at2 {L : List Ip.Rcd} (h : RoRcd u v L) (hk : Kp u W) (hi : i < L.length) : ∃ A c p k, v = .slice (some A) L.length c ∧ A.block < u.heap.size ∧ W.cell? (A.add (i * 3)) = some (.string L[i].name) ∧ W.cell? ⟨(A.add (i * 3)).block, (A.add (i * 3)).off + 1, none⟩ = some (.bool L[i].choice) ∧
    W.cell? ⟨(A.add (i * 3)).block, (A.add (i * 3)).off + 2, none⟩ = some (.slice p L[i].fields.length k) ∧ RcdIn L[i] ∧ RoFld u (.slice p L[i].fields.length k) L[i].fields := by
  obtain ⟨A, c, p, k, e, hA, c0, c1, c2, hin, hs, -⟩ := rcd_at h hi
  have hb : (A.add (i * 3)).block < u.heap.size := by rw [tadd_block]; exact hA
  exact ⟨A, c, p, k, e, hA, (hk.cell (by exact hb)).trans c0, (hk.cell (by exact hb)).trans c1, (hk.cell (by exact hb)).trans c2, hin, hs⟩
theorem srv_at2 {L : List Ip.Srv} (h : RoSrv u v L) (hk : Kp u W) (hi : i < L.length) : ∃ A c p k, v = .slice (some A) L.length c ∧ A.block < u.heap.size ∧ W.cell? (A.add (i * 2)) = some (.string L[i].name) ∧ W.cell? ⟨(A.add (i * 2)).block, (A.add (i * 2)).off + 1, none⟩ = some (.slice p L[i].methods.length k) ∧
    SrvIn L[i] ∧ RoMth u (.slice p L[i].methods.length k) L[i].methods := by
  obtain ⟨A, c, p, k, e, hA, c0, c1, hin, hs, -⟩ := srv_at h hi
  have hb : (A.add (i * 2)).block < u.heap.size := by rw [tadd_block]; exact hA
  exact ⟨A, c, p, k, e, hA, (hk.cell (by exact hb)).trans c0, (hk.cell (by exact hb)).trans c1, hin, hs⟩
theorem sga_at2 {L : List Ip.Sga} (h : RoSga u v L) (hk : Kp u W) (hi : i < L.length) : ∃ A c p k, v = .slice (some A) L.length c ∧ A.block < u.heap.size ∧ W.cell? (A.add (i * 3)) = some (.string L[i].name) ∧ W.cell? ⟨(A.add (i * 3)).block, (A.add (i * 3)).off + 1, none⟩ = some (.string L[i].arg) ∧
    W.cell? ⟨(A.add (i * 3)).block, (A.add (i * 3)).off + 2, none⟩ = some (.slice p L[i].steps.length k) ∧ SgaIn L[i] ∧ RoStp u (.slice p L[i].steps.length k) L[i].steps := by
  obtain ⟨A, c, p, k, e, hA, c0, c1, c2, hin, hs, -⟩ := sga_at h hi
  have hb : (A.add (i * 3)).block < u.heap.size := by rw [tadd_block]; exact hA
  exact ⟨A, c, p, k, e, hA, (hk.cell (by exact hb)).trans c0, (hk.cell (by exact hb)).trans c1, (hk.cell (by exact hb)).trans c2, hin, hs⟩
theorem fld_at2 {L : List Ip.Fld} (h : RoFld u v L) (hk : Kp u W) (hi : i < L.length) : ∃ A c p k, v = .slice (some A) L.length c ∧ A.block < u.heap.size ∧ W.cell? (A.add (i * 2)) = some (.string L[i].name) ∧ W.cell? ⟨(A.add (i * 2)).block, (A.add (i * 2)).off + 1, none⟩ = some (.slice p L[i].type.length k) ∧
    FldIn L[i] ∧ RoSo u (.slice p L[i].type.length k) L[i].type := by
  obtain ⟨A, c, p, k, e, hA, c0, c1, hin, hs, -⟩ := fld_at h hi
  have hb : (A.add (i * 2)).block < u.heap.size := by rw [tadd_block]; exact hA
  exact ⟨A, c, p, k, e, hA, (hk.cell (by exact hb)).trans c0, (hk.cell (by exact hb)).trans c1, hin, hs⟩
end
/-! ### the declarations' names, each with its parts' -/
def encD (x : ByteArray × List ByteArray) (b : Option Addr × Nat) : Array Value := #[.string x.1, .slice b.1 x.2.length b.2]
def relD (S : Nat → Prop) (W : World) (x : ByteArray × List ByteArray) (b : Option Addr × Nat) : Prop := TextsAt W b.1 x.2 ∧ x.2.length ≤ b.2 ∧ b.2 ≤ maxLen ∧ ∀ a, b.1 = some a → S a.block
/-- A set, and the block of a row. -/
def upT (S : Nat → Prop) (tp : Option Addr) : Nat → Prop := fun k => S k ∨ ∃ a, tp = some a ∧ a.block = k
theorem decl_r {s : Ip.Sch} {i : Nat} (h : i < s.records.length) : (Ck.decls s)[i]? = some (s.records[i].name, s.records[i].fields.map (·.name)) := by
  unfold Ck.decls
  rw [List.getElem?_append_left (by simpa using h)]
  simp [h]
theorem decl_s {s : Ip.Sch} {i : Nat} (h : i < s.services.length) : (Ck.decls s)[s.records.length + i]? = some (s.services[i].name, s.services[i].methods.map (·.name)) := by
  unfold Ck.decls
  rw [List.getElem?_append_right (by simp), List.getElem?_append_left (by simpa using h)]
  simp [h]
theorem decl_g {s : Ip.Sch} {i : Nat} (h : i < s.sagas.length) : (Ck.decls s)[s.records.length + s.services.length + i]? = some (s.sagas[i].name, []) := by
  unfold Ck.decls
  rw [List.getElem?_append_right (by simp; omega), List.getElem?_append_right (by simp; omega)]
  simp only [List.length_map]
  rw [show s.records.length + s.services.length + i - s.records.length - s.services.length = i by omega]
  simp [h]
theorem decl_len (s : Ip.Sch) : (Ck.decls s).length = s.records.length + s.services.length + s.sagas.length := by unfold Ck.decls; simp; omega
/-- Between two of the iterator's rounds. -/
def ItD (u W : World) (b : Nat) (OB : Obj) (J : (Nat → Prop) → Nat → World → Prop) (k : Nat) (wr : World) : Prop := ∃ S, J S k wr ∧ (∀ k, S k → W.heap.size ≤ k ∧ k < wr.heap.size) ∧ Kp u wr ∧ wr.heap[b]? = some OB ∧ W.heap.size ≤ wr.heap.size
/-- What a round of the body leaves. -/
def YldD (u W2 : World) (b : Nat) (J Jx : (Nat → Prop) → Nat → World → Prop) (S : Nat → Prop) (k : Nat) (bb : Bool) (W' : World) : Prop := (if bb = true then J S (k + 1) W' else Jx S (k + 1) W') ∧ BodyZ (fun k => k < u.heap.size ∨ k = b) S W2 W'
theorem ItD.next {u W W2 W' : World} {b k : Nat} {OB : Obj} {J Jx : (Nat → Prop) → Nat → World → Prop} {S : Nat → Prop} (h : YldD u W2 b J Jx S k true W') (hS : ∀ k, S k → W.heap.size ≤ k ∧ k < W2.heap.size) (hk : Kp u W2) (hb : W2.heap[b]? = some OB) (hw : W.heap.size ≤ W2.heap.size) : ItD u W b OB J (k + 1) W' :=
  ⟨S, by have := h.1; simpa using this, fun k hk' => ⟨(hS k hk').1, Nat.lt_of_lt_of_le (hS k hk').2 h.2.size⟩, body_kp h.2 hk, body_box h.2 hb, Nat.le_trans hw h.2.size⟩
/-- What comes up where names are told. -/
theorem yield_at {u W w2 : World} {b l k n : Nat} {P : Program} {J Jx : (Nat → Prop) → Nat → World → Prop} {xs : List (ByteArray × List ByteArray)} {x : ByteArray × List ByteArray} {S : Nat → Prop} {pb : Option Addr × Nat}
    (HY : ∀ S i (hi : i < xs.length) W1 (b' : Option Addr × Nat), W.heap.size ≤ W1.heap.size → (∀ k, S k → W.heap.size ≤ k ∧ k < W1.heap.size) → relD S W1 xs[i] b' → J S i W1 → YieldAt Fence.wide (n - 1) P l (encD xs[i] b') W1 fun e W' =>
      (e = .returned (.bool true) ∧ J S (i + 1) W' ∧ BodyZ (fun k => k < u.heap.size ∨ k = b) S W1 W') ∨ (e = .returned (.bool false) ∧ Jx S (i + 1) W' ∧ BodyZ (fun k => k < u.heap.size ∨ k = b) S W1 W'))
    (hx : xs[k]? = some x) (hw : W.heap.size ≤ w2.heap.size) (hS : ∀ k, S k → W.heap.size ≤ k ∧ k < w2.heap.size) (hr : relD S w2 x pb) (hj : J S k w2) :
    YieldAt Fence.wide (n - 1) P l (encD x pb) w2 fun e W' => ∃ bb, e = .returned (.bool bb) ∧ YldD u w2 b J Jx S k bb W' := by
  obtain ⟨hi, hxe⟩ := List.getElem?_eq_some_iff.1 hx
  obtain ⟨fn, tmps, assign, body, hy, hR⟩ := HY S k hi w2 pb hw hS (by rw [hxe]; exact hr) hj
  rw [hxe] at hy
  refine ⟨fn, tmps, assign, body, hy, hR.mono ?_⟩
  rintro e W' (⟨rfl, h1, h2⟩ | ⟨rfl, h1, h2⟩)
  · exact ⟨true, rfl, by simpa [YldD] using ⟨h1, h2⟩⟩
  · exact ⟨false, rfl, by simpa [YldD] using ⟨h1, h2⟩⟩
set_option maxRecDepth 100000 in
set_option maxHeartbeats 16000000 in
theorem declared1_seq (n : Nat) {u w : World} {s : Ip.Sch} {p1 p2 p3 : Option Addr} {c1 c2 c3 : Nat} (h1 : RoRcd u (.slice p1 s.records.length c1) s.records) (h2 : RoSrv u (.slice p2 s.services.length c2) s.services) (h3 : RoSga u (.slice p3 s.sagas.length c3) s.sagas) (hsm : Ck.Small s) (hu : Kp u w) {b : Nat} (hb : w.heap[b]? = some (schO s p1 c1 p2 c2 p3 c3)) :
    SeqV Fence.wide n Tryz.prog 164 #[.pointer (some ⟨b, 0, none⟩)] encD relD (Ck.decls s) (fun k => k < u.heap.size ∨ k = b) w := fun l J Jx W hW hJ hY hJx h0 => by
  refine callsIn_of_wp Tryz.func164 rfl trivial ?_ rfl
  simp only [Tryz.ntmps164, List.size_toArray, List.length_cons, List.length_nil, Nat.reduceAdd, Nat.reduceSub, Array.replicate_succ, Array.replicate_zero, List.push_toArray, List.append_toArray, List.nil_append, List.cons_append]
  have hbW := box_keep hW hb
  obtain ⟨x0, x1, x2, x3⟩ := cells4' hbW
  obtain ⟨OB, hOB⟩ : ∃ OB, OB = schO s p1 c1 p2 c2 p3 c3 := ⟨_, rfl⟩
  rw [← hOB] at hbW
  have HOB := Lib.hid hOB
  have HI0 : Hid (ItD u W b OB J 0 W) := Lib.hid ⟨_, h0, fun k hk => hk.elim, hu.below hW, hbW, Nat.le_refl _⟩
  have H1 := Lib.hid h1
  have H2 := Lib.hid h2
  have H3 := Lib.hid h3
  have HY := Lib.hid hY
  have HJ := Lib.hid hJ
  have HSM := Lib.hid hsm
  obtain ⟨_, _, e1, l1⟩ := ro_len h1
  cases e1
  obtain ⟨_, _, e2, l2⟩ := ro_len h2
  cases e2
  obtain ⟨_, _, e3, l3⟩ := ro_len h3
  cases e3
  clear hbW hb hu h1 h2 h3 hY hJ hJx h0 hOB hsm
  gi_wp2_with fail
  clear x0 x1 x2 x3
  gi_loopw [12] (fun iv wr => ∃ i : Nat, i ≤ s.records.length ∧ iv = .int .i64 (i : Nat) ∧ Hid (ItD u W b OB J (i) wr)) (fun iv _ => s.records.length - (intOf iv).toNat)
  case atStart => exact ⟨0, Nat.zero_le _, rfl, HI0⟩
  case round =>
    obtain ⟨i, hi, rfl, HR⟩ := hrel
    by_cases hlt : i < s.records.length
    · have i1 : (i : Int) < (s.records.length : Int) := by omega
      have i2 : (0 : Int) ≤ (i : Int) := by omega
      obtain ⟨S, hj, hS, hk, hbx, hwz⟩ := HR.out
      obtain ⟨A, cc, q, kq, e3, hA, c0, c1, c2, hin, hms⟩ := rcd_at2 H1.out hk hlt
      cases e3
      have HMS := Lib.hid hms
      have HD := Lib.hid (decl_r hlt)
      have HSX := Lib.hid (HSM.out.r _ (List.getElem_mem hlt))
      generalize s.records[i] = x at *
      obtain ⟨W1, hW1⟩ : ∃ W1, W1 = wr.alloc (.cells #[.string x.name, .bool x.choice, .slice q x.fields.length kq] 34) := ⟨_, rfl⟩
      have hn1 : W1.heap[wr.heap.size]? = some (.cells #[.string x.name, .bool x.choice, .slice q x.fields.length kq] 34 (0, 0)) := by rw [hW1]; exact heap_alloc_new wr _
      have hb1 : Below wr.heap.size wr W1 := by rw [hW1]; exact tk_alloc wr _
      have HN1 : Hid (∀ w2, Below W1.heap.size W1 w2 → w2.heap[wr.heap.size]? = some (.cells #[.string x.name, .bool x.choice, .slice q x.fields.length kq] 34 (0, 0))) := Lib.hid fun w2 hw2 => box_keep hw2 hn1
      have HX1 : Hid (∀ w2 tp, Below W1.heap.size W1 w2 → (∀ a, tp = some a → W1.heap.size ≤ a.block ∧ a.block < w2.heap.size) → J (upT (upS S wr.heap.size) tp) (i) w2 ∧ (∀ k, upT (upS S wr.heap.size) tp k → W.heap.size ≤ k ∧ k < w2.heap.size) ∧ Kp u w2 ∧ w2.heap[b]? = some OB ∧ W.heap.size ≤ w2.heap.size) := Lib.hid fun w2 tp hw2 htp => by
        have z1 : W1.heap.size = wr.heap.size + 1 := by rw [hW1, World.size_alloc]
        have z2 := hw2.size
        refine ⟨HJ.out _ _ _ _ _ (HJ.out _ _ _ _ _ hj (by rw [hW1]; exact stepsZ_alloc wr _)) ⟨hw2.os, hw2.tape, hw2.output, hw2.size, fun k hk _ => hw2.block k hk, fun k hk' => ?_⟩, fun k hk' => ?_, (hk.below hb1).below hw2, box_keep hw2 (box_keep hb1 hbx), by omega⟩
        · rcases hk' with e | ⟨a, ha, e⟩
          · exact .inl e
          · exact .inr (by have := (htp a ha).1; omega)
        · rcases hk' with (e | e) | ⟨a, ha, e⟩
          · have := hS k e; omega
          · omega
          · have := htp a ha; omega
      obtain ⟨y0, y1, y2⟩ := cells3 hn1
      have HU1 := Lib.hid (hk.below hb1)
      clear hj hS hk hbx hwz HR hn1 hb1 hms hin hA
      gi_upto_region 3 with fail
      rw [← hW1]
      clear hW1 c0 c1 c2
      generalize wr.heap.size = g at *
      have mixed : Tryz.prog.follows .mixedOrders = true := by kernel_rfl
      have hdr : Below W1.heap.size W1 W1.drew := (Below.refl _ W1).drew
      have HC : Hid (CallsIn Fence.wide (n - 1) Tryz.prog 165 #[.slice q x.fields.length kq, .func (.func 166) #[] #[]] W1.drew fun e w2 => ∃ tp tc, e = .returned (.slice tp x.fields.length tc) ∧ (TextsAt w2 tp (x.fields.map (·.name)) ∧ (x.fields.map (·.name)).length ≤ tc ∧ tc ≤ maxLen) ∧ (∀ a, tp = some a → W1.heap.size ≤ a.block ∧ a.block < w2.heap.size) ∧ Below W1.heap.size W1 w2) := Lib.hid ((callsIn_wide.2 (namesF_any HMS.out (HU1.out.below hdr) (by have := HSX.out.2.1; omega))).mono (by
        rintro e w2 ⟨tv, rfl, hov, hb2⟩
        obtain ⟨tp, tc, rfl, t1, t2, t3⟩ := hov.texts
        rw [List.length_map] at t1 ⊢
        exact ⟨tp, tc, rfl, ⟨t3, t1, t2⟩, fun a ha => by
          subst ha
          exact hov.lt a.block rfl, hdr.trans hb2⟩))
      have HYA : Hid (∀ w2 tp tc, (TextsAt w2 tp (x.fields.map (·.name)) ∧ (x.fields.map (·.name)).length ≤ tc ∧ tc ≤ maxLen) → (∀ a, tp = some a → W1.heap.size ≤ a.block ∧ a.block < w2.heap.size) → Below W1.heap.size W1 w2 → YieldAt Fence.wide (n - 1) Tryz.prog l #[.string x.name, .slice tp x.fields.length tc] w2 fun e W' => ∃ bb, e = .returned (.bool bb) ∧ YldD u w2 b J Jx (upT (upS S g) tp) (i) bb W') := Lib.hid fun w2 tp tc hr hta hw2 => by
        obtain ⟨a1, a2, a3, a4, a5⟩ := HX1.out w2 tp hw2 hta
        have := yield_at HY.out HD.out a5 a2 (pb := (tp, tc)) ⟨hr.1, hr.2.1, hr.2.2, fun a ha => .inr ⟨a, ha, rfl⟩⟩ a1
        unfold encD at this
        simpa using this
      clear hdr
      gi_region_with_o (first | (refine ⟨trivial, wideN, HC.out.mono ?_⟩; rintro e w2 ⟨tp, tc, rfl, hr2, hta, hb2⟩; obtain ⟨fn, tmps, assign, body, hy, hR⟩ := HYA.out w2 tp tc hr2 hta hb2; obtain ⟨v0, v1, v2⟩ := cells3 (HN1.out w2 hb2)) | (refine ⟨wideN, hR.mono ?_⟩; rintro e W3 ⟨bb, rfl, hp⟩))
      all_goals
        have HP := Lib.hid hp
        have HA := Lib.hid (HX1.out w2 tp hb2 hta)
        have HLN : Hid ((i) + 1 ≤ (Ck.decls s).length) := Lib.hid (by rw [decl_len]; omega)
        clear hp hb2 hr2 hta hy hR v0 v1 v2 y0 y1 y2
        cases bb with
        | true =>
          have HNX : Hid (ItD u W b OB J ((i) + 1) W3) := Lib.hid (by
            obtain ⟨a1, a2, a3, a4, a5⟩ := HA.out
            exact ItD.next HP.out a2 a3 a4 a5)
          gi_wp2_with fail
          go_roundw
          case rel => exact ⟨i + 1, by omega, by go_num, HNX⟩
          case measure => simp [intOf]; omega
        | false =>
          have HS3 : Hid (∀ k, upT (upS S g) tp k → W.heap.size ≤ k) := Lib.hid fun k hk => (HA.out.2.1 k hk).1
          have HJ3 : Hid (Jx (upT (upS S g) tp) ((i) + 1) W3) := Lib.hid (by have := HP.out.1; simpa using this)
          gi_wp2_with fail
          refine bodyPost_ret (results_none rfl _ _ _) rfl ?_
          exact ⟨⟨_, rfl⟩, _, HS3.out, .inr ⟨_, HLN.out, HJ3.out⟩⟩
    · obtain rfl : i = s.records.length := by omega
      have i1 : ¬ (s.records.length : Int) < (s.records.length : Int) := by omega
      have HRX := Lib.hid HR.out
      obtain ⟨S, hj, hS, hk, hbx, hwz⟩ := HR.out
      rw [HOB.out] at hbx
      obtain ⟨x0, x1, x2, x3⟩ := cells4' hbx
      clear hj hS hk hbx hwz HR
      gi_wp2_with fail
      clear x0 x1 x2 x3
      gi_loopw [28] (fun iv wr => ∃ i : Nat, i ≤ s.services.length ∧ iv = .int .i64 (i : Nat) ∧ Hid (ItD u W b OB J (s.records.length + i) wr)) (fun iv _ => s.services.length - (intOf iv).toNat)
      case atStart => exact ⟨0, Nat.zero_le _, rfl, HRX⟩
      case round =>
        obtain ⟨i, hi, rfl, HR⟩ := hrel
        by_cases hlt : i < s.services.length
        · have i1 : (i : Int) < (s.services.length : Int) := by omega
          have i2 : (0 : Int) ≤ (i : Int) := by omega
          obtain ⟨S, hj, hS, hk, hbx, hwz⟩ := HR.out
          obtain ⟨A, cc, q, kq, e3, hA, c0, c1, hin, hms⟩ := srv_at2 H2.out hk hlt
          cases e3
          have HMS := Lib.hid hms
          have HD := Lib.hid (decl_s hlt)
          have HSX := Lib.hid (HSM.out.v _ (List.getElem_mem hlt))
          generalize s.services[i] = x at *
          obtain ⟨W1, hW1⟩ : ∃ W1, W1 = wr.alloc (.cells #[.string x.name, .slice q x.methods.length kq] 98) := ⟨_, rfl⟩
          have hn1 : W1.heap[wr.heap.size]? = some (.cells #[.string x.name, .slice q x.methods.length kq] 98 (0, 0)) := by rw [hW1]; exact heap_alloc_new wr _
          have hb1 : Below wr.heap.size wr W1 := by rw [hW1]; exact tk_alloc wr _
          have HN1 : Hid (∀ w2, Below W1.heap.size W1 w2 → w2.heap[wr.heap.size]? = some (.cells #[.string x.name, .slice q x.methods.length kq] 98 (0, 0))) := Lib.hid fun w2 hw2 => box_keep hw2 hn1
          have HX1 : Hid (∀ w2 tp, Below W1.heap.size W1 w2 → (∀ a, tp = some a → W1.heap.size ≤ a.block ∧ a.block < w2.heap.size) → J (upT (upS S wr.heap.size) tp) (s.records.length + i) w2 ∧ (∀ k, upT (upS S wr.heap.size) tp k → W.heap.size ≤ k ∧ k < w2.heap.size) ∧ Kp u w2 ∧ w2.heap[b]? = some OB ∧ W.heap.size ≤ w2.heap.size) := Lib.hid fun w2 tp hw2 htp => by
            have z1 : W1.heap.size = wr.heap.size + 1 := by rw [hW1, World.size_alloc]
            have z2 := hw2.size
            refine ⟨HJ.out _ _ _ _ _ (HJ.out _ _ _ _ _ hj (by rw [hW1]; exact stepsZ_alloc wr _)) ⟨hw2.os, hw2.tape, hw2.output, hw2.size, fun k hk _ => hw2.block k hk, fun k hk' => ?_⟩, fun k hk' => ?_, (hk.below hb1).below hw2, box_keep hw2 (box_keep hb1 hbx), by omega⟩
            · rcases hk' with e | ⟨a, ha, e⟩
              · exact .inl e
              · exact .inr (by have := (htp a ha).1; omega)
            · rcases hk' with (e | e) | ⟨a, ha, e⟩
              · have := hS k e; omega
              · omega
              · have := htp a ha; omega
          obtain ⟨y0, y1⟩ := cells2 hn1
          have HU1 := Lib.hid (hk.below hb1)
          clear hj hS hk hbx hwz HR hn1 hb1 hms hin hA
          gi_upto_region 8 with fail
          rw [← hW1]
          clear hW1 c0 c1
          generalize wr.heap.size = g at *
          have mixed : Tryz.prog.follows .mixedOrders = true := by kernel_rfl
          have hdr : Below W1.heap.size W1 W1.drew := (Below.refl _ W1).drew
          have HC : Hid (CallsIn Fence.wide (n - 1) Tryz.prog 167 #[.slice q x.methods.length kq, .func (.func 168) #[] #[]] W1.drew fun e w2 => ∃ tp tc, e = .returned (.slice tp x.methods.length tc) ∧ (TextsAt w2 tp (x.methods.map (·.name)) ∧ (x.methods.map (·.name)).length ≤ tc ∧ tc ≤ maxLen) ∧ (∀ a, tp = some a → W1.heap.size ≤ a.block ∧ a.block < w2.heap.size) ∧ Below W1.heap.size W1 w2) := Lib.hid ((callsIn_wide.2 (namesM_any HMS.out (HU1.out.below hdr) (by have := HSX.out.2.1; omega))).mono (by
            rintro e w2 ⟨tv, rfl, hov, hb2⟩
            obtain ⟨tp, tc, rfl, t1, t2, t3⟩ := hov.texts
            rw [List.length_map] at t1 ⊢
            exact ⟨tp, tc, rfl, ⟨t3, t1, t2⟩, fun a ha => by
              subst ha
              exact hov.lt a.block rfl, hdr.trans hb2⟩))
          have HYA : Hid (∀ w2 tp tc, (TextsAt w2 tp (x.methods.map (·.name)) ∧ (x.methods.map (·.name)).length ≤ tc ∧ tc ≤ maxLen) → (∀ a, tp = some a → W1.heap.size ≤ a.block ∧ a.block < w2.heap.size) → Below W1.heap.size W1 w2 → YieldAt Fence.wide (n - 1) Tryz.prog l #[.string x.name, .slice tp x.methods.length tc] w2 fun e W' => ∃ bb, e = .returned (.bool bb) ∧ YldD u w2 b J Jx (upT (upS S g) tp) (s.records.length + i) bb W') := Lib.hid fun w2 tp tc hr hta hw2 => by
            obtain ⟨a1, a2, a3, a4, a5⟩ := HX1.out w2 tp hw2 hta
            have := yield_at HY.out HD.out a5 a2 (pb := (tp, tc)) ⟨hr.1, hr.2.1, hr.2.2, fun a ha => .inr ⟨a, ha, rfl⟩⟩ a1
            unfold encD at this
            simpa using this
          clear hdr
          gi_region_with_o (first | (refine ⟨trivial, wideN, HC.out.mono ?_⟩; rintro e w2 ⟨tp, tc, rfl, hr2, hta, hb2⟩; obtain ⟨fn, tmps, assign, body, hy, hR⟩ := HYA.out w2 tp tc hr2 hta hb2; obtain ⟨v0, v1⟩ := cells2 (HN1.out w2 hb2)) | (refine ⟨wideN, hR.mono ?_⟩; rintro e W3 ⟨bb, rfl, hp⟩))
          all_goals
            have HP := Lib.hid hp
            have HA := Lib.hid (HX1.out w2 tp hb2 hta)
            have HLN : Hid ((s.records.length + i) + 1 ≤ (Ck.decls s).length) := Lib.hid (by rw [decl_len]; omega)
            clear hp hb2 hr2 hta hy hR v0 v1 y0 y1
            cases bb with
            | true =>
              have HNX : Hid (ItD u W b OB J ((s.records.length + i) + 1) W3) := Lib.hid (by
                obtain ⟨a1, a2, a3, a4, a5⟩ := HA.out
                exact ItD.next HP.out a2 a3 a4 a5)
              gi_wp2_with fail
              go_roundw
              case rel => exact ⟨i + 1, by omega, by go_num, HNX⟩
              case measure => simp [intOf]; omega
            | false =>
              have HS3 : Hid (∀ k, upT (upS S g) tp k → W.heap.size ≤ k) := Lib.hid fun k hk => (HA.out.2.1 k hk).1
              have HJ3 : Hid (Jx (upT (upS S g) tp) ((s.records.length + i) + 1) W3) := Lib.hid (by have := HP.out.1; simpa using this)
              gi_wp2_with fail
              refine bodyPost_ret (results_none rfl _ _ _) rfl ?_
              exact ⟨⟨_, rfl⟩, _, HS3.out, .inr ⟨_, HLN.out, HJ3.out⟩⟩
        · obtain rfl : i = s.services.length := by omega
          have i1 : ¬ (s.services.length : Int) < (s.services.length : Int) := by omega
          have HRX := Lib.hid HR.out
          obtain ⟨S, hj, hS, hk, hbx, hwz⟩ := HR.out
          rw [HOB.out] at hbx
          obtain ⟨x0, x1, x2, x3⟩ := cells4' hbx
          clear hj hS hk hbx hwz HR
          gi_wp2_with fail
          clear x0 x1 x2 x3
          gi_loopw [44] (fun iv wr => ∃ i : Nat, i ≤ s.sagas.length ∧ iv = .int .i64 (i : Nat) ∧ Hid (ItD u W b OB J (s.records.length + s.services.length + i) wr)) (fun iv _ => s.sagas.length - (intOf iv).toNat)
          case atStart => exact ⟨0, Nat.zero_le _, rfl, HRX⟩
          case round =>
            obtain ⟨i, hi, rfl, HR⟩ := hrel
            by_cases hlt : i < s.sagas.length
            · have i1 : (i : Int) < (s.sagas.length : Int) := by omega
              have i2 : (0 : Int) ≤ (i : Int) := by omega
              obtain ⟨S, hj, hS, hk, hbx, hwz⟩ := HR.out
              obtain ⟨A, cc, q, kq, e3, hA, c0, c1, c2, hin, hms⟩ := sga_at2 H3.out hk hlt
              cases e3
              have HMS := Lib.hid hms
              have HD := Lib.hid (decl_g hlt)
              have HSX := Lib.hid (HSM.out.g _ (List.getElem_mem hlt))
              generalize s.sagas[i] = x at *
              obtain ⟨W1, hW1⟩ : ∃ W1, W1 = wr.alloc (.cells #[.string x.name, .string x.arg, .slice q x.steps.length kq] 44) := ⟨_, rfl⟩
              have hn1 : W1.heap[wr.heap.size]? = some (.cells #[.string x.name, .string x.arg, .slice q x.steps.length kq] 44 (0, 0)) := by rw [hW1]; exact heap_alloc_new wr _
              have hb1 : Below wr.heap.size wr W1 := by rw [hW1]; exact tk_alloc wr _
              have HN1 : Hid (∀ w2, Below W1.heap.size W1 w2 → w2.heap[wr.heap.size]? = some (.cells #[.string x.name, .string x.arg, .slice q x.steps.length kq] 44 (0, 0))) := Lib.hid fun w2 hw2 => box_keep hw2 hn1
              have HX1 : Hid (∀ w2 tp, Below W1.heap.size W1 w2 → (∀ a, tp = some a → W1.heap.size ≤ a.block ∧ a.block < w2.heap.size) → J (upT (upS S wr.heap.size) tp) (s.records.length + s.services.length + i) w2 ∧ (∀ k, upT (upS S wr.heap.size) tp k → W.heap.size ≤ k ∧ k < w2.heap.size) ∧ Kp u w2 ∧ w2.heap[b]? = some OB ∧ W.heap.size ≤ w2.heap.size) := Lib.hid fun w2 tp hw2 htp => by
                have z1 : W1.heap.size = wr.heap.size + 1 := by rw [hW1, World.size_alloc]
                have z2 := hw2.size
                refine ⟨HJ.out _ _ _ _ _ (HJ.out _ _ _ _ _ hj (by rw [hW1]; exact stepsZ_alloc wr _)) ⟨hw2.os, hw2.tape, hw2.output, hw2.size, fun k hk _ => hw2.block k hk, fun k hk' => ?_⟩, fun k hk' => ?_, (hk.below hb1).below hw2, box_keep hw2 (box_keep hb1 hbx), by omega⟩
                · rcases hk' with e | ⟨a, ha, e⟩
                  · exact .inl e
                  · exact .inr (by have := (htp a ha).1; omega)
                · rcases hk' with (e | e) | ⟨a, ha, e⟩
                  · have := hS k e; omega
                  · omega
                  · have := htp a ha; omega
              obtain ⟨y0, y1, y2⟩ := cells3 hn1
              have HU1 := Lib.hid (hk.below hb1)
              clear hj hS hk hbx hwz HR hn1 hb1 hms hin hA
              gi_upto_region 13 with fail
              rw [← hW1]
              clear hW1 c0 c1 c2
              generalize wr.heap.size = g at *
              have HYA : Hid (YieldAt Fence.wide (n - 1) Tryz.prog l #[.string x.name, .slice none 0 0] W1 fun e W' => ∃ bb, e = .returned (.bool bb) ∧ YldD u W1 b J Jx (upT (upS S g) Option.none) (s.records.length + s.services.length + i) bb W') := Lib.hid (by
                obtain ⟨a1, a2, a3, a4, a5⟩ := HX1.out W1 Option.none (Below.refl _ _) (fun a ha => nomatch ha)
                have := yield_at HY.out HD.out a5 a2 (pb := (Option.none, 0)) ⟨(fun i hi => (nomatch hi)), Nat.zero_le _, Nat.zero_le _, fun a ha => nomatch ha⟩ a1
                unfold encD at this
                exact this)
              obtain ⟨fn, tmps, assign, body, hy, hR⟩ := HYA.out
              have HRR := Lib.hid hR
              clear hR
              gi_wp2_with fail
              refine ⟨wideN, HRR.out.mono ?_⟩
              rintro e W3 ⟨bb, rfl, hp⟩
              have HP := Lib.hid hp
              have HA := Lib.hid (HX1.out W1 Option.none (Below.refl _ _) (fun a ha => nomatch ha))
              have HLN : Hid ((s.records.length + s.services.length + i) + 1 ≤ (Ck.decls s).length) := Lib.hid (by rw [decl_len]; omega)
              clear hp hy y0 y1 y2
              cases bb with
              | true =>
                have HNX : Hid (ItD u W b OB J ((s.records.length + s.services.length + i) + 1) W3) := Lib.hid (by
                  obtain ⟨a1, a2, a3, a4, a5⟩ := HA.out
                  exact ItD.next HP.out a2 a3 a4 a5)
                gi_wp2_with fail
                go_roundw
                case rel => exact ⟨i + 1, by omega, by go_num, HNX⟩
                case measure => simp [intOf]; omega
              | false =>
                have HS3 : Hid (∀ k, upT (upS S g) Option.none k → W.heap.size ≤ k) := Lib.hid fun k hk => (HA.out.2.1 k hk).1
                have HJ3 : Hid (Jx (upT (upS S g) Option.none) ((s.records.length + s.services.length + i) + 1) W3) := Lib.hid (by have := HP.out.1; simpa using this)
                gi_wp2_with fail
                refine bodyPost_ret (results_none rfl _ _ _) rfl ?_
                exact ⟨⟨_, rfl⟩, _, HS3.out, .inr ⟨_, HLN.out, HJ3.out⟩⟩
            · obtain rfl : i = s.sagas.length := by omega
              have i1 : ¬ (s.sagas.length : Int) < (s.sagas.length : Int) := by omega
              gi_wp2_with fail
              go_end0
              obtain ⟨S, hj, hS, -⟩ := HR.out
              exact ⟨⟨_, rfl⟩, S, fun k hk => (hS k hk).1, .inl (by rw [decl_len]; exact hj)⟩
end Go.Proofs.YtnkdhmoocomjfaaGreatDoor
