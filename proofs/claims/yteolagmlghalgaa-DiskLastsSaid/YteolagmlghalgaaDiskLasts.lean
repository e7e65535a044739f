/-
  Walks over the laws of package disk: DiskLasts. No condition.
-/
import Derived.Test.YteolagmlghalgaaDiskLastsLaw
import Derived.Test.YteolagmlghalgaaDiskAwake
import Derived.Deep.CutBlock
import Derived.Deep.LoopGhost
import Derived.Deep.RegionLaw
namespace Dm
theorem started_up (d : Disk) : (start d).down = false := by
  unfold start
  split
  · rfl
  · rename_i h; simpa using h
theorem rename_sure {d : Disk} {L : List (List UInt8 × List UInt8)} (h : SureF d.files L) (a b : List UInt8) (h0 : (rename d a b).1 = 0) :
    SureF (rename d a b).2.files (but (but L a) b) ∧ ∀ s, (a, s) ∈ L → SureF (rename d a b).2.files (but (but L a) b ++ [(b, s)]) := by
  obtain ⟨f, h1, h2⟩ := rename_yes a b h0
  rw [h2]
  refine ⟨h.renamed a b f, fun s hs => (h.renamed a b f).add ?_⟩
  obtain ⟨g, g1, g2⟩ := h _ hs
  rw [h1] at g1; cases g1
  exact ⟨f, get_put_same _ _ _, g2⟩
theorem sync_sure {d : Disk} {L : List (List UInt8 × List UInt8)} (h : SureF d.files L) (hr : Right d) (n : List UInt8) : SureF (sync d n).2.files L := by
  by_cases h0 : (sync d n).1 = 0
  · obtain ⟨f, -, h2, -⟩ := sync_yes n h0
    rw [h2]; exact h.syncs n hr.synced
  · rw [sync_no n h0]; exact h
end Dm
namespace Go.Proofs.Yteolagmlghalgaa
open Go.RowKit Go.Maps Go.Sort Go.Shelf

theorem step_append_run {P : Program} {ops : Array Oper} {o : Oper} {a : Act} {w : World} {K : Act → World → Prop} {Q : Exit → Act → World → Prop} {E : Prop}
    (hg : o.guard = none) (s x : Operand) (t tn : TypeId) (ho : o.op = .call { callee := .builtin .append, args := #[s, x], argTypes := #[t, tn] }) (vs vx : Value) (hs : a.eval s = vs) (hx : a.eval x = vx)
    (v' : Value) (w' : World) (hr : (Builtin.append_ #[t, tn] o.type #[vs, vx]).run P w = .ok v' w') (hK : K (a.put o.dst v') w') :
    if Region.wanted o (yielded ops a.tmps) = true then Oper.wp P o a w K Q else E := by
  have hw : Region.wanted o (yielded ops a.tmps) = true := by simp [Region.wanted, hg]
  rw [if_pos hw]
  exact Lib.wp_append_run w s x t tn ho vs vx hs hx v' w' hr hK

section
variable {w0 wk w w' : World} {a : Nat} {D : Dm.Disk} {v : Value} {L : KList} {b : Nat} {o : Obj} {K K' : Nat → Prop}
theorem Aside.back (h : Aside w0 wk w a D K) {W : World} (hs : ∀ k, K' k → K k) (hk : ∀ k, K' k → wk.heap[k]? = W.heap[k]?) : Aside w0 W w a D K' := by
  obtain ⟨S, h1, h2, h3⟩ := h.ex
  exact ⟨⟨S, h1, h2, fun k hk e => h3 k hk (hs k e)⟩, fun k hk' => h.lt k (hs k hk'), fun k hk' => (h.kept k (hs k hk')).trans (hk k hk'), h.below⟩
theorem Aside.right (h : Aside w0 wk w a D K) : Dm.Right D := by obtain ⟨S, h1, -⟩ := h.ex; exact h1.right
/-- What is known of a file is read. -/
theorem Mid.read (h : Mid w0 w a D v L b o) (hd : D.down = false) {j : Nat} (hj : j < L.length) : ∃ s : ByteArray, L[j].2.size ≤ s.size ∧ s.size ≤ maxLen ∧ s.extract 0 L[j].2.size = L[j].2 ∧
    Calls Try.prog 19 #[.pointer (some ⟨a, 0, none⟩), .string L[j].1] w fun e w' => e = .returned (.tuple #[.string s, .int .i64 0]) ∧ w = w' := by
  have hm : (L[j].1.data.toList, L[j].2.data.toList) ∈ plain L := by unfold plain; exact List.mem_map.2 ⟨L[j], List.getElem_mem hj, rfl⟩
  obtain ⟨f, h1, h2, h3⟩ := h.sure _ hm
  simp only at h1 h2 h3
  have hr := h.aside.right
  have hs := hr.synced _ (Dm.get_mem h1)
  have hsz := (hr.get h1).2.2
  have hn := name_size hr (k := L[j].1.data.toList) (List.mem_map.2 ⟨_, Dm.get_mem h1, rfl⟩)
  have e2 : L[j].2 = ⟨(f.data.take L[j].2.data.toList.length).toArray⟩ := by rw [h3]
  have hle : L[j].2.data.toList.length ≤ f.data.length := Nat.le_trans h2 hs
  refine ⟨⟨f.data.toArray⟩, ?_, by show f.data.toArray.size ≤ maxLen; simp; unfold maxLen; omega, ?_, ?_⟩
  · show L[j].2.data.size ≤ f.data.toArray.size
    simpa using hle
  · have := extract_take f.data _ hle
    rw [← e2] at this; exact this
  · have hn2 : (⟨L[j].1.data.toList.toArray⟩ : ByteArray) = L[j].1 := by simp
    rw [hn2] at hn
    exact read_aside h.aside L[j].1 (Nat.le_trans hn (by unfold maxLen; omega)) (Dm.read_up hd h1) rfl
/-- The same, where not all of the list is so of the disk as it is now. -/
structure Row0 (w0 w : World) (a : Nat) (D : Dm.Disk) (v : Value) (L : KList) (b : Nat) (o : Obj) : Prop where
  aside : Aside w0 w w a D fun k => k ∈ rowBlk v ∨ k = b
  row : KRow w v L
  fresh : ∀ k ∈ rowBlk v, w0.heap.size ≤ k
  box : w.heap[b]? = some o
  new : w0.heap.size ≤ b
  apart : b ∉ rowBlk v
theorem Mid.of0 {D' : Dm.Disk} (h : Mid w0 w a D v L b o) (ha : Aside w0 w w' a D' fun k => k ∈ rowBlk v ∨ k = b) : Row0 w0 w' a D' v L b o :=
  ⟨ha.rebase fun _ hk => hk, h.row.of fun k hk => ha.kept k (.inl hk), h.fresh, (ha.kept b (.inr rfl)).trans h.box, h.new, h.apart⟩
theorem Row0.mid (h : Row0 w0 w a D v L b o) (hs : Dm.SureF D.files (plain L)) : Mid w0 w a D v L b o := ⟨h.aside, h.row, h.fresh, hs, h.box, h.new, h.apart⟩
theorem Row0.same (h : Row0 w0 w a D v L b o) (hb : Below w.heap.size w w') : Row0 w0 w' a D v L b o := by
  have hbl : b < w.heap.size := (Array.getElem?_eq_some_iff.1 h.box).1
  exact ⟨h.aside.grow hb fun k hk => .inl hk, h.row.below hb, h.fresh, (hb.block _ hbl).trans h.box, h.new, h.apart⟩
theorem Row0.drew (h : Row0 w0 w a D v L b o) : Row0 w0 w.drew a D v L b o := h.same (Below.refl _ _).drew
theorem Row0.cells {x : ActV} (h : Row0 w0 w a D v L b (boxA x)) : w.cell? ⟨b, 1, none⟩ = some (.string x.name) ∧ w.cell? ⟨b, 2, none⟩ = some (.string x.to) := by
  refine ⟨?_, ?_⟩ <;> rw [cell_of_row w b _ _ _ _ h.box] <;> rfl
theorem but_row0 {p : Option Addr} {cap : Nat} (h : Row0 w0 w a D (.slice p L.length cap) L b o) (n : ByteArray) (hl : L.length ≤ 1000) :
    Calls Try.prog 28 #[.slice p L.length cap, .string n] w fun e w' => ∃ pv cv, e = .returned (.slice pv (butK L n).length cv) ∧ Row0 w0 w' a D (.slice pv (butK L n).length cv) (butK L n) b o ∧ Below w.heap.size w w' := by
  have hbl : b < w.heap.size := (Array.getElem?_eq_some_iff.1 h.box).1
  exact (but_any h.row n hl).mono fun _ _ ⟨pv, cv, he, hr, hf, hb⟩ => ⟨pv, cv, he, ⟨h.aside.grow hb fun k hk => hk.elim (fun e => .inr ⟨hf k e, hr.lt k e⟩) fun e => .inl (.inr e), hr, fun k hk => Nat.le_trans h.aside.below.size (hf k hk), (hb.block _ hbl).trans h.box, h.new, fun e => by have := hf b e; omega⟩, hb⟩
/-- A new world of which only the tape has moved, or where a block is new. -/
theorem Mid.drew (h : Mid w0 w a D v L b o) : Mid w0 w.drew a D v L b o := h.same (Below.refl _ _).drew
theorem Mid.alloc (h : Mid w0 w a D v L b o) (q : Obj) : Mid w0 (w.alloc q) a D v L b o := h.same ((Below.refl _ _).alloc (Nat.le_refl _) q)
end

set_option maxRecDepth 100000 in
set_option maxHeartbeats 8000000 in
theorem lasts_any (p : Option Addr) (cap : Nat) (xs : List ActV) (w : World) (hxs : Acts w p xs) :
    Calls Try.prog 5 #[.slice p xs.length cap] w fun e w' => e = .returned (.bool true) ∧ Below w.heap.size w w' := by
  have HX := Lib.hid hxs
  go_enter Try.func5, Try.ntmps5
  go_wp2_with fail
  refine (diskAwake_any _).mono ?_
  rintro e w1 ⟨rfl, hb1⟩
  go_wp2_with fail
  refine (great_any p cap xs w1 (hxs.below hb1)).mono ?_
  rintro e w2 ⟨b, rfl, hb2, hsm⟩
  have hb := hb1.trans (hb2.mono hb1.size)
  clear hb1 hb2 hxs
  cases b with
  | true =>
    go_wp2
    go_ret
    exact ⟨rfl, hb⟩
  | false =>
    have hsm := (hsm rfl).1
    go_wp2_with fail
    refine (new_in hb).mono ?_
    rintro e w3 ⟨a, rfl, h3⟩
    have H3 := Lib.hid (show Lasts w w3 a Dm.new (.slice none 0 0) [] from ⟨by
      obtain ⟨m, T, q1, q2⟩ := h3.disk.tight
      exact ⟨⟨_, ⟨m, T, q1, q2⟩, fun k hk => hk.1, fun k _ e => nomatch e⟩, (fun k e => nomatch e), fun _ _ => rfl, h3.below⟩, KRow.nil _, (fun k e => nomatch e), fun e he => nomatch he⟩)
    clear h3 hb
    go_wp2_with fail
    go_loopg [4, 5] xs.length (fun g sv iv wr => ∃ (k : Nat) (D : Dm.Disk) (L : KList) (pv : Option Addr) (cv : Nat), g = xs.length - k ∧ k ≤ xs.length ∧ iv = .int .i64 (k : Nat) ∧ sv = .slice pv L.length cv ∧ L.length ≤ k ∧ Hid (D.down = false ∧ Lasts w wr a D (.slice pv L.length cv) L))
    case atStart => exact ⟨0, Dm.new, [], none, 0, rfl, Nat.zero_le _, rfl, rfl, Nat.le_refl _, Lib.hid ⟨rfl, H3.out⟩⟩
    case round =>
      obtain ⟨k, D, L, pv, cv, rfl, hk, rfl, rfl, hL, HK⟩ := hrel
      by_cases hlt : k < xs.length
      · have i1 : (k : Int) < (xs.length : Int) := by omega
        have i2 : (0 : Int) ≤ (k : Int) := by omega
        obtain ⟨A, rfl, hA, hcells, hok⟩ := HX.out k hlt
        have cell : ∀ j, j < 6 → wr.cell? ((A.add (k * 6)).add j) = xs[k].cells[j]? := fun j hj => by
          rw [add_add]; exact (HK.out.2.aside.below.cell (by rw [add_blk]; exact hA)).trans (hcells j hj)
        have c0 : wr.cell? (A.add (k * 6)) = some (.int .i64 xs[k].act) := cell 0 (by omega)
        have c1 : wr.cell? ⟨(A.add (k * 6)).block, (A.add (k * 6)).off + 1, none⟩ = some (.string xs[k].name) := cell 1 (by omega)
        have c2 : wr.cell? ⟨(A.add (k * 6)).block, (A.add (k * 6)).off + 2, none⟩ = some (.string xs[k].to) := cell 2 (by omega)
        have c3 : wr.cell? ⟨(A.add (k * 6)).block, (A.add (k * 6)).off + 3, none⟩ = some (.string xs[k].data) := cell 3 (by omega)
        have c4 : wr.cell? ⟨(A.add (k * 6)).block, (A.add (k * 6)).off + 4, none⟩ = some (.int .i64 xs[k].n) := cell 4 (by omega)
        have c5 : wr.cell? ⟨(A.add (k * 6)).block, (A.add (k * 6)).off + 5, none⟩ = some (.slice xs[k].kp xs[k].ks.length xs[k].kcap) := cell 5 (by omega)
        clear cell hcells hA
        have HOK := Lib.hid hok
        clear hok
        generalize xs[k] = x at *
        go_upto_block 2 with fail
        obtain ⟨W, hW⟩ : ∃ W, wr.alloc (boxA x) = W := ⟨_, rfl⟩
        have M0 : Mid w W a D (.slice pv L.length cv) L wr.heap.size (boxA x) := by rw [← hW]; exact HK.out.2.box _
        have HM := Lib.hid M0
        have HU := Lib.hid HK.out.1
        obtain ⟨b, hb⟩ : ∃ b, wr.heap.size = b := ⟨_, rfl⟩
        rw [hb] at HM
        unfold boxA at hW
        rw [hW, hb]
        clear M0 hW hb c0 c1 c2 c3 c4 c5 HK
        have hL2 : L.length < 400 := by omega
        go_cut [4] from 21 to 192 (fun sv wc => ∃ (D' : Dm.Disk) (L' : KList) (pv' : Option Addr) (cv' : Nat), sv = .slice pv' L'.length cv' ∧ L'.length ≤ k + 1 ∧ Hid (Mid w wc a D' (.slice pv' L'.length cv') L' b (boxA x)))
        case first =>
          obtain ⟨x0, x1, x2, x3, x4, x5⟩ := HM.out.cells
          have hact : x.act = 0 ∨ x.act = 1 ∨ x.act = 2 ∨ x.act = 3 ∨ x.act = 4 ∨ x.act = 6 ∨ x.act = 8 ∨ x.act = 9 ∨ (x.act ≠ 0 ∧ x.act ≠ 1 ∧ x.act ≠ 2 ∧ x.act ≠ 3 ∧ x.act ≠ 4 ∧ x.act ≠ 6 ∧ x.act ≠ 8 ∧ x.act ≠ 9) := by omega
          rcases hact with hact | hact | hact | hact | hact | hact | hact | hact | ⟨n0, n1, n2, n3, n4, n6, n8, n9⟩
          · as_aux_lemma =>
              obtain ⟨c, D', hcd⟩ : ∃ c D', Dm.create D x.name.data.toList = (c, D') := ⟨_, _, rfl⟩
              have HS := Lib.hid (Dm.create_sure HM.out.sure x.name.data.toList)
              rw [hcd] at HS
              have HCD := Lib.hid hcd
              clear hcd
              go_wp2_with fail
              refine (create_aside HM.out.aside x.name HOK.out.name HCD.out rfl).mono ?_
              rintro e w5 ⟨rfl, h5⟩
              have H5 := Lib.hid (HM.out.of h5 HS.out)
              clear h5
              go_wp2_with fail
              go_meet
              case rel => exact ⟨_, _, _, _, rfl, by omega, H5⟩
          · as_aux_lemma =>
              obtain ⟨c, D', hcd⟩ : ∃ c D', Dm.append D x.name.data.toList x.data.data.toList = (c, D') := ⟨_, _, rfl⟩
              have HS := Lib.hid (Dm.append_sure HM.out.sure HM.out.aside.right x.name.data.toList x.data.data.toList)
              rw [hcd] at HS
              have HCD := Lib.hid hcd
              clear hcd
              go_wp2_with fail
              refine (append_aside HM.out.aside x.name x.data HOK.out.name HOK.out.data HCD.out rfl).mono ?_
              rintro e w5 ⟨rfl, h5⟩
              have H5 := Lib.hid (HM.out.of h5 HS.out)
              clear h5
              go_wp2_with fail
              go_meet
              case rel => exact ⟨_, _, _, _, rfl, by omega, H5⟩
          · as_aux_lemma =>
              obtain ⟨c, D', hcd⟩ : ∃ c D', Dm.sync D x.name.data.toList = (c, D') := ⟨_, _, rfl⟩
              have hs0 := Dm.sync_sure HM.out.sure HM.out.aside.right x.name.data.toList
              have hs1 := Dm.sync_read HM.out.sure HM.out.aside.right x.name.data.toList
              rw [hcd] at hs0 hs1
              have HS := Lib.hid hs0
              have HR := Lib.hid hs1
              have HCD := Lib.hid hcd
              clear hcd hs0 hs1
              by_cases hc : c = 0
              · subst hc
                obtain ⟨s, hr, hs⟩ := HR.out rfl
                have HR2 := Lib.hid hr
                have HS2 := Lib.hid (show Dm.SureF D'.files (plain (butK L x.name ++ [(x.name, ⟨s.toArray⟩)])) by
                  unfold plain at *; rw [List.map_append]; have := plain_but L x.name; unfold plain at this; rw [this]; simpa using hs)
                clear hr hs
                have hbl := butK_len L x.name
                go_wp2_with fail
                refine (sync_aside HM.out.aside x.name HOK.out.name HCD.out rfl).mono ?_
                rintro e w5 ⟨rfl, h5⟩
                have H5 := Lib.hid (HM.out.of h5 HS.out)
                clear h5 x0 x1 x2 x3 x4 x5
                obtain ⟨-, x1, -⟩ := H5.out.cells
                go_wp2_with fail
                refine (read_aside H5.out.aside x.name HOK.out.name HR2.out rfl).mono ?_
                rintro e w6 ⟨rfl, rfl⟩
                go_wp2_with fail
                have xa := fun q => (H5.out.alloc q).cells.2.1
                clear HR HR2 HCD
                go_region_law (first
                  | (go_simp; go_at_call 28; refine (but_mid (show Mid w _ a D' _ L b (boxA x) from by first | exact H5.out.drew | exact (H5.out.alloc _).drew) x.name (by omega)).mono ?_; rintro e w7 ⟨pv7, cv7, rfl, h7, hb7⟩; have H7 := Lib.hid h7; have HB7 := Lib.hid hb7; obtain ⟨-, y1, -⟩ := h7.cells; clear h7 hb7)
                  | (obtain ⟨pv8, cv8, w8, hrun, h8⟩ := (H7.out.alloc (.cells #[.string x.name, .string ⟨s.toArray⟩] 47)).append x.name ⟨s.toArray⟩ w7.heap.size (heap_alloc_new w7 _) (by omega) HS2.out 42; have H8 := Lib.hid h8; clear h8; refine step_append_run rfl (.tmp 64) (.tmp 69) 42 42 rfl _ _ (by simp [Act.eval, Act.put]) (by simp [Act.eval, Act.put]) _ _ hrun ?_)
                  | (obtain ⟨pv8, cv8, w8, hrun, h8⟩ := H7.out.append x.name ⟨s.toArray⟩ w5.heap.size ((HB7.out.block _ (by show w5.heap.size < (w5.alloc _).heap.size; simp)).trans (heap_alloc_new w5 _)) (by omega) HS2.out 42; have H8 := Lib.hid h8; clear h8; refine step_append_run rfl (.tmp 64) (.tmp 69) 42 42 rfl _ _ (by simp [Act.eval, Act.put]) (by simp [Act.eval, Act.put]) _ _ hrun ?_))
                all_goals
                  go_wp2_with fail
                  go_meet
                  case rel => exact ⟨_, _, _, _, by rw [List.length_append]; rfl, by simp; omega, H8⟩
              · have e1 : ((c : Int) == 0) = false := by rw [beq_eq_false_iff_ne]; omega
                clear HR
                go_wp2_with fail
                refine (sync_aside HM.out.aside x.name HOK.out.name HCD.out rfl).mono ?_
                rintro e w5 ⟨rfl, h5⟩
                have H5 := Lib.hid (HM.out.of h5 HS.out)
                clear h5
                go_wp2_with fail
                go_meet
                case rel => exact ⟨_, _, _, _, rfl, by omega, H5⟩
          · as_aux_lemma =>
              obtain ⟨c, D', hcd⟩ : ∃ c D', Dm.rename D x.name.data.toList x.to.data.toList = (c, D') := ⟨_, _, rfl⟩
              have HCD := Lib.hid hcd
              by_cases hc : c = 0
              · subst hc
                by_cases hne : x.name = x.to
                · obtain ⟨f, g1, g2⟩ := Dm.rename_yes (d := D) x.name.data.toList x.to.data.toList (by rw [hcd])
                  rw [hcd] at g2
                  have HS := Lib.hid (show Dm.SureF D'.files (plain L) by rw [show D'.files = _ from g2, ← hne]; exact HM.out.sure.same_name g1)
                  rw [← hne] at x2
                  rw [← hne] at HCD
                  have hto := HOK.out.name
                  have HNE := Lib.hid hne
                  clear hcd g1 g2 hne
                  go_wp2_with fail
                  refine (rename_aside HM.out.aside x.name x.name hto hto HCD.out rfl).mono ?_
                  rintro e w5 ⟨rfl, h5⟩
                  have H5 := Lib.hid (HM.out.of h5 HS.out)
                  clear h5 x0 x1 x2 x3 x4 x5
                  obtain ⟨-, x1, x2, -⟩ := H5.out.cells
                  rw [← HNE.out] at x2
                  go_wp2_with fail
                  go_meet
                  case rel => exact ⟨_, _, _, _, rfl, by omega, H5⟩
                · have hq : (x.name.toList == x.to.toList) = false := by
                    rw [beq_eq_false_iff_ne, ByteArray.toList_eq, ByteArray.toList_eq]
                    intro e
                    exact hne (ByteArray.ext (Array.toList_inj.1 e))
                  obtain ⟨g1, g2⟩ := Dm.rename_sure HM.out.sure x.name.data.toList x.to.data.toList (by rw [hcd])
                  rw [hcd, ← plain_but, ← plain_but] at g1
                  have hs2 : (ofK L x.name).2 = true → Dm.SureF D'.files (plain (butK (butK L x.name) x.to ++ [(x.to, (ofK L x.name).1)])) := fun e => by
                    have := g2 _ (ofK_mem e)
                    rw [hcd, ← plain_but, ← plain_but] at this
                    unfold plain at *; rw [List.map_append]; exact this
                  have HS := Lib.hid (show Dm.SureF D'.files (plain (butK (butK L x.name) x.to)) from g1)
                  have HS2 := Lib.hid hs2
                  have hb1 := butK_len L x.name
                  have hb2 := butK_len (butK L x.name) x.to
                  have hof := fun (W : World) (h : KRow W (.slice pv L.length cv) L) => of_any h x.name (by omega)
                  clear hcd g1 g2 hs2 hne
                  generalize ofK L x.name = z at *
                  obtain ⟨dt, ok⟩ := z
                  have HOF := Lib.hid hof
                  clear hof
                  go_wp2_with fail
                  refine (rename_aside HM.out.aside x.name x.to HOK.out.name HOK.out.to HCD.out rfl).mono ?_
                  rintro e w5 ⟨rfl, h5⟩
                  have H5 := Lib.hid (HM.out.of0 h5)
                  clear h5 x0 x1 x2 x3 x4 x5
                  obtain ⟨x1, x2⟩ := H5.out.cells
                  go_wp2_with fail
                  refine (HOF.out _ H5.out.row).mono ?_
                  rintro e w6 ⟨rfl, hb6⟩
                  have H6 := Lib.hid (H5.out.same hb6)
                  clear hb6 H5 x1 x2
                  obtain ⟨x1, x2⟩ := H6.out.cells
                  go_wp2_with fail
                  go_region_law (first
                    | (go_simp; go_at_call 28; refine (but_row0 H7.out x.to (by omega)).mono ?_; rintro e w8 ⟨pv8, cv8, rfl, h8, -⟩; have H8 := Lib.hid h8; obtain ⟨z1, z2⟩ := h8.cells; clear h8)
                    | (go_simp; go_at_call 28; refine (but_row0 H6.out.drew x.name (by omega)).mono ?_; rintro e w7 ⟨pv7, cv7, rfl, h7, -⟩; have H7 := Lib.hid h7; obtain ⟨y1, y2⟩ := h7.cells; clear h7))
                  all_goals
                    have H9 := Lib.hid (H8.out.mid HS.out)
                    cases ok with
                    | false =>
                      go_wp2_with fail
                      go_meet
                      case rel => exact ⟨_, _, _, _, rfl, by omega, H9⟩
                    | true =>
                      obtain ⟨pv9, cv9, w9, hrun, h9⟩ := (H9.out.alloc (.cells #[.string x.to, .string dt] 47)).append x.to dt w8.heap.size (heap_alloc_new w8 _) (by omega) (HS2.out rfl) 42
                      have H10 := Lib.hid h9
                      clear h9
                      go_wp2_with (at_builtin; refine Lib.wpList_append_run _ rfl (.tmp 102) (.tmp 107) _ _ rfl _ _ rfl rfl _ _ hrun ?_)
                      go_meet
                      case rel => exact ⟨_, _, _, _, by rw [List.length_append]; rfl, by simp; omega, H10⟩
              · have hs1 := Dm.rename_no (d := D) x.name.data.toList x.to.data.toList (by rw [hcd]; exact hc)
                rw [hcd] at hs1
                have HS := Lib.hid (show Dm.SureF D'.files (plain L) by rw [show D'.files = _ from hs1]; exact HM.out.sure)
                clear hcd hs1
                have e1 : ((c : Int) == 0) = false := by rw [beq_eq_false_iff_ne]; omega
                go_wp2_with fail
                refine (rename_aside HM.out.aside x.name x.to HOK.out.name HOK.out.to HCD.out rfl).mono ?_
                rintro e w5 ⟨rfl, h5⟩
                have H5 := Lib.hid (HM.out.of h5 HS.out)
                clear h5
                go_wp2_with fail
                go_meet
                case rel => exact ⟨_, _, _, _, rfl, by omega, H5⟩
          · as_aux_lemma =>
              obtain ⟨c, D', hcd⟩ : ∃ c D', Dm.remove D x.name.data.toList = (c, D') := ⟨_, _, rfl⟩
              have HCD := Lib.hid hcd
              by_cases hc : c = 0
              · subst hc
                have hs1 := Dm.remove_yes (d := D) x.name.data.toList (by rw [hcd])
                rw [hcd] at hs1
                have HS := Lib.hid (show Dm.SureF D'.files (plain (butK L x.name)) by rw [plain_but]; show Dm.SureF D'.files _; rw [show D'.files = _ from hs1]; exact HM.out.sure.removed _)
                clear hcd hs1
                have hbl := butK_len L x.name
                go_wp2_with fail
                refine (remove_aside HM.out.aside x.name HOK.out.name HCD.out rfl).mono ?_
                rintro e w5 ⟨rfl, h5⟩
                have H5 := Lib.hid (HM.out.of0 h5)
                clear h5 x0 x1 x2 x3 x4 x5
                obtain ⟨x1, -⟩ := H5.out.cells
                go_wp2_with fail
                refine (but_row0 H5.out x.name (by omega)).mono ?_
                rintro e w6 ⟨pv6, cv6, rfl, h6, -⟩
                have H6 := Lib.hid (h6.mid HS.out)
                clear h6
                go_wp2_with fail
                go_meet
                case rel => exact ⟨_, _, _, _, rfl, by omega, H6⟩
              · have hs1 := Dm.remove_no (d := D) x.name.data.toList (by rw [hcd]; exact hc)
                rw [hcd] at hs1
                have HS := Lib.hid (show Dm.SureF D'.files (plain L) by rw [show D'.files = _ from hs1]; exact HM.out.sure)
                clear hcd hs1
                have e1 : ((c : Int) == 0) = false := by rw [beq_eq_false_iff_ne]; omega
                go_wp2_with fail
                refine (remove_aside HM.out.aside x.name HOK.out.name HCD.out rfl).mono ?_
                rintro e w5 ⟨rfl, h5⟩
                have H5 := Lib.hid (HM.out.of h5 HS.out)
                clear h5
                go_wp2_with fail
                go_meet
                case rel => exact ⟨_, _, _, _, rfl, by omega, H5⟩
          · as_aux_lemma =>
              go_wp2_with fail
              refine (fuse_aside HM.out.aside x.n HOK.out.n.2).mono ?_
              rintro e w5 ⟨rfl, h5⟩
              have H5 := Lib.hid (HM.out.of h5 HM.out.sure)
              clear h5
              go_wp2_with fail
              go_meet
              case rel => exact ⟨_, _, _, _, rfl, by omega, H5⟩
          · as_aux_lemma =>
              go_wp2_with fail
              refine (twin_aside HM.out.aside).mono ?_
              rintro e w5 ⟨t, rfl, ht, hk5, h5⟩
              have HT := Lib.hid ht
              have HK5 := Lib.hid hk5
              have x5' : w5.cell? ⟨b, 5, none⟩ = some (.slice x.kp x.ks.length x.kcap) := (World.cell?_of_block (hk5 b (.inr rfl))).trans x5
              clear ht hk5
              go_wp2_with fail
              refine (crash_aside h5 x.kp x.kcap x.ks HOK.out.keep.1 HOK.out.ints).mono ?_
              rintro e w6 ⟨rfl, h6⟩
              clear h5 x5'
              go_wp2_with fail
              refine (start_aside h6).mono ?_
              rintro e w7 ⟨rfl, h7⟩
              clear h6
              go_wp2_with fail
              refine (begins_aside h7 HT.out (fun k hk => .inr hk) (Dm.started_up _) HU.out (Dm.again_begins HM.out.aside.right x.ks)).mono ?_
              rintro e w8 ⟨rfl, h8⟩
              have H8 := Lib.hid (HM.out.of (h8.back (W := W) (fun k hk => .inl hk) fun k hk => HK5.out k hk) (Dm.again_sure HM.out.sure HM.out.aside.right x.ks))
              clear h7 h8
              go_wp2_with fail
              go_meet
              case rel => exact ⟨_, _, _, _, rfl, by omega, H8⟩
          · as_aux_lemma =>
              go_wp2_with fail
              refine (start_aside HM.out.aside).mono ?_
              rintro e w5 ⟨rfl, h5⟩
              have H5 := Lib.hid (HM.out.of h5 (by rw [Dm.start_up HU.out]; exact HM.out.sure))
              clear h5
              go_wp2_with fail
              go_meet
              case rel => exact ⟨_, _, _, _, rfl, by omega, H5⟩
          · as_aux_lemma =>
              go_wp2_with fail
              go_meet
              case rel => exact ⟨_, _, _, _, rfl, by omega, HM⟩
        case rest =>
          as_aux_lemma =>
            obtain ⟨D', L', pv', cv', rfl, hL3, HM2⟩ := hcut
            clear HM HU hL2 hL
            obtain ⟨-, -, -, -, -, x5⟩ := HM2.out.cells
            cases hdn : D'.down with
            | true =>
              have HDN := Lib.hid hdn
              clear hdn
              go_wp2_with fail
              refine (down_aside HM2.out.aside HDN.out).mono ?_
              rintro e w5 ⟨rfl, rfl⟩
              go_wp2_with fail
              refine (crash_aside HM2.out.aside x.kp x.kcap x.ks HOK.out.keep.1 HOK.out.ints).mono ?_
              rintro e w6 ⟨rfl, h6⟩
              clear x5
              go_wp2_with fail
              refine (start_aside h6).mono ?_
              rintro e w7 ⟨rfl, h7⟩
              obtain ⟨D2, hD2⟩ : ∃ D2, Dm.start (Dm.crash D' x.ks) = D2 := ⟨_, rfl⟩
              have H7 := Lib.hid (show D2.down = false ∧ Mid w w7 a D2 (.slice pv' L'.length cv') L' b (boxA x) from ⟨by rw [← hD2]; exact Dm.started_up _, by rw [← hD2]; exact HM2.out.of h7 (Dm.again_sure HM2.out.sure HM2.out.aside.right x.ks)⟩)
              clear h6 h7 hD2 HDN HM2
              go_wp2_with fail
              go_loopw [12] (fun iv wr => ∃ j : Nat, j ≤ L'.length ∧ iv = .int .i64 (j : Nat) ∧ Hid (Mid w wr a D2 (.slice pv' L'.length cv') L' b (boxA x))) (fun iv _ => L'.length - (intOf iv).toNat)
              case atStart => exact ⟨0, Nat.zero_le _, rfl, Lib.hid H7.out.2⟩
              case round =>
                obtain ⟨j, hj, rfl, HK⟩ := hrel
                by_cases hjl : j < L'.length
                · have i3 : (j : Int) < (L'.length : Int) := by omega
                  have i4 : (0 : Int) ≤ (j : Int) := by omega
                  obtain ⟨g, rfl, y0, y1⟩ := HK.out.row.at hjl
                  obtain ⟨s, hs1, hs2, hs3, hrd⟩ := HK.out.read H7.out.1 hjl
                  have HRD := Lib.hid hrd
                  clear hrd
                  unfold maxLen at hs2
                  have j1 : decide ((s.size : Int) < (L'[j].2.size : Int)) = false := decide_eq_false (by omega)
                  have j2 : (L'[j].2.size : Int) ≤ (s.size : Int) := by omega
                  have j3 : (0 : Int) ≤ (L'[j].2.size : Int) := by omega
                  go_wp2_with fail
                  refine HRD.out.mono ?_
                  rintro e w8 ⟨rfl, rfl⟩
                  go_wp2_with fail
                  go_quiet (fail)
                  go_wp2_with fail
                  go_roundw
                  case rel => exact ⟨j + 1, by omega, rfl, Lib.hid (HK.out.same (below_drewN (Below.refl _ _) _))⟩
                  case measure => simp [intOf]; omega
                · obtain rfl : j = L'.length := by omega
                  have i3 : ¬ (L'.length : Int) < (L'.length : Int) := by omega
                  go_wp2_with fail
                  go_roundg (xs.length - (k + 1))
                  case measure => omega
                  case rel => exact ⟨k + 1, D2, L', pv', cv', rfl, by omega, rfl, rfl, by omega, Lib.hid ⟨H7.out.1, HK.out.lasts⟩⟩
            | false =>
              obtain ⟨D2, hD2⟩ : ∃ D2, D2 = D' := ⟨_, rfl⟩
              rw [← hD2] at hdn HM2
              clear hD2
              have H7 := Lib.hid (And.intro hdn HM2.out)
              obtain ⟨w7, hw7⟩ : ∃ w7, w7 = wc := ⟨_, rfl⟩
              rw [← hw7] at H7 ⊢
              clear hdn HM2 x5 hw7
              go_wp2_with fail
              refine (down_aside H7.out.2.aside H7.out.1).mono ?_
              rintro e w5 ⟨rfl, rfl⟩
              go_wp2_with fail
              go_loopw [12] (fun iv wr => ∃ j : Nat, j ≤ L'.length ∧ iv = .int .i64 (j : Nat) ∧ Hid (Mid w wr a D2 (.slice pv' L'.length cv') L' b (boxA x))) (fun iv _ => L'.length - (intOf iv).toNat)
              case atStart => exact ⟨0, Nat.zero_le _, rfl, Lib.hid H7.out.2⟩
              case round =>
                obtain ⟨j, hj, rfl, HK⟩ := hrel
                by_cases hjl : j < L'.length
                · have i3 : (j : Int) < (L'.length : Int) := by omega
                  have i4 : (0 : Int) ≤ (j : Int) := by omega
                  obtain ⟨g, rfl, y0, y1⟩ := HK.out.row.at hjl
                  obtain ⟨s, hs1, hs2, hs3, hrd⟩ := HK.out.read H7.out.1 hjl
                  have HRD := Lib.hid hrd
                  clear hrd
                  unfold maxLen at hs2
                  have j1 : decide ((s.size : Int) < (L'[j].2.size : Int)) = false := decide_eq_false (by omega)
                  have j2 : (L'[j].2.size : Int) ≤ (s.size : Int) := by omega
                  have j3 : (0 : Int) ≤ (L'[j].2.size : Int) := by omega
                  go_wp2_with fail
                  refine HRD.out.mono ?_
                  rintro e w8 ⟨rfl, rfl⟩
                  go_wp2_with fail
                  go_quiet (fail)
                  go_wp2_with fail
                  go_roundw
                  case rel => exact ⟨j + 1, by omega, rfl, Lib.hid (HK.out.same (below_drewN (Below.refl _ _) _))⟩
                  case measure => simp [intOf]; omega
                · obtain rfl : j = L'.length := by omega
                  have i3 : ¬ (L'.length : Int) < (L'.length : Int) := by omega
                  go_wp2_with fail
                  go_roundg (xs.length - (k + 1))
                  case measure => omega
                  case rel => exact ⟨k + 1, D2, L', pv', cv', rfl, by omega, rfl, rfl, by omega, Lib.hid ⟨H7.out.1, HK.out.lasts⟩⟩
      · obtain rfl : k = xs.length := by omega
        have i1 : ¬ (xs.length : Int) < (xs.length : Int) := by omega
        go_wp2_with fail
        go_ret
        exact ⟨rfl, HK.out.2.aside.below⟩
end Go.Proofs.Yteolagmlghalgaa
