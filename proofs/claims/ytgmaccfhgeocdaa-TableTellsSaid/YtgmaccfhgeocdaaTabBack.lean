/-
  Walks over the laws of package table: TableBack. No condition but those in the theorem.
-/
import Derived.Test.YtgmaccfhgeocdaaTabNext
import Derived.Test.YtgmaccfhgeocdaaQuietRound
namespace Go.Proofs.Ytgmaccfhgeocdaa
open Go.RowKit Go.Shelf Tb
attribute [local go_sem] Oper.semAt_some

theorem results_back (tmps : Array Value) (w : World) (g : Nat) (v : Value) (hp : tmps.getD 4 undef = .pointer (some ⟨g, 0, none⟩)) (hc : w.cell? ⟨g, 0, none⟩ = some v) :
    (results Try.f5 tmps).run Try.prog w = .ok v w := by
  have hp' : tmps[4]?.getD undef = .pointer (some ⟨g, 0, none⟩) := by simpa using hp
  simp [results, hp', asAddr, loadVar, hc, go_sem]
/-- The law's 'is' box, ahead of a round: whether the key was seen. -/
def Seen (gs : Nat) (l : List En) (key : ByteArray) (i : Nat) (A : World) : Prop := ∃ b, A.heap[gs]? = some (.cells #[.bool b] 4 (0, 0)) ∧ (b = true ↔ ∃ e ∈ l.take i, e.key = key)
theorem seen_next {l : List En} {i : Nat} (hi : i < l.length) {key : ByteArray} {b b' : Bool} (h : b = true ↔ ∃ e ∈ l.take i, e.key = key) (hb : b' = true ↔ b = true ∨ l[i].key = key) : b' = true ↔ ∃ e ∈ l.take (i + 1), e.key = key := by
  rw [hb, h, List.take_succ_eq_append_getElem hi]
  constructor
  · rintro (⟨e, he, hk⟩ | hk)
    · exact ⟨e, List.mem_append_left _ he, hk⟩
    · exact ⟨_, List.mem_append_right _ List.mem_cons_self, hk⟩
  · rintro ⟨e, he, hk⟩
    rcases List.mem_append.1 he with he | he
    · exact .inl ⟨e, he, hk⟩
    · rw [List.mem_singleton.1 he] at hk; exact .inr hk
theorem Outs.upons {G : List Nat} {w w' w'' : World} (h : Below w.heap.size w w') (ho : Outs G w' w'') (hb : ∀ g ∈ G, w.heap.size ≤ g) : Below w.heap.size w w'' :=
  ⟨ho.os.trans h.os, ho.tape.trans h.tape, ho.output.trans h.output, Nat.le_trans h.size ho.size, fun k hk => (ho.block k (Nat.lt_of_lt_of_le hk h.size) fun hm => by have := hb k hm; omega).trans (h.block k hk)⟩
set_option maxRecDepth 100000 in
set_option maxHeartbeats 16000000 in
theorem tableBack_any (p : Option Addr) (cap0 : Nat) (l : List En) (key : ByteArray) (w : World) (hl : EntsAt w p l) :
    Calls Try.prog 5 #[.slice p l.length cap0, .string key] w fun e w' => e = .returned (.bool true) ∧ Below w.heap.size w w' := by
  refine (callsIn_wide (n := 9)).1 ?_
  refine callsIn_of_wp_marks Try.func5 rfl trivial ?_ rfl
  simp only [Try.ntmps5, List.size_toArray, List.length_cons, List.length_nil, Nat.reduceAdd, Nat.reduceSub, Array.replicate_succ, Array.replicate_zero, List.push_toArray, List.append_toArray, List.nil_append, List.cons_append]
  have HL := Lib.hid hl
  clear hl
  have h0 := (((now_start w).alloc (.cells #[.slice p l.length cap0] 25)).alloc (.cells #[.string key] 9)).alloc (.cells #[.bool false] 4)
  have hz1 : (w.alloc (.cells #[.slice p l.length cap0] 25)).heap.size = w.heap.size + 1 := by simp
  have hz2 : ((w.alloc (.cells #[.slice p l.length cap0] 25)).alloc (.cells #[.string key] 9)).heap.size = w.heap.size + 1 + 1 := by simp
  rw [hz1, hz2] at h0
  clear hz1 hz2
  gi_wp2_with fail
  obtain ⟨gr, hgr⟩ : ∃ gr, gr = w.heap.size + 1 + 1 := ⟨_, rfl⟩
  rw [← hgr] at h0 ⊢
  obtain ⟨gk, hgk⟩ : ∃ gk, gk = w.heap.size + 1 := ⟨_, rfl⟩
  rw [← hgk] at h0 ⊢
  obtain ⟨gl, hgl⟩ : ∃ gl, gl = w.heap.size := ⟨_, rfl⟩
  rw [← hgl] at h0 ⊢
  clear hgr hgk hgl
  refine ⟨trivial, ?_⟩
  refine (callsIn_wide.2 (awake_any _)).mono ?_
  rintro e w1 ⟨rfl, hb1⟩
  have H1 := Lib.hid (h0.same hb1)
  have cl1 := (cells1 (H1.out.box (gl, .cells #[.slice p l.length cap0] 25 (0, 0)) (by simp))).1
  clear hb1 h0
  gi_wp2_with fail
  refine ⟨trivial, ?_⟩
  refine (callsIn_wide.2 (great_any (HL.out.below H1.out.below) 300 (by omega) rfl)).mono ?_
  rintro e w2 ⟨b, rfl, hfew, hb2⟩
  have H2 := Lib.hid (H1.out.same hb2)
  have HFEW := Lib.hid hfew
  clear hb2 hfew cl1
  have cl2 := (cells1 (H2.out.box (gl, .cells #[.slice p l.length cap0] 25 (0, 0)) (by simp))).1
  obtain ⟨cr2, fr2⟩ := cells1 (H2.out.box (gr, .cells #[.bool false] 4 (0, 0)) (by simp))
  have fr2 := fr2 0
  cases b with
  | true =>
    have HE := Lib.hid ((H2.out.set (.bool true)).sub (B' := [(gr, .cells #[.bool true] 4 (0, 0))]) (.cons_cons _ (.cons _ (.cons _ .slnil))))
    gi_wp2_with fail
    exact leaves_box w gr 4 (fun W hc => results_back _ W _ _ rfl hc) [] _ HE.out (fun W' hb => ⟨rfl, hb⟩)
  | false =>
    have HF : Hid (l.length ≤ 300) := Lib.hid (HFEW.out (by trivial))
    clear HFEW
    gi_wp2_with fail
    refine ⟨trivial, ?_⟩
    refine (callsIn_wide.2 (build_any (HL.out.below H2.out.below))).mono ?_
    rintro e w3 ⟨s, n, rfl, hn, hs, hs2, hb3⟩
    have HN := Lib.hid hn
    have HS := Lib.hid hs
    have H3 := Lib.hid (H2.out.same hb3)
    clear hb3 hn hs cl2 cr2 fr2
    by_cases h0 : n = 0
    · subst h0
      have hright : Right l := (bars_right l).1 HN.out.symm
      have HR := Lib.hid hright
      have hS := HS.out hright
      have HO : Hid (∀ W, Calls Try.prog 9 #[.string s] W fun e w' => ∃ a, e = .returned (.tuple #[.pointer (some ⟨a, 0, none⟩), .int .i64 0]) ∧ IsTab w' a l ∧ W.heap.size ≤ a ∧ Below W.heap.size W w') := Lib.hid fun W => by rw [hS]; exact open_yes hright
      clear hs2 hright hS HS HN
      gi_wp2_with fail
      refine ⟨trivial, ?_⟩
      refine (callsIn_wide.2 (HO.out w3)).mono ?_
      rintro e w4 ⟨a, rfl, ht, -, hb4⟩
      have hb5 := below_alloc w4 (.cells #[.pointer (some ⟨a, 0, none⟩)] 27)
      obtain ⟨gt, hgt⟩ : ∃ gt, gt = w4.heap.size := ⟨_, rfl⟩
      have h5 := (H3.out.same hb4).alloc (.cells #[.pointer (some ⟨a, 0, none⟩)] 27)
      have HT := Lib.hid (ht.below hb5)
      clear hb4 hb5 ht
      rw [← hgt] at h5
      gi_wp2_with fail
      rw [← hgt]
      generalize w4.alloc (.cells #[.pointer (some ⟨a, 0, none⟩)] 27) = w5 at h5 HT ⊢
      have ct5 := (cells1 h5.head).1
      have cl5 := (cells1 (h5.box (gl, .cells #[.slice p l.length cap0] 25 (0, 0)) (by simp))).1
      have H5 := Lib.hid h5
      have hfn : Fence.wide.fn 13 = True := rfl
      clear hgt h5
      gi_quiet (first | (gi_at_call 13; exact len_quiet HT.out rfl))
      have hb6 := below_drewN (Below.refl w5.heap.size w5) nq
      have hT6 := HT.out.below hb6
      have h6 := H5.out.same hb6
      clear hfn ct5 cl5 hb6
      generalize w5.drewN nq = w6 at hT6 h6 ⊢
      have hz6 : (w6.alloc (.cells #[.int .i64 0] 3)).heap.size = w6.heap.size + 1 := by simp
      have h7 := (h6.alloc (.cells #[.int .i64 0] 3)).alloc (.cells #[.bool false] 4)
      rw [hz6] at h7
      have hb7 := (below_alloc w6 (.cells #[.int .i64 0] 3)).trans ((below_alloc (w6.alloc (.cells #[.int .i64 0] 3)) (.cells #[.bool false] 4)).mono (by simp))
      have hT7 := hT6.below hb7
      obtain ⟨gs, hgs⟩ : ∃ gs, gs = w6.heap.size + 1 := ⟨_, rfl⟩
      obtain ⟨gi, hgi⟩ : ∃ gi, gi = w6.heap.size := ⟨_, rfl⟩
      rw [← hgs, ← hgi] at h7
      have HFR := Lib.hid (from_any hT7 ⟨#[]⟩)
      rw [below_empty, off_zero] at HFR
      have ct7 := (cells1 (h7.box (gt, .cells #[.pointer (some ⟨a, 0, none⟩)] 27 (0, 0)) (by simp))).1
      have H7 := Lib.hid h7
      have HT7 := Lib.hid hT7
      have HG := Lib.hid (And.intro hgs hgi)
      have HB67 := Lib.hid hb7
      have HT6 := Lib.hid hT6
      have HLA := Lib.hid (hT6.1.cells.2.1)
      clear h6 hT6 h7 hT7 hb7 hz6 hgs hgi
      gi_wp2_with fail
      rw [← HG.out.1, ← HG.out.2]
      refine ⟨trivial, ?_⟩
      refine (callsIn_wide.2 HFR.out).mono ?_
      rintro e w8 ⟨b1, b2, rfl, hb1, hb2, hl1, hl2, hbe⟩
      have H8 := Lib.hid (H7.out.same hbe)
      have hT8 := HT7.out.below hbe
      have HB68 := Lib.hid (HB67.out.trans (hbe.mono HB67.out.size))
      have hen := fun (u : World) => eql_seqT u (.func 42) #[] #[.pointer (some ⟨b1, 0, none⟩), .pointer (some ⟨b2, 0, none⟩)]
      gi_wp2_with fail
      obtain ⟨xs, hx, hxl⟩ := ents_from hT8.2 0 (Nat.zero_le _)
      rw [off_zero] at hx
      rw [List.drop_zero] at hxl
      have hrs := rows_small hT8.2
      have hsq := behind1_seq 8 (rows l) (by omega) 0 (by omega) xs hx a b1 b2 w8 hT8.1.rows hb1 hb2
      have hgi8 : w8.heap[gi]? = some (.cells #[.int .i64 0] 3 (0, 0)) := H8.out.box (gi, .cells #[.int .i64 0] 3 (0, 0)) (by simp)
      have hgs8 : w8.heap[gs]? = some (.cells #[.bool false] 4 (0, 0)) := H8.out.head
      have l1 : b1 < w8.heap.size := (Array.getElem?_eq_some_iff.1 hb1).1
      have l2 : b2 < w8.heap.size := (Array.getElem?_eq_some_iff.1 hb2).1
      have l3 : gi < w8.heap.size := (Array.getElem?_eq_some_iff.1 hgi8).1
      have l4 : gs < w8.heap.size := (Array.getElem?_eq_some_iff.1 hgs8).1
      have l5 : a < w8.heap.size := hT8.1.cells.2.1
      have l6 : gt < w8.heap.size := H8.out.lt (q := (gt, .cells #[.pointer (some ⟨a, 0, none⟩)] 27 (0, 0))) (by simp)
      have l7 : gr < w8.heap.size := H8.out.lt (q := (gr, .cells #[.bool false] 4 (0, 0))) (by simp)
      have l8 : gk < w8.heap.size := H8.out.lt (q := (gk, .cells #[.string key] 9 (0, 0))) (by simp)
      have l9 : gl < w8.heap.size := H8.out.lt (q := (gl, .cells #[.slice p l.length cap0] 25 (0, 0))) (by simp)
      have hne : gs ≠ gi := by have := HG.out; omega
      have hn1 : b1 ≠ gi ∧ b1 ≠ gs := by have := HG.out; simp at hl1; omega
      have hn2 : b2 ≠ gi ∧ b2 ≠ gs := by have := HG.out; simp at hl1; omega
      have hn3 : a ≠ gi ∧ a ≠ gs := by have := HG.out; have := HLA.out; omega
      have hww : w.heap.size ≤ w8.heap.size := H8.out.below.size
      have hxn : xs.length = l.length := by have := congrArg List.length hxl; simpa using this
      have HXL := Lib.hid hxl
      have HXN := Lib.hid hxn
      have HGI := Lib.hid hgi8
      have HGS := Lib.hid hgs8
      have HT8 := Lib.hid hT8
      clear hxl hx hxn hgi8 hgs8 hb1 hb2 hbe hen hl1 hl2 hT8 ct7
      apply wpIn_rangeZ rfl (by omega) (gf := 42) (lb := #[.pointer (some ⟨b1, 0, none⟩), .pointer (some ⟨b2, 0, none⟩)]) rfl trivial (enters_of Try.func42 (by kernel_rfl) rfl)
        (encs := fun x : En × Nat => #[.agg #[.string x.1.key, .string x.1.value, .bool x.1.gone]]) (xs := xs) (cap := fun k => k = b1 ∨ k = b2 ∨ k = a) hsq (fun k hk => by rcases hk with rfl | rfl | rfl <;> assumption) (fun _ => rfl)
        (fun S i A => Outs [gs, gi] w8 A ∧ (∀ k, S k → w8.heap.size ≤ k) ∧ A.heap[gi]? = some (.cells #[.int .i64 (i : Nat)] 3 (0, 0)) ∧ Seen gs l key i A)
        (fun _ _ _ _ => False)
        (fun S S' i A C hs st => by
          obtain ⟨r1, r2, r3, b, r4, r5⟩ := hs
          have hz := r1.size
          exact ⟨r1.steps st r2, fun k hk => (st.new k hk).elim (r2 k) fun e => by omega, (st.block _ (by omega) fun e => by have := r2 _ e; omega).trans r3, b, (st.block _ (by omega) fun e => by have := r2 _ e; omega).trans r4, r5⟩)
        (fun _ _ _ _ _ _ hs _ => hs)
        ⟨Outs.refl _ _, fun k hk => hk.elim, HGI.out, false, HGS.out, by simp⟩
        (w₁ := fun x A => A.alloc (.cells #[.string x.1.key, .string x.1.value, .bool x.1.gone] 31)) (hw₁ := fun x A => below_alloc A _)
      case hassign =>
        intro l x W K hK
        gi_wp2
        exact hK
      case hstop =>
        rintro D S cd i A hD hSD hS hi h hK
        exact h.elim
      case hbody =>
        rintro l1 S i hi A0 A hz0 hSA hzA hnew ⟨ho, hS2, hgA, b, hgB, hbb⟩
        have hil : i < l.length := by have := HXN.out; omega
        have hxi : xs[i].1 = l[i] := by
          have e1 : (xs.map Prod.fst)[i]? = l[i]? := by rw [HXL.out]
          rw [List.getElem?_map, List.getElem?_eq_getElem hi, List.getElem?_eq_getElem hil] at e1
          simpa using e1
        have hbx : A.heap[A0.heap.size]? = some (entO xs[i].1) := (hnew _ (Nat.le_refl _)).trans (heap_alloc_new A0 _)
        have HTA := Lib.hid (HT6.out.below (Outs.upons HB68.out ho (fun g hg => by have := HG.out; simp only [List.mem_cons, List.not_mem_nil, or_false] at hg; omega)))
        have hnow : Now w A [(A0.heap.size, entO xs[i].1), (gs, .cells #[.bool b] 4 (0, 0)), (gi, .cells #[.int .i64 (i : Nat)] 3 (0, 0)), (gt, .cells #[.pointer (some ⟨a, 0, none⟩)] 27 (0, 0)), (gr, .cells #[.bool false] 4 (0, 0)), (gk, .cells #[.string key] 9 (0, 0)), (gl, .cells #[.slice p l.length cap0] 25 (0, 0))] := by
          have h := H8.out.outs (G := [(gs, .cells #[.bool false] 4 (0, 0)), (gi, .cells #[.int .i64 0] 3 (0, 0))]) (G' := [(gs, .cells #[.bool b] 4 (0, 0)), (gi, .cells #[.int .i64 (i : Nat)] 3 (0, 0))])
            (B := [(gt, .cells #[.pointer (some ⟨a, 0, none⟩)] 27 (0, 0)), (gr, .cells #[.bool false] 4 (0, 0)), (gk, .cells #[.string key] 9 (0, 0)), (gl, .cells #[.slice p l.length cap0] 25 (0, 0))]) ho rfl
            (fun q hq => by simp only [List.mem_cons, List.not_mem_nil, or_false] at hq; rcases hq with rfl | rfl; exact hgB; exact hgA)
          refine h.add hbx (by omega) (fun q hq => ?_)
          simp only [List.cons_append, List.nil_append, List.mem_cons, List.not_mem_nil, or_false] at hq
          rcases hq with rfl | rfl | rfl | rfl | rfl | rfl <;> dsimp only <;> omega
        have HNW := Lib.hid hnow
        have HO := Lib.hid ho
        have HS2 := Lib.hid hS2
        have HSA := Lib.hid hSA
        have HBB := Lib.hid hbb
        clear hnow ho hS2 hSA hbb hgA hgB hbx hnew hzA
        obtain ⟨P, rfl, e0, e1, e2, hin⟩ := HL.out.at HNW.out.below hil
        rw [hxi] at HNW ⊢
        obtain ⟨d0, d1, d2⟩ := cells3 HNW.out.head
        have cg := (cells1 (HNW.out.box (gi, .cells #[.int .i64 (i : Nat)] 3 (0, 0)) (by simp))).1
        have cl := (cells1 (HNW.out.box (gl, .cells #[.slice (some P) l.length cap0] 25 (0, 0)) (by simp))).1
        have hkey : l[i].key.size ≤ 128 := (HR.out.ok l[i] (List.getElem_mem _)).2.1
        obtain ⟨x, hxx⟩ : ∃ x, x = l[i] := ⟨_, rfl⟩
        rw [← hxx] at d0 d1 d2 e0 e1 e2 HNW hkey ⊢
        have i1 : (i : Int) < (l.length : Int) := by omega
        have i2 : ¬ (l.length : Int) ≤ (i : Int) := by omega
        have i3 : (0 : Int) ≤ (i : Int) := by omega
        have HXX := Lib.hid hxx
        clear hxx hxi hin
        gi_wp2_with fail
        have i4 : ¬ l.length ≤ i := by omega
        have i5 : decide (l.length ≤ i) = false := decide_eq_false i4
        refine region_quiet_round rfl (by kernel_rfl) (by kernel_rfl) (by kernel_rfl) ?_
        repeat (gi_big_quiet_step (fail))
        refine wpQuietIn_nil ?_
        intro _ hw'
        obtain ⟨nq, hw''⟩ := hw'
        subst hw''
        have hbA := below_drewN (Below.refl A.heap.size A) nq
        have H1 := Lib.hid (HNW.out.same hbA)
        have HT1 := Lib.hid (HTA.out.below hbA)
        have HB1 := Lib.hid hbA
        clear cg cl d0 d1 d2 e0 e1 e2 i1 i2 i3 i4 i5 hbA
        generalize A.drewN nq = A1 at H1 HT1 HB1 ⊢
        obtain ⟨d0, d1, d2⟩ := cells3 H1.out.head
        have ct := (cells1 (H1.out.box (gt, .cells #[.pointer (some ⟨a, 0, none⟩)] 27 (0, 0)) (by simp))).1
        gi_wp2_with fail
        refine ⟨trivial, ?_⟩
        refine (CallsIn.inRound l1 (callsIn_wide.2 (get_any HT1.out x.key))).mono ?_
        rintro e W2 ⟨rfl, hb2⟩
        have hg1 : getE l x.key = some x := by rw [HXX.out]; exact getE_at HR.out hil
        rw [hg1]
        unfold getV enV
        simp only [Option.getD_some, Option.isSome_some]
        have hbY := hb2.trans ((below_alloc W2 (.cells #[.string x.key, .string x.value, .bool x.gone] 31)).mono hb2.size)
        have H2 := Lib.hid ((H1.out.same hb2).alloc (.cells #[.string x.key, .string x.value, .bool x.gone] 31))
        have HT2 := Lib.hid (HT1.out.below hbY)
        have HB2 := Lib.hid (HB1.out.trans (hbY.mono HB1.out.size))
        have hadd := fun u => run_string_add_sum (P := Try.prog) u x.key ⟨#[0]⟩ (by show x.key.size + 1 ≤ _; omega)
        have hnx : (getE l (x.key ++ (⟨#[0]⟩ : ByteArray))).isSome = true → ∃ h1 : i + 1 < l.length, l[i + 1].key = x.key ++ (⟨#[0]⟩ : ByteArray) := by rw [HXX.out]; exact beside_next HR.out hil
        generalize x.key ++ (⟨#[0]⟩ : ByteArray) = K2 at hadd hnx
        have HNX := Lib.hid hnx
        clear hnx
        clear d0 d1 d2 ct hg1 hb2 hbY
        have ct := (cells1 (H2.out.box (gt, .cells #[.pointer (some ⟨a, 0, none⟩)] 27 (0, 0)) (by simp))).1
        obtain ⟨d0, d1, d2⟩ := cells3 (H2.out.box (A0.heap.size, entO x) (by simp))
        gi_wp2_with fail
        refine ⟨trivial, ?_⟩
        refine (CallsIn.inRound l1 (callsIn_wide.2 (get_any HT2.out K2))).mono ?_
        rintro e W3 ⟨rfl, hb3⟩
        have hnx := HNX.out
        clear HNX
        unfold getV enV
        generalize (getE l K2).getD ⟨⟨#[]⟩, ⟨#[]⟩, false⟩ = y
        generalize (getE l K2).isSome = bs at hnx ⊢
        have HNX := Lib.hid hnx
        have hbY := hb3.trans ((below_alloc W3 (.cells #[.string y.key, .string y.value, .bool y.gone] 31)).mono hb3.size)
        have H4 := Lib.hid ((H2.out.same hb3).alloc (.cells #[.string y.key, .string y.value, .bool y.gone] 31))
        have HB4 := Lib.hid (HB2.out.trans (hbY.mono HB2.out.size))
        clear d0 d1 d2 ct hb3 hbY hnx
        gi_wp2_with fail
        generalize W3.alloc (.cells #[.string y.key, .string y.value, .bool y.gone] 31) = W4 at H4 HB4 ⊢
        obtain ⟨d0, d1, d2⟩ := cells3 (H4.out.box (A0.heap.size, entO x) (by simp))
        obtain ⟨k0, k1, k2⟩ := cells3 (H4.out.box (W2.heap.size, .cells #[.string x.key, .string x.value, .bool x.gone] 31 (0, 0)) (by simp))
        have cg := (cells1 (H4.out.box (gi, .cells #[.int .i64 (i : Nat)] 3 (0, 0)) (by simp))).1
        have cl := (cells1 (H4.out.box (gl, .cells #[.slice (some P) l.length cap0] 25 (0, 0)) (by simp))).1
        have i300 := HF.out
        have w1 : IntKind.i64.wrap ((i : Int) + 1) = (i : Int) + 1 := by unfold IntKind.wrap; simp [IntKind.signed, IntKind.bits]; omega
        have j1 : (0 : Int) ≤ (i : Int) + 1 := by omega
        have j2 : ((i : Int) + 1).toNat = i + 1 := by omega
        cases bs
        case' false =>
          refine region_quiet_round rfl (by kernel_rfl) (by kernel_rfl) (by kernel_rfl) ?_
          repeat (gi_big_quiet_step (fail))
          refine wpQuietIn_nil ?_
        case' true =>
          obtain ⟨h1, hk⟩ := HNX.out rfl
          have e0 := (HL.out.cells H4.out.below h1).1
          rw [hk] at e0
          clear hk
          have j3 : ¬ l.length ≤ i + 1 := by omega
          have j4 : decide (l.length ≤ i + 1) = false := decide_eq_false j3
          have j5 : (i : Int) + 1 < (l.length : Int) := by omega
          have j6 : ¬ (l.length : Int) ≤ (i : Int) + 1 := by omega
          refine region_quiet_round rfl (by kernel_rfl) (by kernel_rfl) (by kernel_rfl) ?_
          repeat (gi_big_quiet_step (fail))
          refine wpQuietIn_nil ?_
        all_goals
          intro _ hw'
          obtain ⟨nq, hw''⟩ := hw'
          subst hw''
          have hbA := below_drewN (Below.refl W4.heap.size W4) nq
          have H5 := Lib.hid (H4.out.same hbA)
          have HB5 := Lib.hid (HB4.out.trans (hbA.mono HB4.out.size))
          clear d0 d1 d2 k0 k1 k2 cg cl hbA hadd
          generalize W4.drewN nq = W5 at H5 HB5 ⊢
          have HEND : Hid (∀ b' : Bool, (b' = true ↔ b = true ∨ x.key = key) →
              BodyZ (fun k => k = b1 ∨ k = b2 ∨ k = a) S A ((W5.setCell ⟨gs, 0, none⟩ (.bool b')).setCell ⟨gi, 0, none⟩ (.int .i64 ((i : Int) + 1))) ∧ Outs [gs, gi] w8 ((W5.setCell ⟨gs, 0, none⟩ (.bool b')).setCell ⟨gi, 0, none⟩ (.int .i64 ((i : Int) + 1))) ∧ (∀ k, S k → w8.heap.size ≤ k) ∧
              ((W5.setCell ⟨gs, 0, none⟩ (.bool b')).setCell ⟨gi, 0, none⟩ (.int .i64 ((i : Int) + 1))).heap[gi]? = some (.cells #[.int .i64 ((i + 1 : Nat) : Int)] 3 (0, 0)) ∧
              Seen gs l key (i + 1) ((W5.setCell ⟨gs, 0, none⟩ (.bool b')).setCell ⟨gi, 0, none⟩ (.int .i64 ((i : Int) + 1)))) := Lib.hid fun b' hb' => by
            have HF := (((H5.out.sub (B' := [(gs, .cells #[.bool b] 4 (0, 0)), (gi, .cells #[.int .i64 (i : Nat)] 3 (0, 0))]) (.cons _ (.cons _ (.cons _ (.cons_cons _ (.cons_cons _ (List.nil_sublist _))))))).set (.bool b')).swap.set (.int .i64 ((i : Int) + 1)))
            have hS : ∀ g, g < w8.heap.size → ¬ S g := fun g hg hs => by have := HS2.out g hs; omega
            refine ⟨((BodyZ.of_below HB5.out).trans (BodyZ.setCell _ ?_ (hS gs l4))).trans (BodyZ.setCell _ ?_ (hS gi l3)), ((HO.out.below HB5.out).set (by simp) 0 _).set (by simp) 0 _, HS2.out, ?_, b', HF.box (gs, .cells #[.bool b'] 4 (0, 0)) (by simp), ?_⟩
            · dsimp only; omega
            · dsimp only; omega
            · have h := HF.head
              rw [show ((i + 1 : Nat) : Int) = (i : Int) + 1 by omega]
              exact h
            · exact seen_next hil HBB.out (by rw [hb', ← HXX.out])
          obtain ⟨d0, d1, d2⟩ := cells3 (H5.out.box (A0.heap.size, entO x) (by simp))
          obtain ⟨cs, fs⟩ := cells1 (H5.out.box (gs, .cells #[.bool b] 4 (0, 0)) (by simp))
          obtain ⟨cg, fg⟩ := cells1 (H5.out.box (gi, .cells #[.int .i64 (i : Nat)] 3 (0, 0)) (by simp))
          have ck := (cells1 (H5.out.box (gk, .cells #[.string key] 9 (0, 0)) (by simp))).1
          have fs0 := fs 0
          have fg0 := fg 0
          clear fs fg
          cases b with
          | true =>
            gi_wp2_with fail
            exact HEND.out true (by simp)
          | false =>
            by_cases hk : x.key = key
            · have hk1 : (x.key.toList == key.toList) = true := by rw [hk]; simp
              have HK := Lib.hid hk
              clear hk
              gi_wp2_with fail
              exact HEND.out true (by simp [HK.out])
            · have hk1 : (x.key.toList == key.toList) = false := toList_ne hk
              have HK := Lib.hid hk
              clear hk
              gi_wp2_with fail
              exact HEND.out false (by simp [HK.out])
      case hdone =>
        rintro D S A hD hSD hS ⟨ho, hS2, hgA, b, hgB, hbb⟩ hK
        rw [HXN.out] at hgA hbb
        rw [List.take_length] at hbb
        have hbs : (getE l key).isSome = b := Bool.eq_iff_iff.2 ((getE_is HR.out key).trans hbb.symm)
        have hnow : Now w A [(D, MarkO), (gs, .cells #[.bool b] 4 (0, 0)), (gi, .cells #[.int .i64 (l.length : Nat)] 3 (0, 0)), (gt, .cells #[.pointer (some ⟨a, 0, none⟩)] 27 (0, 0)), (gr, .cells #[.bool false] 4 (0, 0)), (gk, .cells #[.string key] 9 (0, 0)), (gl, .cells #[.slice p l.length cap0] 25 (0, 0))] := by
          have h := H8.out.outs (G := [(gs, .cells #[.bool false] 4 (0, 0)), (gi, .cells #[.int .i64 0] 3 (0, 0))]) (G' := [(gs, .cells #[.bool b] 4 (0, 0)), (gi, .cells #[.int .i64 (l.length : Nat)] 3 (0, 0))])
            (B := [(gt, .cells #[.pointer (some ⟨a, 0, none⟩)] 27 (0, 0)), (gr, .cells #[.bool false] 4 (0, 0)), (gk, .cells #[.string key] 9 (0, 0)), (gl, .cells #[.slice p l.length cap0] 25 (0, 0))]) ho rfl
            (fun q hq => by simp only [List.mem_cons, List.not_mem_nil, or_false] at hq; rcases hq with rfl | rfl; exact hgB; exact hgA)
          refine h.add hK (by omega) (fun q hq => ?_)
          simp only [List.cons_append, List.nil_append, List.mem_cons, List.not_mem_nil, or_false] at hq
          rcases hq with rfl | rfl | rfl | rfl | rfl | rfl <;> dsimp only <;> omega
        have HTA := Lib.hid (HT6.out.below (Outs.upons HB68.out ho (fun g hg => by have := HG.out; simp only [List.mem_cons, List.not_mem_nil, or_false] at hg; omega)))
        have HNW := Lib.hid hnow
        have HBS := Lib.hid hbs
        clear hnow ho hS2 hS hgA hgB hbb hbs hsq hK
        have ct := (cells1 (HNW.out.box (gt, .cells #[.pointer (some ⟨a, 0, none⟩)] 27 (0, 0)) (by simp))).1
        have ck := (cells1 (HNW.out.box (gk, .cells #[.string key] 9 (0, 0)) (by simp))).1
        gi_wp2_with fail
        refine ⟨trivial, ?_⟩
        refine (callsIn_wide.2 (get_any HTA.out key)).mono ?_
        rintro e W1 ⟨rfl, hb1⟩
        unfold getV enV
        generalize (getE l key).getD ⟨⟨#[]⟩, ⟨#[]⟩, false⟩ = y
        rw [HBS.out]
        have h2 := (HNW.out.same hb1).alloc (.cells #[.string y.key, .string y.value, .bool y.gone] 31)
        have cg := (cells1 (h2.box (gi, .cells #[.int .i64 (l.length : Nat)] 3 (0, 0)) (by simp))).1
        have cs := (cells1 (h2.box (gs, .cells #[.bool b] 4 (0, 0)) (by simp))).1
        have cl := (cells1 (h2.box (gl, .cells #[.slice p l.length cap0] 25 (0, 0)) (by simp))).1
        obtain ⟨cr, fr⟩ := cells1 (h2.box (gr, .cells #[.bool false] 4 (0, 0)) (by simp))
        have fr0 := fr 0
        have HE := Lib.hid ((h2.sub (B' := [(D, MarkO), (gr, .cells #[.bool false] 4 (0, 0))]) (.cons _ (.cons_cons _ (.cons _ (.cons _ (.cons _ (.cons_cons _ (List.nil_sublist _)))))))).swap.set (.bool true)).swap
        clear ct ck hb1 fr h2
        cases b
        all_goals
          gi_wp2_with fail
          exact leaves_box w gr 4 (fun W hc => results_back _ W _ _ rfl hc) [D] _ HE.out (fun W' hb => ⟨rfl, hb⟩)
    · have d0 : ((n : Int) == 0) = false := by rw [beq_eq_false_iff_ne]; omega
      obtain rfl : s = ⟨#[]⟩ := hs2 fun hr => h0 (HN.out.trans ((bars_right l).2 hr))
      obtain ⟨cr3, fr3⟩ := cells1 (H3.out.box (gr, .cells #[.bool false] 4 (0, 0)) (by simp))
      have fr3 := fr3 0
      have HE := Lib.hid ((H3.out.set (.bool true)).sub (B' := [(gr, .cells #[.bool true] 4 (0, 0))]) (.cons_cons _ (.cons _ (.cons _ .slnil))))
      clear h0 hs2 HS HN
      gi_wp2_with fail
      exact leaves_box w gr 4 (fun W hc => results_back _ W _ _ rfl hc) [] _ HE.out (fun W' hb => ⟨rfl, hb⟩)
end Go.Proofs.Ytgmaccfhgeocdaa
