/-
  Walks over package mem: Other of a table of texts, or of none, as MemOther asks for it. Condition: a table of few keys.
-/
import Derived.Test.YtnomjhfppmhmeaaMemAskSI
namespace Go.Proofs.Ytnomjhfppmhmeaa
open Go.RowKit
attribute [local go_sem] Oper.semAt_some

theorem row_get (L : List Pr) (i : Nat) (h : i < (Rf.row L).length) (h' : i < L.length) : (Rf.row L)[i] = (L[i].1, Value.string L[i].2) := List.getElem_map (l := L) (fun x : Pr => (x.1, Value.string x.2))
/-- What the law's function makes of a list: the lengths that are no greater than most. -/
def othN (most : Int) (ws : List Pr) : Mm.Row := ws.foldl (fun M q => if (q.2.size : Int) ≤ most then Mm.put M q.1 (.int .i64 (q.2.size : Nat)) else M) []
theorem othN_succ {most : Int} {ws : List Pr} {i : Nat} (h : i < ws.length) : othN most (ws.take (i + 1)) = if (ws[i].2.size : Int) ≤ most then Mm.put (othN most (ws.take i)) ws[i].1 (.int .i64 (ws[i].2.size : Nat)) else othN most (ws.take i) := by
  unfold othN; rw [List.take_succ_eq_append_getElem h, List.foldl_append]; rfl
theorem othN_len (most : Int) (ws : List Pr) : ∀ i, i ≤ ws.length → (othN most (ws.take i)).length ≤ i := by
  intro i
  induction i with
  | zero => intro _; exact Nat.le_refl _
  | succ i ih =>
    intro h
    rw [othN_succ (by omega)]
    have h1 := ih (by omega)
    split
    · have := Mm.length_put_le (othN most (ws.take i)) ws[i].1 (.int .i64 (ws[i].2.size : Nat)); omega
    · omega
def gwO : Obj := .cells #[.bool false] 4 (0, 0)
def gaO (i : Nat) : Obj := .cells #[.int .i64 (i : Nat)] 3 (0, 0)

/-- Behind a call of the law's function: a table of numbers is as it was. -/
theorem askedSI_mem {w0 A C : World} {o gw ga i : Nat} {Lo : Mm.Row} {B : List (Nat × Obj)} (h : MI.Mem w0 A o Lo [] ((gw, gwO) :: (ga, gaO i) :: B)) (ha : AskedSI gw ga (i + 1) A C) :
    MI.Mem w0 C o Lo [] ((gw, gwO) :: (ga, gaO (i + 1)) :: B) ∧ Kept A C := by
  have h1 : ¬ IsNode A gw := not_node (h.box (q := (gw, gwO)) (by simp)) (by unfold nodeT; decide)
  have h2 : ¬ IsNode A ga := not_node (h.box (q := (ga, gaO i)) (by simp)) (by unfold nodeT; decide)
  have hT : ∀ g ∈ [gw, ga], ¬ IsNode A g := fun g hg => by
    simp only [List.mem_cons, List.not_mem_nil, or_false] at hg
    rcases hg with rfl | rfl
    · exact h1
    · exact h2
  exact ⟨h.outs (G := [(gw, gwO), (ga, gaO i)]) (G' := [(gw, gwO), (ga, gaO (i + 1))]) (B := B) ha.outs rfl (fun q hq => by
    simp only [List.mem_cons, List.not_mem_nil, or_false] at hq
    rcases hq with rfl | rfl
    · exact ha.wrong
    · exact ha.asked) hT, ha.outs.kept hT⟩
/-- A function's frame of a body that wrote two boxes. -/
theorem outs_bodyK {cap : Nat → Prop} {A C : World} {gw ga i : Nat} (ho : Outs [gw, ga] A C) (h1 : A.heap[gw]? = some gwO) (h2 : A.heap[ga]? = some (gaO i)) (c1 : ¬ cap gw) (c2 : ¬ cap ga) : BodyK cap A C :=
  ⟨ho.size, fun k hk hb => ho.block k hk fun hm => by
    simp only [List.mem_cons, List.not_mem_nil, or_false] at hm
    rcases hm with rfl | rfl
    · rcases hb with hb | hb
      · exact c1 hb
      · exact hb _ _ _ h1
    · rcases hb with hb | hb
      · exact c2 hb
      · exact hb _ _ _ h2⟩
/-- What From of a table, or of none, gives. -/
def GivesFrom (L : Mm.Row) (w : World) (e : Ending) (w' : World) : Prop := ∃ b1 b2 p, e = .returned (MS.fromV b1 b2) ∧ w'.heap[b1]? = some (.cells #[p] 39 (0, 0)) ∧ w'.heap[b2]? = some (.cells #[.string ⟨#[]⟩] 9 (0, 0)) ∧ MS.Root w' p L ∧ Below w.heap.size w w'

def gxO (px : Option Addr) (n cx : Nat) : Obj := .cells #[.slice px n cx] 42 (0, 0)
def gmO (most : Int) : Obj := .cells #[.int .i64 most] 3 (0, 0)
def bfO (gw ga gx gm : Nat) : Obj := .cells #[askF gw ga gx gm] 63 (0, 0)
def goO (o : Nat) : Obj := .cells #[.pointer (some ⟨o, 0, none⟩)] 22 (0, 0)
set_option maxRecDepth 100000 in
set_option maxHeartbeats 8000000 in
theorem other_si {w0 w : World} {gw ga gx gm : Nat} {px : Option Addr} {cx : Nat} {ws : List Pr} {most : Int} {B : List (Nat × Obj)} {mv : Value} {i0 : Nat} {L : List Pr}
    (h : Now w0 w ((gw, gwO) :: (ga, gaO i0) :: (gx, gxO px ws.length cx) :: (gm, gmO most) :: B))
    (hp : PairsAt w px ws) (hl : ws.length ≤ 300) (hll : L.length ≤ 300) (hks : ∀ q ∈ L, q.1.size ≤ 30000 ∧ q.2.size ≤ 30000) (hL : ∀ i (h : i < L.length), ∃ hi : i0 + i < ws.length, ws[i0 + i] = L[i])
    (hfrom : ∀ w', Kept w w' → (∀ q ∈ B, w'.heap[q.1]? = some q.2) → Calls Try.prog 63 #[mv, .string ⟨#[]⟩] w' (GivesFrom (Rf.row L) w')) :
    Calls Try.prog 37 #[mv, askF gw ga gx gm] w fun e w' => ∃ o, e = .returned (.pointer (some ⟨o, 0, none⟩)) ∧
      MI.Mem w0 w' o (othN most L) [] ((gw, gwO) :: (ga, gaO (i0 + L.length)) :: (gx, gxO px ws.length cx) :: (gm, gmO most) :: B) ∧ PairsAt w' px ws ∧ Kept w w' := by
  refine (callsIn_wide (n := 9)).1 ?_
  refine callsIn_of_wp_marks Try.func37 rfl trivial ?_ rfl
  simp only [Try.ntmps37, List.size_toArray, List.length_cons, List.length_nil, Nat.reduceAdd, Nat.reduceSub, Array.replicate_succ, Array.replicate_zero, List.push_toArray, List.append_toArray, List.nil_append, List.cons_append]
  have h1 := h.alloc (.cells #[askF gw ga gx gm] 63)
  have k1 : Kept w (w.alloc (.cells #[askF gw ga gx gm] 63)) := .alloc _ _
  have p1 := hp.below (below_alloc w (.cells #[askF gw ga gx gm] 63))
  obtain ⟨bf, hbf⟩ : ∃ bf, bf = w.heap.size := ⟨_, rfl⟩
  rw [← hbf] at h1
  have HL := Lib.hid hl
  have HLC := Lib.hid hll
  have HK := Lib.hid hks
  have HF := Lib.hid hfrom
  have HLL := Lib.hid hL
  have HN1 := Lib.hid h1
  have HK1 := Lib.hid k1
  have HP1 := Lib.hid p1
  clear h hl hll hks hfrom hL h1 k1 p1 hp
  gi_wp2_with fail
  rw [← hbf]
  refine ⟨trivial, ?_⟩
  refine (callsIn_wide.2 (MI.new_any _)).mono ?_
  rintro e w2 ⟨rfl, rfl⟩
  have h2 := HN1.out.alloc (.cells #[.pointer none] 84)
  have k2 := HK1.out.trans (.alloc _ (.cells #[.pointer none] 84))
  have p2 := HP1.out.below (below_alloc _ (.cells #[.pointer none] 84))
  generalize hwA : w.alloc (.cells #[askF gw ga gx gm] 63) = wA at *
  obtain ⟨o, ho⟩ : ∃ o, o = wA.heap.size := ⟨_, rfl⟩
  rw [← ho] at h2 ⊢
  generalize hwB : wA.alloc (.cells #[.pointer none] 84) = wB at *
  have h3 := h2.alloc (.cells #[.pointer (some ⟨o, 0, none⟩)] 22)
  have k3 := k2.trans (.alloc _ (.cells #[.pointer (some ⟨o, 0, none⟩)] 22))
  have p3 := p2.below (below_alloc _ (.cells #[.pointer (some ⟨o, 0, none⟩)] 22))
  obtain ⟨go, hgo⟩ : ∃ go, go = wB.heap.size := ⟨_, rfl⟩
  rw [← hgo] at h3
  have HN3 := Lib.hid h3
  have HK3 := Lib.hid k3
  have HP3 := Lib.hid p3
  clear h2 k2 p2 h3 k3 p3 hwA hwB ho hbf
  gi_wp2_with fail
  rw [← hgo]
  refine ⟨trivial, ?_⟩
  refine (callsIn_wide.2 (HF.out _ HK3.out (fun q hq => HN3.out.box q (by simp [hq])))).mono ?_
  rintro e w5 ⟨b1, b2, p5, rfl, r1, r2, r5, hb5⟩
  have h5 : MI.Mem w0 w5 o [] [] ((gw, gwO) :: (ga, gaO i0) :: (gx, gxO px ws.length cx) :: (gm, gmO most) :: (go, goO o) :: (bf, bfO gw ga gx gm) :: B) := by
    have n5 := HN3.out.same hb5
    refine ⟨.pointer none, ?_, MI.root_nil _, fun _ h => nomatch h⟩
    refine n5.perm ?_
    refine (List.Perm.swap _ _ _).trans (List.Perm.cons _ ?_)
    exact List.perm_append_comm_assoc [(go, goO o), (bf, bfO gw ga gx gm)] [(gw, gwO), (ga, gaO i0), (gx, gxO px ws.length cx), (gm, gmO most)] B
  have hsq := MS.from_seq 8 r1 r2 r5
  rw [Mm.from_empty] at hsq
  have k5 := HK3.out.trans (.of_below hb5)
  have p5' := HP3.out.below hb5
  clear hgo r1 r2 hb5
  unfold MS.fromV
  gi_wp2_with fail
  obtain ⟨rest, hrest⟩ : ∃ rest : List (Nat × Obj), rest = (gx, gxO px ws.length cx) :: (gm, gmO most) :: (go, goO o) :: (bf, bfO gw ga gx gm) :: B := ⟨_, rfl⟩
  rw [← hrest] at h5
  have HR := Lib.hid hrest
  have hgw : w5.heap[gw]? = some gwO := h5.box (q := (gw, gwO)) (by simp)
  have hga : w5.heap[ga]? = some (gaO i0) := h5.box (q := (ga, gaO i0)) (by simp)
  have hwl : gw < w5.heap.size := (Array.getElem?_eq_some_iff.1 hgw).1
  have hal : ga < w5.heap.size := (Array.getElem?_eq_some_iff.1 hga).1
  have hwn : ¬ IsNode w5 gw := not_node hgw (by unfold nodeT; decide)
  have han : ¬ IsNode w5 ga := not_node hga (by unfold nodeT; decide)
  have hon : ¬ IsNode w5 o := h5.aNot
  have hol := h5.alt
  have hlr : ∀ q ∈ rest, q.1 < w5.heap.size := fun q hq => h5.lt (by simp [hq])
  have hl0 := h5.below.size
  have hrl : (Rf.row L).length = L.length := Rf.row_length L
  have K5 := Lib.hid k5
  clear hrest hgw hga k5 r5
  apply wpIn_rangeY rfl (by omega) (gf := 79) (lb := #[.pointer (some ⟨b1, 0, none⟩), .pointer (some ⟨b2, 0, none⟩)]) rfl trivial (enters_of Try.func79 (by kernel_rfl) rfl)
    (encs := fun q : ByteArray × Value => #[.string q.1, q.2]) (xs := Rf.row L) (cap := IsNode w5) hsq (fun k hk => hk.lt) (fun _ => rfl)
    (fun i A => MI.Mem w0 A o (othN most (L.take i)) [] ((gw, gwO) :: (ga, gaO (i0 + i)) :: rest) ∧ PairsAt A px ws ∧ Kept w5 A)
    (fun _ _ _ => False)
    (fun i C E hs st => by
      obtain ⟨q1, q2, q3⟩ := hs
      exact ⟨q1.its st hl0 hol (fun q hq => by
        rcases List.mem_cons.1 hq with rfl | hq
        · exact hwl
        · rcases List.mem_cons.1 hq with rfl | hq
          · exact hal
          · exact hlr q hq), pairs_its q2 st, q3.trans (kept_its st)⟩)
    (fun _ _ _ _ hs _ => hs)
    ⟨h5, p5', Kept.refl _⟩
  case hassign =>
    intro l x W K hK
    gi_wp2
    exact hK
  case hstop =>
    rintro D c i A _ _ h _
    exact h.elim
  case hbody =>
    rintro l i hi A hT ⟨hm, hpa, hk⟩
    have hi' : i < L.length := by rw [← hrl]; exact hi
    have hlen := HLC.out
    have hwlen := HL.out
    obtain ⟨hii, hwi⟩ := HLL.out i hi'
    have hsz := HK.out _ (List.getElem_mem hi')
    have hsu := othN_succ (most := most) hi'
    have hol2 := othN_len most L i (by omega)
    have hrow : (Rf.row L)[i] = (L[i].1, .string L[i].2) := row_get L i hi hi'
    rw [hrow]
    have HSU := Lib.hid hsu
    clear hsu hrow
    generalize L[i] = q at *
    obtain ⟨k, v⟩ := q
    simp only at HSU hsz
    have HC : Hid (∀ (C : World) (Lo : Mm.Row) (j : Nat), MI.Mem w0 C o Lo [] ((gw, gwO) :: (ga, gaO j) :: rest) → C.heap[gw]? = some gwO ∧ C.heap[ga]? = some (gaO j) ∧ C.heap[gx]? = some (gxO px ws.length cx) ∧ C.heap[gm]? = some (gmO most) ∧ C.cell? ⟨go, 0, none⟩ = some (.pointer (some ⟨o, 0, none⟩)) ∧ C.cell? ⟨bf, 0, none⟩ = some (askF gw ga gx gm) ∧ ga ≠ gm) := Lib.hid fun C Lo j h => by
      rw [HR.out] at h
      refine ⟨h.box (q := (gw, gwO)) (by simp), h.box (q := (ga, gaO j)) (by simp), h.box (q := (gx, gxO px ws.length cx)) (by simp), h.box (q := (gm, gmO most)) (by simp), (cells1 (h.box (q := (go, goO o)) (by simp))).1, (cells1 (h.box (q := (bf, bfO gw ga gx gm)) (by simp))).1, ?_⟩
      have := h.now.apart
      simp only [List.map_cons, List.nodup_cons, List.mem_cons, not_or] at this
      exact this.2.1.2.1
    obtain ⟨g1, g2, g3, g4, -, cf, hne⟩ := HC.out _ _ _ hm
    have HQ := Lib.hid (answerSI_of (askSI_any hii (by omega) g1 g2 g3 g4 hne hpa k v hwi (by unfold maxLen; omega)))
    have HM := Lib.hid hm
    have HPA := Lib.hid hpa
    have HKA := Lib.hid hk
    have HG := Lib.hid (And.intro g1 g2)
    clear hm hk hpa g1 g2 g3 g4 hne
    unfold askF at cf
    gi_wp2_with fail
    first | refine ⟨trivial, fun _ => by omega, ?_⟩ | refine ⟨trivial, ?_⟩
    refine (CallsIn.inRound l (callsIn_wide.2 HQ.out)).mono ?_
    rintro e A1 ⟨rfl, ha⟩
    obtain ⟨hm1, hk1⟩ := askedSI_mem HM.out ha
    have hpa1 : PairsAt A1 px ws := pairs_turn HPA.out ha.outs.size fun k2 hk2 hc => ha.outs.block k2 hk2 fun hmem => by
      simp only [List.mem_cons, List.not_mem_nil, or_false] at hmem
      rcases hmem with rfl | rfl
      · exact no_text HG.out.1 (fun _ h => by cases h) hc
      · exact no_text HG.out.2 (fun _ h => by cases h) hc
    obtain ⟨-, -, -, -, cgo, -, -⟩ := HC.out _ _ _ hm1
    have HB1 := Lib.hid (outs_bodyK (cap := IsNode w5) ha.outs HG.out.1 HG.out.2 hwn han)
    have HK1 := Lib.hid (HKA.out.trans hk1)
    have HM1 := Lib.hid hm1
    have HP1 := Lib.hid hpa1
    clear ha hm1 hk1 hpa1 cf
    by_cases hev : (v.size : Int) ≤ most
    · have HE : Hid (othN most (L.take (i + 1)) = Mm.put (othN most (L.take i)) k (.int .i64 (v.size : Nat))) := Lib.hid (by rw [HSU.out, if_pos hev])
      gi_wp2_with fail
      first | refine ⟨trivial, fun _ => by omega, ?_⟩ | refine ⟨trivial, ?_⟩
      have e1 : k.size ≤ 281474976710656 := by omega
      have e2 : (othN most (L.take i)).length ≤ 999999 := by omega
      (with_reducible refine (CallsIn.inRound l (callsIn_wide.2 (MI.set_m HM1.out k e1 e2 (v.size : Nat) rfl))).mono ?_)
      clear e1 e2
      rintro e A2 ⟨rfl, hm2, hk2, ho2⟩
      have HB2 := Lib.hid (HB1.out.trans (MI.bodyK_only HM1.out ho2 hon))
      have HM2 := Lib.hid hm2
      have HK2 := Lib.hid (HK1.out.trans hk2)
      have HP2 : Hid (PairsAt A2 px ws) := Lib.hid (by
        obtain ⟨q, n1, r1, -⟩ := HM1.out
        obtain ⟨oq, rfl⟩ := r1.ptr
        exact pairs_only HP1.out n1.head (fun _ h => by cases h) ho2)
      clear hm2 hk2 ho2 cgo
      gi_wp2_with fail
      exact ⟨HB2.out, by rw [HE.out]; exact HM2.out, HP2.out, HK2.out⟩
    · have HE : Hid (othN most (L.take (i + 1)) = othN most (L.take i)) := Lib.hid (by rw [HSU.out, if_neg hev])
      gi_wp2_with fail
      exact ⟨HB1.out, by rw [HE.out]; exact HM1.out, HP1.out, HK1.out⟩
  case hdone =>
    rintro D A hD ⟨hm, hpa, hk⟩ hK
    rw [hrl, List.take_length] at hm
    have h7 := hm.mark hK (by omega) (by omega) (fun q hq => by
      rcases List.mem_cons.1 hq with rfl | hq
      · show gw ≠ D; omega
      · rcases List.mem_cons.1 hq with rfl | hq
        · show ga ≠ D; omega
        · have := hlr q hq; omega)
    have cgo : A.cell? ⟨go, 0, none⟩ = some (.pointer (some ⟨o, 0, none⟩)) := by
      rw [HR.out] at hm
      exact (cells1 (hm.box (q := (go, goO o)) (by simp))).1
    have hnD : A.heap[D]? = some (.deferred (some [])) := hK
    have h8 : MI.Mem w0 (A.putObj D (.deferred none)) o (othN most L) [] ((gw, gwO) :: (ga, gaO (i0 + L.length)) :: rest) := by
      obtain ⟨p, n1, n2, n3⟩ := h7
      have hk := kept_mark hnD
      have h4 : Now w0 (A.putObj D (.deferred none)) ((D, .deferred none) :: (o, MI.memO p) :: (gw, gwO) :: (ga, gaO (i0 + L.length)) :: rest) :=
        n1.swap.turn rfl rfl rfl (by simp) (fun k _ hk => World.putObj_heap_other hk) (World.putObj_heap_same (Array.getElem?_eq_some_iff.1 hnD).1)
      exact ⟨p, h4.tail, n2.kept hk, fun r hr => (n3 r hr).kept hk⟩
    have HP : Hid (MI.Mem w0 (A.putObj D (.deferred none)) o (othN most L) [] ((gw, gwO) :: (ga, gaO (i0 + L.length)) :: (gx, gxO px ws.length cx) :: (gm, gmO most) :: B) ∧ PairsAt (A.putObj D (.deferred none)) px ws ∧ Kept w (A.putObj D (.deferred none))) := Lib.hid (by
      rw [HR.out] at h8
      refine ⟨h8.sub (by simp), ?_, K5.out.trans (hk.trans (kept_mark hnD))⟩
      exact pairs_turn hpa (by simp) fun k2 hk2 ⟨o2, j2, s2, hc⟩ => World.putObj_heap_other fun e => by
        subst e
        unfold World.cell? at hc
        rw [hK] at hc
        cases hc)
    have HD := Lib.hid hK
    clear hm hpa hk hK h7 h8 hnD hlr hol hon hwn han hl0 hwl hal hD hsq h5 p5'
    gi_wp2_with fail
    refine ⟨by simp, .inl ⟨_, _, rfl, run_takeDeferred HD.out, ?_⟩⟩
    refine ⟨.pointer (some ⟨o, 0, none⟩), ?_, o, rfl, HP.out⟩
    simp [results, Try.results37, go_sem]
end Go.Proofs.Ytnomjhfppmhmeaa
