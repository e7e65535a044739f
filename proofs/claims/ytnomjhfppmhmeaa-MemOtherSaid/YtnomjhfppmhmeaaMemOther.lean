/-
  Walks over the laws of package mem: MemOther. No condition.
-/
import Derived.Test.YtnomjhfppmhmeaaMemOtherSI
namespace Go.Proofs.Ytnomjhfppmhmeaa
open Go.RowKit
attribute [local go_sem] Oper.semAt_some
theorem othN_keys {most : Int} {L : List Pr} (i : Nat) : i ≤ L.length → ∀ q ∈ othN most (L.take i), ∃ p ∈ L.take i, p.1 = q.1 := by
  induction i with
  | zero => intro _ q hq; simp [othN] at hq
  | succ i ih =>
    intro h q hq
    have hm : ∀ p ∈ L.take i, p ∈ L.take (i + 1) := fun p hp => by rw [List.take_succ_eq_append_getElem (by omega)]; exact List.mem_append_left _ hp
    rw [othN_succ (by omega)] at hq
    split at hq
    · rcases Mm.mem_put.1 hq with rfl | ⟨hq, -⟩
      · exact ⟨L[i], by rw [List.take_succ_eq_append_getElem (by omega)]; exact List.mem_append_right _ (List.mem_singleton.2 rfl), rfl⟩
      · obtain ⟨p, h1, h2⟩ := ih (by omega) q hq; exact ⟨p, hm p h1, h2⟩
    · obtain ⟨p, h1, h2⟩ := ih (by omega) q hq; exact ⟨p, hm p h1, h2⟩
theorem othN_sorted (most : Int) (L : List Pr) (i : Nat) : i ≤ L.length → Mm.Sorted (othN most (L.take i)) := by
  induction i with
  | zero => intro _; exact List.Pairwise.nil
  | succ i ih =>
    intro h
    rw [othN_succ (by omega)]
    split
    · exact (ih (by omega)).put _ _
    · exact ih (by omega)
/-- How many short ones there are among the first i. -/
def shorts (most : Int) (L : List Pr) (i : Nat) : Nat := ((L.take i).filter fun q => decide ((q.2.size : Int) ≤ most)).length
theorem shorts_succ {most : Int} {L : List Pr} {i : Nat} (h : i < L.length) : shorts most L (i + 1) = shorts most L i + if (L[i].2.size : Int) ≤ most then 1 else 0 := by
  unfold shorts; rw [List.take_succ_eq_append_getElem h, List.filter_append, List.length_append]
  split <;> rename_i e <;> simp [e]
theorem shorts_le (most : Int) (L : List Pr) (i : Nat) : shorts most L i ≤ i := by
  unfold shorts; exact Nat.le_trans (List.length_filter_le _ _) (by rw [List.length_take]; omega)
theorem pr_rise {L : List Pr} (hs : Mm.Sorted (Rf.row L)) : L.Pairwise fun p q => Mm.lt p.1 q.1 = true := by
  unfold Mm.Sorted Rf.row at hs; rw [List.pairwise_map] at hs; exact hs
theorem keyN_new {most : Int} {L : List Pr} (hs : Mm.Sorted (Rf.row L)) {i : Nat} (h : i < L.length) : Mm.get (othN most (L.take i)) L[i].1 = none := Mm.get_none.2 fun q hq e => by
  obtain ⟨p, h1, h2⟩ := othN_keys i (by omega) q hq
  obtain ⟨j, hj, rfl⟩ := List.getElem_of_mem h1
  rw [List.length_take] at hj
  rw [List.getElem_take] at h2
  exact Mm.lt_ne (List.pairwise_iff_getElem.1 (pr_rise hs) j i (by omega) h (by omega)) (h2.trans e)
theorem othN_count {most : Int} {L : List Pr} (hs : Mm.Sorted (Rf.row L)) (i : Nat) : i ≤ L.length → (othN most (L.take i)).length = shorts most L i := by
  induction i with
  | zero => intro _; rfl
  | succ i ih =>
    intro h
    rw [othN_succ (by omega), shorts_succ (by omega)]
    split
    · rw [length_put_new _ (keyN_new hs (by omega)), ih (by omega)]
    · rw [ih (by omega)]; rfl
theorem othN_get {most : Int} {L : List Pr} (hs : Mm.Sorted (Rf.row L)) (n : Nat) : n ≤ L.length → ∀ i (_ : i < n) (h' : i < L.length), Mm.get (othN most (L.take n)) L[i].1 = if (L[i].2.size : Int) ≤ most then some (.int .i64 (L[i].2.size : Nat)) else none := by
  induction n with
  | zero => intro _ i h; omega
  | succ n ih =>
    intro hn i h h'
    have hso := othN_sorted most L n (by omega)
    rw [othN_succ (by omega)]
    by_cases e : i = n
    · subst e
      split
      · rw [Mm.get_put hso, if_pos rfl]
      · exact keyN_new hs h'
    · have hne : L[i].1 ≠ L[n].1 := Mm.lt_ne (List.pairwise_iff_getElem.1 (pr_rise hs) i n h' (by omega) (by omega))
      split
      · rw [Mm.get_put hso, if_neg hne]; exact ih (by omega) i (by omega) h'
      · exact ih (by omega) i (by omega) h'

theorem memS_set {w0 w : World} {a gx n cx n' cx' : Nat} {px px' : Option Addr} {L : Mm.Row} {R : List (Value × Mm.Row)} {B : List (Nat × Obj)} (h : MS.Mem w0 w a L R ((gx, gxO px n cx) :: B)) : MS.Mem w0 (w.setCell ⟨gx, 0, none⟩ (.slice px' n' cx')) a L R ((gx, gxO px' n' cx') :: B) :=
  MS.Mem.set (x := .slice px n cx) (T := 42) h (by unfold nodeT; decide) (.slice px' n' cx')
/-- A table of texts, and the document's list of it, in the box gx. -/
def Listed (w0 w : World) (a gx gm : Nat) (most : Int) (n : Nat) (L : Mm.Row) (px : Option Addr) (cx : Nat) (ws : List Pr) : Prop :=
  MS.Mem w0 w a L [] [(gx, gxO px ws.length cx), (gm, gmO most)] ∧ PairsAt w px ws ∧ Rf.Alike L ws ∧ ws.length ≤ n ∧ ∀ q ∈ ws, q.1.size ≤ 20000 ∧ q.2.size ≤ 20000
theorem pairs_boxed {w : World} {gx n cx n' cx' : Nat} {px px' p : Option Addr} {ws : List Pr} (h : PairsAt w p ws) (hb : w.heap[gx]? = some (gxO px n cx)) : PairsAt (w.setCell ⟨gx, 0, none⟩ (.slice px' n' cx')) p ws :=
  pairs_turn h (by simp [World.setCell]) fun k _ hc => Below.heap_setCell _ _ _ _ fun (e : k = gx) => by subst e; exact no_text hb (fun _ h => by cases h) hc

set_option maxRecDepth 100000 in
set_option maxHeartbeats 16000000 in
theorem memOther_any (p : Option Addr) (cap : Nat) (xs : List Pr) (most : Int) (w : World) (hl : PairsAt w p xs) :
    Calls Try.prog 5 #[.slice p xs.length cap, .int .i64 most] w fun e w' => e = .returned (.bool true) ∧ Below w.heap.size w w' := by
  have hmf : ∀ (fn : Fn) (first cap : Array Value) (w : World), (Instr.makeFunc fn first cap).run Try.prog w = .ok (.func fn first cap) w := fun _ _ _ _ => rfl
  have HMF := Lib.hid hmf
  have HP := Lib.hid hl
  clear hmf hl
  have hn0 := (now_start w).alloc (.cells #[.int .i64 most] 3)
  obtain ⟨gm, hgm⟩ : ∃ gm, gm = w.heap.size := ⟨_, rfl⟩
  rw [← hgm] at hn0
  go_enter Try.func5, Try.ntmps5
  go_wp2_with fail
  rw [← hgm]
  refine (memAwake_any _).mono ?_
  rintro e w1 ⟨rfl, hb1⟩
  have H1 := Lib.hid (hn0.same hb1)
  clear hb1 hn0 hgm
  go_wp2_with fail
  go_loopw [5, 6] (fun nv iv wr => ∃ k s : Nat, k ≤ xs.length ∧ k ≤ 101 ∧ iv = .int .i64 (k : Nat) ∧ nv = .int .i64 (s : Nat) ∧ Hid (Now w wr [(gm, gmO most)] ∧ s ≤ k * 40002 ∧ (s ≤ 20000 → ∀ x ∈ xs.take k, x.1.size ≤ 20000 ∧ x.2.size ≤ 20000))) (fun _ iv _ => 101 - (intOf iv).toNat)
  case atStart => exact ⟨0, 0, Nat.zero_le _, Nat.zero_le _, rfl, rfl, Lib.hid ⟨H1.out, by omega, fun h => fun _ h => nomatch h⟩⟩
  case round =>
    obtain ⟨k, s, hk, hk101, rfl, rfl, HB⟩ := hrel
    have hs60 := HB.out.2.1
    by_cases hlt : k < xs.length
    · have i1 : (k : Int) < (xs.length : Int) := by omega
      have i2 : (0 : Int) ≤ (k : Int) := by omega
      by_cases hle : k ≤ 100
      · have i3 : (k : Int) ≤ 100 := by omega
        obtain ⟨A, rfl, c0, c1, hok, hok2⟩ := HP.out.at HB.out.1.below hlt
        unfold maxLen at hok hok2
        have HT := Lib.hid (List.take_succ_eq_append_getElem hlt)
        generalize xs[k] = x at *
        go_wp2_with fail
        go_quiet (fail)
        go_wp2_with fail
        go_roundw
        case rel =>
          refine ⟨k + 1, s + min x.1.size 20001 + min x.2.size 20001, by omega, by omega, by go_num, by congr 1; omega, Lib.hid ⟨HB.out.1.same (below_dN (Below.refl _ _) _), by omega, fun hs => ?_⟩⟩
          have h2 := HB.out.2.2 (by omega)
          refine fun y hy => ?_
          rw [HT.out] at hy
          rcases List.mem_append.1 hy with hy | hy
          · exact h2 y hy
          · obtain rfl := List.mem_singleton.1 hy
            omega
        case measure => simp [intOf]; omega
      · obtain rfl : k = 101 := by omega
        have i3 : ¬ (101 : Int) ≤ 100 := by omega
        have i5 : (100 : Int) < (xs.length : Int) := by omega
        go_wp2_with fail
        go_ret
        exact ⟨rfl, HB.out.1.below⟩
    · obtain rfl : k = xs.length := by omega
      have i1 : ¬ (xs.length : Int) < (xs.length : Int) := by omega
      by_cases h100 : 100 < xs.length
      · have i5 : (100 : Int) < (xs.length : Int) := by omega
        go_wp2_with fail
        go_ret
        exact ⟨rfl, HB.out.1.below⟩
      · have i5 : ¬ (100 : Int) < (xs.length : Int) := by omega
        by_cases hs : 20000 < s
        · have i6 : (20000 : Int) < (s : Int) := by omega
          go_wp2_with fail
          go_ret
          exact ⟨rfl, HB.out.1.below⟩
        · have i6 : ¬ (20000 : Int) < (s : Int) := by omega
          have hfin := HB.out.2.2 (by omega)
          rw [List.take_length] at hfin
          have HF := Lib.hid hfin
          have HN := Lib.hid HB.out.1
          have HLN : Hid (xs.length ≤ 100) := Lib.hid (by omega)
          clear hfin HB H1 hs60 hk hk101
          go_wp2_with fail
          refine (MS.new_m (R := []) HN.out (fun _ h => nomatch h)).mono ?_
          rintro e w2 ⟨a, rfl, h2, -⟩
          have h3 := h2.alloc (.cells #[.slice none 0 0] 42)
          obtain ⟨gx, hgx⟩ : ∃ gx, gx = w2.heap.size := ⟨_, rfl⟩
          rw [← hgx] at h3
          have H3 : Hid (Listed w (w2.alloc (.cells #[.slice none 0 0] 42)) a gx gm most 0 [] none 0 []) := Lib.hid ⟨h3, (fun i hi => absurd hi (Nat.not_lt_zero _)), Rf.alike_nil, Nat.le_refl _, fun _ h => (by cases h)⟩
          clear h2 h3
          go_wp2_with fail
          rw [← hgx]
          clear hgx
          go_loopw [9] (fun iv wr => ∃ (i : Nat) (L : Mm.Row) (px : Option Addr) (cx : Nat) (ws : List Pr), i ≤ xs.length ∧ iv = .int .i64 (i : Nat) ∧ Hid (Listed w wr a gx gm most i L px cx ws)) (fun iv _ => xs.length - (intOf iv).toNat)
          case atStart => exact ⟨0, [], none, 0, [], Nat.zero_le _, rfl, H3.out⟩
          case round =>
            obtain ⟨i, L, px, cx, ws, hi, rfl, HI⟩ := hrel
            have hln := HI.out.2.2.1.length
            have hle := HI.out.2.2.2.1
            have hxl := HLN.out
            by_cases hlt : i < xs.length
            · obtain ⟨A, rfl, c0, c1, hok, hok2⟩ := HP.out.at HI.out.1.below hlt
              have hsz := HF.out _ (List.getElem_mem hlt)
              have HPC := Lib.hid (fun (W : World) (hb : Below w.heap.size w W) => HP.out.cells hb hlt)
              generalize xs[i] = x at *
              obtain ⟨k, v⟩ := x
              simp only at c0 c1 hsz HPC hok hok2
              have i1 : (i : Int) < (xs.length : Int) := by omega
              have i2 : (0 : Int) ≤ (i : Int) := by omega
              have HSZ := Lib.hid hsz
              have HD := Lib.hid (HI.out.1.same ((Below.refl _ wr).drew))
              have e1 : k.size ≤ 281474976710656 := by omega
              have e2 : L.length ≤ 999999 := by omega
              have HS := Lib.hid (MS.set_m HD.out k e1 e2 v rfl)
              clear e1 e2 hsz hok hok2
              go_wp2_with fail
              go_region_held3 (fun w' => w'.cell? (A.add (i * 2)) = some (.string k) ∧ w'.cell? ⟨(A.add (i * 2)).block, (A.add (i * 2)).off + 1, none⟩ = some (.string v))
                (first
                  | exact ⟨c0, c1⟩ | exact HPC.out _ hm2.below)
                (first
                  | (go_at_call 21; (with_reducible refine HS.out.mono ?_); rintro e w3 ⟨rfl, hm2, hk2, ho2⟩)
                  | fail)
              have HP3 : Hid (PairsAt w3 px ws) := Lib.hid (pairs_turn (HI.out.2.1.below ((Below.refl _ wr).drew)) ho2.size fun k' hk' hc => ho2.block k' hk' fun e => by
                subst e
                obtain ⟨q, n1, r1, -⟩ := HD.out
                obtain ⟨oq, rfl⟩ := r1.ptr
                exact no_text n1.head (fun _ h => by cases h) hc)
              have HM3 := Lib.hid hm2
              clear hm2 hk2 ho2 HS HD c0 c1
              obtain ⟨cg, -⟩ := cells1 (HM3.out.box (q := (gx, gxO px ws.length cx)) (by simp))
              obtain ⟨c0, c1⟩ := HPC.out _ HM3.out.below
              have HR := Lib.hid (refSet_any px cx ws (by omega) k v (by have := HSZ.out.1; unfold maxLen; omega) (by have := HSZ.out.2; unfold maxLen; omega) w3.drew (HP3.out.below ((Below.refl _ w3).drew)))
              go_wp2_with fail
              go_region_law ((go_simp; go_at_call 22; (with_reducible refine HR.out.mono ?_); rintro e w4 ⟨v', rfl, p', cap', rfl, hp4, hb4⟩; have hm4 := HM3.out.same (((Below.refl _ w3).drew).trans hb4); obtain ⟨cg4, fg4⟩ := cells1 (hm4.box (q := (gx, gxO px ws.length cx)) (by simp)); have fg0 := fg4 0))
              all_goals
                have HE : Hid (Listed w (w4.setCell ⟨gx, 0, none⟩ (.slice p' (Rf.setR ws k v).length cap')) a gx gm most (i + 1) (Mm.put L k (.string v)) p' cap' (Rf.setR ws k v)) := Lib.hid
                  ⟨memS_set hm4, pairs_boxed hp4 (hm4.box (q := (gx, gxO px ws.length cx)) (by simp)), HI.out.2.2.1.set k v, by have := Rf.set_length ws k v; omega, Rf.set_in (P := fun q => q.1.size ≤ 20000 ∧ q.2.size ≤ 20000) HI.out.2.2.2.2 HSZ.out⟩
                clear hm4 hp4 hb4 HR c0 c1 cg
                go_wp2_with fail
                go_roundw
                case rel => exact ⟨i + 1, _, p', cap', _, by omega, by go_num, HE⟩
                case measure => simp [intOf]; omega
            · obtain rfl : i = xs.length := by omega
              have i1 : ¬ (xs.length : Int) < (xs.length : Int) := by omega
              obtain ⟨cg, -⟩ := cells1 (HI.out.1.box (q := (gx, gxO px ws.length cx)) (by simp))
              go_wp2_with fail
              refine (refFrom_any px cx ws (by omega) ⟨#[]⟩ (by decide) wr HI.out.2.1).mono ?_
              rintro e w3 ⟨v', rfl, p', cap', rfl, hp3, hb3⟩
              have hm3 := HI.out.1.same hb3
              have hall := HI.out.2.2.1.all
              have hin : ∀ q ∈ Rf.fromR ws ⟨#[]⟩, q.1.size ≤ 20000 ∧ q.2.size ≤ 20000 := fun q hq => HI.out.2.2.2.2 q (Rf.mem_fromR.1 hq).1
              generalize Rf.fromR ws ⟨#[]⟩ = vs at *
              have hvl : vs.length ≤ 100 := by rw [← Rf.row_length, hall]; omega
              have hb3x := hm3.box (q := (gx, gxO px ws.length cx)) (by simp)
              obtain ⟨cg3, fg3⟩ := cells1 hb3x
              have fg0 := fg3 0
              have hm4 := memS_set (px' := p') (n' := vs.length) (cx' := cap') hm3
              have hp4 := pairs_boxed (px' := p') (n' := vs.length) (cx' := cap') hp3 hb3x
              obtain ⟨W4, hW4⟩ : ∃ W4, w3.setCell ⟨gx, 0, none⟩ (.slice p' vs.length cap') = W4 := ⟨_, rfl⟩
              rw [hW4] at hm4 hp4
              obtain ⟨ga, hga⟩ : ∃ ga, ga = W4.heap.size := ⟨_, rfl⟩
              obtain ⟨pr, n4, r4, -⟩ := hm4
              have n5 := (n4.alloc (.cells #[.int .i64 0] 3)).alloc (.cells #[.bool false] 4)
              have r5 := r4.kept ((Kept.alloc W4 (.cells #[.int .i64 0] 3)).trans (.alloc _ (.cells #[.bool false] 4)))
              have p5 := (hp4.below (below_alloc W4 (.cells #[.int .i64 0] 3))).below (below_alloc _ (.cells #[.bool false] 4))
              have hz5 : (W4.alloc (.cells #[.int .i64 0] 3)).heap.size = ga + 1 := by rw [hga]; simp
              have hz5' : W4.heap.size + 1 = ga + 1 := by rw [hga]
              rw [hz5, ← hga] at n5
              have n6 : Now w ((W4.alloc (.cells #[.int .i64 0] 3)).alloc (.cells #[.bool false] 4)) ((ga + 1, gwO) :: (ga, gaO 0) :: (gx, gxO p' vs.length cap') :: (gm, gmO most) :: [(a, MS.memO pr)]) :=
                n5.perm (List.Perm.cons _ (List.Perm.cons _ (List.perm_append_comm_assoc [(a, MS.memO pr)] [(gx, gxO p' vs.length cap'), (gm, gmO most)] [])))
              have HN6 := Lib.hid n6
              have HR5 := Lib.hid r5
              have HP5 := Lib.hid p5
              have HALL := Lib.hid hall
              have HIN := Lib.hid hin
              have hmf := HMF.out
              have hvl' : (vs.length : Int) ≤ 100 := by omega
              clear n4 n5 n6 r4 r5 p5 hp3 hb3 hm3 hp4 hb3x fg3 hall hin cg HI hz5 hln hle hxl
              go_wp2_with fail
              (try rw [hz5']); (try rw [← hga])
              clear hmf
              have hso := other_si (mv := .pointer (some ⟨a, 0, none⟩)) (L := vs) HN6.out HP5.out (by omega) (by omega) (fun q hq => ⟨by have := (HIN.out q hq).1; omega, by have := (HIN.out q hq).2; omega⟩) (fun i h => ⟨by omega, by congr 1; omega⟩) (by
                intro w' hk hB
                obtain ⟨t, hat, hfl, hst⟩ := HR5.out.kept hk
                refine (MS.from_at (p := pr) (hB (a, MS.memO pr) (by simp)) hat ⟨#[]⟩ (by decide)).mono ?_
                rintro e w'' ⟨b1, b2, rfl, r1, r2, hb1, hb2, hb⟩
                exact ⟨b1, b2, pr, rfl, r1, r2, ⟨t, hat.kept (.of_below hb), by rw [hfl, HALL.out], by rw [HALL.out]; exact hst⟩, hb⟩)
              unfold askF at hso
              (with_reducible refine hso.mono ?_)
              rintro e w6 ⟨o, rfl, h6, hp6, hk6⟩
              rw [Nat.zero_add] at h6
              have HSR : Hid (Mm.Sorted (Rf.row vs)) := Lib.hid (by rw [HALL.out]; exact HR5.out.sorted)
              have R6 := Lib.hid (HR5.out.kept hk6)
              obtain ⟨cgw, -⟩ := cells1 (h6.box (q := (ga + 1, gwO)) (by simp))
              obtain ⟨cga, -⟩ := cells1 (h6.box (q := (ga, gaO vs.length)) (by simp))
              obtain ⟨cgx, -⟩ := cells1 (h6.box (q := (gx, gxO p' vs.length cap')) (by simp))
              have H6 := Lib.hid (And.intro h6 hp6)
              clear hso h6 hp6 hk6 cg3 fg0 hW4 hga
              go_wp2_with fail
              go_loopw [14, 15, 16, 17] (fun lv iv vv kv wr => ∃ i : Nat, i ≤ vs.length ∧ iv = .int .i64 (i : Nat) ∧ lv = .int .i64 (shorts most vs i : Nat) ∧ Hid (MI.Mem w wr o (othN most vs) [] [(ga + 1, gwO), (ga, gaO vs.length), (gx, gxO p' vs.length cap'), (gm, gmO most), (a, MS.memO pr)] ∧ PairsAt wr p' vs ∧ MS.Root wr pr L)) (fun _ iv _ _ _ => vs.length - (intOf iv).toNat)
              case atStart => exact ⟨0, Nat.zero_le _, rfl, rfl, Lib.hid ⟨H6.out.1, H6.out.2, R6.out⟩⟩
              case round =>
                obtain ⟨i, hi, rfl, rfl, HI⟩ := hrel
                have hsl := shorts_le most vs i
                obtain ⟨cgx, -⟩ := cells1 (HI.out.1.box (q := (gx, gxO p' vs.length cap')) (by simp))
                by_cases hlt : i < vs.length
                · obtain ⟨A, rfl, c0, c1, hok, hok2⟩ := HI.out.2.1.at (Below.refl _ wr) hlt
                  have HG := Lib.hid (othN_get (most := most) HSR.out vs.length (Nat.le_refl _) i hlt hlt)
                  rw [List.take_length] at HG
                  have HSS := Lib.hid (shorts_succ (most := most) hlt)
                  have HPC := Lib.hid (fun (W : World) (hb : Below wr.heap.size wr W) => HI.out.2.1.cells hb hlt)
                  generalize vs[i] = x at *
                  obtain ⟨k, v⟩ := x
                  simp only at c0 c1 HG HSS HPC hok hok2
                  have i1 : (i : Int) < (vs.length : Int) := by omega
                  have i2 : (0 : Int) ≤ (i : Int) := by omega
                  unfold maxLen at hok2
                  by_cases hev : (v.size : Int) ≤ most
                  · have HG2 := Lib.hid (HG.out.trans (if_pos hev))
                    have HS2 := Lib.hid (HSS.out.trans (congrArg (shorts most vs i + ·) (if_pos hev)))
                    go_wp2_with fail
                    refine (MI.get_m HI.out.1 k HG2.out).mono ?_
                    rintro e w7 ⟨rfl, h7, hb7⟩
                    obtain ⟨c0', c1'⟩ := HPC.out _ hb7
                    obtain ⟨cgx7, -⟩ := cells1 (h7.box (q := (gx, gxO (some A) vs.length cap')) (by simp))
                    obtain ⟨cgm7, -⟩ := cells1 (h7.box (q := (gm, gmO most)) (by simp))
                    have H7 := Lib.hid (And.intro h7 (And.intro (HI.out.2.1.below hb7) (HI.out.2.2.kept (.of_below hb7))))
                    clear c0 c1 cgx h7 hb7
                    go_wp2_with fail
                    go_quiet (fail)
                    go_wp2_with fail
                    go_roundw
                    case rel => exact ⟨i + 1, by omega, by go_num, by rw [HS2.out]; go_num, Lib.hid ⟨H7.out.1.same (below_dN (Below.refl _ _) _), H7.out.2.1.below (below_dN (Below.refl _ _) _), H7.out.2.2.kept (.of_below (below_dN (Below.refl _ _) _))⟩⟩
                    case measure => simp [intOf]; omega
                  · have HG2 := Lib.hid (HG.out.trans (if_neg hev))
                    have HS2 := Lib.hid (HSS.out.trans (congrArg (shorts most vs i + ·) (if_neg hev)))
                    go_wp2_with fail
                    refine (MI.get_m HI.out.1 k HG2.out).mono ?_
                    rintro e w7 ⟨rfl, h7, hb7⟩
                    obtain ⟨c0', c1'⟩ := HPC.out _ hb7
                    obtain ⟨cgx7, -⟩ := cells1 (h7.box (q := (gx, gxO (some A) vs.length cap')) (by simp))
                    obtain ⟨cgm7, -⟩ := cells1 (h7.box (q := (gm, gmO most)) (by simp))
                    have H7 := Lib.hid (And.intro h7 (And.intro (HI.out.2.1.below hb7) (HI.out.2.2.kept (.of_below hb7))))
                    clear c0 c1 cgx h7 hb7
                    have hev2 : decide ((v.size : Int) ≤ most) = false := by simp; omega
                    have hev3 : most < (v.size : Int) := by omega
                    go_wp2_with fail
                    go_quiet (fail)
                    go_wp2_with fail
                    go_roundw
                    case rel => exact ⟨i + 1, by omega, by go_num, by rw [HS2.out]; rfl, Lib.hid ⟨H7.out.1.same (below_dN (Below.refl _ _) _), H7.out.2.1.below (below_dN (Below.refl _ _) _), H7.out.2.2.kept (.of_below (below_dN (Below.refl _ _) _))⟩⟩
                    case measure => simp [intOf]; omega
                · obtain rfl : i = vs.length := by omega
                  have i1 : ¬ (vs.length : Int) < (vs.length : Int) := by omega
                  have hcnt := othN_count (most := most) HSR.out vs.length (Nat.le_refl _)
                  rw [List.take_length] at hcnt
                  have HCN := Lib.hid hcnt
                  clear hcnt
                  go_wp2_with fail
                  obtain ⟨po, n7, r7, -⟩ := HI.out.1
                  have n8 : Now w wr ((ga + 1, gwO) :: (ga, gaO vs.length) :: (gx, gxO p' vs.length cap') :: (gm, gmO most) :: [(o, MI.memO po), (a, MS.memO pr)]) :=
                    n7.perm ((List.perm_append_comm_assoc [(o, MI.memO po)] [(ga + 1, gwO), (ga, gaO vs.length), (gx, gxO p' vs.length cap'), (gm, gmO most)] [(a, MS.memO pr)]))
                  have hso := other_si (mv := .pointer none) (L := []) n8 HI.out.2.1 (by omega) (by simp) (fun q hq => by cases hq) (fun i h => absurd h (Nat.not_lt_zero _)) (by
                    intro w' hk hB
                    refine (MS.from_nil w' ⟨#[]⟩ (by decide)).mono ?_
                    rintro e w'' ⟨b1, b2, rfl, r1, r2, hb1, hb2, hb⟩
                    exact ⟨b1, b2, .pointer none, rfl, r1, r2, MS.root_nil _, hb⟩)
                  unfold askF at hso
                  (with_reducible refine hso.mono ?_)
                  rintro e w8 ⟨o2, rfl, h8, hp8, hk8⟩
                  rw [show vs.length + ([] : List Pr).length = vs.length from rfl] at h8
                  obtain ⟨t, hat, hfl, -⟩ := r7.kept hk8
                  have hc : (t.flat.length : Int) = (shorts most vs vs.length : Nat) := by rw [hfl, HCN.out]
                  have HL1 := Lib.hid (MI.len_at (p := po) (h8.box (q := (o, MI.memO po)) (by simp)) hat)
                  rw [hc] at HL1
                  have HL2 := Lib.hid (MI.len_m h8 (c := 0) rfl)
                  obtain ⟨cga8, -⟩ := cells1 (h8.box (q := (ga, gaO vs.length)) (by simp))
                  obtain ⟨cgx8, -⟩ := cells1 (h8.box (q := (gx, gxO p' vs.length cap')) (by simp))
                  have HB := Lib.hid h8.below
                  generalize (shorts most vs vs.length : Nat) = sh at *
                  clear hc hat hfl hso n7 r7 n8 hk8 hp8 h8 cgx
                  go_wp2_with fail
                  refine HL1.out.mono ?_
                  rintro e w9 ⟨rfl, rfl⟩
                  go_wp2_with fail
                  refine HL2.out.mono ?_
                  rintro e w9 ⟨rfl, rfl⟩
                  go_wp2_with fail
                  go_ret
                  exact ⟨rfl, HB.out⟩
end Go.Proofs.Ytnomjhfppmhmeaa
