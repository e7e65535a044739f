/-
  Walks over the laws of package mem: MemSorted. No condition.
-/
import Derived.Test.YtnomjhfppmhmeaaMemFloors
import Derived.Test.YtnomjhfppmhmeaaMemSortedMath
import Derived.Test.YtnomjhfppmhmeaaMemPairs
import Derived.Deep.RegionHeld3
import Derived.Deep.QuietTactic
import Derived.BigQuiet
namespace Go.Proofs.Ytnomjhfppmhmeaa
open Go.RowKit MI
attribute [local go_sem] Oper.semAt_some

theorem results_sorted (tmps : Array Value) (w : World) (g : Nat) (v : Value) (hp : tmps.getD 4 undef = .pointer (some ⟨g, 0, none⟩)) (hc : w.cell? ⟨g, 0, none⟩ = some v) :
    (results Try.f6 tmps).run Try.prog w = .ok v w := by
  have hp' : tmps[4]?.getD undef = .pointer (some ⟨g, 0, none⟩) := by simpa using hp
  simp [results, hp', asAddr, loadVar, hc, go_sem]
theorem keep3 {w w' : World} {a b c : Addr} {x y z : Value} (hb : Below w.heap.size w w') (h1 : w.cell? a = some x) (h2 : w.cell? b = some y) (h3 : w.cell? c = some z) : w'.cell? a = some x ∧ w'.cell? b = some y ∧ w'.cell? c = some z :=
  ⟨(hb.cell (cell_block h1)).trans h1, (hb.cell (cell_block h2)).trans h2, (hb.cell (cell_block h3)).trans h3⟩
theorem keysD {xs : List Pr} {i : Nat} (h : i < xs.length) : (xs.map Prod.fst).getD i ⟨#[]⟩ = xs[i].1 := by
  rw [Mm.keyD (by rw [List.length_map]; exact h), List.getElem_map]
theorem below_drewN' {w0 w : World} (h : Below w0.heap.size w0 w) (n : Nat) : Below w0.heap.size w0 (w.drewN n) := ⟨h.os, h.tape, h.output, h.size, h.block⟩

set_option maxRecDepth 100000 in
set_option maxHeartbeats 32000000 in
theorem memSorted_any (p : Option Addr) (cap : Nat) (xs : List Pr) (key : ByteArray) (w : World) (hl : PairsAt w p xs) (hkm : key.size ≤ 140737488355328) :
    Calls Try.prog 6 #[.slice p xs.length cap, .string key] w fun e w' => e = .returned (.bool true) ∧ Below w.heap.size w w' := by
  refine (callsIn_wide (n := 9)).1 ?_
  refine callsIn_of_wp_marks Try.func6 rfl trivial ?_ rfl
  simp only [Try.ntmps6, List.size_toArray, List.length_cons, List.length_nil, Nat.reduceAdd, Nat.reduceSub, Array.replicate_succ, Array.replicate_zero, List.push_toArray, List.append_toArray, List.nil_append, List.cons_append]
  have h0 := ((now_start w).alloc (.cells #[.slice p xs.length cap] 42)).alloc (.cells #[.bool false] 4)
  obtain ⟨bl, hbl⟩ : ∃ bl, bl = w.heap.size := ⟨_, rfl⟩
  have hz : (w.alloc (.cells #[.slice p xs.length cap] 42)).heap.size = bl + 1 := by rw [hbl]; simp
  rw [hz, ← hbl] at h0
  clear hz
  gi_wp2_with fail
  refine ⟨trivial, ?_⟩
  refine (callsIn_wide.2 (memAwake_any _)).mono ?_
  rintro e w1 ⟨rfl, hb1⟩
  have h1 := h0.same hb1
  rw [← hbl]
  obtain ⟨cr, fr⟩ := cells1 h1.head
  have fr0 := fr 0
  obtain ⟨cl, -⟩ := cells1 h1.tail.head
  have HL := Lib.hid hl
  have H1 := Lib.hid h1
  clear h0 h1 hb1 hbl fr hl
  gi_wp2_with fail
  gi_loopw [5, 6] (fun nv iv wr => ∃ k s : Nat, k ≤ xs.length ∧ k ≤ 101 ∧ iv = .int .i64 (k : Nat) ∧ nv = .int .i64 (s : Nat) ∧ Hid (Now w wr [(bl + 1, .cells #[.bool false] 4 (0, 0)), (bl, .cells #[.slice p xs.length cap] 42 (0, 0))] ∧ s ≤ key.size + k * 40002 ∧ (s ≤ 20000 → key.size ≤ 20000 ∧ ∀ x ∈ xs.take k, x.1.size ≤ 20000))) (fun _ iv _ => 101 - (intOf iv).toNat)
  case atStart => exact ⟨0, key.size, Nat.zero_le _, Nat.zero_le _, rfl, rfl, Lib.hid ⟨H1.out, by omega, fun h => ⟨h, fun _ h => nomatch h⟩⟩⟩
  case round =>
    obtain ⟨k, s, hk, hk101, rfl, rfl, HB⟩ := hrel
    clear cr fr0 cl
    obtain ⟨cr, fr⟩ := cells1 HB.out.1.head
    have fr0 := fr 0
    obtain ⟨cl, -⟩ := cells1 HB.out.1.tail.head
    clear fr
    have hs60 := HB.out.2.1
    by_cases hlt : k < xs.length
    · have i1 : (k : Int) < (xs.length : Int) := by omega
      have i2 : (0 : Int) ≤ (k : Int) := by omega
      by_cases hle : k ≤ 100
      · have i3 : (k : Int) ≤ 100 := by omega
        obtain ⟨A, rfl, c0, c1, hok, -⟩ := HL.out.at HB.out.1.below hlt
        have hok2 := (HL.out.at HB.out.1.below hlt).elim fun _ h => h.2.2.2.2
        unfold maxLen at hok hok2
        have HT := Lib.hid (List.take_succ_eq_append_getElem hlt)
        generalize xs[k] = x at *
        gi_wp2_with fail
        refine wpIn_wide.2 ?_
        go_quiet (fail)
        gi_wp2_with fail
        go_roundw
        case rel =>
          refine ⟨k + 1, s + min x.1.size 20001 + min x.2.size 20001, by omega, by omega, by go_num, by congr 1; omega, Lib.hid ⟨HB.out.1.same (below_drewN' (Below.refl _ _) _), by omega, fun hs => ?_⟩⟩
          have h2 := HB.out.2.2 (by omega)
          refine ⟨h2.1, fun y hy => ?_⟩
          rw [HT.out] at hy
          rcases List.mem_append.1 hy with hy | hy
          · exact h2.2 y hy
          · obtain rfl := List.mem_singleton.1 hy
            omega
        case measure => simp [intOf]; omega
      · obtain rfl : k = 101 := by omega
        have i3 : ¬ (101 : Int) ≤ 100 := by omega
        have i5 : (100 : Int) < (xs.length : Int) := by omega
        have HE := Lib.hid ((HB.out.1.set (.bool true)).sub (B' := [(bl + 1, .cells #[.bool true] 4 (0, 0))]) (by simp))
        gi_wp2_with fail
        exact leaves_box w (bl + 1) 4 (fun W hc => results_sorted _ W _ _ rfl hc) [] _ HE.out (fun W' hb => ⟨rfl, hb⟩)
    · obtain rfl : k = xs.length := by omega
      have i1 : ¬ (xs.length : Int) < (xs.length : Int) := by omega
      by_cases h100 : 100 < xs.length
      · have i5 : (100 : Int) < (xs.length : Int) := by omega
        have HE := Lib.hid ((HB.out.1.set (.bool true)).sub (B' := [(bl + 1, .cells #[.bool true] 4 (0, 0))]) (by simp))
        gi_wp2_with fail
        exact leaves_box w (bl + 1) 4 (fun W hc => results_sorted _ W _ _ rfl hc) [] _ HE.out (fun W' hb => ⟨rfl, hb⟩)
      · have i5 : ¬ (100 : Int) < (xs.length : Int) := by omega
        by_cases hs : 20000 < s
        · have i6 : (20000 : Int) < (s : Int) := by omega
          have HE := Lib.hid ((HB.out.1.set (.bool true)).sub (B' := [(bl + 1, .cells #[.bool true] 4 (0, 0))]) (by simp))
          gi_wp2_with fail
          exact leaves_box w (bl + 1) 4 (fun W hc => results_sorted _ W _ _ rfl hc) [] _ HE.out (fun W' hb => ⟨rfl, hb⟩)
        · have i6 : ¬ (20000 : Int) < (s : Int) := by omega
          have hfin := HB.out.2.2 (by omega)
          rw [List.take_length] at hfin
          have HF := Lib.hid hfin.2
          have HKS : Hid (key.size ≤ 20000) := Lib.hid hfin.1
          have HN := Lib.hid HB.out.1
          have HLN : Hid (xs.length ≤ 100) := Lib.hid (by omega)
          clear hfin HB H1 cr fr0 hs60 hkm hk hk101
          gi_wp2_with fail
          refine ⟨trivial, ?_⟩
          refine (callsIn_wide.2 (new_m (R := []) HN.out (fun _ h => nomatch h))).mono ?_
          rintro e w2 ⟨a, rfl, ⟨pa, n2, r2, -⟩, -⟩
          gi_wp2_with fail
          refine ⟨trivial, ?_⟩
          refine (callsIn_wide.2 (new_m (R := [(pa, [])]) n2 (fun r hr => by rw [List.mem_singleton.1 hr]; exact r2))).mono ?_
          rintro e w3 ⟨b, rfl, h3, -⟩
          clear n2 r2 HN i1 i5 i6 hs h100 hlt cl
          have h4 := h3.alloc (.cells #[.pointer (some ⟨b, 0, none⟩)] 22)
          obtain ⟨bb, hbb⟩ : ∃ bb, bb = w3.heap.size := ⟨_, rfl⟩
          rw [← hbb] at h4
          obtain ⟨pb, h5⟩ := (h4.perm (List.Perm.swap _ _ _)).other
          have H5 := Lib.hid h5
          clear h3 h4 h5
          gi_wp2_with fail
          rw [← hbb]
          clear hbb
          gi_loopw [9] (fun iv wr => ∃ k : Nat, k ≤ xs.length ∧ iv = .int .i64 (k : Nat) ∧ Hid (∃ pb, Mem w wr a (Mm.fwd (xs.map Prod.fst) k) [(pb, [])] ((b, memO pb) :: (bb, .cells #[.pointer (some ⟨b, 0, none⟩)] 22 (0, 0)) :: (bl + 1, .cells #[.bool false] 4 (0, 0)) :: (bl, .cells #[.slice p xs.length cap] 42 (0, 0)) :: []))) (fun iv _ => xs.length - (intOf iv).toNat)
          case atStart => exact ⟨0, Nat.zero_le _, rfl, Lib.hid ⟨pb, H5.out⟩⟩
          case round =>
            obtain ⟨k, hk, rfl, HM⟩ := hrel
            have hln := HLN.out
            obtain ⟨pb', hm⟩ := HM.out
            obtain ⟨cl, -⟩ := cells1 (hm.box (q := (bl, .cells #[.slice p xs.length cap] 42 (0, 0))) (by simp))
            by_cases hlt : k < xs.length
            · have i1 : (k : Int) < (xs.length : Int) := by omega
              have i2 : (0 : Int) ≤ (k : Int) := by omega
              obtain ⟨A, rfl, c0, -, -⟩ := HL.out.at hm.below hlt
              have hsz := HF.out _ (List.getElem_mem hlt)
              have hfl := Mm.fwd_len (xs.map Prod.fst) k
              have HFS : Hid (Mm.fwd (xs.map Prod.fst) (k + 1) = Mm.put (Mm.fwd (xs.map Prod.fst) k) xs[k].1 (.int .i64 (k : Int))) := Lib.hid (by rw [Mm.fwd_succ, keysD hlt])
              have HMM := Lib.hid hm
              clear hm
              generalize xs[k].1 = x at *
              gi_wp2_with fail
              refine ⟨trivial, ?_⟩
              refine (callsIn_wide.2 (set_m HMM.out x (by omega) (by omega) (k : Int) rfl)).mono ?_
              rintro e w6 ⟨rfl, h6, -⟩
              have H6 := Lib.hid h6
              clear h6 cl c0
              generalize (Mm.get (Mm.fwd (xs.map Prod.fst) k) x).isSome = bo at *
              gi_wp2_with fail
              go_roundw
              case rel => exact ⟨k + 1, by omega, by go_num, Lib.hid ⟨pb', by rw [HFS.out]; exact H6.out⟩⟩
              case measure => simp [intOf]; omega
            · obtain rfl : k = xs.length := by omega
              have i1 : ¬ (xs.length : Int) < (xs.length : Int) := by omega
              obtain ⟨pa', hm2⟩ := hm.other
              have H6 := Lib.hid hm2
              clear hm hm2 hk hlt HM H5
              gi_wp2_with fail
              gi_loopw [10, 11, 12] (fun iv _ _ wr => ∃ d : Nat, d ≤ xs.length ∧ iv = .int .i64 (((xs.length - d : Nat) : Int) - 1) ∧ Hid (∃ pa, Mem w wr b (Mm.bwd (xs.map Prod.fst) xs.length d) [(pa, Mm.fwd (xs.map Prod.fst) xs.length)] ((a, memO pa) :: (bb, .cells #[.pointer (some ⟨b, 0, none⟩)] 22 (0, 0)) :: (bl + 1, .cells #[.bool false] 4 (0, 0)) :: (bl, .cells #[.slice p xs.length cap] 42 (0, 0)) :: []))) (fun iv _ _ _ => (intOf iv + 1).toNat)
              case atStart => exact ⟨0, Nat.zero_le _, rfl, Lib.hid ⟨pa', H6.out⟩⟩
              case round =>
                obtain ⟨d, hd, rfl, HM⟩ := hrel
                clear cl i1
                obtain ⟨pa2, hm⟩ := HM.out
                obtain ⟨cl, -⟩ := cells1 (hm.box (q := (bl, .cells #[.slice p xs.length cap] 42 (0, 0))) (by simp))
                obtain ⟨cb, -⟩ := cells1 (hm.box (q := (bb, .cells #[.pointer (some ⟨b, 0, none⟩)] 22 (0, 0))) (by simp))
                by_cases hlt : d < xs.length
                · obtain ⟨k, hk⟩ : ∃ k, xs.length - d = k + 1 := ⟨xs.length - d - 1, by omega⟩
                  have hkl : k < xs.length := by omega
                  have e1 : (((xs.length - d : Nat) : Int) - 1) = (k : Int) := by omega
                  rw [e1]
                  have i1 : (0 : Int) ≤ (k : Int) := by omega
                  have i2 : (k : Int) < (xs.length : Int) := by omega
                  obtain ⟨A, rfl, c0, -, -⟩ := HL.out.at hm.below hkl
                  have hsz := HF.out _ (List.getElem_mem hkl)
                  have hbl2 := Mm.bwd_len (xs.map Prod.fst) xs.length d
                  have HBS : Hid (Mm.bwd (xs.map Prod.fst) xs.length (d + 1) = if (Mm.get (Mm.bwd (xs.map Prod.fst) xs.length d) xs[k].1).isSome then Mm.bwd (xs.map Prod.fst) xs.length d else Mm.put (Mm.bwd (xs.map Prod.fst) xs.length d) xs[k].1 (.int .i64 (k : Int))) := Lib.hid (by rw [Mm.bwd_succ _ _ _ (k := k) (by omega), keysD hkl])
                  have HX : Hid (∀ W, Below w.heap.size w W → W.cell? (A.add (k * 2)) = some (.string xs[k].1)) := Lib.hid fun W hb => (HL.out.cells hb hkl).1
                  have HMM := Lib.hid (hm.same (Below.refl _ wr).drew)
                  have HD2 : Hid (((xs.length - (d + 1) : Nat) : Int) - 1 = (k : Int) - 1) := Lib.hid (by omega)
                  have HBB : Hid (∀ W L, Mem w W b L [(pa2, Mm.fwd (xs.map Prod.fst) xs.length)] ((a, memO pa2) :: (bb, .cells #[.pointer (some ⟨b, 0, none⟩)] 22 (0, 0)) :: (bl + 1, .cells #[.bool false] 4 (0, 0)) :: (bl, .cells #[.slice (some A) xs.length cap] 42 (0, 0)) :: []) → W.cell? ⟨bb, 0, none⟩ = some (.pointer (some ⟨b, 0, none⟩)) ∧ W.cell? ⟨bl, 0, none⟩ = some (.slice (some A) xs.length cap) ∧ W.cell? (A.add (k * 2)) = some (.string xs[k].1)) := Lib.hid fun W L h =>
                    ⟨(cells1 (h.box (q := (bb, .cells #[.pointer (some ⟨b, 0, none⟩)] 22 (0, 0))) (by simp))).1, (cells1 (h.box (q := (bl, .cells #[.slice (some A) xs.length cap] 42 (0, 0))) (by simp))).1, HX.out W h.below⟩
                  have hln := HLN.out
                  clear hm HM e1 H6
                  generalize xs[k].1 = x at *
                  gi_wp2_with fail
                  refine wpIn_wide.2 ?_
                  go_region_held3 (fun w' => w'.cell? ⟨bb, 0, none⟩ = some (.pointer (some ⟨b, 0, none⟩)) ∧ w'.cell? ⟨bl, 0, none⟩ = some (.slice (some A) xs.length cap) ∧ w'.cell? (A.add (k * 2)) = some (.string x))
                    (first
                      | exact ⟨cb, cl, c0⟩ | exact HBB.out _ _ h7)
                    (first
                      | (go_at_call 13; refine (get_m HMM.out x rfl).mono ?_; rintro e w7 ⟨rfl, h7, hb7⟩)
                      | fail)
                  clear cb cl c0
                  obtain ⟨cb, cl, c0⟩ := HBB.out _ _ h7
                  have HM7 := Lib.hid h7
                  have HMM2 := Lib.hid (h7.same (Below.refl _ w7).drew)
                  clear h7 hb7 HMM
                  cases hg : (Mm.get (Mm.bwd (xs.map Prod.fst) xs.length d) x).isSome with
                  | true =>
                    have HBS2 := Lib.hid (HBS.out.trans (if_pos hg))
                    clear hg
                    gi_wp2_with fail
                    go_roundw
                    case rel => exact ⟨d + 1, by omega, by rw [HD2.out], Lib.hid ⟨pa2, by rw [HBS2.out]; exact HM7.out⟩⟩
                    case measure => simp [intOf] <;> omega
                  | false =>
                    have HBS2 := Lib.hid (HBS.out.trans (if_neg (by rw [hg]; simp)))
                    have HG := Lib.hid hg
                    clear hg
                    gi_wp2_with fail
                    refine wpIn_wide.2 ?_
                    go_region_held3 (fun w' => w'.cell? ⟨bb, 0, none⟩ = some (.pointer (some ⟨b, 0, none⟩)) ∧ w'.cell? ⟨bl, 0, none⟩ = some (.slice (some A) xs.length cap) ∧ w'.cell? (A.add (k * 2)) = some (.string x))
                      (first
                        | exact ⟨cb, cl, c0⟩ | exact HBB.out _ _ h8)
                      (first
                        | (go_at_call 12; refine (set_m HMM2.out x (by omega) (by omega) (k : Int) HG.out).mono ?_; rintro e w8 ⟨rfl, h8, -⟩)
                        | fail)
                    have HM8 := Lib.hid h8
                    clear h8 cb cl c0
                    gi_wp2_with fail
                    go_roundw
                    case rel => exact ⟨d + 1, by omega, by rw [HD2.out], Lib.hid ⟨pa2, by rw [HBS2.out]; exact HM8.out⟩⟩
                    case measure => simp [intOf] <;> omega
                ·
                  obtain rfl : d = xs.length := by omega
                  rw [Nat.sub_self]
                  have i1 : ¬ (0 : Int) ≤ ((0 : Nat) : Int) - 1 := by omega
                  rw [Mm.bwd_fwd] at hm
                  obtain ⟨L, hL⟩ : ∃ L, L = Mm.fwd (xs.map Prod.fst) xs.length := ⟨_, rfl⟩
                  rw [← hL] at hm
                  have HLM : Hid (∀ i (h : i < L.length), ∃ j : Nat, L[i].2 = .int .i64 (j : Int) ∧ ∃ h : j < xs.length, xs[j].1 = L[i].1) := Lib.hid fun i hi => by
                    have hmem := List.getElem_mem hi
                    generalize L[i] = q at *
                    rw [hL] at hmem
                    obtain ⟨j, h1, h2, h3⟩ := Mm.fwd_mem hmem
                    exact ⟨j, h3, h1, by rw [← h2, keysD h1]⟩
                  have HLL : Hid (L.length ≤ 100) := Lib.hid (by rw [hL]; exact Nat.le_trans (Mm.fwd_len _ _) HLN.out)
                  have HSO := Lib.hid hm.sorted
                  obtain ⟨pb3, hm3⟩ := hm.other
                  have h8 := (hm3.alloc (.cells #[.string ⟨#[]⟩] 9)).alloc (.cells #[.int .i64 0] 3)
                  obtain ⟨gl, hgl⟩ : ∃ gl, gl = wr.heap.size := ⟨_, rfl⟩
                  have hz : (wr.alloc (.cells #[.string ⟨#[]⟩] 9)).heap.size = gl + 1 := by rw [hgl]; simp
                  rw [hz, ← hgl] at h8
                  clear hz hL HM H6 hm hm3 cb cl hlt hd
                  gi_wp2_with fail
                  refine ⟨trivial, ?_⟩
                  refine (callsIn_wide.2 (from_m h8 ⟨#[]⟩ (by decide))).mono ?_
                  rintro e w10 ⟨b1, b2, p1, rfl, h10, -⟩
                  rw [← hgl]
                  clear h8 hgl i1
                  have hen := fun (u : World) => eql_seq u (.func 54) #[] #[.pointer (some ⟨b1, 0, none⟩), .pointer (some ⟨b2, 0, none⟩)]
                  unfold fromV
                  gi_wp2_with fail
                  clear hen
                  have hsq := h10.seq (p := p1) (L := L) (b1 := b1) (b2 := b2) (key := ⟨#[]⟩) (by simp) (by simp) (by simp) 8
                  rw [Mm.from_empty] at hsq
                  obtain ⟨rest, hrest⟩ : ∃ rest : List (Nat × Obj), rest = [(bb, .cells #[.pointer (some ⟨b, 0, none⟩)] 22 (0, 0)), (bl + 1, .cells #[.bool false] 4 (0, 0)), (bl, .cells #[.slice p xs.length cap] 42 (0, 0))] := ⟨_, rfl⟩
                  have h11 := (h10.fewer (R' := [(pb3, L)]) (by simp)).sub (B' := [(gl + 1, .cells #[.int .i64 ((0 : Nat) : Int)] 3 (0, 0)), (gl, .cells #[.string ⟨#[]⟩] 9 (0, 0))] ++ ((b, memO pb3) :: rest)) (by rw [hrest]; simp)
                  have hg1 : w10.heap[gl + 1]? = some (.cells #[.int .i64 ((0 : Nat) : Int)] 3 (0, 0)) := h11.box (q := (gl + 1, .cells #[.int .i64 ((0 : Nat) : Int)] 3 (0, 0))) (by simp)
                  have hg0 : w10.heap[gl]? = some (.cells #[.string ⟨#[]⟩] 9 (0, 0)) := h11.box (q := (gl, .cells #[.string ⟨#[]⟩] 9 (0, 0))) (by simp)
                  have hl1 : gl + 1 < w10.heap.size := (Array.getElem?_eq_some_iff.1 hg1).1
                  have hn1 : ¬ IsNode w10 (gl + 1) := not_node hg1 int_not
                  have hn0 : ¬ IsNode w10 gl := not_node hg0 string_not
                  have H11 := Lib.hid h11
                  have HR := Lib.hid hrest
                  have HMB : Hid (∀ A x s, Outs [gl + 1, gl] w10 A → A.heap[gl + 1]? = some (.cells #[x] 3 (0, 0)) → A.heap[gl]? = some (.cells #[s] 9 (0, 0)) → Mem w A a L [(pb3, L)] ([(gl + 1, .cells #[x] 3 (0, 0)), (gl, .cells #[s] 9 (0, 0))] ++ ((b, memO pb3) :: rest))) := Lib.hid fun A x s ho h1 h0 =>
                    H11.out.outs ho rfl (fun q hq => by
                      simp only [List.mem_cons, List.not_mem_nil, or_false] at hq
                      rcases hq with rfl | rfl
                      · exact h1
                      · exact h0) (fun g hg => by
                      simp only [List.map_cons, List.map_nil, List.mem_cons, List.not_mem_nil, or_false] at hg
                      rcases hg with rfl | rfl
                      · exact hn1
                      · exact hn0)
                  clear h10 h11 hrest
                  apply wpIn_rangeY rfl (by omega) (gf := 54) (lb := #[.pointer (some ⟨b1, 0, none⟩), .pointer (some ⟨b2, 0, none⟩)]) rfl trivial (enters_of Try.func54 (by kernel_rfl) rfl)
                    (encs := fun q : ByteArray × Value => #[.string q.1, q.2]) (xs := L) (cap := IsNode w10) hsq (fun k hk => hk.lt) (fun _ => rfl)
                    (fun i A => Outs [gl + 1, gl] w10 A ∧ A.heap[gl + 1]? = some (.cells #[.int .i64 (i : Int)] 3 (0, 0)) ∧ ∃ s, A.heap[gl]? = some (.cells #[.string s] 9 (0, 0)) ∧ ∀ j (h : j < L.length), j + 1 = i → s = L[j].1)
                    (fun _ _ _ => False)
                    (fun i A C hs st => ⟨hs.1.its st, (st.block (gl + 1) (by have := hs.1.size; omega) (.inl hl1)).trans hs.2.1, hs.2.2.elim fun s hv => ⟨s, (st.block gl (by have := hs.1.size; omega) (.inl (by omega))).trans hv.1, hv.2⟩⟩)
                    (fun _ _ _ _ hs _ => hs)
                    ⟨Outs.refl _ _, hg1, _, hg0, fun j _ h => by omega⟩
                  case hassign =>
                    intro l x W K hK
                    gi_wp2
                    exact hK
                  case hstop =>
                    rintro D c i A _ _ h _
                    exact h.elim
                  case hbody =>
                    rintro l i hi A hT ⟨ho, hA1, s, hA0, hprev⟩
                    obtain ⟨j, hj, hjl, hjk⟩ := HLM.out i hi
                    have hmA := HMB.out A _ _ ho hA1 hA0
                    obtain ⟨c1, -⟩ := cells1 hA1
                    obtain ⟨c0, -⟩ := cells1 hA0
                    have hml := HLL.out
                    have hxl := HLN.out
                    obtain ⟨P, rfl, cp, -, -⟩ := HL.out.at hmA.below hjl
                    rw [hjk] at cp
                    have hgt := HSO.out.get (k := L[i].1) (v := L[i].2) (List.getElem_mem hi)
                    have HP : Hid (0 < i → Mm.lt s L[i].1 = true) := Lib.hid fun h0 => by
                      have hj1 : i - 1 < L.length := by omega
                      rw [hprev (i - 1) hj1 (by omega)]
                      exact List.pairwise_iff_getElem.1 HSO.out (i - 1) i hj1 hi (by omega)
                    have HK : Hid (∀ (W : World), L[i].1 = L[i].1) := Lib.hid fun _ => rfl
                    have HI : Hid (∀ k, k = L[i].1 → ∀ j' (h : j' < L.length), j' + 1 = i + 1 → k = L[j'].1) := Lib.hid fun k e j' h h2 => by
                      obtain rfl : j' = i := by omega
                      exact e
                    obtain ⟨pa5, hmb⟩ := (hmA.perm (List.perm_middle (l₁ := [(gl + 1, Obj.cells #[.int .i64 (i : Int)] 3 (0, 0)), (gl, Obj.cells #[.string s] 9 (0, 0))]))).other
                    have hmb' := hmb
                    rw [HR.out] at hmb'
                    obtain ⟨cb, -⟩ := cells1 (hmb'.box (q := (bb, .cells #[.pointer (some ⟨b, 0, none⟩)] 22 (0, 0))) (by simp))
                    obtain ⟨cl, -⟩ := cells1 (hmb'.box (q := (bl, .cells #[.slice (some P) xs.length cap] 42 (0, 0))) (by simp))
                    have HMBb := Lib.hid hmb
                    have HO := Lib.hid ho
                    have HA1 := Lib.hid hA1
                    have HA0 := Lib.hid hA0
                    have HGT := Lib.hid hgt
                    have k1 : (j : Int) < (xs.length : Int) := by omega
                    have k2 : (0 : Int) ≤ (j : Int) := by omega
                    have k3 : (i : Int) ≤ 100 := by omega
                    have k4 : (0 : Int) ≤ (i : Int) := by omega
                    clear hmb hmb' hmA ho hA1 hA0 hprev hgt HK
                    generalize L[i] = q at *
                    obtain ⟨k, vv⟩ := q
                    obtain rfl : vv = .int .i64 (j : Int) := hj
                    simp only at HGT HP HI cp hjk
                    clear hjk
                    by_cases h0 : 0 < i
                    · have d1 := leq_eqs.1 (HP.out h0)
                      have i4 : (0 : Int) < (i : Int) := by omega
                      gi_wp2_with fail
                      refine ⟨trivial, ?_⟩
                      refine (callsIn_wide.2 (get_m HMBb.out k HGT.out)).mono ?_
                      rintro e A3 ⟨rfl, hm3, hb3⟩
                      have HB3 := Lib.hid hb3
                      have hA31 := (hb3.block (gl + 1) (Array.getElem?_eq_some_iff.1 HA1.out).1).trans HA1.out
                      have hA30 := (hb3.block gl (Array.getElem?_eq_some_iff.1 HA0.out).1).trans HA0.out
                      clear c1 c0 cp cb cl
                      obtain ⟨c1, f1⟩ := cells1 hA31
                      obtain ⟨c0, f0⟩ := cells1 hA30
                      have f1' := f1 0
                      have f0' := f0 0
                      have hb1 : BodyK (IsNode w10) A3 (A3.setCell ⟨gl, 0, none⟩ (.string k)) := BodyK.setCell _ hA30 hn0
                      have hA4 : (A3.setCell ⟨gl, 0, none⟩ (.string k)).heap[gl + 1]? = some (.cells #[.int .i64 (i : Int)] 3 (0, 0)) := (Below.heap_setCell _ _ _ _ (by simp)).trans hA31
                      have hb2 : BodyK (IsNode w10) (A3.setCell ⟨gl, 0, none⟩ (.string k)) ((A3.setCell ⟨gl, 0, none⟩ (.string k)).setCell ⟨gl + 1, 0, none⟩ (.int .i64 ((i : Int) + 1))) := BodyK.setCell _ hA4 hn1
                      have HBK := Lib.hid ((BodyK.of_below (cap := IsNode w10) hb3).trans (hb1.trans hb2))
                      have HO3 := Lib.hid (((HO.out.below hb3).set (b := gl) (by simp) 0 (.string k)).set (b := gl + 1) (by simp) 0 (.int .i64 ((i : Int) + 1)))
                      have HA5 := Lib.hid (heap_setCell_same _ (gl + 1) 0 _ _ (.int .i64 ((i : Int) + 1)) hA4)
                      have HA6 := Lib.hid ((Below.heap_setCell (A3.setCell ⟨gl, 0, none⟩ (.string k)) ⟨gl + 1, 0, none⟩ (.int .i64 ((i : Int) + 1)) gl (by simp)).trans (heap_setCell_same A3 gl 0 _ _ (.string k) hA30))
                      clear hb1 hb2 hA4 hA31 hA30 f1 f0 hm3 hb3
                      gi_wp2_with fail
                      exact ⟨HBK.out, HO3.out, by rw [HA5.out]; go_num, k, HA6.out, HI.out k rfl⟩
                    · have i4 : ¬ (0 : Int) < (i : Int) := by omega
                      gi_wp2_with fail
                      refine ⟨trivial, ?_⟩
                      refine (callsIn_wide.2 (get_m HMBb.out k HGT.out)).mono ?_
                      rintro e A3 ⟨rfl, hm3, hb3⟩
                      have HB3 := Lib.hid hb3
                      have hA31 := (hb3.block (gl + 1) (Array.getElem?_eq_some_iff.1 HA1.out).1).trans HA1.out
                      have hA30 := (hb3.block gl (Array.getElem?_eq_some_iff.1 HA0.out).1).trans HA0.out
                      clear c1 c0 cp cb cl
                      obtain ⟨c1, f1⟩ := cells1 hA31
                      obtain ⟨c0, f0⟩ := cells1 hA30
                      have f1' := f1 0
                      have f0' := f0 0
                      have hb1 : BodyK (IsNode w10) A3 (A3.setCell ⟨gl, 0, none⟩ (.string k)) := BodyK.setCell _ hA30 hn0
                      have hA4 : (A3.setCell ⟨gl, 0, none⟩ (.string k)).heap[gl + 1]? = some (.cells #[.int .i64 (i : Int)] 3 (0, 0)) := (Below.heap_setCell _ _ _ _ (by simp)).trans hA31
                      have hb2 : BodyK (IsNode w10) (A3.setCell ⟨gl, 0, none⟩ (.string k)) ((A3.setCell ⟨gl, 0, none⟩ (.string k)).setCell ⟨gl + 1, 0, none⟩ (.int .i64 ((i : Int) + 1))) := BodyK.setCell _ hA4 hn1
                      have HBK := Lib.hid ((BodyK.of_below (cap := IsNode w10) hb3).trans (hb1.trans hb2))
                      have HO3 := Lib.hid (((HO.out.below hb3).set (b := gl) (by simp) 0 (.string k)).set (b := gl + 1) (by simp) 0 (.int .i64 ((i : Int) + 1)))
                      have HA5 := Lib.hid (heap_setCell_same _ (gl + 1) 0 _ _ (.int .i64 ((i : Int) + 1)) hA4)
                      have HA6 := Lib.hid ((Below.heap_setCell (A3.setCell ⟨gl, 0, none⟩ (.string k)) ⟨gl + 1, 0, none⟩ (.int .i64 ((i : Int) + 1)) gl (by simp)).trans (heap_setCell_same A3 gl 0 _ _ (.string k) hA30))
                      clear hb1 hb2 hA4 hA31 hA30 f1 f0 hm3 hb3
                      gi_wp2_with fail
                      exact ⟨HBK.out, HO3.out, by rw [HA5.out]; go_num, k, HA6.out, HI.out k rfl⟩
                  case hdone =>
                    rintro D A hD ⟨ho, hA1, s, hA0, -⟩ hK
                    obtain ⟨N, hN⟩ : ∃ N, N = L.length := ⟨_, rfl⟩
                    rw [← hN] at hA1
                    have HNL := Lib.hid hN
                    have h12 := H11.out.ranged (G' := [(gl + 1, .cells #[.int .i64 (N : Int)] 3 (0, 0)), (gl, .cells #[.string s] 9 (0, 0))]) ho rfl (fun q hq => by
                        simp only [List.mem_cons, List.not_mem_nil, or_false] at hq
                        rcases hq with rfl | rfl
                        · exact hA1
                        · exact hA0) (fun g hg => by
                        simp only [List.map_cons, List.map_nil, List.mem_cons, List.not_mem_nil, or_false] at hg
                        rcases hg with rfl | rfl
                        · exact hn1
                        · exact hn0) hD hK
                    clear hA1 hA0 ho hK hsq hg1 hg0 hl1 hn1 hn0 hD HMB H11
                    rw [HR.out] at h12
                    clear HR hN
                    obtain ⟨c1, -⟩ := cells1 (h12.box (q := (gl + 1, .cells #[.int .i64 (N : Int)] 3 (0, 0))) (by simp))
                    obtain ⟨cb, -⟩ := cells1 (h12.box (q := (bb, .cells #[.pointer (some ⟨b, 0, none⟩)] 22 (0, 0))) (by simp))
                    have HLa : Hid (∀ n, Calls Try.prog 18 #[.pointer (some ⟨a, 0, none⟩)] (A.drewN n) fun e w' => e = .returned (.int .i64 (N : Int)) ∧ w' = A.drewN n) := Lib.hid fun n => (len_m (h12.same (below_drewN' (Below.refl _ A) n)) (by rw [HNL.out])).mono fun e w' h => ⟨h.1, h.2.symm⟩
                    have HLb : Hid (∀ n, Calls Try.prog 18 #[.pointer (some ⟨b, 0, none⟩)] (A.drewN n) fun e w' => e = .returned (.int .i64 (N : Int)) ∧ w' = A.drewN n) := Lib.hid fun n => by
                      obtain ⟨pa6, h⟩ := ((h12.same (below_drewN' (Below.refl _ A) n)).perm (List.perm_middle (l₁ := [(D, MarkO), (gl + 1, Obj.cells #[.int .i64 (N : Int)] 3 (0, 0)), (gl, Obj.cells #[.string s] 9 (0, 0))]))).other
                      exact (len_m h (by rw [HNL.out])).mono fun e w' h => ⟨h.1, h.2.symm⟩
                    gi_wp2_with fail
                    refine wpIn_wide.2 ?_
                    go_quiet ((go_at_call 18; (first | exact Calls.quiet_of_same (HLa.out _) | exact Calls.quiet_of_same (HLb.out _))))
                    have h13 := h12.same (below_drewN' (Below.refl _ A) nq)
                    generalize A.drewN nq = W1 at *
                    clear h12 c1 cb HLa HLb A
                    have h14 := h13.alloc (.cells #[.int .i64 0] 3)
                    obtain ⟨gb, hgb⟩ : ∃ gb, gb = W1.heap.size := ⟨_, rfl⟩
                    rw [← hgb] at h14
                    have hks := HKS.out
                    clear h13
                    gi_wp2_with fail
                    refine ⟨trivial, ?_⟩
                    refine (callsIn_wide.2 (from_m h14 key (by omega))).mono ?_
                    rintro e w15 ⟨b3, b4, p2, rfl, h15, -⟩
                    rw [← hgb]
                    clear h14 hgb hks
                    have hen := fun (u : World) => eql_seq u (.func 54) #[] #[.pointer (some ⟨b3, 0, none⟩), .pointer (some ⟨b4, 0, none⟩)]
                    unfold fromV
                    gi_wp2_with fail
                    clear hen
                    obtain ⟨M, hM⟩ : ∃ M, M = Mm.from_ L key := ⟨_, rfl⟩
                    have hsq := h15.seq (p := p2) (L := L) (b1 := b3) (b2 := b4) (key := key) (by simp) (by simp) (by simp) 8
                    rw [← hM] at hsq
                    have HML : Hid (M.length ≤ 100) := Lib.hid (by rw [hM]; exact Nat.le_trans (List.length_filter_le _ _) HLL.out)
                    have HMF := Lib.hid hM
                    obtain ⟨rest, hrest⟩ : ∃ rest : List (Nat × Obj), rest = [(D, MarkO), (gl + 1, .cells #[.int .i64 (N : Int)] 3 (0, 0)), (bl + 1, .cells #[.bool false] 4 (0, 0)), (bl, .cells #[.slice p xs.length cap] 42 (0, 0))] := ⟨_, rfl⟩
                    have h16 := (h15.fewer (R' := []) (fun _ h => nomatch h)).sub (B' := [(gb, .cells #[.int .i64 ((0 : Nat) : Int)] 3 (0, 0))] ++ rest) (by rw [hrest]; simp only [List.cons_append, List.nil_append]; repeat' (first | exact List.nil_sublist _ | refine List.Sublist.cons_cons _ ?_ | refine List.Sublist.cons _ ?_))
                    have hg0 : w15.heap[gb]? = some (.cells #[.int .i64 ((0 : Nat) : Int)] 3 (0, 0)) := h16.box (q := (gb, .cells #[.int .i64 ((0 : Nat) : Int)] 3 (0, 0))) (by simp)
                    have hl0 : gb < w15.heap.size := (Array.getElem?_eq_some_iff.1 hg0).1
                    have hn0 : ¬ IsNode w15 gb := not_node hg0 int_not
                    have H16 := Lib.hid h16
                    have HR := Lib.hid hrest
                    clear h15 h16 hM hrest
                    apply wpIn_rangeY rfl (by omega) (gf := 54) (lb := #[.pointer (some ⟨b3, 0, none⟩), .pointer (some ⟨b4, 0, none⟩)]) rfl trivial (enters_of Try.func54 (by kernel_rfl) rfl)
                      (encs := fun q : ByteArray × Value => #[.string q.1, q.2]) (xs := M) (cap := IsNode w15) hsq (fun k hk => hk.lt) (fun _ => rfl)
                      (fun i A => Outs [gb] w15 A ∧ A.heap[gb]? = some (.cells #[.int .i64 (i : Int)] 3 (0, 0)))
                      (fun _ _ _ => False)
                      (fun i A C hs st => ⟨hs.1.its st, (st.block gb (by have := hs.1.size; omega) (.inl hl0)).trans hs.2⟩)
                      (fun _ _ _ _ hs _ => hs)
                      ⟨Outs.refl _ _, hg0⟩
                    case hassign =>
                      intro l x W K hK
                      gi_wp2
                      exact hK
                    case hstop =>
                      rintro D c i A _ _ h _
                      exact h.elim
                    case hbody =>
                      rintro l i hi A hT ⟨ho, hA0⟩
                      have hml := HML.out
                      obtain ⟨c0, f0⟩ := cells1 hA0
                      have f0' := f0 0
                      have k3 : (i : Int) ≤ 100 := by omega
                      have k4 : (0 : Int) ≤ (i : Int) := by omega
                      have HBK : Hid (BodyK (IsNode w15) A (A.setCell ⟨gb, 0, none⟩ (.int .i64 ((i : Int) + 1)))) := Lib.hid (BodyK.setCell _ hA0 hn0)
                      have HO := Lib.hid (ho.set (b := gb) (by simp) 0 (.int .i64 ((i : Int) + 1)))
                      have HA := Lib.hid (heap_setCell_same A gb 0 _ _ (.int .i64 ((i : Int) + 1)) hA0)
                      clear ho hA0 f0
                      generalize M[i] = q at *
                      gi_wp2_with fail
                      exact ⟨HBK.out, HO.out, by rw [HA.out]; go_num⟩
                    case hdone =>
                      rintro D2 A hD ⟨ho, hA0⟩ hK
                      obtain ⟨Nb, hNb⟩ : ∃ Nb, Nb = M.length := ⟨_, rfl⟩
                      rw [← hNb] at hA0
                      have h17 := H16.out.ranged (G' := [(gb, .cells #[.int .i64 (Nb : Int)] 3 (0, 0))]) ho rfl (fun q hq => by rw [List.mem_singleton.1 hq]; exact hA0) (fun g hg => by simp at hg; rw [hg]; exact hn0) hD hK
                      rw [HR.out] at h17
                      have HNN : Hid ((Mm.below L key).length + Nb = N ∧ Nb = (Mm.from_ L key).length ∧ N ≤ 100) := Lib.hid (by
                        have h1 := Mm.split_len L key
                        rw [← HMF.out, ← hNb, ← HNL.out] at h1
                        exact ⟨h1, by rw [← HMF.out]; exact hNb, by rw [HNL.out]; exact HLL.out⟩)
                      have HKS2 : Hid (key.size ≤ 20000) := HKS
                      clear ho hA0 hK hD hsq hg0 hl0 hn0 HR H16 HML HMF hNb
                      gi_wp2_with fail
                      refine ⟨trivial, ?_⟩
                      refine (callsIn_wide.2 (floor_m h17 key rfl)).mono ?_
                      rintro e w18 ⟨rfl, h18, -⟩
                      clear h17
                      have hfi := Mm.floor_is HSO.out key
                      have hfg := Mm.floor_get HSO.out (k := key)
                      cases hfl : Mm.floor L key with
                      | none =>
                        rw [hfl] at hfi hfg
                        have hnb : N = Nb := by
                          have h1 := HNN.out.1
                          have h2 : ¬ 0 < (Mm.below L key).length := fun h => by simp [h] at hfi
                          omega
                        have HG := Lib.hid hfg
                        clear hfl hfi hfg
                        unfold floorV
                        gi_wp2_with fail
                        refine ⟨trivial, ?_⟩
                        refine (callsIn_wide.2 (get_m h18 key HG.out)).mono ?_
                        rintro e w19 ⟨rfl, h19, -⟩
                        clear h18
                        have c1 := (cells1 (h19.box (q := (gl + 1, .cells #[.int .i64 (N : Int)] 3 (0, 0))) (by simp))).1
                        have c0 := (cells1 (h19.box (q := (gb, .cells #[.int .i64 (Nb : Int)] 3 (0, 0))) (by simp))).1
                        obtain ⟨cr, fr⟩ := cells1 (h19.box (q := (bl + 1, .cells #[.bool false] 4 (0, 0))) (by simp))
                        have fr0 := fr 0
                        have HE := Lib.hid (((h19.now.sub (B' := [(D2, MarkO), (D, MarkO), (bl + 1, .cells #[.bool false] 4 (0, 0))]) (by simp)).perm (B' := (bl + 1, .cells #[.bool false] 4 (0, 0)) :: [(D2, MarkO), (D, MarkO)]) (List.perm_middle (l₁ := [(D2, MarkO), (D, MarkO)]))).set (.bool true))
                        have k1 := HNN.out.2.2
                        have k2 : ¬ (0 : Int) < (N : Int) - (Nb : Int) := by omega
                        have k3 : (0 : Int) ≤ (Nb : Int) ∧ (Nb : Int) ≤ 100 ∧ (N : Int) ≤ 100 ∧ (0 : Int) ≤ (N : Int) := by omega
                        clear fr h19 hnb
                        gi_wp2_with fail
                        exact leaves_box w (bl + 1) 4 (fun W hc => results_sorted _ W _ _ rfl hc) [D2, D] _ (HE.out.perm (List.perm_middle (l₁ := [(D2, MarkO), (D, MarkO)])).symm) (fun W' hb => ⟨rfl, hb⟩)
                      | some q =>
                        obtain ⟨k, v⟩ := q
                        obtain ⟨m1, m2, m3⟩ := Mm.floor_some HSO.out hfl
                        have hkz := (h18.good _ m1).1
                        obtain ⟨i, hi, hiq⟩ := List.getElem_of_mem m1
                        obtain ⟨j, hj, hjl, hjk⟩ := HLM.out i hi
                        rw [hiq] at hj hjk
                        simp only at hj hjk hkz
                        subst hj
                        have HJ : Hid (∃ h : j < xs.length, xs[j].1 = k) := Lib.hid ⟨hjl, hjk⟩
                        have HKZ := Lib.hid hkz
                        clear m1 m2 m3 hi hiq hjl hjk hkz
                        rw [hfl] at hfi hfg
                        simp only [Option.isSome_some] at hfi hfg
                        unfold floorV
                        by_cases e : k = key
                        · subst e
                          rw [if_pos rfl] at hfg
                          have HG := Lib.hid hfg
                          clear hfg hfi hfl
                          gi_wp2_with fail
                          refine ⟨trivial, ?_⟩
                          refine (callsIn_wide.2 (get_m h18 k HG.out)).mono ?_
                          rintro e w19 ⟨rfl, h19, -⟩
                          clear h18
                          have c1 := (cells1 (h19.box (q := (gl + 1, .cells #[.int .i64 (N : Int)] 3 (0, 0))) (by simp))).1
                          have c0 := (cells1 (h19.box (q := (gb, .cells #[.int .i64 (Nb : Int)] 3 (0, 0))) (by simp))).1
                          have k1 := HNN.out.2.2
                          have k0 := HNN.out.1
                          have k3 : (0 : Int) ≤ (Nb : Int) ∧ (Nb : Int) ≤ 100 ∧ (N : Int) ≤ 100 ∧ (0 : Int) ≤ (N : Int) := by omega
                          have HR3 : Hid ((Mm.from_ L k).length = Nb) := Lib.hid HNN.out.2.1.symm
                          by_cases hpos : Nb < N
                          · have k2 : (0 : Int) < (N : Int) - (Nb : Int) := by omega
                            clear k1
                            have h20 := h19.alloc (.cells #[.int .i64 0] 3)
                            obtain ⟨gr, hgr⟩ : ∃ gr, gr = w19.heap.size := ⟨_, rfl⟩
                            rw [← hgr] at h20
                            have hkz := HKZ.out
                            clear h19
                            gi_wp2_with fail
                            refine ⟨trivial, ?_⟩
                            refine (callsIn_wide.2 (from_m h20 k hkz)).mono ?_
                            rintro e w21 ⟨b5, b6, p3, rfl, h21, -⟩
                            rw [← hgr]
                            clear h20 hgr hkz c1 c0
                            have hen := fun (u : World) => eql_seq u (.func 54) #[] #[.pointer (some ⟨b5, 0, none⟩), .pointer (some ⟨b6, 0, none⟩)]
                            unfold fromV
                            gi_wp2_with fail
                            clear hen
                            obtain ⟨M3, hM3⟩ : ∃ M3, M3 = Mm.from_ L k := ⟨_, rfl⟩
                            have hsq := h21.seq (p := p3) (L := L) (b1 := b5) (b2 := b6) (key := k) (by simp) (by simp) (by simp) 8
                            rw [← hM3] at hsq
                            have HM3 : Hid (M3.length = Nb) := Lib.hid (by rw [hM3]; exact HR3.out)
                            obtain ⟨rest, hrest⟩ : ∃ rest : List (Nat × Obj), rest = [(D2, MarkO), (gb, .cells #[.int .i64 (Nb : Int)] 3 (0, 0)), (D, MarkO), (bl + 1, .cells #[.bool false] 4 (0, 0)), (bl, .cells #[.slice p xs.length cap] 42 (0, 0))] := ⟨_, rfl⟩
                            have h22 := (h21.fewer (R' := []) (fun _ h => nomatch h)).sub (B' := [(gr, .cells #[.int .i64 ((0 : Nat) : Int)] 3 (0, 0))] ++ rest) (by rw [hrest]; simp only [List.cons_append, List.nil_append]; repeat' (first | exact List.nil_sublist _ | refine List.Sublist.cons_cons _ ?_ | refine List.Sublist.cons _ ?_))
                            have hg0 : w21.heap[gr]? = some (.cells #[.int .i64 ((0 : Nat) : Int)] 3 (0, 0)) := h22.box (q := (gr, .cells #[.int .i64 ((0 : Nat) : Int)] 3 (0, 0))) (by simp)
                            have hl0 : gr < w21.heap.size := (Array.getElem?_eq_some_iff.1 hg0).1
                            have hn0 : ¬ IsNode w21 gr := not_node hg0 int_not
                            have H22 := Lib.hid h22
                            have HR := Lib.hid hrest
                            clear h21 h22 hM3 hrest
                            apply wpIn_rangeY rfl (by omega) (gf := 54) (lb := #[.pointer (some ⟨b5, 0, none⟩), .pointer (some ⟨b6, 0, none⟩)]) rfl trivial (enters_of Try.func54 (by kernel_rfl) rfl)
                              (encs := fun q : ByteArray × Value => #[.string q.1, q.2]) (xs := M3) (cap := IsNode w21) hsq (fun k hk => hk.lt) (fun _ => rfl)
                              (fun i A => Outs [gr] w21 A ∧ A.heap[gr]? = some (.cells #[.int .i64 (i : Int)] 3 (0, 0)))
                              (fun _ _ _ => False)
                              (fun i A C hs st => ⟨hs.1.its st, (st.block gr (by have := hs.1.size; omega) (.inl hl0)).trans hs.2⟩)
                              (fun _ _ _ _ hs _ => hs)
                              ⟨Outs.refl _ _, hg0⟩
                            case hassign =>
                              intro l x W K hK
                              gi_wp2
                              exact hK
                            case hstop =>
                              rintro D c i A _ _ h _
                              exact h.elim
                            case hbody =>
                              rintro l i hi A hT ⟨ho, hA0⟩
                              obtain ⟨c0, f0⟩ := cells1 hA0
                              have f0' := f0 0
                              have q3 : (i : Int) ≤ 101 := by have := HM3.out; omega
                              have q4 : (0 : Int) ≤ (i : Int) := by omega
                              have HBK : Hid (BodyK (IsNode w21) A (A.setCell ⟨gr, 0, none⟩ (.int .i64 ((i : Int) + 1)))) := Lib.hid (BodyK.setCell _ hA0 hn0)
                              have HO := Lib.hid (ho.set (b := gr) (by simp) 0 (.int .i64 ((i : Int) + 1)))
                              have HA := Lib.hid (heap_setCell_same A gr 0 _ _ (.int .i64 ((i : Int) + 1)) hA0)
                              clear ho hA0 f0
                              generalize M3[i] = q at *
                              gi_wp2_with fail
                              exact ⟨HBK.out, HO.out, by rw [HA.out]; go_num⟩
                            case hdone =>
                              rintro D3 A hD ⟨ho, hA0⟩ hK
                              rw [HM3.out] at hA0
                              have h23 := H22.out.ranged (G' := [(gr, .cells #[.int .i64 ((Nb : Nat) : Int)] 3 (0, 0))]) ho rfl (fun q hq => by rw [List.mem_singleton.1 hq]; exact hA0) (fun g hg => by simp at hg; rw [hg]; exact hn0) hD hK
                              rw [HR.out] at h23
                              obtain ⟨R, hR⟩ : ∃ R : Int, R = ((Nb : Nat) : Int) := ⟨_, rfl⟩
                              rw [← hR] at h23
                              have h24 := h23
                              have c2 := (cells1 (h24.box (q := (gr, .cells #[.int .i64 R] 3 (0, 0))) (by simp))).1
                              have c0 := (cells1 (h24.box (q := (gb, .cells #[.int .i64 R] 3 (0, 0))) (by repeat' (first | exact List.mem_cons_self | refine List.mem_cons_of_mem _ ?_)))).1
                              obtain ⟨cr, fr⟩ := cells1 (h24.box (q := (bl + 1, .cells #[.bool false] 4 (0, 0))) (by simp))
                              have fr0 := fr 0
                              have HE := Lib.hid (((h24.now.sub (B' := [(D3, MarkO), (D2, MarkO), (D, MarkO), (bl + 1, .cells #[.bool false] 4 (0, 0))]) (by simp)).perm (B' := (bl + 1, .cells #[.bool false] 4 (0, 0)) :: [(D3, MarkO), (D2, MarkO), (D, MarkO)]) (List.perm_middle (l₁ := [(D3, MarkO), (D2, MarkO), (D, MarkO)]))).set (.bool true))
                              have ck : k = k := rfl
                              have hR2 : R = (Nb : Int) := hR.trans (by omega)
                              subst hR2
                              clear fr h23 h24 ho hA0 hK hD hsq hg0 hl0 hn0 HR H22 hR
                              gi_wp2_with fail
                              exact leaves_box w (bl + 1) 4 (fun W hc => results_sorted _ W _ _ rfl hc) [D3, D2, D] _ (HE.out.perm (List.perm_middle (l₁ := [(D3, MarkO), (D2, MarkO), (D, MarkO)])).symm) (fun W' hb => ⟨rfl, hb⟩)
                          · have k2 : ¬ (0 : Int) < (N : Int) - (Nb : Int) := by omega
                            clear k1
                            have h20 := h19.alloc (.cells #[.int .i64 0] 3)
                            obtain ⟨gr, hgr⟩ : ∃ gr, gr = w19.heap.size := ⟨_, rfl⟩
                            rw [← hgr] at h20
                            have hkz := HKZ.out
                            clear h19
                            gi_wp2_with fail
                            refine ⟨trivial, ?_⟩
                            refine (callsIn_wide.2 (from_m h20 k hkz)).mono ?_
                            rintro e w21 ⟨b5, b6, p3, rfl, h21, -⟩
                            rw [← hgr]
                            clear h20 hgr hkz c1 c0
                            have hen := fun (u : World) => eql_seq u (.func 54) #[] #[.pointer (some ⟨b5, 0, none⟩), .pointer (some ⟨b6, 0, none⟩)]
                            unfold fromV
                            gi_wp2_with fail
                            clear hen
                            obtain ⟨M3, hM3⟩ : ∃ M3, M3 = Mm.from_ L k := ⟨_, rfl⟩
                            have hsq := h21.seq (p := p3) (L := L) (b1 := b5) (b2 := b6) (key := k) (by simp) (by simp) (by simp) 8
                            rw [← hM3] at hsq
                            have HM3 : Hid (M3.length = Nb) := Lib.hid (by rw [hM3]; exact HR3.out)
                            obtain ⟨rest, hrest⟩ : ∃ rest : List (Nat × Obj), rest = [(D2, MarkO), (gb, .cells #[.int .i64 (Nb : Int)] 3 (0, 0)), (D, MarkO), (bl + 1, .cells #[.bool false] 4 (0, 0)), (bl, .cells #[.slice p xs.length cap] 42 (0, 0))] := ⟨_, rfl⟩
                            have h22 := (h21.fewer (R' := []) (fun _ h => nomatch h)).sub (B' := [(gr, .cells #[.int .i64 ((0 : Nat) : Int)] 3 (0, 0))] ++ rest) (by rw [hrest]; simp only [List.cons_append, List.nil_append]; repeat' (first | exact List.nil_sublist _ | refine List.Sublist.cons_cons _ ?_ | refine List.Sublist.cons _ ?_))
                            have hg0 : w21.heap[gr]? = some (.cells #[.int .i64 ((0 : Nat) : Int)] 3 (0, 0)) := h22.box (q := (gr, .cells #[.int .i64 ((0 : Nat) : Int)] 3 (0, 0))) (by simp)
                            have hl0 : gr < w21.heap.size := (Array.getElem?_eq_some_iff.1 hg0).1
                            have hn0 : ¬ IsNode w21 gr := not_node hg0 int_not
                            have H22 := Lib.hid h22
                            have HR := Lib.hid hrest
                            clear h21 h22 hM3 hrest
                            apply wpIn_rangeY rfl (by omega) (gf := 54) (lb := #[.pointer (some ⟨b5, 0, none⟩), .pointer (some ⟨b6, 0, none⟩)]) rfl trivial (enters_of Try.func54 (by kernel_rfl) rfl)
                              (encs := fun q : ByteArray × Value => #[.string q.1, q.2]) (xs := M3) (cap := IsNode w21) hsq (fun k hk => hk.lt) (fun _ => rfl)
                              (fun i A => Outs [gr] w21 A ∧ A.heap[gr]? = some (.cells #[.int .i64 (i : Int)] 3 (0, 0)))
                              (fun _ _ _ => False)
                              (fun i A C hs st => ⟨hs.1.its st, (st.block gr (by have := hs.1.size; omega) (.inl hl0)).trans hs.2⟩)
                              (fun _ _ _ _ hs _ => hs)
                              ⟨Outs.refl _ _, hg0⟩
                            case hassign =>
                              intro l x W K hK
                              gi_wp2
                              exact hK
                            case hstop =>
                              rintro D c i A _ _ h _
                              exact h.elim
                            case hbody =>
                              rintro l i hi A hT ⟨ho, hA0⟩
                              obtain ⟨c0, f0⟩ := cells1 hA0
                              have f0' := f0 0
                              have q3 : (i : Int) ≤ 101 := by have := HM3.out; omega
                              have q4 : (0 : Int) ≤ (i : Int) := by omega
                              have HBK : Hid (BodyK (IsNode w21) A (A.setCell ⟨gr, 0, none⟩ (.int .i64 ((i : Int) + 1)))) := Lib.hid (BodyK.setCell _ hA0 hn0)
                              have HO := Lib.hid (ho.set (b := gr) (by simp) 0 (.int .i64 ((i : Int) + 1)))
                              have HA := Lib.hid (heap_setCell_same A gr 0 _ _ (.int .i64 ((i : Int) + 1)) hA0)
                              clear ho hA0 f0
                              generalize M3[i] = q at *
                              gi_wp2_with fail
                              exact ⟨HBK.out, HO.out, by rw [HA.out]; go_num⟩
                            case hdone =>
                              rintro D3 A hD ⟨ho, hA0⟩ hK
                              rw [HM3.out] at hA0
                              have h23 := H22.out.ranged (G' := [(gr, .cells #[.int .i64 ((Nb : Nat) : Int)] 3 (0, 0))]) ho rfl (fun q hq => by rw [List.mem_singleton.1 hq]; exact hA0) (fun g hg => by simp at hg; rw [hg]; exact hn0) hD hK
                              rw [HR.out] at h23
                              obtain ⟨R, hR⟩ : ∃ R : Int, R = ((Nb : Nat) : Int) := ⟨_, rfl⟩
                              rw [← hR] at h23
                              have h24 := h23
                              have c2 := (cells1 (h24.box (q := (gr, .cells #[.int .i64 R] 3 (0, 0))) (by simp))).1
                              have c0 := (cells1 (h24.box (q := (gb, .cells #[.int .i64 R] 3 (0, 0))) (by repeat' (first | exact List.mem_cons_self | refine List.mem_cons_of_mem _ ?_)))).1
                              obtain ⟨cr, fr⟩ := cells1 (h24.box (q := (bl + 1, .cells #[.bool false] 4 (0, 0))) (by simp))
                              have fr0 := fr 0
                              have HE := Lib.hid (((h24.now.sub (B' := [(D3, MarkO), (D2, MarkO), (D, MarkO), (bl + 1, .cells #[.bool false] 4 (0, 0))]) (by simp)).perm (B' := (bl + 1, .cells #[.bool false] 4 (0, 0)) :: [(D3, MarkO), (D2, MarkO), (D, MarkO)]) (List.perm_middle (l₁ := [(D3, MarkO), (D2, MarkO), (D, MarkO)]))).set (.bool true))
                              have ck : k = k := rfl
                              have hR2 : R = (Nb : Int) := hR.trans (by omega)
                              subst hR2
                              clear fr h23 h24 ho hA0 hK hD hsq hg0 hl0 hn0 HR H22 hR
                              gi_wp2_with fail
                              exact leaves_box w (bl + 1) 4 (fun W hc => results_sorted _ W _ _ rfl hc) [D3, D2, D] _ (HE.out.perm (List.perm_middle (l₁ := [(D3, MarkO), (D2, MarkO), (D, MarkO)])).symm) (fun W' hb => ⟨rfl, hb⟩)
                        · rw [if_neg e] at hfg
                          have HG := Lib.hid hfg
                          obtain ⟨hlt, hlen⟩ := Mm.floor_from HSO.out hfl e
                          simp only at hlt hlen
                          have hpos : Nb < N := by
                            have h1 := HNN.out.1
                            have h2 : 0 < (Mm.below L key).length := by
                              rw [hfg] at hfi
                              by_cases h : 0 < (Mm.below L key).length
                              · exact h
                              · simp [h] at hfi
                            omega
                          have HR3 : Hid ((Mm.from_ L k).length = Nb + 1) := Lib.hid (by rw [hlen, ← HNN.out.2.1])
                          have d1 : Op.bytesLess k.toList key.toList = true := hlt
                          have HD1 := Lib.hid d1
                          clear hfg hfi hfl e hlt hlen d1
                          gi_wp2_with fail
                          refine ⟨trivial, ?_⟩
                          refine (callsIn_wide.2 (get_m h18 key HG.out)).mono ?_
                          rintro e w19 ⟨rfl, h19, -⟩
                          clear h18
                          have c1 := (cells1 (h19.box (q := (gl + 1, .cells #[.int .i64 (N : Int)] 3 (0, 0))) (by simp))).1
                          have c0 := (cells1 (h19.box (q := (gb, .cells #[.int .i64 (Nb : Int)] 3 (0, 0))) (by simp))).1
                          have k1 := HNN.out.2.2
                          have k3 : (0 : Int) ≤ (Nb : Int) ∧ (Nb : Int) ≤ 100 ∧ (N : Int) ≤ 100 ∧ (0 : Int) ≤ (N : Int) := by omega
                          have k2 : (0 : Int) < (N : Int) - (Nb : Int) := by omega
                          clear k1
                          have h20 := h19.alloc (.cells #[.int .i64 0] 3)
                          obtain ⟨gr, hgr⟩ : ∃ gr, gr = w19.heap.size := ⟨_, rfl⟩
                          rw [← hgr] at h20
                          have hkz := HKZ.out
                          clear h19
                          gi_wp2_with fail
                          refine ⟨trivial, ?_⟩
                          refine (callsIn_wide.2 (from_m h20 k hkz)).mono ?_
                          rintro e w21 ⟨b5, b6, p3, rfl, h21, -⟩
                          rw [← hgr]
                          clear h20 hgr hkz c1 c0
                          have hen := fun (u : World) => eql_seq u (.func 54) #[] #[.pointer (some ⟨b5, 0, none⟩), .pointer (some ⟨b6, 0, none⟩)]
                          unfold fromV
                          gi_wp2_with fail
                          clear hen
                          obtain ⟨M3, hM3⟩ : ∃ M3, M3 = Mm.from_ L k := ⟨_, rfl⟩
                          have hsq := h21.seq (p := p3) (L := L) (b1 := b5) (b2 := b6) (key := k) (by simp) (by simp) (by simp) 8
                          rw [← hM3] at hsq
                          have HM3 : Hid (M3.length = Nb + 1) := Lib.hid (by rw [hM3]; exact HR3.out)
                          obtain ⟨rest, hrest⟩ : ∃ rest : List (Nat × Obj), rest = [(D2, MarkO), (gb, .cells #[.int .i64 (Nb : Int)] 3 (0, 0)), (D, MarkO), (bl + 1, .cells #[.bool false] 4 (0, 0)), (bl, .cells #[.slice p xs.length cap] 42 (0, 0))] := ⟨_, rfl⟩
                          have h22 := (h21.fewer (R' := []) (fun _ h => nomatch h)).sub (B' := [(gr, .cells #[.int .i64 ((0 : Nat) : Int)] 3 (0, 0))] ++ rest) (by rw [hrest]; simp only [List.cons_append, List.nil_append]; repeat' (first | exact List.nil_sublist _ | refine List.Sublist.cons_cons _ ?_ | refine List.Sublist.cons _ ?_))
                          have hg0 : w21.heap[gr]? = some (.cells #[.int .i64 ((0 : Nat) : Int)] 3 (0, 0)) := h22.box (q := (gr, .cells #[.int .i64 ((0 : Nat) : Int)] 3 (0, 0))) (by simp)
                          have hl0 : gr < w21.heap.size := (Array.getElem?_eq_some_iff.1 hg0).1
                          have hn0 : ¬ IsNode w21 gr := not_node hg0 int_not
                          have H22 := Lib.hid h22
                          have HR := Lib.hid hrest
                          clear h21 h22 hM3 hrest
                          apply wpIn_rangeY rfl (by omega) (gf := 54) (lb := #[.pointer (some ⟨b5, 0, none⟩), .pointer (some ⟨b6, 0, none⟩)]) rfl trivial (enters_of Try.func54 (by kernel_rfl) rfl)
                            (encs := fun q : ByteArray × Value => #[.string q.1, q.2]) (xs := M3) (cap := IsNode w21) hsq (fun k hk => hk.lt) (fun _ => rfl)
                            (fun i A => Outs [gr] w21 A ∧ A.heap[gr]? = some (.cells #[.int .i64 (i : Int)] 3 (0, 0)))
                            (fun _ _ _ => False)
                            (fun i A C hs st => ⟨hs.1.its st, (st.block gr (by have := hs.1.size; omega) (.inl hl0)).trans hs.2⟩)
                            (fun _ _ _ _ hs _ => hs)
                            ⟨Outs.refl _ _, hg0⟩
                          case hassign =>
                            intro l x W K hK
                            gi_wp2
                            exact hK
                          case hstop =>
                            rintro D c i A _ _ h _
                            exact h.elim
                          case hbody =>
                            rintro l i hi A hT ⟨ho, hA0⟩
                            obtain ⟨c0, f0⟩ := cells1 hA0
                            have f0' := f0 0
                            have q3 : (i : Int) ≤ 101 := by have := HM3.out; omega
                            have q4 : (0 : Int) ≤ (i : Int) := by omega
                            have HBK : Hid (BodyK (IsNode w21) A (A.setCell ⟨gr, 0, none⟩ (.int .i64 ((i : Int) + 1)))) := Lib.hid (BodyK.setCell _ hA0 hn0)
                            have HO := Lib.hid (ho.set (b := gr) (by simp) 0 (.int .i64 ((i : Int) + 1)))
                            have HA := Lib.hid (heap_setCell_same A gr 0 _ _ (.int .i64 ((i : Int) + 1)) hA0)
                            clear ho hA0 f0
                            generalize M3[i] = q at *
                            gi_wp2_with fail
                            exact ⟨HBK.out, HO.out, by rw [HA.out]; go_num⟩
                          case hdone =>
                            rintro D3 A hD ⟨ho, hA0⟩ hK
                            rw [HM3.out] at hA0
                            have h23 := H22.out.ranged (G' := [(gr, .cells #[.int .i64 ((Nb + 1 : Nat) : Int)] 3 (0, 0))]) ho rfl (fun q hq => by rw [List.mem_singleton.1 hq]; exact hA0) (fun g hg => by simp at hg; rw [hg]; exact hn0) hD hK
                            rw [HR.out] at h23
                            obtain ⟨R, hR⟩ : ∃ R : Int, R = ((Nb + 1 : Nat) : Int) := ⟨_, rfl⟩
                            rw [← hR] at h23
                            have h24 := h23
                            have c2 := (cells1 (h24.box (q := (gr, .cells #[.int .i64 R] 3 (0, 0))) (by simp))).1
                            have c0 := (cells1 (h24.box (q := (gb, .cells #[.int .i64 (Nb : Int)] 3 (0, 0))) (by repeat' (first | exact List.mem_cons_self | refine List.mem_cons_of_mem _ ?_)))).1
                            obtain ⟨cr, fr⟩ := cells1 (h24.box (q := (bl + 1, .cells #[.bool false] 4 (0, 0))) (by simp))
                            have fr0 := fr 0
                            have HE := Lib.hid (((h24.now.sub (B' := [(D3, MarkO), (D2, MarkO), (D, MarkO), (bl + 1, .cells #[.bool false] 4 (0, 0))]) (by simp)).perm (B' := (bl + 1, .cells #[.bool false] 4 (0, 0)) :: [(D3, MarkO), (D2, MarkO), (D, MarkO)]) (List.perm_middle (l₁ := [(D3, MarkO), (D2, MarkO), (D, MarkO)]))).set (.bool true))
                            have ck : (Nb : Int) + 1 ≤ 101 := by omega
                            obtain ⟨hjl, hjk⟩ := HJ.out
                            obtain ⟨P, rfl, cp, -, -⟩ := HL.out.at h24.below hjl
                            rw [hjk] at cp
                            have cl := (cells1 (h24.box (q := (bl, .cells #[.slice (some P) xs.length cap] 42 (0, 0))) (by simp))).1
                            have j1 : (j : Int) < (xs.length : Int) := by omega
                            have j2 : (0 : Int) ≤ (j : Int) := by omega
                            have d1 := HD1.out
                            have hR2 : R = (Nb : Int) + 1 := hR.trans (by omega)
                            subst hR2
                            clear fr h23 h24 ho hA0 hK hD hsq hg0 hl0 hn0 HR H22 hR
                            gi_wp2_with fail
                            exact leaves_box w (bl + 1) 4 (fun W hc => results_sorted _ W _ _ rfl hc) [D3, D2, D] _ (HE.out.perm (List.perm_middle (l₁ := [(D3, MarkO), (D2, MarkO), (D, MarkO)])).symm) (fun W' hb => ⟨rfl, hb⟩)
end Go.Proofs.Ytnomjhfppmhmeaa
