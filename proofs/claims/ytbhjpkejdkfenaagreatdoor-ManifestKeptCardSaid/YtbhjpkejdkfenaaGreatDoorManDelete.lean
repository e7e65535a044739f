/-
  Walks over package manifest: the library's Delete, Clone, Grow, Concat at rows of tables. Conditions: those in the theorems.
-/
import Derived.Test.YtbhjpkejdkfenaaGreatDoorManCheck3
import Derived.Test.YtbhjpkejdkfenaaGreatDoorDiskRep
import Derived.Deep.RegionLaw
set_option linter.unusedSimpArgs false
set_option linter.unusedVariables false
namespace Go.Proofs.YtbhjpkejdkfenaaGreatDoor
open Go.RowKit Go.Maps
open Mf (File)

theorem mstep_append_row {P : Program} {ops : Array Oper} {o : Oper} {a : Act} {w : World} {K : Act → World → Prop} {Q : Exit → Act → World → Prop} {E : Prop}
    (hg : o.guard = none) (s x : Operand) (t : TypeId) (hop : o.op = Op.call { callee := Callee.builtin Builtin.append, args := #[s, x], argTypes := #[t, t] })
    (e : TypeId) (i : TypeInfo) (size : Nat) (h1 : P.underlying t = some (.slice e)) (h2 : P.info? e = some i) (h4 : i.size = size)
    (g n cap : Nat) (cur : Array Value) (hgk : w.heap[g]? = some (.cells cur e (0, 0))) (hs : a.eval s = .slice (some ⟨g, 0, none⟩) n cap)
    (ad : Addr) (m c : Nat) (news : List Value) (hx : a.eval x = .slice (some ad) m c) (hn : news.length = m * size) (hc : ∀ j u, news[j]? = some u → w.cell? (ad.add j) = some u) (h1c : ∀ u ∈ news, u.oneCell' = true)
    (hroom : n + m ≤ cap) (hfit : n * size + news.length ≤ cur.size)
    (new : Array Value) (hnew : (cur.toList.take (n * size) ++ news ++ cur.toList.drop (n * size + news.length)).toArray = new)
    (hK : K (a.put o.dst (.slice (some ⟨g, 0, none⟩) (n + m) cap)) (w.setRow g new)) :
    if Region.wanted o (yielded ops a.tmps) = true then Oper.wp P o a w K Q else E := by
  have hw : Region.wanted o (yielded ops a.tmps) = true := by simp [Region.wanted, hg]
  rw [if_pos hw]
  subst h4
  have hrun := run_append_room (P := P) w t o.type e i h1 h2 g n cap cur hgk ad m c news hn hc h1c hroom hfit
  rw [hnew] at hrun
  unfold Oper.wp
  simp [execOp, hop, resolve, invoke, builtin, hs, hx, hrun, Result.andThen]
  exact hK
theorem mrun_clear_row {P : Program} (w : World) (t e ty : TypeId) (z : Value) (ht : P.underlying t = some (.slice e)) (hv : (zeroValue e).run P w = .ok z w) (h1 : ∀ v ∈ z.cells, v.oneCell' = true)
    (g o n c : Nat) (cur : Array Value) (hgk : w.heap[g]? = some (.cells cur e (0, 0))) (hn : 0 < n) (hfit : o + (Builtin.zeroCells z.cells n).toList.length ≤ cur.size) (hz1 : ∀ v ∈ (Builtin.zeroCells z.cells n).toList, v.oneCell' = true) :
    (Builtin.clear_ #[t] ty #[.slice (some ⟨g, o, none⟩) n c]).run P w = .ok (.tuple #[]) (w.setRow g (cur.toList.take o ++ (Builtin.zeroCells z.cells n).toList ++ cur.toList.drop (o + (Builtin.zeroCells z.cells n).toList.length)).toArray) := by
  have hst := run_storeCells_at P g o e (Builtin.zeroCells z.cells n).toList 0 cur w hgk (by omega) hz1
  simp only [Nat.add_zero] at hst
  obtain ⟨m, rfl⟩ : ∃ m, n = m + 1 := ⟨n - 1, by omega⟩
  simp [Builtin.clear_, run_underlying ht, hv, hst]

theorem zeroFi (w : World) : (zeroValue 29).run Tryz.prog w = .ok (.agg #[.int .i64 0, .int .i64 0, .int .i64 0, .string ⟨#[]⟩, .string ⟨#[]⟩]) w := by kernel_rfl

theorem zerosFi (n : Nat) : (∀ v ∈ (Builtin.zeroCells #[.int .i64 0, .int .i64 0, .int .i64 0, .string ⟨#[]⟩, .string ⟨#[]⟩] n).toList, v.oneCell' = true) ∧ (Builtin.zeroCells #[.int .i64 0, .int .i64 0, .int .i64 0, .string ⟨#[]⟩, .string ⟨#[]⟩] n).toList.length = n * 5 := by
  refine ⟨fun v hv => ?_, by rw [Array.length_toList, size_zeroCells]; rfl⟩
  unfold Builtin.zeroCells at hv
  obtain ⟨k, hk, rfl⟩ := List.getElem_of_mem hv
  have h : k % 5 = 0 ∨ k % 5 = 1 ∨ k % 5 = 2 ∨ k % 5 = 3 ∨ k % 5 = 4 := by omega
  rcases h with h | h | h | h | h <;> simp [h, Value.oneCell']

set_option maxRecDepth 100000 in
set_option maxHeartbeats 4000000 in
theorem DeleteF_any (g n cap i j : Nat) (cur : Array Value) (xs : List Value) (w : World) (hgk : w.heap[g]? = some (.cells cur 29 (0, 0))) (hij : i < j) (hj : j ≤ n) (hn : n ≤ cap) (hm : cap ≤ 9223372036854775807) (hcs : cur.size = cap * 5)
    (hxs : cur.toList.take (n * 5) = xs) (hone : ∀ u ∈ xs, u.oneCell' = true) :
    Calls Tryz.prog 70 #[.slice (some ⟨g, 0, none⟩) n cap, .int .i64 (i : Nat), .int .i64 (j : Nat)] w fun e w' =>
      e = .returned (.slice (some ⟨g, 0, none⟩) (i + (n - j)) cap) ∧ ∃ cur2, w'.heap[g]? = some (.cells cur2 29 (0, 0)) ∧ cur2.size = cap * 5 ∧ cur2.toList.take ((i + (n - j)) * 5) = xs.take (i * 5) ++ xs.drop (j * 5) ∧ Turned (· = g) w w' := by
  obtain ⟨i0, hi0, hz0, hz1, hz2⟩ := info_parts infoFi
  have h1 : (i : Int) < (j : Int) := by omega
  have h2 : (j : Int) ≤ (n : Int) := by omega
  have h3 : (n : Int) ≤ (cap : Int) := by omega
  have h4 : ((i : Int) == (j : Int)) = false := by rw [beq_eq_false_iff_ne]; omega
  have h5 : (0 : Int) ≤ (i : Int) := by omega
  have hxl : xs.length = n * 5 := by rw [← hxs, List.length_take, Array.length_toList]; omega
  have hcl : cur.toList.length = cap * 5 := by rw [Array.length_toList, hcs]
  obtain ⟨news, hnews⟩ : ∃ news, news = xs.drop (j * 5) := ⟨_, rfl⟩
  have hnl : news.length = (n - j) * 5 := by rw [hnews, List.length_drop, hxl]; omega
  obtain ⟨A, hA, hsrc⟩ : ∃ A : Addr, (if cap = j then some (⟨g, 0, none⟩ : Addr) else some ⟨g, j * 5, none⟩) = some A ∧ Hid (∀ t u, news[t]? = some u → w.drew.cell? (A.add t) = some u) := by
    by_cases h : cap = j
    · refine ⟨⟨g, 0, none⟩, by simp [h], fun t u hu => ?_⟩
      have h0 : news.length = 0 := by rw [hnl]; omega
      rw [List.length_eq_zero_iff.1 h0] at hu
      simp at hu
    · refine ⟨⟨g, j * 5, none⟩, by simp [h], fun t u hu => ?_⟩
      have ht := (List.getElem?_eq_some_iff.1 hu).1
      rw [Addr.add_lit]
      rw [cell_of_row w.drew g (j * 5 + t) cur _ (0, 0) hgk]
      rw [hnews, List.getElem?_drop, ← hxs, List.getElem?_take, if_pos (by omega)] at hu
      simpa using hu
  obtain ⟨c1, hc1⟩ : ∃ c1, (cur.toList.take (i * 5) ++ news ++ cur.toList.drop (i * 5 + news.length)).toArray = c1 := ⟨_, rfl⟩
  have hc1s : c1.size = cap * 5 := by
    rw [← hc1]; simp only [List.size_toArray, List.length_append, List.length_take, List.length_drop, hcl, hnl]; omega
  obtain ⟨W1, hW1⟩ : ∃ W1, w.drew.setRow g c1 = W1 := ⟨_, rfl⟩
  have hg1 : W1.heap[g]? = some (.cells c1 29 (0, 0)) := by rw [← hW1]; exact setRow_heap w.drew g cur _ _ _ hgk
  obtain ⟨zs1, zs2⟩ := zerosFi (n - (i + (n - j)))
  have hclr := fun ty => mrun_clear_row W1 22 29 ty _ Tryz.underlying22 (zeroFi W1) (by intro v hv; simp [Value.cells] at hv; rcases hv with rfl | rfl | rfl | rfl | rfl <;> rfl) g ((i + (n - j)) * 5) (n - (i + (n - j))) (cap - (i + (n - j))) c1 hg1 (by omega)
    (by show _ + (Builtin.zeroCells #[.int .i64 0, .int .i64 0, .int .i64 0, .string ⟨#[]⟩, .string ⟨#[]⟩] _).toList.length ≤ _; rw [zs2, hc1s]; omega) zs1
  obtain ⟨c2, hc2⟩ : ∃ c2, (c1.toList.take ((i + (n - j)) * 5) ++ (Builtin.zeroCells #[.int .i64 0, .int .i64 0, .int .i64 0, .string ⟨#[]⟩, .string ⟨#[]⟩] (n - (i + (n - j)))).toList ++ c1.toList.drop ((i + (n - j)) * 5 + (Builtin.zeroCells #[.int .i64 0, .int .i64 0, .int .i64 0, .string ⟨#[]⟩, .string ⟨#[]⟩] (n - (i + (n - j)))).toList.length)).toArray = c2 := ⟨_, rfl⟩
  have hfin : (W1.setRow g c2).heap[g]? = some (.cells c2 29 (0, 0)) ∧ c2.size = cap * 5 ∧ c2.toList.take ((i + (n - j)) * 5) = xs.take (i * 5) ++ xs.drop (j * 5) ∧ Turned (· = g) w (W1.setRow g c2) := by
    refine ⟨setRow_heap _ _ _ _ _ _ hg1, ?_, ?_, ?_⟩
    · rw [← hc2]; simp only [List.size_toArray, List.length_append, List.length_take, List.length_drop, Array.length_toList, zs2, hc1s]; omega
    · rw [← hc2, List.append_assoc, List.take_left' (by rw [List.length_take, Array.length_toList, hc1s]; omega)]
      rw [← hc1, List.toList_toArray, List.take_left' (by rw [List.length_append, List.length_take, hcl, hnl]; omega), hnews, ← hxs, List.take_take]
      congr 2; omega
    · rw [← hW1]
      exact ⟨rfl, rfl, rfl, by simp, fun k _ hk => (setRow_other _ _ _ _ hk).trans (setRow_other _ _ _ _ hk)⟩
  have hclr2 : ∀ ty, (Builtin.clear_ #[22] ty #[.slice (some ⟨g, (i + (n - j)) * 5, none⟩) (n - (i + (n - j))) (cap - (i + (n - j)))]).run Tryz.prog W1 = .ok (.tuple #[]) (W1.setRow g c2) := fun ty => by rw [← hc2]; exact hclr ty
  have h6 : ¬ cap = i + (n - j) := by omega
  have h8 : i ≤ cap := by omega
  have h7 : i + (n - j) ≤ n := by omega
  have HF := Lib.hid hfin
  have s1 := Lib.hid hnl
  have s2 : Hid (∀ u ∈ news, u.oneCell' = true) := Lib.hid (fun u hu => hone u (by rw [hnews] at hu; exact List.mem_of_mem_drop hu))
  have s3 : Hid (i * 5 + news.length ≤ cur.size) := Lib.hid (by rw [hnl, hcs]; omega)
  have s4 : Hid (w.drew.heap[g]? = some (.cells cur 29 (0, 0))) := Lib.hid hgk
  have s5 := Lib.hid hc1
  have HW := Lib.hid hW1
  clear hfin hnl hone hnews hgk hcs hxs hxl hcl hc1 hc1s hW1 hg1 zs1 zs2 hclr hc2
  go_enter Tryz.func70, Tryz.ntmps70
  go_wp2_with fail
  go_region_law (refine mstep_append_row rfl (.tmp 22) (.tmp 25) 22 rfl 29 i0 5 Tryz.underlying22 hi0 hz1 g i cap cur s4.out (by simp [Act.eval, Act.put]) A (n - j) (cap - j) news (by simp [Act.eval, Act.put]) s1.out hsrc.out s2.out (by omega) s3.out c1 s5.out ?_)
  rw [HW.out]
  go_wp2_with fail
  go_ret
  exact ⟨rfl, c2, HF.out⟩
end Go.Proofs.YtbhjpkejdkfenaaGreatDoor
