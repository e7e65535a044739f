/-
  Walks over the document's answer for declarations: Sorts. Conditions: those in the theorems.
-/
import Derived.Test.YtnkdhmoocomjfaaGreatDoorBIdlRefA
import Derived.Test.YtnkdhmoocomjfaaGreatDoorIdlBase
import Derived.Deep.Cut
set_option linter.unusedSimpArgs false
set_option linter.unusedVariables false
namespace Go.Proofs.YtnkdhmoocomjfaaGreatDoor
open Go.RowKit

/-- An element that is written out at the call is appended to a row of the call's own. -/
theorem append_ref {α : Type} {K : RowKind α} (ok : K.Ok) {w W : World} {v : Value} {L : List α} (hL : RowIs K W w.heap.size v L) (hB : Below w.heap.size w W) (x : α) (t : Value) (ht : K.sub W w.heap.size t x) (hs : L.length + 1 ≤ 1000000) (ty : TypeId) :
    ∃ (pv : Option Addr) (cv : Nat) (V : World), (Builtin.append_ #[K.sl, K.sl] ty #[v, .slice (some ⟨W.heap.size, 0, none⟩) 1 1]).run Tryz.prog (W.alloc (.cells (K.cells x t).toArray K.ty)) = .ok (.slice pv (L.length + 1) cv) V ∧
      RowIs K V w.heap.size (.slice pv (L.length + 1) cv) (L ++ [x]) ∧ Below w.heap.size w V ∧ (∀ k, k < W.heap.size → v.ownBlock ≠ some k → V.heap[k]? = W.heap[k]?) := by
  have hb := tk_alloc W (.cells (K.cells x t).toArray K.ty)
  have hz := hB.size
  obtain ⟨pv, cv, V, h1, h2, h3⟩ := row_append ok (hL.below ok hb) x t (ok.keep _ _ _ _ _ _ ht (Nat.le_refl _) fun j cs ty' _ hj _ => hb.block j (Array.getElem?_eq_some_iff.1 hj).1) ⟨W.heap.size, 0, none⟩ 1 (news_lit W _ _) hs (by rw [World.size_alloc]; omega) ty
  refine ⟨pv, cv, V, h1, h2, h3.below (hB.alloc hz _) (by rw [World.size_alloc]; omega) (fun k hk => (hL.lt k hk).1), fun k hk hn => (h3.block k (by rw [World.size_alloc]; omega) hn).trans (hb.block k hk)⟩
/-- What the document's answer tells of a row, and where it has come to. -/
def RefRow {α : Type} (K : RowKind α) (l : List Tk.Token) (x : List α × Ip.R) (w : World) (e : Ending) (w' : World) : Prop := ∃ v i' X, e = .returned (.tuple #[v, .int .i64 i']) ∧ RowIs K w' w.heap.size v X ∧ (x.2.stuck = false → X = x.1) ∧ Ip.AtR l x.2 i' ∧ Below w.heap.size w w'
theorem Ip.sort_kw {r : Ip.R} {kw : ByteArray} {m : Nat} (h : Ip.eqB (Ip.ahead r) kw = true) (hm : Ip.meant kw = m) (h0 : m ≠ 0) : Ip.sort r = (⟨m, ⟨#[]⟩⟩, (Ip.one [kw] r).2) := by
  have e := Ip.eqB_iff.1 h
  have := Ip.sort_kind (r := r) (by rw [e, hm]; exact h0)
  rw [e, hm] at this; exact this
theorem sort_place {l : List Tk.Token} {k : Nat} {kw : ByteArray} {m : Nat} (hk : k ≤ l.length) (hp : Ip.Plain kw) (he : Ip.eqB (Ip.ahead ⟨l.drop k, false⟩) kw = true) (hm : Ip.meant kw = m) (h0 : m ≠ 0) : k < l.length ∧ Ip.sort ⟨l.drop k, false⟩ = (⟨m, ⟨#[]⟩⟩, ⟨l.drop (k + 1), false⟩) := by
  obtain ⟨h1, h2⟩ := Ip.one_yes hk hp he
  exact ⟨h1, by rw [Ip.sort_kw he hm h0, h2]⟩
theorem meant_not {s : ByteArray} (h1 : Ip.eqB s Ip.kNone = false) (h2 : Ip.eqB s Ip.kBool = false) (h3 : Ip.eqB s Ip.kInt = false) (h4 : Ip.eqB s Ip.kText = false) (h5 : Ip.eqB s Ip.kList = false) (h6 : Ip.eqB s Ip.kOpt = false) : Ip.meant s = 0 := by
  unfold Ip.meant; rw [h1, h2, h3, h4, h5, h6]; rfl
set_option maxRecDepth 100000 in
set_option maxHeartbeats 16000000 in
theorem refSorts_any {w : World} {p : Option Addr} {cap : Nat} {l : List Tk.Token} {r : Ip.R} {i : Int} (h : Toks w p l) (ha : Ip.AtR l r i) :
    Calls Tryz.prog 179 #[.slice p l.length cap, .int .i64 i] w (RefRow kSo l (Ip.sorts r) w) := by
  have hfew := h.few
  cases hs : r.stuck with
  | true =>
    have hi := Ip.at_neg ha hs
    have hS := Ip.nice_sorts.stuck r hs
    have HA : Hid (Ip.AtR l (Ip.sorts r).2 i) := Lib.hid (by rw [hS]; exact ha)
    have HV : Hid ((Ip.sorts r).2.stuck = true) := Lib.hid (by rw [hS]; exact hs)
    clear h ha hs hS
    go_enter Tryz.func179, Tryz.ntmps179
    go_wp2_with fail
    go_ret2
    exact ⟨_, _, [], rfl, RowIs.nil _ _ _, fun e => (by rw [HV.out] at e; cases e), HA.out, Below.refl _ _⟩
  | false =>
    have hlen : r.left.length ≤ l.length := by
      obtain ⟨k, _, e, _⟩ := ha
      rw [e, List.length_drop]; omega
    have i0 : ¬ i < 0 := by obtain ⟨k, _, _, e⟩ := Ip.at_go ha hs; omega
    have HH := Lib.hid h
    have HA0 := Lib.hid ha
    have HS0 := Lib.hid hs
    have HLN := Lib.hid hlen
    clear h ha hs hlen
    go_enter Tryz.func179, Tryz.ntmps179
    go_wp2_with fail
    go_loopw [1, 6] (fun iv lv wr => ∃ (L : List Ip.So) (k : Nat), iv = .int .i64 (k : Nat) ∧ k ≤ l.length ∧ Hid (RowIs kSo wr w.heap.size lv L) ∧ Hid (Sorted_ r L ⟨l.drop k, false⟩) ∧ Hid (Below w.heap.size w wr)) (fun _ lv _ => 65540 - sliceLen lv)
    case atStart =>
      obtain ⟨k, hk, e1, e2⟩ := Ip.at_go HA0.out HS0.out
      exact ⟨[], k, by rw [e2], hk, Lib.hid (RowIs.nil _ _ _), Lib.hid ⟨by rw [e1]; rfl, by rw [e1]; simp⟩, Lib.hid (Below.refl _ _)⟩
    case round =>
      obtain ⟨L, k, rfl, hk, HL, HS, HB⟩ := hrel
      have hLn : L.length ≤ 65536 := by have := HS.out.2; have := HLN.out; omega
      have i1 : (k : Int) ≤ 65536 := by omega
      have i2 : (0 : Int) ≤ (k : Int) := by omega
      obtain ⟨p0, c0, rfl, -, -⟩ := HL.out.shape
      have hAR := Ip.at_place hk
      have HQ := Lib.hid (refText_any (cap := cap) (HH.out.below HB.out) hAR)
      clear hAR
      cases hEkList : Ip.eqB (Ip.ahead ⟨l.drop k, false⟩) Ip.kList with
      | true =>
        obtain ⟨hlt, hsr⟩ := sort_place hk Ip.pList hEkList (m := 5) (by decide) (by decide)
        have HS2 := Lib.hid (sorted_goes HS.out (by rw [hsr]; rfl))
        rw [hsr] at HS2
        have HEkList := Lib.hid hEkList
        clear hEkList hsr
        go_wp2_with fail
        refine HQ.out.mono ?_
        rintro e w' ⟨x, rfl, hx, hw⟩
        obtain rfl := hw
        have gx0 := (is_kList x).trans ((hx _ Ip.pList).trans HEkList.out)
        clear hx
        go_wp2_with fail
        refine HQ.out.mono ?_
        rintro e w' ⟨y, rfl, hx, hw⟩
        obtain rfl := hw
        have gy0 := (is_kList y).trans ((hx _ Ip.pList).trans HEkList.out)
        clear hx
        obtain ⟨pv, cv, V, hrun, hL4, hB4, -⟩ := append_ref okSo HL.out HB.out ⟨5, ⟨#[]⟩⟩ (.bool false) trivial (by omega) 37
        rw [show (kSo.cells ⟨5, ⟨#[]⟩⟩ (.bool false)).toArray = #[.int .u8 5, .string ⟨#[]⟩] from rfl] at hrun
        have HL4 := Lib.hid hL4
        have HB4 := Lib.hid hB4
        clear hL4 hB4
        go_wp2_with (at_builtin; refine Lib.wpList_append_run _ rfl (.tmp 27) (.tmp 29) _ _ rfl _ _ rfl rfl _ _ hrun ?_)
        go_roundw
        case rel => exact ⟨_, k + 1, by go_num, by omega, HL4, HS2, HB4⟩
        case measure => simp [sliceLen]; omega
      | false =>
        have HEkList := Lib.hid hEkList
        clear hEkList
        cases hEkOpt : Ip.eqB (Ip.ahead ⟨l.drop k, false⟩) Ip.kOpt with
        | true =>
          obtain ⟨hlt, hsr⟩ := sort_place hk Ip.pOpt hEkOpt (m := 6) (by decide) (by decide)
          have HS2 := Lib.hid (sorted_goes HS.out (by rw [hsr]; rfl))
          rw [hsr] at HS2
          have HEkOpt := Lib.hid hEkOpt
          clear hEkOpt hsr
          go_wp2_with fail
          refine HQ.out.mono ?_
          rintro e w' ⟨x, rfl, hx, hw⟩
          obtain rfl := hw
          have gx0 := (is_kList x).trans ((hx _ Ip.pList).trans HEkList.out)
          clear hx
          go_wp2_with fail
          refine HQ.out.mono ?_
          rintro e w' ⟨y, rfl, hx, hw⟩
          obtain rfl := hw
          have gy0 := (is_kOpt y).trans ((hx _ Ip.pOpt).trans HEkOpt.out)
          clear hx
          go_wp2_with fail
          refine HQ.out.mono ?_
          rintro e w' ⟨z, rfl, hx, hw⟩
          obtain rfl := hw
          have gz0 := (is_kList z).trans ((hx _ Ip.pList).trans HEkList.out)
          clear hx
          obtain ⟨pv, cv, V, hrun, hL4, hB4, -⟩ := append_ref okSo HL.out HB.out ⟨6, ⟨#[]⟩⟩ (.bool false) trivial (by omega) 37
          rw [show (kSo.cells ⟨6, ⟨#[]⟩⟩ (.bool false)).toArray = #[.int .u8 6, .string ⟨#[]⟩] from rfl] at hrun
          have HL4 := Lib.hid hL4
          have HB4 := Lib.hid hB4
          clear hL4 hB4
          go_wp2_with (at_builtin; refine Lib.wpList_append_run _ rfl (.tmp 31) (.tmp 33) _ _ rfl _ _ rfl rfl _ _ hrun ?_)
          go_roundw
          case rel => exact ⟨_, k + 1, by go_num, by omega, HL4, HS2, HB4⟩
          case measure => simp [sliceLen]; omega
        | false =>
          have HEkOpt := Lib.hid hEkOpt
          clear hEkOpt
          cases hEkNone : Ip.eqB (Ip.ahead ⟨l.drop k, false⟩) Ip.kNone with
          | true =>
            obtain ⟨hlt, hsr⟩ := sort_place hk Ip.pNone hEkNone (m := 1) (by decide) (by decide)
            have HS2 := Lib.hid (sorted_ends HS.out (by rw [hsr]; rfl))
            rw [hsr] at HS2
            have HEkNone := Lib.hid hEkNone
            clear hEkNone hsr
            have HPL := Lib.hid (Ip.at_place (l := l) (k := k + 1) (by omega))
            go_wp2_with fail
            refine HQ.out.mono ?_
            rintro e w' ⟨x, rfl, hx, hw⟩
            obtain rfl := hw
            have gx0 := (is_kList x).trans ((hx _ Ip.pList).trans HEkList.out)
            clear hx
            go_wp2_with fail
            refine HQ.out.mono ?_
            rintro e w' ⟨y, rfl, hx, hw⟩
            obtain rfl := hw
            have gy0 := (is_kOpt y).trans ((hx _ Ip.pOpt).trans HEkOpt.out)
            clear hx
            go_wp2_with fail
            refine HQ.out.mono ?_
            rintro e w' ⟨z, rfl, hx, hw⟩
            obtain rfl := hw
            have gz0 := (is_kNone z).trans ((hx _ Ip.pNone).trans HEkNone.out)
            clear hx
            obtain ⟨pv, cv, V, hrun, hL4, hB4, -⟩ := append_ref okSo HL.out HB.out ⟨1, ⟨#[]⟩⟩ (.bool false) trivial (by omega) 37
            rw [show (kSo.cells ⟨1, ⟨#[]⟩⟩ (.bool false)).toArray = #[.int .u8 1, .string ⟨#[]⟩] from rfl] at hrun
            have HL4 := Lib.hid hL4
            have HB4 := Lib.hid hB4
            clear hL4 hB4
            go_wp2_with (at_builtin; refine Lib.wpList_append_run _ rfl (.tmp 42) (.tmp 44) _ _ rfl _ _ rfl rfl _ _ hrun ?_)
            go_ret2
            exact ⟨_, _, _, rfl, HL4.out, fun _ => by rw [HS2.out], by rw [HS2.out]; exact HPL.out, HB4.out⟩
          | false =>
            have HEkNone := Lib.hid hEkNone
            clear hEkNone
            cases hEkBool : Ip.eqB (Ip.ahead ⟨l.drop k, false⟩) Ip.kBool with
            | true =>
              obtain ⟨hlt, hsr⟩ := sort_place hk Ip.pBool hEkBool (m := 2) (by decide) (by decide)
              have HS2 := Lib.hid (sorted_ends HS.out (by rw [hsr]; rfl))
              rw [hsr] at HS2
              have HEkBool := Lib.hid hEkBool
              clear hEkBool hsr
              have HPL := Lib.hid (Ip.at_place (l := l) (k := k + 1) (by omega))
              go_wp2_with fail
              refine HQ.out.mono ?_
              rintro e w' ⟨x, rfl, hx, hw⟩
              obtain rfl := hw
              have gx0 := (is_kList x).trans ((hx _ Ip.pList).trans HEkList.out)
              clear hx
              go_wp2_with fail
              refine HQ.out.mono ?_
              rintro e w' ⟨y, rfl, hx, hw⟩
              obtain rfl := hw
              have gy0 := (is_kOpt y).trans ((hx _ Ip.pOpt).trans HEkOpt.out)
              clear hx
              go_wp2_with fail
              refine HQ.out.mono ?_
              rintro e w' ⟨z, rfl, hx, hw⟩
              obtain rfl := hw
              have gz0 := (is_kNone z).trans ((hx _ Ip.pNone).trans HEkNone.out)
              have gz1 := (is_kBool z).trans ((hx _ Ip.pBool).trans HEkBool.out)
              clear hx
              obtain ⟨pv, cv, V, hrun, hL4, hB4, -⟩ := append_ref okSo HL.out HB.out ⟨2, ⟨#[]⟩⟩ (.bool false) trivial (by omega) 37
              rw [show (kSo.cells ⟨2, ⟨#[]⟩⟩ (.bool false)).toArray = #[.int .u8 2, .string ⟨#[]⟩] from rfl] at hrun
              have HL4 := Lib.hid hL4
              have HB4 := Lib.hid hB4
              clear hL4 hB4
              go_wp2_with (at_builtin; refine Lib.wpList_append_run _ rfl (.tmp 50) (.tmp 52) _ _ rfl _ _ rfl rfl _ _ hrun ?_)
              go_ret2
              exact ⟨_, _, _, rfl, HL4.out, fun _ => by rw [HS2.out], by rw [HS2.out]; exact HPL.out, HB4.out⟩
            | false =>
              have HEkBool := Lib.hid hEkBool
              clear hEkBool
              cases hEkInt : Ip.eqB (Ip.ahead ⟨l.drop k, false⟩) Ip.kInt with
              | true =>
                obtain ⟨hlt, hsr⟩ := sort_place hk Ip.pInt hEkInt (m := 3) (by decide) (by decide)
                have HS2 := Lib.hid (sorted_ends HS.out (by rw [hsr]; rfl))
                rw [hsr] at HS2
                have HEkInt := Lib.hid hEkInt
                clear hEkInt hsr
                have HPL := Lib.hid (Ip.at_place (l := l) (k := k + 1) (by omega))
                go_wp2_with fail
                refine HQ.out.mono ?_
                rintro e w' ⟨x, rfl, hx, hw⟩
                obtain rfl := hw
                have gx0 := (is_kList x).trans ((hx _ Ip.pList).trans HEkList.out)
                clear hx
                go_wp2_with fail
                refine HQ.out.mono ?_
                rintro e w' ⟨y, rfl, hx, hw⟩
                obtain rfl := hw
                have gy0 := (is_kOpt y).trans ((hx _ Ip.pOpt).trans HEkOpt.out)
                clear hx
                go_wp2_with fail
                refine HQ.out.mono ?_
                rintro e w' ⟨z, rfl, hx, hw⟩
                obtain rfl := hw
                have gz0 := (is_kNone z).trans ((hx _ Ip.pNone).trans HEkNone.out)
                have gz1 := (is_kBool z).trans ((hx _ Ip.pBool).trans HEkBool.out)
                have gz2 := (is_kInt z).trans ((hx _ Ip.pInt).trans HEkInt.out)
                clear hx
                obtain ⟨pv, cv, V, hrun, hL4, hB4, -⟩ := append_ref okSo HL.out HB.out ⟨3, ⟨#[]⟩⟩ (.bool false) trivial (by omega) 37
                rw [show (kSo.cells ⟨3, ⟨#[]⟩⟩ (.bool false)).toArray = #[.int .u8 3, .string ⟨#[]⟩] from rfl] at hrun
                have HL4 := Lib.hid hL4
                have HB4 := Lib.hid hB4
                clear hL4 hB4
                go_wp2_with (at_builtin; refine Lib.wpList_append_run _ rfl (.tmp 58) (.tmp 60) _ _ rfl _ _ rfl rfl _ _ hrun ?_)
                go_ret2
                exact ⟨_, _, _, rfl, HL4.out, fun _ => by rw [HS2.out], by rw [HS2.out]; exact HPL.out, HB4.out⟩
              | false =>
                have HEkInt := Lib.hid hEkInt
                clear hEkInt
                cases hEkText : Ip.eqB (Ip.ahead ⟨l.drop k, false⟩) Ip.kText with
                | true =>
                  obtain ⟨hlt, hsr⟩ := sort_place hk Ip.pText hEkText (m := 4) (by decide) (by decide)
                  have HS2 := Lib.hid (sorted_ends HS.out (by rw [hsr]; rfl))
                  rw [hsr] at HS2
                  have HEkText := Lib.hid hEkText
                  clear hEkText hsr
                  have HPL := Lib.hid (Ip.at_place (l := l) (k := k + 1) (by omega))
                  go_wp2_with fail
                  refine HQ.out.mono ?_
                  rintro e w' ⟨x, rfl, hx, hw⟩
                  obtain rfl := hw
                  have gx0 := (is_kList x).trans ((hx _ Ip.pList).trans HEkList.out)
                  clear hx
                  go_wp2_with fail
                  refine HQ.out.mono ?_
                  rintro e w' ⟨y, rfl, hx, hw⟩
                  obtain rfl := hw
                  have gy0 := (is_kOpt y).trans ((hx _ Ip.pOpt).trans HEkOpt.out)
                  clear hx
                  go_wp2_with fail
                  refine HQ.out.mono ?_
                  rintro e w' ⟨z, rfl, hx, hw⟩
                  obtain rfl := hw
                  have gz0 := (is_kNone z).trans ((hx _ Ip.pNone).trans HEkNone.out)
                  have gz1 := (is_kBool z).trans ((hx _ Ip.pBool).trans HEkBool.out)
                  have gz2 := (is_kInt z).trans ((hx _ Ip.pInt).trans HEkInt.out)
                  have gz3 := (is_kText z).trans ((hx _ Ip.pText).trans HEkText.out)
                  clear hx
                  obtain ⟨pv, cv, V, hrun, hL4, hB4, -⟩ := append_ref okSo HL.out HB.out ⟨4, ⟨#[]⟩⟩ (.bool false) trivial (by omega) 37
                  rw [show (kSo.cells ⟨4, ⟨#[]⟩⟩ (.bool false)).toArray = #[.int .u8 4, .string ⟨#[]⟩] from rfl] at hrun
                  have HL4 := Lib.hid hL4
                  have HB4 := Lib.hid hB4
                  clear hL4 hB4
                  go_wp2_with (at_builtin; refine Lib.wpList_append_run _ rfl (.tmp 66) (.tmp 68) _ _ rfl _ _ rfl rfl _ _ hrun ?_)
                  go_ret2
                  exact ⟨_, _, _, rfl, HL4.out, fun _ => by rw [HS2.out], by rw [HS2.out]; exact HPL.out, HB4.out⟩
                | false =>
                  have HEkText := Lib.hid hEkText
                  clear hEkText
                  have hsr := Ip.sort_name (r := ⟨l.drop k, false⟩) (meant_not HEkNone.out HEkBool.out HEkInt.out HEkText.out HEkList.out HEkOpt.out)
                  have HS2 := Lib.hid (sorted_ends HS.out (by rw [hsr]; rfl))
                  rw [hsr] at HS2
                  have HQN := Lib.hid (refName_any (cap := cap) (HH.out.below HB.out) (Ip.at_place hk))
                  obtain ⟨⟨nn, rn⟩, hn⟩ : ∃ y, Ip.name ⟨l.drop k, false⟩ = y := ⟨_, rfl⟩
                  rw [hn] at HS2 HQN
                  clear hsr hn
                  go_wp2_with fail
                  refine HQ.out.mono ?_
                  rintro e w' ⟨x, rfl, hx, hw⟩
                  obtain rfl := hw
                  have gx0 := (is_kList x).trans ((hx _ Ip.pList).trans HEkList.out)
                  clear hx
                  go_wp2_with fail
                  refine HQ.out.mono ?_
                  rintro e w' ⟨y, rfl, hx, hw⟩
                  obtain rfl := hw
                  have gy0 := (is_kOpt y).trans ((hx _ Ip.pOpt).trans HEkOpt.out)
                  clear hx
                  go_wp2_with fail
                  refine HQ.out.mono ?_
                  rintro e w' ⟨z, rfl, hx, hw⟩
                  obtain rfl := hw
                  have gz0 := (is_kNone z).trans ((hx _ Ip.pNone).trans HEkNone.out)
                  have gz1 := (is_kBool z).trans ((hx _ Ip.pBool).trans HEkBool.out)
                  have gz2 := (is_kInt z).trans ((hx _ Ip.pInt).trans HEkInt.out)
                  have gz3 := (is_kText z).trans ((hx _ Ip.pText).trans HEkText.out)
                  clear hx
                  go_wp2_with fail
                  refine HQN.out.mono ?_
                  rintro e w' ⟨i', rfl, ha', hw⟩
                  obtain rfl := hw
                  have HA := Lib.hid ha'
                  clear ha'
                  obtain ⟨pv, cv, V, hrun, hL4, hB4, -⟩ := append_ref okSo HL.out HB.out ⟨7, nn⟩ (.bool false) trivial (by omega) 37
                  rw [show (kSo.cells ⟨7, nn⟩ (.bool false)).toArray = #[.int .u8 7, .string nn] from rfl] at hrun
                  have HL4 := Lib.hid hL4
                  have HB4 := Lib.hid hB4
                  clear hL4 hB4
                  go_wp2_with (at_builtin; refine Lib.wpList_append_run _ rfl (.tmp 78) (.tmp 81) _ _ rfl _ _ rfl rfl _ _ hrun ?_)
                  go_ret2
                  exact ⟨_, _, _, rfl, HL4.out, fun _ => by rw [HS2.out], by rw [HS2.out]; exact HA.out, HB4.out⟩
end Go.Proofs.YtnkdhmoocomjfaaGreatDoor
