/-
  What SplitApart says of every call is true: what a path may begin does not hang on what the others have outstanding, and it may begin a chunk just where bytes are left to it (P14.6). Conditions: none.
-/
import Derived.Test.YtbnmcjajhcgcnaaRows
import Derived.WalkKit
import Derived.ProofKit
import Derived.OpenShut
import Derived.ShutString
import Derived.ChangeOld
import Derived.Below
import Derived.SizedLaws
import Derived.Deep.DeepHandedRow
import Derived.LaidLaws
import Derived.ChangeMaps5
import Derived.Test.YtbnmcjajhcgcnaaShH
import Derived.Test.YtbnmcjajhcgcnaaAg
namespace Go.Proofs.Ytbnmcjajhcgcnaa.splitApart
open Go.ChangeShapes Go.WideShapes Go.ChangeAt Go.RowKit
open Go.ChangeMaps (open_string shut_string)
set_option linter.unusedVariables false

theorem own : ownKnob Try.prog.godebug = none := by kernel_rfl
theorem laidOut : laidOutB Try.prog = true := by kernel_rfl

theorem kd23 : Ag.Kind Try.prog 23 3 (fun q : Int × Int × Int => [.int .i64 q.1, .int .i64 q.2.1, .int .i64 q.2.2]) (fun q => (Lit.int .i64 q.1).wf = true ∧ (Lit.int .i64 q.2.1).wf = true ∧ (Lit.int .i64 q.2.2).wf = true) := by
  refine ⟨by kernel_rfl, by decide, fun _ => rfl, fun {H enc W base held fuel cl x} h _ => ?_⟩
  obtain ⟨xs, n, _, _, hcl, hxl, hfield⟩ := DataW.trod_struct Try.underlying23 h
  rw [show Try.prog.cellsOf 23 = 3 by kernel_rfl] at hcl
  match cl, hcl with
  | [v0, v1, v2], _ =>
    match xs, hxl with
    | [y0, y1, y2], _ =>
      have g0 := hfield 0 _ rfl
      simp [show Try.prog.cellsOf 3 = 1 by kernel_rfl] at g0
      obtain ⟨n0, e0, _, w0⟩ := DataW.trod_int Try.underlying3 g0
      simp at e0
      subst e0
      have g1 := hfield 1 _ rfl
      simp [show Try.prog.cellsOf 3 = 1 by kernel_rfl] at g1
      obtain ⟨n1, e1, _, w1⟩ := DataW.trod_int Try.underlying3 g1
      simp at e1
      subst e1
      have g2 := hfield 2 _ rfl
      simp [show Try.prog.cellsOf 3 = 1 by kernel_rfl] at g2
      obtain ⟨n2, e2, _, w2⟩ := DataW.trod_int Try.underlying3 g2
      simp at e2
      subst e2
      exact ⟨(n0, n1, n2), rfl, w0, w1, w2⟩
open Ba (hidden Has)
open Ow (Own)
open Sh
/-- a row of one's own, beside the shares -/
def Mine (w wr : World) (B P M : Int) (n g cg : Nat) (p : Int) (ys xs : List Int) : Prop :=
  wr.ownsRow (w.heap.size + 1) 3 1 (.slice (some ⟨g, 0, none⟩) n cg) n (lc xs) ∧ xs.length = n ∧ (∀ x ∈ xs, byt x) ∧ xs.getD p.toNat 0 = ys.getD p.toNat 0 ∧ Own w wr [(w.heap.size, #[.int .i64 B, .int .i64 P, .int .i64 M], 23)]
theorem Mine.set {w wr : World} {B P M : Int} {n g cg : Nat} {p : Int} {ys xs : List Int} (h : Mine w wr B P M n g cg p ys xs) {j : Nat} {x : Int} (hx : byt x) (hj : j ≠ p.toNat) : Mine w (wr.setCell ⟨g, j, none⟩ (.int .i64 x)) B P M n g cg p ys (xs.set j x) := by
  obtain ⟨h1, h2, h3, h4, h5⟩ := h
  have hs := (h1.stored j (.int .i64 x)).1
  rw [lc_set] at hs
  have hg := (h1.lt g rfl).1
  refine ⟨hs, by rw [List.length_set, h2], set_byt h3 hx, by rw [Sh.getD_set_ne hj, h4], ?_⟩
  obtain ⟨k1, k2⟩ := h5
  exact ⟨k1.setCell (p := ⟨g, j, none⟩) (by show w.heap.size ≤ g; omega) _, fun b hb => ⟨(k2 b hb).1, (k2 b hb).2.set_other (by simp at hb; subst hb; show w.heap.size ≠ g; omega) _⟩⟩
set_option maxRecDepth 20000 in
set_option maxHeartbeats 4000000 in

theorem walk (q0 : Int × Int × Int) (a1 : Int) (a2 : Option Addr) (len2 cap2 : Nat) (z2 : List (Int)) (a3 : Option Addr) (len3 cap3 : Nat) (z3 : List (Int)) (w : World) (w0 : (fun q => (Lit.int .i64 q.1).wf = true ∧ (Lit.int .i64 q.2.1).wf = true ∧ (Lit.int .i64 q.2.2).wf = true) q0) (w1 : (Lit.int .i64 a1).wf = true) (w2 : Ag.Rows (fun n : Int => [.int .i64 n]) (fun n => (Lit.int .i64 n).wf = true) 1 w a2 len2 z2) (s2 : len2 ≤ cap2 ∧ cap2 * Try.prog.bytesOf 3 ≤ 140737488351232 ∧ (a2 = none → len2 = 0 ∧ cap2 = 0)) (w3 : Ag.Rows (fun n : Int => [.int .i64 n]) (fun n => (Lit.int .i64 n).wf = true) 1 w a3 len3 z3) (s3 : len3 ≤ cap3 ∧ cap3 * Try.prog.bytesOf 3 ≤ 140737488351232 ∧ (a3 = none → len3 = 0 ∧ cap3 = 0)) :
    Calls Try.prog 6 #[.agg ((fun q : Int × Int × Int => [.int .i64 q.1, .int .i64 q.2.1, .int .i64 q.2.2]) q0).toArray, .int .i64 a1, .slice a2 len2 cap2, .slice a3 len3 cap3] w fun e w' => e = .returned (.bool true) ∧ Below w.heap.size w w' := by
  obtain ⟨B, P, M⟩ := q0
  have AW := hidden Sh.awake
  have O := hidden ((Own.refl w).alloc #[.int .i64 B, .int .i64 P, .int .i64 M] 23)
  have hpw := of_wf w1
  have hl3 : len3 ≤ 140737488355328 := w3.2.2.1
  have RC : Hid (∀ X, Below w.heap.size w X → Calls Try.prog 16 #[.agg #[.int .i64 B, .int .i64 P, .int .i64 M], .slice a2 len2 cap2] X fun e w' => e = .returned (.int .i64 (chk B P M z2)) ∧ Below X.heap.size X w') := fun X hX => rCheck (w2.later hX) B P M
  by_cases hc : chk B P M z2 = 0
  case neg =>
    generalize chk B P M z2 = C at *
    clear w0 w1 w2 w3 s2 s3
    go_enter Try.func6, Try.ntmps6
    go_wp2_with fail
    refine Calls.mono (AW.out _) ?_
    rintro e w1 ⟨rfl, hB⟩
    have O1 := hidden (O.out.later hB)
    obtain ⟨c0, c1, c2⟩ := cells3 O1.out (.head _)
    clear hB O AW
    go_wp2_with fail
    refine Calls.mono (RC.out _ O1.out.below) ?_
    rintro e w2 ⟨rfl, hB⟩
    have O2 := hidden (O1.out.later hB)
    clear hB O1 c0 c1 c2
    go_wp2
    go_ret
    exact ⟨rfl, O2.out.below⟩
  rw [hc] at RC
  by_cases hp : 0 ≤ a1 ∧ a1 < P
  case neg =>
    have hp' : a1 < 0 ∨ (¬ a1 < 0 ∧ P ≤ a1) := by omega
    clear w0 w1 w2 w3 s2 s3 hp hc
    rcases hp' with hp | ⟨hp, hq⟩
    · go_enter Try.func6, Try.ntmps6
      go_wp2_with fail
      refine Calls.mono (AW.out _) ?_
      rintro e w1 ⟨rfl, hB⟩
      have O1 := hidden (O.out.later hB)
      obtain ⟨c0, c1, c2⟩ := cells3 O1.out (.head _)
      clear hB O AW
      go_wp2_with fail
      refine Calls.mono (RC.out _ O1.out.below) ?_
      rintro e w2 ⟨rfl, hB⟩
      have O2 := hidden (O1.out.later hB)
      clear hB O1 c0 c1 c2
      obtain ⟨c0, c1, c2⟩ := cells3 O2.out (.head _)
      go_wp2
      go_ret
      exact ⟨rfl, O2.out.below⟩
    · go_enter Try.func6, Try.ntmps6
      go_wp2_with fail
      refine Calls.mono (AW.out _) ?_
      rintro e w1 ⟨rfl, hB⟩
      have O1 := hidden (O.out.later hB)
      obtain ⟨c0, c1, c2⟩ := cells3 O1.out (.head _)
      clear hB O AW
      go_wp2_with fail
      refine Calls.mono (RC.out _ O1.out.below) ?_
      rintro e w2 ⟨rfl, hB⟩
      have O2 := hidden (O1.out.later hB)
      clear hB O1 c0 c1 c2
      obtain ⟨c0, c1, c2⟩ := cells3 O2.out (.head _)
      go_wp2
      go_ret
      exact ⟨rfl, O2.out.below⟩
  obtain ⟨hk, hl, hy⟩ := chk_0 hc
  have hlen := Nu.len w2
  obtain rfl : P = (len2 : Int) := by omega
  have h8 : len2 ≤ 8 := by have := hk.2.1; omega
  have hBB : byt B := ⟨by have := hk.1; omega, hk.1.2⟩
  have hV := part_in hBB hk.2.1
  have CO : Hid (∀ X : World, Below w.heap.size w X → ∃ v' w', (Builtin.append_ #[24, 24] 24 #[.slice (some ⟨X.heap.size, 0, none⟩) 0 0, .slice a2 len2 cap2]).run Try.prog (X.alloc (.cells #[] 3)) = .ok v' w' ∧ w'.ownsRow X.heap.size 3 1 v' len2 (lc z2) ∧ Below X.heap.size X w') := fun X hX => copy_any (w2.later hX) s2.2.2 (by omega)
  have MA : Hid (∀ X a c xs, Nu X a len2 xs → (∀ x ∈ xs, byt x) → xs.getD a1.toNat 0 = z2.getD a1.toNat 0 → Calls Try.prog 18 #[.agg #[.int .i64 B, .int .i64 (len2 : Int), .int .i64 M], .int .i64 a1, .slice a len2 c] X fun e w' => e = .returned (.tuple #[.bool (decide (z2.getD a1.toNat 0 < Sh.part B len2)), .int .i64 0]) ∧ Below X.heap.size X w') := fun X a c xs h1 h2 h3 => by
    have hc' : chk B len2 M xs = 0 := chk_ok hk (by rw [h1.len]) ((okY_iff xs).2 h2)
    have := may (cap := c) h1 B len2 M hpw
    rw [(m_ok hc' hp).1, (m_ok hc' hp).2, h3] at this
    exact this
  have LE : Hid (∀ X a c xs, Nu X a len2 xs → (∀ x ∈ xs, byt x) → xs.getD a1.toNat 0 = z2.getD a1.toNat 0 → Calls Try.prog 10 #[.agg #[.int .i64 B, .int .i64 (len2 : Int), .int .i64 M], .int .i64 B, .slice a len2 c] X fun e w' => ∃ g og c', e = .returned (.tuple #[.slice (some ⟨g, og, none⟩) len2 c', .int .i64 0]) ∧ w'.cell? ⟨g, og + a1.toNat, none⟩ = some (.int .i64 (max 0 (Sh.part B len2 - z2.getD a1.toNat 0))) ∧ Below X.heap.size X w') := fun X a c xs h1 h2 h3 => by
    have hc' : chk B len2 M xs = 0 := chk_ok hk (by rw [h1.len]) ((okY_iff xs).2 h2)
    refine (left (cap := c) h1 B len2 M B).mono ?_
    rintro e w' ⟨a', k', c', rfl, h4, h5⟩
    rw [(l_ok hc' hBB).1]
    rw [(l_ok hc' hBB).2] at h4
    have hk' : k' = len2 := by rw [← h4.len, lv_len, h1.len]
    subst hk'
    obtain ⟨g, og, rfl, _⟩ := Nu.open h4 (by omega)
    obtain ⟨y, hy', d⟩ := Nu.get h4 (q := a1.toNat) (by omega)
    rw [lv_at (by rw [h1.len]; omega)] at hy'
    cases hy'
    rw [h3, show min (Sh.part B k') (Sh.part B k') = Sh.part B k' by omega] at d
    exact ⟨g, og, c', rfl, d, h5⟩
  have HD : Hid (∀ y V : Int, decide (y < V) = decide (0 < max 0 (V - y))) := fun y V => by
    by_cases h : y < V
    · rw [decide_eq_true h, decide_eq_true (by omega)]
    · rw [decide_eq_false h, decide_eq_false (by omega)]
  have HE := HD.out (z2.getD a1.toNat 0) (Sh.part B len2)
  rw [HE] at MA
  generalize max 0 (Sh.part B len2 - z2.getD a1.toNat 0) = T at *
  obtain ⟨d, hd⟩ : ∃ d, d = decide (0 < T) := ⟨_, rfl⟩
  rw [← hd] at MA
  have DT := hidden hd
  have H2 := hidden w2
  have H3 := hidden w3
  have HY := hidden hy
  obtain ⟨hp1, hp2⟩ := hp
  clear w0 w1 w2 w3 s2 s3 hc hk hl hy hpw HD HE hV hBB hd
  go_enter Try.func6, Try.ntmps6
  go_wp2_with fail
  refine Calls.mono (AW.out _) ?_
  rintro e w1 ⟨rfl, hB⟩
  have O1 := hidden (O.out.later hB)
  obtain ⟨c0, c1, c2⟩ := cells3 O1.out (.head _)
  clear hB O AW
  go_wp2_with fail
  refine Calls.mono (RC.out _ O1.out.below) ?_
  rintro e w2 ⟨rfl, hB⟩
  have O2 := hidden (O1.out.later hB)
  clear hB O1 c0 c1 c2 RC
  obtain ⟨c0, c1, c2⟩ := cells3 O2.out (.head _)
  obtain ⟨v', w3, hr, hown, hB⟩ := CO.out w2 O2.out.below
  have HR := hidden hr
  obtain ⟨g, cg, rfl, hg1, hg2, hg3, hg4⟩ := Ba.own_some hown (by omega)
  have hgl : w.heap.size < g := by have := O2.out.lt (.head _); omega
  have MI : Hid (Mine w w3 B len2 M len2 g cg a1 z2 z2) := ⟨Ba.own_mono hown (fun k hk => by cases hk; show w.heap.size + 1 ≤ g; omega), hlen, HY.out, rfl, O2.out.later hB⟩
  clear hr hown hB O2 CO hg1 hg2 hg3 hg4
  go_wp2_with (first | (at_builtin; refine Rg.wpList_app rfl (.tmp 35) (.tmp 36) 24 rfl rfl rfl HR.out ?_; clear HR) | fail)
  go_loopw [10] (fun i wr => ∃ q : Int, 0 ≤ q ∧ q ≤ (len2 : Int) ∧ i = .int .i64 q ∧ ∃ xs, Hid (Mine w wr B len2 M len2 g cg a1 z2 xs)) (fun i _ => len2 - (intOf i).toNat)
  case atStart => exact ⟨0, by omega, by omega, rfl, _, MI.out⟩
  case round =>
    clear MI c0 c1 c2
    obtain ⟨q, j1, j2, rfl, xs, MI⟩ := hrel
    by_cases hq : q < (len2 : Int)
    · by_cases hq3 : q < (len3 : Int)
      · obtain ⟨b, off, rfl, hb⟩ := Nu.open H3.out (by omega)
        obtain ⟨o, ho, d0⟩ := Nu.get (H3.out.later MI.out.2.2.2.2.below) (q := q.toNat) (by omega)
        by_cases hqp : q = a1
        · subst hqp
          clear ho
          go_wp2
          go_roundw
          case rel => exact ⟨q + 1, by omega, by omega, rfl, _, MI.out⟩
          case measure => simp [intOf]; omega
        · by_cases h0 : 0 ≤ o
          · by_cases h1 : o ≤ 1073741824
            · have MS := hidden (MI.out.set (j := q.toNat) (x := o) ⟨h0, h1⟩ (by omega))
              have e0 := MI.out.1.cellAt q.toNat (by omega)
              have f0 := MI.out.1.frozenAt q.toNat
              have hxl := MI.out.2.1
              rw [lc_get, List.getElem?_eq_getElem (by omega)] at e0
              simp only [Option.map_some] at e0
              generalize xs[q.toNat] = xo at e0
              clear ho hxl
              go_wp2
              go_roundw
              case rel => exact ⟨q + 1, by omega, by omega, rfl, _, MS.out⟩
              case measure => simp [intOf]; omega
            · clear ho
              go_wp2
              go_roundw
              case rel => exact ⟨q + 1, by omega, by omega, rfl, _, MI.out⟩
              case measure => simp [intOf]; omega
          · clear ho
            go_wp2
            go_roundw
            case rel => exact ⟨q + 1, by omega, by omega, rfl, _, MI.out⟩
            case measure => simp [intOf]; omega
      · have O := hidden MI.out.2.2.2.2
        have HX := hidden MI.out.2.2.1
        have HG := hidden MI.out.2.2.2.1
        obtain ⟨ag, cc, ev, hnu⟩ := Nu.own MI.out.1 (fun x hx => wf_in (by have := HX.out x hx; omega)) (by omega)
        cases ev
        have NX := hidden hnu
        obtain ⟨c0, c1, c2⟩ := cells3 O.out (.head _)
        clear MI hnu
        go_wp2_with fail
        refine Calls.mono (MA.out _ _ _ z2 (H2.out.later O.out.below) HY.out rfl) ?_
        rintro e w4 ⟨rfl, hB⟩
        have O4 := hidden (O.out.later hB)
        have NX4 := hidden (Ag.Rows.later NX.out hB)
        clear hB O NX c0 c1 c2
        obtain ⟨c0, c1, c2⟩ := cells3 O4.out (.head _)
        go_wp2_with fail
        refine Calls.mono (MA.out _ _ _ xs NX4.out HX.out HG.out) ?_
        rintro e w5 ⟨rfl, hB⟩
        have O5 := hidden (O4.out.later hB)
        have NX5 := hidden (Ag.Rows.later NX4.out hB)
        clear hB O4 NX4 c0 c1 c2 MA
        obtain ⟨c0, c1, c2⟩ := cells3 O5.out (.head _)
        go_wp2_with fail
        refine Calls.mono (LE.out _ _ _ z2 (H2.out.later O5.out.below) HY.out rfl) ?_
        rintro e w6 ⟨g1, o1, k1, rfl, d6, hB⟩
        have O6 := hidden (O5.out.later hB)
        have NX6 := hidden (Ag.Rows.later NX5.out hB)
        have D6 := hidden d6
        clear hB O5 NX5 c0 c1 c2 d6
        obtain ⟨c0, c1, c2⟩ := cells3 O6.out (.head _)
        go_wp2_with fail
        refine Calls.mono (LE.out _ _ _ xs NX6.out HX.out HG.out) ?_
        rintro e w7 ⟨g2, o2, k2, rfl, d7, hB⟩
        have O7 := hidden (O6.out.later hB)
        have d6 := keep_cell hB D6.out
        clear hB O6 NX6 c0 c1 c2 D6 LE HX HG
        obtain ⟨c0, c1, c2⟩ := cells3 O7.out (.head _)
        cases d with
        | true =>
          have hT : 0 < T := of_decide_eq_true DT.out.symm
          clear DT
          go_wp2
          go_quiet (fail)
          go_wp2
          go_ret
          exact ⟨rfl, below_drewN O7.out.below _⟩
        | false =>
          have hT : ¬ 0 < T := of_decide_eq_false DT.out.symm
          clear DT
          go_wp2
          go_quiet (fail)
          go_wp2
          go_ret
          exact ⟨by show Ending.returned (.bool (!decide (0 < T))) = _; rw [decide_eq_false (by omega)]; rfl, below_drewN O7.out.below _⟩
    · have O := hidden MI.out.2.2.2.2
      have HX := hidden MI.out.2.2.1
      have HG := hidden MI.out.2.2.2.1
      obtain ⟨ag, cc, ev, hnu⟩ := Nu.own MI.out.1 (fun x hx => wf_in (by have := HX.out x hx; omega)) (by omega)
      cases ev
      have NX := hidden hnu
      obtain ⟨c0, c1, c2⟩ := cells3 O.out (.head _)
      clear MI hnu
      go_wp2_with fail
      refine Calls.mono (MA.out _ _ _ z2 (H2.out.later O.out.below) HY.out rfl) ?_
      rintro e w4 ⟨rfl, hB⟩
      have O4 := hidden (O.out.later hB)
      have NX4 := hidden (Ag.Rows.later NX.out hB)
      clear hB O NX c0 c1 c2
      obtain ⟨c0, c1, c2⟩ := cells3 O4.out (.head _)
      go_wp2_with fail
      refine Calls.mono (MA.out _ _ _ xs NX4.out HX.out HG.out) ?_
      rintro e w5 ⟨rfl, hB⟩
      have O5 := hidden (O4.out.later hB)
      have NX5 := hidden (Ag.Rows.later NX4.out hB)
      clear hB O4 NX4 c0 c1 c2 MA
      obtain ⟨c0, c1, c2⟩ := cells3 O5.out (.head _)
      go_wp2_with fail
      refine Calls.mono (LE.out _ _ _ z2 (H2.out.later O5.out.below) HY.out rfl) ?_
      rintro e w6 ⟨g1, o1, k1, rfl, d6, hB⟩
      have O6 := hidden (O5.out.later hB)
      have NX6 := hidden (Ag.Rows.later NX5.out hB)
      have D6 := hidden d6
      clear hB O5 NX5 c0 c1 c2 d6
      obtain ⟨c0, c1, c2⟩ := cells3 O6.out (.head _)
      go_wp2_with fail
      refine Calls.mono (LE.out _ _ _ xs NX6.out HX.out HG.out) ?_
      rintro e w7 ⟨g2, o2, k2, rfl, d7, hB⟩
      have O7 := hidden (O6.out.later hB)
      have d6 := keep_cell hB D6.out
      clear hB O6 NX6 c0 c1 c2 D6 LE HX HG
      obtain ⟨c0, c1, c2⟩ := cells3 O7.out (.head _)
      cases d with
      | true =>
        have hT : 0 < T := of_decide_eq_true DT.out.symm
        clear DT
        go_wp2
        go_quiet (fail)
        go_wp2
        go_ret
        exact ⟨rfl, below_drewN O7.out.below _⟩
      | false =>
        have hT : ¬ 0 < T := of_decide_eq_false DT.out.symm
        clear DT
        go_wp2
        go_quiet (fail)
        go_wp2
        go_ret
        exact ⟨by show Ending.returned (.bool (!decide (0 < T))) = _; rw [decide_eq_false (by omega)]; rfl, below_drewN O7.out.below _⟩

theorem contract (H : Type) (enc : TypeId × Value → H) (W : World) (base : Nat) (args : Array Value) (ds gs : List (DataW H)) (before : List MemPlace)
    (hval : ∀ (j : Nat) t v, Try.f6.params[j]? = some t → args[j]? = some v → Value.okWide Try.prog W .any base t v)
    (hW : DataW.Whole enc Try.prog Try.f6.params.toList Rows.splitApartSpec.vars false W args.toList ds gs before)
    (hsz0 : (DataW.weightsEach Try.prog (Try.f6.params.toList ++ Rows.splitApartSpec.plain.varTypes Try.prog) (ds ++ gs)).all (· ≤ reachBytes) = true) :
    Calls Try.prog 6 args W fun e W' => ∃ v, e = .returned v ∧ Rows.splitApartSpec.post enc Try.prog Try.f6 false true false false W args v W' := by
  have hW' := hW
  obtain ⟨p, q, hA0, hV, rfl, hfz, hnd⟩ := hW
  have hA : DataW.TrodAll enc Try.prog W 0 (fun _ => true) true Try.f6.params.toList args.toList ds p := hA0
  have hsz := hsz0
  rw [Try.params6] at hA hval hsz
  obtain ⟨v0, vs0, d0, ds0, p0, q0, hargs, rfl, rfl, h0, r0⟩ := trodAll_cons hA
  obtain ⟨v1, vs1, d1, ds1, p1, q1, rfl, rfl, rfl, h1, r1⟩ := trodAll_cons r0
  obtain ⟨v2, vs2, d2, ds2, p2, q2, rfl, rfl, rfl, h2, r2⟩ := trodAll_cons r1
  obtain ⟨v3, vs3, d3, ds3, p3, q3, rfl, rfl, rfl, h3, r3⟩ := trodAll_cons r2
  obtain ⟨rfl, rfl, rfl⟩ := trodAll_nil r3
  obtain rfl : args = #[v0, v1, v2, v3] := by cases args; simp_all
  obtain ⟨rfl, rfl⟩ := trodVars_none hV
  have k0 := h0
  have lt0 : ∀ x ∈ p0, x.block < W.heap.size := by obtain ⟨m, hm⟩ := k0; exact DataW.trod_lt m _ _ _ hm
  have sz0 : (d0.weights Try.prog 23).all (· ≤ reachBytes) = true := List.all_eq_true.2 fun m hm => List.all_eq_true.1 hsz m (DataW.weights_mem_each (j := 0) rfl rfl m hm)
  obtain ⟨q0, rfl, w0⟩ : ∃ q, v0 = .agg ((fun q : Int × Int × Int => [.int .i64 q.1, .int .i64 q.2.1, .int .i64 q.2.2]) q).toArray ∧ (fun q => (Lit.int .i64 q.1).wf = true ∧ (Lit.int .i64 q.2.1).wf = true ∧ (Lit.int .i64 q.2.2).wf = true) q := by
    obtain ⟨fuel, hf⟩ := h0
    exact Ag.one_arg kd23 Try.underlying23 (hval 0 23 v0 rfl rfl) hf sz0
  obtain ⟨a1, rfl, rfl, rfl, w1⟩ := open_int Try.underlying3 (hval 1 3 v1 rfl rfl) h1
  obtain ⟨a2, len2, cap2, rfl⟩ := okWide_slice Try.underlying24 (hval 2 24 v2 rfl rfl)
  have k2 := h2
  have lt2 : ∀ x ∈ p2, x.block < W.heap.size := by obtain ⟨m, hm⟩ := k2; exact DataW.trod_lt m _ _ _ hm
  have sz2 : (d2.weights Try.prog 24).all (· ≤ reachBytes) = true := List.all_eq_true.2 fun m hm => List.all_eq_true.1 hsz m (DataW.weights_mem_each (j := 2) rfl rfl m hm)
  obtain ⟨z2, w2, s2⟩ : ∃ zs, Ag.Rows (fun n : Int => [.int .i64 n]) (fun n => (Lit.int .i64 n).wf = true) 1 W a2 len2 zs ∧ len2 ≤ cap2 ∧ cap2 * Try.prog.bytesOf 3 ≤ 140737488351232 ∧ (a2 = none → len2 = 0 ∧ cap2 = 0) := by
    obtain ⟨fuel, hf⟩ := h2
    exact Ag.rows_arg (Ag.kind_int Try.underlying3 (by kernel_rfl)) Try.underlying24 (Nat.le_of_ble_eq_true (by kernel_rfl)) hf sz2
  obtain ⟨a3, len3, cap3, rfl⟩ := okWide_slice Try.underlying24 (hval 3 24 v3 rfl rfl)
  have k3 := h3
  have lt3 : ∀ x ∈ p3, x.block < W.heap.size := by obtain ⟨m, hm⟩ := k3; exact DataW.trod_lt m _ _ _ hm
  have sz3 : (d3.weights Try.prog 24).all (· ≤ reachBytes) = true := List.all_eq_true.2 fun m hm => List.all_eq_true.1 hsz m (DataW.weights_mem_each (j := 3) rfl rfl m hm)
  obtain ⟨z3, w3, s3⟩ : ∃ zs, Ag.Rows (fun n : Int => [.int .i64 n]) (fun n => (Lit.int .i64 n).wf = true) 1 W a3 len3 zs ∧ len3 ≤ cap3 ∧ cap3 * Try.prog.bytesOf 3 ≤ 140737488351232 ∧ (a3 = none → len3 = 0 ∧ cap3 = 0) := by
    obtain ⟨fuel, hf⟩ := h3
    exact Ag.rows_arg (Ag.kind_int Try.underlying3 (by kernel_rfl)) Try.underlying24 (Nat.le_of_ble_eq_true (by kernel_rfl)) hf sz3
  clear hA0 hsz0 hsz
  refine (walk q0 a1 a2 len2 cap2 z2 a3 len3 cap3 z3 W w0 w1 w2 s2 w3 s3).mono fun e W' ⟨he, bel⟩ => ?_
  subst he
  exact ⟨_, rfl, _, _, _, [], _, [], hW', trodAll_mk1 (shut_bool Try.underlying4 _), (trodAll_cons_mk (Below.trod laidOut (by kernel_rfl) (of_decide_eq_true (by kernel_rfl)) k0 bel lt0) (trodAll_cons_mk (shut_int Try.underlying3 w1) (trodAll_cons_mk (Below.trod laidOut (by kernel_rfl) (of_decide_eq_true (by kernel_rfl)) k2 bel lt2) (trodAll_cons_mk (Below.trod laidOut (by kernel_rfl) (of_decide_eq_true (by kernel_rfl)) k3 bel lt3) trodAll_mk0)))), rfl, bel.frame _, fun h => by cases h⟩

noncomputable def laidWorld (os : Os) : World :=
  World.holding Try.prog os ⟨#[], #[], []⟩
theorem laid_met (os : Os) : laidMet Try.prog Rows.splitApartRow.laid ((laidWorld os).forCall (fun _ _ => 0) ⟨#[], #[.agg #[.int .i64 0, .int .i64 0, .int .i64 0], .int .i64 0, .slice none 0 0, .slice none 0 0], []⟩).memory :=
  laidMet_of_run' 8 (by kernel_rfl) (by kernel_rfl)
theorem reads (os : Os) {H : Type} (enc : TypeId × Value → H) : ∃ places, DataW.whole enc Try.prog ((laidWorld os).forCall (fun _ _ => 0) ⟨#[], #[.agg #[.int .i64 0, .int .i64 0, .int .i64 0], .int .i64 0, .slice none 0 0, .slice none 0 0], []⟩).memory Try.f6.params.toList Rows.splitApartSpec.vars false #[Value.agg #[.int .i64 0, .int .i64 0, .int .i64 0], Value.int .i64 0, Value.slice none 0 0, Value.slice none 0 0].toList 8 = some ([.agg [.lit (.int .i64 0), .lit (.int .i64 0), .lit (.int .i64 0)], .lit (.int .i64 0), .nil, .nil], [], places) :=
  ⟨[], by kernel_rfl⟩

set_option maxRecDepth 100000 in
theorem lifted (os : Os) (started : os.Started) (H : Type) (enc : TypeId × Value → H) (F : Stop.Interp) :
    ReturnsInHanded {} Try.checked os 6 .any ((OpenSpec.ofChange Rows.splitApartSpec).preRow enc Try.prog Try.f6 Rows.splitApartRow.domain false Rows.splitApartRow.laid) (((OpenSpec.ofChange Rows.splitApartSpec).at F).post enc Try.prog Try.f6 false true false false) := by
  obtain ⟨places, hx⟩ := reads os enc
  refine returnsInHanded_of_row (C := Try.checked) (s := OpenSpec.ofChange Rows.splitApartSpec) own started (by kernel_rfl) Try.func6
    (witness_row_at (enc := enc) (C := Try.checked) false (laidWorld os) #[.agg #[.int .i64 0, .int .i64 0, .int .i64 0], .int .i64 0, .slice none 0 0, .slice none 0 0] rfl (by kernel_rfl) (by kernel_rfl) (by kernel_rfl)
      (OpenSpec.preRow_of_cond 8 hx (by kernel_rfl) (fun k hk => by cases hk) (by kernel_rfl) (laid_met os))) ?_
  intro W base args ds gs before hval hW _ hcond hsz hL _ _
  exact contract H enc W base args ds gs before hval hW hsz

theorem said : Rows.SplitApartSaid :=
  OpenClaim.holds_of_cond 6 Try.f6 rfl rfl rfl rfl rfl rfl rfl ⟨rfl, rfl, rfl, rfl, rfl⟩ rfl rfl rfl rfl rfl (by kernel_rfl) Try.func6 (by kernel_rfl)
    (of_decide_eq_true (by kernel_rfl)) (by unfold Func.isWrapper; first | (rw [if_pos (by decide +kernel)]; kernel_rfl) | (rw [if_neg (by decide +kernel)]; exact ⟨rfl, rfl⟩))
    (fun os started H enc _ F => by rw [OpenClaim.pre_eq_preRow]; exact lifted os started H enc F)

/-- THE STATEMENT -/
theorem proved : Rows.SplitApartSaid := said
#print axioms proved
end Go.Proofs.Ytbnmcjajhcgcnaa.splitApart
