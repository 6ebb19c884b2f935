/-
  Timeouts: what a measurement makes of bounds and a state in one struct.
  Conditions: as at each lemma.
-/
import Derived.Test.YthfhcepfomghoaaRtB
namespace Go.Proofs.Ythfhcepfomghoaa.Rt
open Go.ChangeShapes Go.WideShapes Go.ChangeAt Go.RowKit
open Ba (hidden Has Only)
open Ow (Own)
set_option linter.unusedVariables false

theorem max_ {P : Program} {a : Act} {o : Oper} {w : World} {x y : Operand} {t t' : TypeId} {u v r : Value} (h0 : a.eval x = u) (h1 : a.eval y = v) (ho : o.op = .call { callee := .builtin .max, args := #[x, y], argTypes := #[t, t'] }) (hr : (Builtin.max_ #[t, t'] o.type #[u, v]).run P w = .ok r w) : (execOp a.eval o).run P w = .ok (.value r) w := by
  have e : execOp a.eval o = (do pure (.value (← Builtin.max_ #[t, t'] o.type #[a.eval x, a.eval y]))) := by
    unfold execOp
    rw [ho]
    simp [resolve, invoke, builtin]
  rw [e, h0, h1]
  exact Ord.run_v hr
theorem est4 {w : World} {b : Nat} {i mi ma : Int} {k : Bool} {s v t : Int} (h : Has w b #[.int .i64 i, .int .i64 mi, .int .i64 ma, .bool k, .int .i64 s, .int .i64 v, .int .i64 t] 39) :
    w.cell? ⟨b, 3, none⟩ = some (.bool k) ∧ w.cell? ⟨b, 4, none⟩ = some (.int .i64 s) ∧ w.cell? ⟨b, 5, none⟩ = some (.int .i64 v) ∧ w.cell? ⟨b, 6, none⟩ = some (.int .i64 t) :=
  ⟨h.cell 3 rfl, h.cell 4 rfl, h.cell 5 rfl, h.cell 6 rfl⟩
theorem addSV (S V : Int) (hS : 0 ≤ S ∧ S ≤ 8388608) (hV : 0 ≤ V ∧ V ≤ 8388608) (w : World) : (do eqGuard .add 3 (.tmp 26) (.tmp 32) (.int .i64 (tripI S)) (.int .i64 (max 1 V)); binOp .add 3 (.int .i64 (tripI S)) (.int .i64 (max 1 V)) : Sem Value).run Try.prog w = .ok (.int .i64 (tripI S + max 1 V)) w := by
  have h1 : 0 ≤ tripI S ∧ tripI S ≤ 1048576 := by unfold tripI; omega
  have h2 : 0 ≤ max 1 V ∧ max 1 V ≤ 8388608 := by omega
  simp [go_sem]
  simp [IntKind.wrap, IntKind.signed, IntKind.bits]
  omega
/-- the means behind a measurement -/
def smI (k : Bool) (s n : Int) : Int := bif k then s + (n - tripI s) else 8 * n
def vaI (k : Bool) (s v n : Int) : Int := bif k then v + (absI (n - tripI s) - v / 4) else 2 * n
theorem sm_in {k : Bool} {s n : Int} (hs : 0 ≤ s ∧ s ≤ 8388608) (hn : 0 ≤ n ∧ n ≤ 1048576) : 0 ≤ smI k s n ∧ smI k s n ≤ 8388608 := by
  unfold smI tripI
  cases k <;> simp only [cond_true, cond_false] <;> omega
theorem va_in {k : Bool} {s v n : Int} (hs : 0 ≤ s ∧ s ≤ 8388608) (hv : 0 ≤ v ∧ v ≤ 8388608) (hn : 0 ≤ n ∧ n ≤ 1048576) : 0 ≤ vaI k s v n ∧ vaI k s v n ≤ 8388608 := by
  unfold vaI absI tripI
  cases k <;> simp only [cond_true, cond_false] <;> omega
set_option maxHeartbeats 1000000 in
theorem measureT {w : World} {b : Nat} {i mi ma s v t n S V : Int} (h : Has w b #[.int .i64 i, .int .i64 mi, .int .i64 ma, .bool true, .int .i64 s, .int .i64 v, .int .i64 t] 39) (hs : 0 ≤ s ∧ s ≤ 8388608) (hv : 0 ≤ v ∧ v ≤ 8388608) (hn : 0 ≤ n ∧ n ≤ 1048576) (eS : smI true s n = S) (eV : vaI true s v n = V) :
    Calls Try.prog 20 #[.pointer (some ⟨b, 0, none⟩), .int .i64 n] w fun e w' => e = .returned (.tuple #[]) ∧ Has w' b #[.int .i64 i, .int .i64 mi, .int .i64 ma, .bool true, .int .i64 S, .int .i64 V, .int .i64 (keepI (tripI S + max 1 V) mi ma)] 39 ∧ Only [b] w w' := by
  obtain ⟨c3, c4, c5, c6⟩ := est4 h
  have hS : 0 ≤ S ∧ S ≤ 8388608 := eS ▸ sm_in hs hn
  have hV : 0 ≤ V ∧ V ≤ 8388608 := eV ▸ va_in hs hv hn
  have TR := hidden (trip true (s := S) (by unfold I64; omega) V t)
  have AD := hidden (addSV S V hS hV)
  have ET : Hid (∀ (args : Array Value) (w : World), (callFunc 15 args).run Try.prog w = .ok (.enter 15 args) w) := enters_of Try.func15 (by kernel_rfl) rfl
  have EW : Hid (∀ (args : Array Value) (w : World), (callFunc 21 args).run Try.prog w = .ok (.enter 21 args) w) := enters_of Try.func21 (by kernel_rfl) rfl
  have T0 := hidden (trip true (s := s) (by unfold I64; omega) v t)
  have hq : 0 ≤ tripI s ∧ tripI s ≤ 1048576 := by unfold tripI; omega
  have AJ : Hid (∀ W, Below w.heap.size w W → Calls Try.prog 25 #[.pointer (some ⟨b, 0, none⟩), .int .i64 (n - tripI s)] W fun e w' => e = .returned (.tuple #[]) ∧ Has w' b #[.int .i64 i, .int .i64 mi, .int .i64 ma, .bool true, .int .i64 S, .int .i64 V, .int .i64 t] 39 ∧ Only [b] w w') := fun W hB => by
    refine (adjust (off := n - tripI s) (h.later hB) hs hv (by omega)).mono ?_
    rintro e w' ⟨rfl, h1, h2⟩
    rw [← eS, ← eV]
    exact ⟨rfl, h1, (Only.of_below hB).then h2⟩
  generalize tripI s = q at T0 AJ hq
  clear h eS eV
  go_enter Try.func20, Try.ntmps20
  go_wp2_with fail
  refine Calls.mono (T0.out _) ?_
  rintro e w1 ⟨rfl, hB1⟩
  have HB1 := hidden hB1
  clear hB1
  go_wp2_with fail
  refine Calls.mono (AJ.out _ HB1.out) ?_
  rintro e w2 ⟨rfl, hH, hO⟩
  have H1 := hidden (And.intro hH hO)
  clear hH hO AJ T0 c3 c4 c5 c6 HB1
  go_upto_region 3 with fail
  refine Ord.wp_region_ex0 (X := Unit) (by kernel_rfl) 35 (fun x => [(some 21, .pointer (some ⟨b, 0, none⟩)), (some 22, .pointer (some ⟨b, 0, none⟩)), (some 23, .pointer (some ⟨b, 0, none⟩)), (some 24, .pointer (some ⟨b, 3, none⟩)), (some 25, .agg #[.bool true, .int .i64 S, .int .i64 V, .int .i64 t]), (some 26, .int .i64 (tripI S)), (some 27, .pointer (some ⟨b, 0, none⟩)), (some 28, .pointer (some ⟨b, 0, none⟩)), (some 29, .pointer (some ⟨b, 3, none⟩)), (some 30, .pointer (some ⟨b, 5, none⟩)), (some 31, .int .i64 V), (some 32, .int .i64 (max 1 V)), (some 33, .int .i64 (tripI S + max 1 V)), (some 34, .tuple #[])]) [some 21, some 22, some 23, some 24, some 25, some 26, some 27, some 28, some 29, some 30, some 31, some 32, some 33, some 34] rfl (fun listed hsz hr => Ord.all_listedC (rank := [0, 1, 2, 3, 4, 5, 6, 7, 8, 9, 10, 11, 12, 13]) (by kernel_rfl) hsz hr) (by rfl) (fun _ => rfl) (by kernel_rfl) (Rg.StM [5, 13] (fun k _ w' => (k ≤ 1 → Has w' b #[.int .i64 i, .int .i64 mi, .int .i64 ma, .bool true, .int .i64 S, .int .i64 V, .int .i64 t] 39 ∧ Only [b] w w') ∧ (2 ≤ k → Has w' b #[.int .i64 i, .int .i64 mi, .int .i64 ma, .bool true, .int .i64 S, .int .i64 V, .int .i64 (keepI (tripI S + max 1 V) mi ma)] 39 ∧ Only [b] w w'))) (fun _ _ _ _ hL h => h.ext (n := 14) (by decide) hL) ?_ ?_ () ?_
  case refine_1 =>
    intro x Lq iq oq ac w' ho hi hcl hdep hF hW
    have f1 : ac.tmps.size = 35 := hF.1
    match iq, ho, hi, hdep with
    | 0, ho, hi, hdep =>
      cases ho
      have da0 : ac.eval (.tmp 0) = .pointer (some ⟨b, 0, none⟩) := hF.old 0 rfl
      exact Ord.ex_value x rfl rfl (Rg.mv da0 rfl) rfl (hW.keep (by decide))
    | 1, ho, hi, hdep =>
      cases ho
      have da0 : ac.eval (.tmp 0) = .pointer (some ⟨b, 0, none⟩) := hF.old 0 rfl
      exact Ord.ex_value x rfl rfl (Rg.mv da0 rfl) rfl (hW.keep (by decide))
    | 2, ho, hi, hdep =>
      cases ho
      have da0 : ac.eval (.tmp 22) = .pointer (some ⟨b, 0, none⟩) := hF.2.2.2 1 22 _ rfl (hdep ⟨1, .data⟩ (by simp) rfl)
      exact Ord.ex_value x rfl rfl (Rg.nilc da0 rfl) rfl (hW.keep (by decide))
    | 3, ho, hi, hdep =>
      cases ho
      have da0 : ac.eval (.tmp 23) = .pointer (some ⟨b, 0, none⟩) := hF.2.2.2 2 23 _ rfl (hdep ⟨2, .data⟩ (by simp) rfl)
      exact Ord.ex_value x rfl rfl (Rg.fa da0 rfl (by simp [go_sem])) rfl (hW.keep (by decide))
    | 4, ho, hi, hdep =>
      cases ho
      have da0 : ac.eval (.tmp 24) = .pointer (some ⟨b, 3, none⟩) := hF.2.2.2 3 24 _ rfl (hdep ⟨3, .data⟩ (by simp) rfl)
      obtain ⟨kq, hlo, hhi, hA⟩ := hW.range 0 0 (.inl rfl) (.inr ⟨5, rfl, (Rg.no_of (fun h => hcl 5 _ rfl (h) ⟨4, .data⟩ (by simp) rfl) hi)⟩)
      obtain ⟨d3, d4, d5, d6⟩ := est4 (hA.1 (by omega)).1
      exact Ord.ex_value x rfl rfl (Rg.load da0 rfl (by simp [go_sem, d3, d4, d5, d6])) rfl (hW.keep (by decide))
    | 5, ho, hi, hdep =>
      cases ho
      have da0 : ac.eval (.tmp 25) = .agg #[.bool true, .int .i64 S, .int .i64 V, .int .i64 t] := hF.2.2.2 4 25 _ rfl (hdep ⟨4, .data⟩ (by simp) rfl)
      have hA := hW.at (k := 0) rfl hi (.inl rfl)
      refine Rg.ex_call x rfl rfl (Rg.enter (args := #[.agg #[.bool true, .int .i64 S, .int .i64 V, .int .i64 t]]) rfl rfl (by simp [da0]) ET.out) (Calls.mono (TR.out _) ?_)
      rintro e w2 ⟨rfl, hB⟩
      exact ⟨rfl, hW.next (k := 0) rfl (by decide) hi (.inl rfl) ⟨fun _ => ⟨(hA.1 (by omega)).1.later hB, (hA.1 (by omega)).2.then (Only.of_below hB)⟩, fun h => absurd h (by decide)⟩⟩
    | 6, ho, hi, hdep =>
      cases ho
      have da0 : ac.eval (.tmp 0) = .pointer (some ⟨b, 0, none⟩) := hF.old 0 rfl
      exact Ord.ex_value x rfl rfl (Rg.mv da0 rfl) rfl (hW.keep (by decide))
    | 7, ho, hi, hdep =>
      cases ho
      have da0 : ac.eval (.tmp 27) = .pointer (some ⟨b, 0, none⟩) := hF.2.2.2 6 27 _ rfl (hdep ⟨6, .data⟩ (by simp) rfl)
      exact Ord.ex_value x rfl rfl (Rg.nilc da0 rfl) rfl (hW.keep (by decide))
    | 8, ho, hi, hdep =>
      cases ho
      have da0 : ac.eval (.tmp 28) = .pointer (some ⟨b, 0, none⟩) := hF.2.2.2 7 28 _ rfl (hdep ⟨7, .data⟩ (by simp) rfl)
      exact Ord.ex_value x rfl rfl (Rg.fa da0 rfl (by simp [go_sem])) rfl (hW.keep (by decide))
    | 9, ho, hi, hdep =>
      cases ho
      have da0 : ac.eval (.tmp 29) = .pointer (some ⟨b, 3, none⟩) := hF.2.2.2 8 29 _ rfl (hdep ⟨8, .data⟩ (by simp) rfl)
      exact Ord.ex_value x rfl rfl (Rg.fa da0 rfl (by simp [go_sem])) rfl (hW.keep (by decide))
    | 10, ho, hi, hdep =>
      cases ho
      have da0 : ac.eval (.tmp 30) = .pointer (some ⟨b, 5, none⟩) := hF.2.2.2 9 30 _ rfl (hdep ⟨9, .data⟩ (by simp) rfl)
      obtain ⟨kq, hlo, hhi, hA⟩ := hW.range 0 1 (.inl rfl) (.inr ⟨13, rfl, (Rg.no_of (fun h => hcl 11 _ rfl (hcl 12 _ rfl (hcl 13 _ rfl (h) ⟨12, .data⟩ (by simp) rfl) ⟨11, .data⟩ (by simp) rfl) ⟨10, .data⟩ (by simp) rfl) hi)⟩)
      obtain ⟨d3, d4, d5, d6⟩ := est4 (hA.1 (by omega)).1
      exact Ord.ex_value x rfl rfl (Rg.load da0 rfl (by simp [go_sem, d5])) rfl (hW.keep (by decide))
    | 11, ho, hi, hdep =>
      cases ho
      have da0 : ac.eval (.tmp 31) = .int .i64 V := hF.2.2.2 10 31 _ rfl (hdep ⟨10, .data⟩ (by simp) rfl)
      exact Ord.ex_value x rfl rfl (max_ rfl da0 rfl (by simp [go_sem])) rfl (hW.keep (by decide))
    | 12, ho, hi, hdep =>
      cases ho
      have da0 : ac.eval (.tmp 26) = .int .i64 (tripI S) := hF.2.2.2 5 26 _ rfl (hdep ⟨5, .data⟩ (by simp) rfl)
      have da1 : ac.eval (.tmp 32) = .int .i64 (max 1 V) := hF.2.2.2 11 32 _ rfl (hdep ⟨11, .data⟩ (by simp) rfl)
      exact Ord.ex_value x rfl rfl (Rg.bin da0 da1 rfl (AD.out _)) rfl (hW.keep (by decide))
    | 13, ho, hi, hdep =>
      cases ho
      have da0 : ac.eval (.tmp 21) = .pointer (some ⟨b, 0, none⟩) := hF.2.2.2 0 21 _ rfl (hdep ⟨0, .data⟩ (by simp) rfl)
      have da1 : ac.eval (.tmp 33) = .int .i64 (tripI S + max 1 V) := hF.2.2.2 12 33 _ rfl (hdep ⟨12, .data⟩ (by simp) rfl)
      have hA := hW.at (k := 1) rfl hi (.inr ⟨5, rfl, (hdep ⟨5, .chain⟩ (by simp) rfl)⟩)
      refine Rg.ex_call x rfl rfl (Rg.enter (args := #[.pointer (some ⟨b, 0, none⟩), .int .i64 (tripI S + max 1 V)]) rfl rfl (by simp [da0, da1]) EW.out) (Calls.mono (wait (hA.1 (by omega)).1) ?_)
      rintro e w2 ⟨rfl, hH, hO⟩
      exact ⟨rfl, hW.next (k := 1) rfl (by decide) hi (.inr ⟨5, rfl, (hdep ⟨5, .chain⟩ (by simp) rfl)⟩) ⟨fun h => absurd h (by decide), fun _ => ⟨hH, (hA.1 (by omega)).2.then hO⟩⟩⟩
  case refine_2 =>
    intro x w' hW
    have hw := hidden (hW.last.2 (by decide))
    clear hW
    simp only [Ord.puts, Ord.prs]
    go_simp
    go_wp2
    go_end0
    exact ⟨rfl, hw.out⟩
  case refine_3 => exact Rg.StM.first ⟨fun _ => ⟨H1.out.1, H1.out.2.drew⟩, fun h => absurd h (by decide)⟩
set_option maxHeartbeats 1000000 in
theorem measureF {w : World} {b : Nat} {i mi ma s v t n S V : Int} (h : Has w b #[.int .i64 i, .int .i64 mi, .int .i64 ma, .bool false, .int .i64 s, .int .i64 v, .int .i64 t] 39) (hn : 0 ≤ n ∧ n ≤ 1048576) (eS : smI false s n = S) (eV : vaI false s v n = V) :
    Calls Try.prog 20 #[.pointer (some ⟨b, 0, none⟩), .int .i64 n] w fun e w' => e = .returned (.tuple #[]) ∧ Has w' b #[.int .i64 i, .int .i64 mi, .int .i64 ma, .bool true, .int .i64 S, .int .i64 V, .int .i64 (keepI (tripI S + max 1 V) mi ma)] 39 ∧ Only [b] w w' := by
  obtain ⟨c3, c4, c5, c6⟩ := est4 h
  have e1 : 8 * n = S := eS
  have e2 : 2 * n = V := eV
  have hS : 0 ≤ S ∧ S ≤ 8388608 := by omega
  have hV : 0 ≤ V ∧ V ≤ 8388608 := by omega
  have TR := hidden (trip true (s := S) (by unfold I64; omega) V t)
  have AD := hidden (addSV S V hS hV)
  have ET : Hid (∀ (args : Array Value) (w : World), (callFunc 15 args).run Try.prog w = .ok (.enter 15 args) w) := enters_of Try.func15 (by kernel_rfl) rfl
  have EW : Hid (∀ (args : Array Value) (w : World), (callFunc 21 args).run Try.prog w = .ok (.enter 21 args) w) := enters_of Try.func21 (by kernel_rfl) rfl
  have BG := hidden (begin_ h hn)
  rw [e1, e2] at BG
  clear h eS eV e1 e2
  go_enter Try.func20, Try.ntmps20
  go_wp2_with fail
  refine Calls.mono BG.out ?_
  rintro e w2 ⟨rfl, hH, hO⟩
  have H1 := hidden (And.intro hH hO)
  clear hH hO BG c3 c4 c5 c6
  go_upto_region 3 with fail
  refine Ord.wp_region_ex0 (X := Unit) (by kernel_rfl) 35 (fun x => [(some 21, .pointer (some ⟨b, 0, none⟩)), (some 22, .pointer (some ⟨b, 0, none⟩)), (some 23, .pointer (some ⟨b, 0, none⟩)), (some 24, .pointer (some ⟨b, 3, none⟩)), (some 25, .agg #[.bool true, .int .i64 S, .int .i64 V, .int .i64 t]), (some 26, .int .i64 (tripI S)), (some 27, .pointer (some ⟨b, 0, none⟩)), (some 28, .pointer (some ⟨b, 0, none⟩)), (some 29, .pointer (some ⟨b, 3, none⟩)), (some 30, .pointer (some ⟨b, 5, none⟩)), (some 31, .int .i64 V), (some 32, .int .i64 (max 1 V)), (some 33, .int .i64 (tripI S + max 1 V)), (some 34, .tuple #[])]) [some 21, some 22, some 23, some 24, some 25, some 26, some 27, some 28, some 29, some 30, some 31, some 32, some 33, some 34] rfl (fun listed hsz hr => Ord.all_listedC (rank := [0, 1, 2, 3, 4, 5, 6, 7, 8, 9, 10, 11, 12, 13]) (by kernel_rfl) hsz hr) (by rfl) (fun _ => rfl) (by kernel_rfl) (Rg.StM [5, 13] (fun k _ w' => (k ≤ 1 → Has w' b #[.int .i64 i, .int .i64 mi, .int .i64 ma, .bool true, .int .i64 S, .int .i64 V, .int .i64 t] 39 ∧ Only [b] w w') ∧ (2 ≤ k → Has w' b #[.int .i64 i, .int .i64 mi, .int .i64 ma, .bool true, .int .i64 S, .int .i64 V, .int .i64 (keepI (tripI S + max 1 V) mi ma)] 39 ∧ Only [b] w w'))) (fun _ _ _ _ hL h => h.ext (n := 14) (by decide) hL) ?_ ?_ () ?_
  case refine_1 =>
    intro x Lq iq oq ac w' ho hi hcl hdep hF hW
    have f1 : ac.tmps.size = 35 := hF.1
    match iq, ho, hi, hdep with
    | 0, ho, hi, hdep =>
      cases ho
      have da0 : ac.eval (.tmp 0) = .pointer (some ⟨b, 0, none⟩) := hF.old 0 rfl
      exact Ord.ex_value x rfl rfl (Rg.mv da0 rfl) rfl (hW.keep (by decide))
    | 1, ho, hi, hdep =>
      cases ho
      have da0 : ac.eval (.tmp 0) = .pointer (some ⟨b, 0, none⟩) := hF.old 0 rfl
      exact Ord.ex_value x rfl rfl (Rg.mv da0 rfl) rfl (hW.keep (by decide))
    | 2, ho, hi, hdep =>
      cases ho
      have da0 : ac.eval (.tmp 22) = .pointer (some ⟨b, 0, none⟩) := hF.2.2.2 1 22 _ rfl (hdep ⟨1, .data⟩ (by simp) rfl)
      exact Ord.ex_value x rfl rfl (Rg.nilc da0 rfl) rfl (hW.keep (by decide))
    | 3, ho, hi, hdep =>
      cases ho
      have da0 : ac.eval (.tmp 23) = .pointer (some ⟨b, 0, none⟩) := hF.2.2.2 2 23 _ rfl (hdep ⟨2, .data⟩ (by simp) rfl)
      exact Ord.ex_value x rfl rfl (Rg.fa da0 rfl (by simp [go_sem])) rfl (hW.keep (by decide))
    | 4, ho, hi, hdep =>
      cases ho
      have da0 : ac.eval (.tmp 24) = .pointer (some ⟨b, 3, none⟩) := hF.2.2.2 3 24 _ rfl (hdep ⟨3, .data⟩ (by simp) rfl)
      obtain ⟨kq, hlo, hhi, hA⟩ := hW.range 0 0 (.inl rfl) (.inr ⟨5, rfl, (Rg.no_of (fun h => hcl 5 _ rfl (h) ⟨4, .data⟩ (by simp) rfl) hi)⟩)
      obtain ⟨d3, d4, d5, d6⟩ := est4 (hA.1 (by omega)).1
      exact Ord.ex_value x rfl rfl (Rg.load da0 rfl (by simp [go_sem, d3, d4, d5, d6])) rfl (hW.keep (by decide))
    | 5, ho, hi, hdep =>
      cases ho
      have da0 : ac.eval (.tmp 25) = .agg #[.bool true, .int .i64 S, .int .i64 V, .int .i64 t] := hF.2.2.2 4 25 _ rfl (hdep ⟨4, .data⟩ (by simp) rfl)
      have hA := hW.at (k := 0) rfl hi (.inl rfl)
      refine Rg.ex_call x rfl rfl (Rg.enter (args := #[.agg #[.bool true, .int .i64 S, .int .i64 V, .int .i64 t]]) rfl rfl (by simp [da0]) ET.out) (Calls.mono (TR.out _) ?_)
      rintro e w2 ⟨rfl, hB⟩
      exact ⟨rfl, hW.next (k := 0) rfl (by decide) hi (.inl rfl) ⟨fun _ => ⟨(hA.1 (by omega)).1.later hB, (hA.1 (by omega)).2.then (Only.of_below hB)⟩, fun h => absurd h (by decide)⟩⟩
    | 6, ho, hi, hdep =>
      cases ho
      have da0 : ac.eval (.tmp 0) = .pointer (some ⟨b, 0, none⟩) := hF.old 0 rfl
      exact Ord.ex_value x rfl rfl (Rg.mv da0 rfl) rfl (hW.keep (by decide))
    | 7, ho, hi, hdep =>
      cases ho
      have da0 : ac.eval (.tmp 27) = .pointer (some ⟨b, 0, none⟩) := hF.2.2.2 6 27 _ rfl (hdep ⟨6, .data⟩ (by simp) rfl)
      exact Ord.ex_value x rfl rfl (Rg.nilc da0 rfl) rfl (hW.keep (by decide))
    | 8, ho, hi, hdep =>
      cases ho
      have da0 : ac.eval (.tmp 28) = .pointer (some ⟨b, 0, none⟩) := hF.2.2.2 7 28 _ rfl (hdep ⟨7, .data⟩ (by simp) rfl)
      exact Ord.ex_value x rfl rfl (Rg.fa da0 rfl (by simp [go_sem])) rfl (hW.keep (by decide))
    | 9, ho, hi, hdep =>
      cases ho
      have da0 : ac.eval (.tmp 29) = .pointer (some ⟨b, 3, none⟩) := hF.2.2.2 8 29 _ rfl (hdep ⟨8, .data⟩ (by simp) rfl)
      exact Ord.ex_value x rfl rfl (Rg.fa da0 rfl (by simp [go_sem])) rfl (hW.keep (by decide))
    | 10, ho, hi, hdep =>
      cases ho
      have da0 : ac.eval (.tmp 30) = .pointer (some ⟨b, 5, none⟩) := hF.2.2.2 9 30 _ rfl (hdep ⟨9, .data⟩ (by simp) rfl)
      obtain ⟨kq, hlo, hhi, hA⟩ := hW.range 0 1 (.inl rfl) (.inr ⟨13, rfl, (Rg.no_of (fun h => hcl 11 _ rfl (hcl 12 _ rfl (hcl 13 _ rfl (h) ⟨12, .data⟩ (by simp) rfl) ⟨11, .data⟩ (by simp) rfl) ⟨10, .data⟩ (by simp) rfl) hi)⟩)
      obtain ⟨d3, d4, d5, d6⟩ := est4 (hA.1 (by omega)).1
      exact Ord.ex_value x rfl rfl (Rg.load da0 rfl (by simp [go_sem, d5])) rfl (hW.keep (by decide))
    | 11, ho, hi, hdep =>
      cases ho
      have da0 : ac.eval (.tmp 31) = .int .i64 V := hF.2.2.2 10 31 _ rfl (hdep ⟨10, .data⟩ (by simp) rfl)
      exact Ord.ex_value x rfl rfl (max_ rfl da0 rfl (by simp [go_sem])) rfl (hW.keep (by decide))
    | 12, ho, hi, hdep =>
      cases ho
      have da0 : ac.eval (.tmp 26) = .int .i64 (tripI S) := hF.2.2.2 5 26 _ rfl (hdep ⟨5, .data⟩ (by simp) rfl)
      have da1 : ac.eval (.tmp 32) = .int .i64 (max 1 V) := hF.2.2.2 11 32 _ rfl (hdep ⟨11, .data⟩ (by simp) rfl)
      exact Ord.ex_value x rfl rfl (Rg.bin da0 da1 rfl (AD.out _)) rfl (hW.keep (by decide))
    | 13, ho, hi, hdep =>
      cases ho
      have da0 : ac.eval (.tmp 21) = .pointer (some ⟨b, 0, none⟩) := hF.2.2.2 0 21 _ rfl (hdep ⟨0, .data⟩ (by simp) rfl)
      have da1 : ac.eval (.tmp 33) = .int .i64 (tripI S + max 1 V) := hF.2.2.2 12 33 _ rfl (hdep ⟨12, .data⟩ (by simp) rfl)
      have hA := hW.at (k := 1) rfl hi (.inr ⟨5, rfl, (hdep ⟨5, .chain⟩ (by simp) rfl)⟩)
      refine Rg.ex_call x rfl rfl (Rg.enter (args := #[.pointer (some ⟨b, 0, none⟩), .int .i64 (tripI S + max 1 V)]) rfl rfl (by simp [da0, da1]) EW.out) (Calls.mono (wait (hA.1 (by omega)).1) ?_)
      rintro e w2 ⟨rfl, hH, hO⟩
      exact ⟨rfl, hW.next (k := 1) rfl (by decide) hi (.inr ⟨5, rfl, (hdep ⟨5, .chain⟩ (by simp) rfl)⟩) ⟨fun h => absurd h (by decide), fun _ => ⟨hH, (hA.1 (by omega)).2.then hO⟩⟩⟩
  case refine_2 =>
    intro x w' hW
    have hw := hidden (hW.last.2 (by decide))
    clear hW
    simp only [Ord.puts, Ord.prs]
    go_simp
    go_wp2
    go_end0
    exact ⟨rfl, hw.out⟩
  case refine_3 => exact Rg.StM.first ⟨fun _ => ⟨H1.out.1, H1.out.2.drew⟩, fun h => absurd h (by decide)⟩
end Go.Proofs.Ythfhcepfomghoaa.Rt
