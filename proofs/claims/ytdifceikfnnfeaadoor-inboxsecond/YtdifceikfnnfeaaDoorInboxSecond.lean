/-
  The law InboxSecond: a second packet that was heard makes a report due at once, at the time it was heard, whatever came before; a time out of bounds is refused twice. Conditions: none but what the card ties.
-/
import Derived.Test.YtdifceikfnnfeaaDoorCards
import Derived.Test.YtdifceikfnnfeaaDoorTie
import Derived.WalkKit
import Derived.ProofKit
import Derived.OpenShut
import Derived.ShutString
import Derived.ChangeOld
import Derived.Below
import Derived.SizedLaws
import Derived.Deep.DeepHandedRow
import Derived.Lib.LaidTab
import Derived.Test.YtdifceikfnnfeaaDoorInS
import Derived.Test.YtdifceikfnnfeaaDoorInArgs
namespace Go.Proofs.YtdifceikfnnfeaaDoor.inboxSecond
open Go.ChangeShapes Go.WideShapes Go.ChangeAt Go.RowKit
set_option linter.unusedVariables false

theorem own : ownKnob Tryd.prog.godebug = none := by kernel_rfl
theorem laidOut : laidOutB Tryd.prog = true := by kernel_rfl
theorem gTab : Tryd.prog.globalNamed "math/bits.deBruijn64tab" = some 0 := by kernel_rfl
theorem gTabType : (Tryd.prog.globals[0]?).map (·.type) = some 120 := by kernel_rfl
theorem table {W : World} (h : laidMetH Tryd.prog Rows.inboxSecondRow.laid W) : Sp.Tab W := fun i hi =>
  (show Lib.TabIs Tryd.prog W "math/bits.deBruijn64tab" .u8 Sp.tab64 from
    Lib.tabIs_of_head (rest := []) gTab gTabType Tryd.underlying120 Tryd.underlying5 (by kernel_rfl) (by kernel_rfl) h).cell gTab i hi

open Ba (hidden Has cell_lt heap_lt)

set_option maxRecDepth 20000 in
set_option maxHeartbeats 1000000 in
theorem walk (a0 : Int) (a1 : Int) (a2 : Bool) (a3 : Option Addr) (len3 cap3 : Nat) (z3 : List Sp.Inb.OA) (a4 : Int) (w : World) (w0 : (Lit.int .u32 a0).wf = true) (w1 : (Lit.int .i64 a1).wf = true)  (w3 : Sp.Inb.Ops w a3 len3 z3) (w4 : (Lit.int .i64 a4).wf = true) (ht : Sp.Tab w) :
    Calls Tryd.prog 5 #[.int .u32 a0, .int .i64 a1, .bool a2, .slice a3 len3 cap3, .int .i64 a4] w fun e w' => e = .returned (.bool true) ∧ Below w.heap.size w w' := by
  have AL := hidden (fun (X : World) (hX : Below w.heap.size w X) => Sp.Inb.alive X (ht.below hX (by have := cell_lt (ht 0 (by decide)); exact this)))
  have hb0 := Ser.b32 w0
  obtain ⟨f0, rfl⟩ := Int.eq_ofNat_of_zero_le hb0.1
  have hf0 : f0 < 4294967296 := by omega
  have MD := hidden (Sp.Inb.made_ (first := f0) hf0 a1 a2 w ht cap3 w3)
  clear ht hb0
  generalize hfI : ((f0 : Nat) : Int) = fI at *
  go_enter Tryd.func5, Tryd.ntmps5
  go_wp2_with fail
  refine Calls.mono MD.out ?_
  rintro e w1 (⟨rfl, hB⟩ | ⟨hd, b, bc, bf, r, bs, rfl, v, fx, dp, P, hX, hB⟩)
  · have HA := hidden (AL.out w1 hB)
    have HB := hidden hB
    clear hB
    go_wp2_with fail
    refine Calls.mono HA.out ?_
    rintro e X ⟨rfl, hX⟩
    have FN := hidden (HB.out.trans (hX.mono HB.out.size))
    clear hX
    go_wp2
    go_ret
    exact ⟨rfl, FN.out⟩
  · have hok := hX.ok
    have hcd := hX.cd
    generalize Sp.Inb.runS (z3.take (min len3 200)) (Sp.Inb.newS fI a1 a2) = s at *
    cases hto : Sp.Inb.timeOk a4 with
    | false =>
      have hn : ¬ (0 ≤ a4 ∧ a4 ≤ 1099511627776) := of_decide_eq_false hto
      have H1 := hidden (Sp.Inb.Heard_no hcd a4 hto)
      have H3 := hidden (Sp.Inb.Due_ hcd hok.n0 hok.tz)
      have HA := hidden (AL.out w1 hB)
      have HB := hidden hB
      clear hB hX hcd hok hto MD
      have h3 : a4 < 0 ∨ (¬ a4 < 0 ∧ a4 > 1099511627776) := by omega
      clear hn
      go_wp2_with fail
      refine Calls.mono H1.out ?_
      rintro e w' ⟨rfl, rfl⟩
      go_wp2_with fail
      refine Calls.mono H1.out ?_
      rintro e w' ⟨rfl, rfl⟩
      go_wp2_with fail
      refine Calls.mono H3.out ?_
      rintro e w' ⟨rfl, rfl⟩
      rcases h3 with h3 | ⟨h3, h4⟩
      all_goals
        go_wp2_with fail
        refine Calls.mono HA.out ?_
        rintro e X ⟨rfl, hX⟩
        have FN := hidden (HB.out.trans (hX.mono HB.out.size))
        clear hX
        go_wp2
        go_ret
        exact ⟨rfl, FN.out⟩
    | true =>
      have hn : 0 ≤ a4 ∧ a4 ≤ 1099511627776 := of_decide_eq_true hto
      have h3 : ¬ a4 < 0 := by omega
      have h4 : ¬ a4 > 1099511627776 := by omega
      have hk := Sp.Inb.heard_ok hok hto
      have hk2 := Sp.Inb.heard_ok hk hto
      have hs2 : (Sp.Inb.heardS a4 (Sp.Inb.heardS a4 s)).time = a4 ∧ 0 < (Sp.Inb.heardS a4 (Sp.Inb.heardS a4 s)).n := by
        have h0 := hok.n0
        have h9 : Sp.Inb.atOnce (Sp.Inb.heardS a4 s) = true := by
          unfold Sp.Inb.atOnce
          rw [decide_eq_true (show 2 ≤ (Sp.Inb.heardS a4 s).n + 1 by show 2 ≤ s.n + 1 + 1; omega)]
          simp
        exact ⟨if_pos h9, by show 0 < s.n + 1 + 1; omega⟩
      have HD := hidden (⟨hok.d0, hok.d1⟩ : 0 ≤ s.delay ∧ s.delay ≤ 500)
      have hn6 : s.n ≤ 1000 := by have := hok.nk; omega
      have H1 := hidden (Sp.Inb.Heard_ hcd a4 hto hok.n0 (by omega) HD.out)
      have H2 := hidden (fun (X : World) (hX : Sp.Inb.Cd w.heap.size X b bc bf v (Sp.Inb.heardS a4 s)) => Sp.Inb.Heard_ hX a4 hto hk.n0 (by show s.n + 1 ≤ _; omega) HD.out)
      have H3 := hidden (fun (X : World) (hX : Sp.Inb.Cd w.heap.size X b bc bf v (Sp.Inb.heardS a4 (Sp.Inb.heardS a4 s))) => (by
        have := Sp.Inb.Due_ hX hk2.n0 hk2.tz
        rw [hs2.1, decide_eq_true hs2.2] at this
        exact this : Calls Tryd.prog 21 #[.pointer (some ⟨b, 0, none⟩)] X fun e w' => e = .returned (.tuple #[.int .i64 a4, .bool true]) ∧ X = w'))
      have BL := hidden (fun (X Y : World) (h1 : Sp.Inb.Mod (Sp.Inb.FC b bc bf v) w1 X) (h2 : Sp.Inb.Mod (Sp.Inb.FC b bc bf v) X Y) => (hB.trans ((h1.trans h2 (fun x hx => .inl hx)).below hcd.hn hcd.fc_ge) : Below w.heap.size w Y))
      clear hB hX hcd hok hto MD hn hk hk2 hs2 hn6
      go_wp2_with fail
      refine Calls.mono H1.out ?_
      rintro e w2 ⟨rfl, hC2, hM2⟩
      have K2 := hidden (H2.out _ hC2)
      have HM2 := hidden hM2
      clear hC2 hM2
      go_wp2_with fail
      refine Calls.mono K2.out ?_
      rintro e w3 ⟨rfl, hC3, hM3⟩
      have K3 := hidden (H3.out _ hC3)
      have HB := hidden (BL.out _ _ HM2.out hM3)
      have HA := hidden (AL.out w3 HB.out)
      clear hC3 hM3
      go_wp2_with fail
      refine Calls.mono K3.out ?_
      rintro e w' ⟨rfl, rfl⟩
      go_wp2_with fail
      refine Calls.mono HA.out ?_
      rintro e X ⟨rfl, hX⟩
      have FN := hidden (HB.out.trans (hX.mono HB.out.size))
      clear hX
      go_wp2
      go_ret
      exact ⟨rfl, FN.out⟩

set_option maxRecDepth 100000 in
theorem contract (H : Type) (enc : TypeId × Value → H) (W : World) (base : Nat) (args : Array Value) (ds gs : List (DataW H)) (before : List MemPlace)
    (hval : ∀ (j : Nat) t v, Tryd.f5.params[j]? = some t → args[j]? = some v → Value.okWide Tryd.prog W .any base t v)
    (hW : DataW.Whole enc Tryd.prog Tryd.f5.params.toList Rows.inboxSecondSpec.vars false W args.toList ds gs before)
    (hsz0 : (DataW.weightsEach Tryd.prog (Tryd.f5.params.toList ++ Rows.inboxSecondSpec.plain.varTypes Tryd.prog) (ds ++ gs)).all (· ≤ reachBytes) = true)
    (hL : laidMetH Tryd.prog Rows.inboxSecondRow.laid W) :
    Calls Tryd.prog 5 args W fun e W' => ∃ v, e = .returned v ∧ Rows.inboxSecondSpec.post enc Tryd.prog Tryd.f5 false true false false W args v W' := by
  have hW' := hW
  obtain ⟨p, q, hA0, hV, rfl, hfz, hnd⟩ := hW
  have hA : DataW.TrodAll enc Tryd.prog W 0 (fun _ => true) true Tryd.f5.params.toList args.toList ds p := hA0
  have hsz := hsz0
  rw [Tryd.params5] at hA hval hsz
  obtain ⟨v0, vs0, d0, ds0, p0, q0, hargs, rfl, rfl, h0, r0⟩ := trodAll_cons hA
  obtain ⟨v1, vs1, d1, ds1, p1, q1, rfl, rfl, rfl, h1, r1⟩ := trodAll_cons r0
  obtain ⟨v2, vs2, d2, ds2, p2, q2, rfl, rfl, rfl, h2, r2⟩ := trodAll_cons r1
  obtain ⟨v3, vs3, d3, ds3, p3, q3, rfl, rfl, rfl, h3, r3⟩ := trodAll_cons r2
  obtain ⟨v4, vs4, d4, ds4, p4, q4, rfl, rfl, rfl, h4, r4⟩ := trodAll_cons r3
  obtain ⟨rfl, rfl, rfl⟩ := trodAll_nil r4
  obtain rfl : args = #[v0, v1, v2, v3, v4] := by cases args; simp_all
  obtain ⟨rfl, rfl⟩ := trodVars_none hV
  obtain ⟨a0, rfl, rfl, rfl, w0⟩ := open_int Tryd.underlying22 (hval 0 22 v0 rfl rfl) h0
  obtain ⟨a1, rfl, rfl, rfl, w1⟩ := open_int Tryd.underlying3 (hval 1 3 v1 rfl rfl) h1
  obtain ⟨a2, rfl, rfl, rfl⟩ := open_bool Tryd.underlying4 (hval 2 4 v2 rfl rfl) h2
  obtain ⟨a3, len3, cap3, rfl⟩ := okWide_slice Tryd.underlying23 (hval 3 23 v3 rfl rfl)
  have k3 := h3
  have lt3 : ∀ x ∈ p3, x.block < W.heap.size := by obtain ⟨m, hm⟩ := k3; exact DataW.trod_lt m _ _ _ hm
  have sz3 : (d3.weights Tryd.prog 23).all (· ≤ reachBytes) = true := List.all_eq_true.2 fun m hm => List.all_eq_true.1 hsz m (DataW.weights_mem_each (j := 3) rfl rfl m hm)
  obtain ⟨z3, w3⟩ : ∃ z3, Sp.Inb.Ops W a3 len3 z3 := by
    obtain ⟨fuel, hf⟩ := h3
    exact Sp.Inb.ops_arg hf sz3
  obtain ⟨a4, rfl, rfl, rfl, w4⟩ := open_int Tryd.underlying3 (hval 4 3 v4 rfl rfl) h4
  clear hA0 hsz0 hsz
  refine (walk a0 a1 a2 a3 len3 cap3 z3 a4 W w0 w1  w3 w4 (table hL)).mono fun e W' ⟨he, bel⟩ => ?_
  subst he
  exact ⟨_, rfl, _, _, _, [], _, [], hW', trodAll_mk1 (shut_bool Tryd.underlying4 _), (trodAll_cons_mk (shut_int Tryd.underlying22 w0) (trodAll_cons_mk (shut_int Tryd.underlying3 w1) (trodAll_cons_mk (shut_bool Tryd.underlying4 _) (trodAll_cons_mk (Below.trod laidOut (by kernel_rfl) (of_decide_eq_true (by kernel_rfl)) k3 bel lt3) (trodAll_cons_mk (shut_int Tryd.underlying3 w4) trodAll_mk0))))), rfl, bel.frame _, fun h => by cases h⟩

noncomputable def laidWorld (os : Os) : World :=
  { World.holding Tryd.prog os ⟨#[], #[], []⟩ with heap := (World.holding Tryd.prog os ⟨#[], #[], []⟩).heap.modify 0 fun
      | .cells _ t frozen => .cells #[.int .u8 0, .int .u8 1, .int .u8 56, .int .u8 2, .int .u8 57, .int .u8 49, .int .u8 28, .int .u8 3, .int .u8 61, .int .u8 58, .int .u8 42, .int .u8 50, .int .u8 38, .int .u8 29, .int .u8 17, .int .u8 4, .int .u8 62, .int .u8 47, .int .u8 59, .int .u8 36, .int .u8 45, .int .u8 43, .int .u8 51, .int .u8 22, .int .u8 53, .int .u8 39, .int .u8 33, .int .u8 30, .int .u8 24, .int .u8 18, .int .u8 12, .int .u8 5, .int .u8 63, .int .u8 55, .int .u8 48, .int .u8 27, .int .u8 60, .int .u8 41, .int .u8 37, .int .u8 16, .int .u8 46, .int .u8 35, .int .u8 44, .int .u8 21, .int .u8 52, .int .u8 32, .int .u8 23, .int .u8 11, .int .u8 54, .int .u8 26, .int .u8 40, .int .u8 15, .int .u8 34, .int .u8 20, .int .u8 31, .int .u8 10, .int .u8 25, .int .u8 14, .int .u8 19, .int .u8 9, .int .u8 13, .int .u8 8, .int .u8 7, .int .u8 6] t frozen
      | o => o }
theorem laid_met (os : Os) : laidMet Tryd.prog Rows.inboxSecondRow.laid ((laidWorld os).forCall (fun _ _ => 0) ⟨#[], #[.int .u32 0, .int .i64 0, .bool false, .slice none 0 0, .int .i64 0], []⟩).memory :=
  laidMet_of_run' 8 (by kernel_rfl) (by kernel_rfl)
theorem reads (os : Os) {H : Type} (enc : TypeId × Value → H) : ∃ places, DataW.whole enc Tryd.prog ((laidWorld os).forCall (fun _ _ => 0) ⟨#[], #[.int .u32 0, .int .i64 0, .bool false, .slice none 0 0, .int .i64 0], []⟩).memory Tryd.f5.params.toList Rows.inboxSecondSpec.vars false #[Value.int .u32 0, Value.int .i64 0, Value.bool false, Value.slice none 0 0, Value.int .i64 0].toList 8 = some ([.lit (.int .u32 0), .lit (.int .i64 0), .lit (.bool false), .nil, .lit (.int .i64 0)], [], places) :=
  ⟨[], by kernel_rfl⟩

set_option maxRecDepth 100000 in
theorem lifted (os : Os) (started : os.Started) (H : Type) (enc : TypeId × Value → H) (F : Stop.Interp) :
    ReturnsInHanded {} Tryd.checked os 5 .any ((OpenSpec.ofChange Rows.inboxSecondSpec).preRow enc Tryd.prog Tryd.f5 Rows.inboxSecondRow.domain false Rows.inboxSecondRow.laid) (((OpenSpec.ofChange Rows.inboxSecondSpec).at F).post enc Tryd.prog Tryd.f5 false true false false) := by
  obtain ⟨places, hx⟩ := reads os enc
  refine returnsInHanded_of_row (C := Tryd.checked) (s := OpenSpec.ofChange Rows.inboxSecondSpec) own started (by kernel_rfl) Tryd.func5
    (witness_row_at (enc := enc) (C := Tryd.checked) false (laidWorld os) #[.int .u32 0, .int .i64 0, .bool false, .slice none 0 0, .int .i64 0] rfl (by kernel_rfl) (by kernel_rfl) (by kernel_rfl)
      (OpenSpec.preRow_of_cond 8 hx (by kernel_rfl) (fun k hk => by cases hk) (by kernel_rfl) (laid_met os))) ?_
  intro W base args ds gs before hval hW _ hcond hsz hL _ _
  exact contract H enc W base args ds gs before hval hW hsz hL

theorem said : Rows.InboxSecondSaid :=
  OpenClaim.holds_of_cond 5 Tryd.f5 rfl rfl rfl rfl rfl rfl rfl ⟨rfl, rfl, rfl, rfl, rfl⟩ rfl rfl rfl rfl rfl (by kernel_rfl) Tryd.func5 (by kernel_rfl)
    (of_decide_eq_true (by kernel_rfl)) (by unfold Func.isWrapper; first | (rw [if_pos (by decide +kernel)]; kernel_rfl) | (rw [if_neg (by decide +kernel)]; exact ⟨rfl, rfl⟩))
    (fun os started H enc _ F => by rw [OpenClaim.pre_eq_preRow]; exact lifted os started H enc F)

theorem plain (f : FuncId) (fn : Func) (hf : Tryd.pinned.checked.prog.funcNamed "ropewalk/ropewalklaw19.InboxSecond" = some f) (hfn : Tryd.pinned.checked.prog.funcs[f]? = some fn) :
    false = Tryd.pinned.checked.prog.looks [] ∧ ∀ (j : Nat) t, fn.params[j]? = some t → Tryd.pinned.checked.prog.wantsStandIn t = false := by
  obtain rfl : f = 5 := Option.some.inj ((show Tryd.prog.funcNamed "ropewalk/ropewalklaw19.InboxSecond" = some 5 by kernel_rfl).symm.trans hf) |>.symm
  obtain rfl : fn = Tryd.f5 := (Option.some.inj (Tryd.func5.symm.trans hfn)).symm
  refine ⟨by kernel_rfl, fun j t ht => ?_⟩
  rw [Tryd.params5] at ht
  have hm : t ∈ [22, 3, 4, 23, 3] := by simpa using Array.mem_of_getElem? ht
  have hall : ∀ t ∈ [22, 3, 4, 23, 3], Tryd.prog.wantsStandIn t = false := by
    intro t ht
    simp only [List.mem_cons, List.not_mem_nil, or_false] at ht
    rcases ht with rfl | rfl | rfl | rfl | rfl <;> kernel_rfl
  exact hall t hm

/-- THE CARD -/
theorem proved : Rows.InboxSecondCardSaid :=
  Claim7.holds_tied_plain_at .later [] _ _ _ _ said (fun _ h => by cases h) (by kernel_rfl) (fun _ h => by cases h) inboxSecond_row_tie rfl ⟨rfl, rfl⟩ (by kernel_rfl) rfl plain (by kernel_rfl)
#print axioms proved
end Go.Proofs.YtdifceikfnnfeaaDoor.inboxSecond
