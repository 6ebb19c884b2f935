/-
  The law InboxNobody: a box that nobody made, nil or zero, answers nothing to any call, whatever is handed in. Conditions: none but what the card ties.
-/
import Derived.Test.YtdifceikfnnfeaaDoorCards
import Derived.Test.YtdifceikfnnfeaaDoorTie
import Derived.WalkKit
import Derived.ProofKit
import Derived.OpenShut
import Derived.ShutString
import Derived.ChangeOld
import Derived.Below
import Derived.SizedLaws
import Derived.Deep.DeepHandedRow
import Derived.Lib.LaidTab
import Derived.Test.YtdifceikfnnfeaaDoorInQ
import Derived.Test.YtdifceikfnnfeaaDoorInArgs
namespace Go.Proofs.YtdifceikfnnfeaaDoor.inboxNobody
open Go.ChangeShapes Go.WideShapes Go.ChangeAt Go.RowKit
set_option linter.unusedVariables false

theorem own : ownKnob Tryd.prog.godebug = none := by kernel_rfl
theorem laidOut : laidOutB Tryd.prog = true := by kernel_rfl
theorem gTab : Tryd.prog.globalNamed "math/bits.deBruijn64tab" = some 0 := by kernel_rfl
theorem gTabType : (Tryd.prog.globals[0]?).map (·.type) = some 120 := by kernel_rfl
theorem table {W : World} (h : laidMetH Tryd.prog Rows.inboxNobodyRow.laid W) : Sp.Tab W := fun i hi =>
  (show Lib.TabIs Tryd.prog W "math/bits.deBruijn64tab" .u8 Sp.tab64 from
    Lib.tabIs_of_head (rest := []) gTab gTabType Tryd.underlying120 Tryd.underlying5 (by kernel_rfl) (by kernel_rfl) h).cell gTab i hi

open Ba (hidden Has cell_lt heap_lt)

set_option maxRecDepth 20000 in
set_option maxHeartbeats 1000000 in
theorem walk (a0 : Int) (a1 : Int) (w : World) (w0 : (Lit.int .u32 a0).wf = true) (w1 : (Lit.int .i64 a1).wf = true) (ht : Sp.Tab w) :
    Calls Tryd.prog 7 #[.int .u32 a0, .int .i64 a1] w fun e w' => e = .returned (.bool true) ∧ Below w.heap.size w w' := by
  obtain ⟨W0, hW0⟩ : ∃ W0, (w.alloc (.cells #[.pointer none, .pointer none, .int .i64 0, .bool false, .slice none 0 0, .int .i64 0, .int .i64 0, .bool false] 81)).alloc (.cells #[.pointer none, .pointer (some ⟨w.heap.size, 0, none⟩)] 24) = W0 := ⟨_, rfl⟩
  have hO : Ow.Own w W0 [(w.heap.size + 1, #[.pointer none, .pointer (some ⟨w.heap.size, 0, none⟩)], 24), (w.heap.size, #[.pointer none, .pointer none, .int .i64 0, .bool false, .slice none 0 0, .int .i64 0, .int .i64 0, .bool false], 81)] := by
    have := ((Ow.Own.refl w).alloc #[.pointer none, .pointer none, .int .i64 0, .bool false, .slice none 0 0, .int .i64 0, .int .i64 0, .bool false] 81).alloc #[.pointer none, .pointer (some ⟨w.heap.size, 0, none⟩)] 24
    simp only [World.size_alloc] at this
    rw [← hW0]
    exact this
  have HO := hidden hO
  have AL := hidden (fun (X : World) (hX : Below w.heap.size w X) => Sp.Inb.alive X (ht.below hX (by have := cell_lt (ht 0 (by decide)); exact this)))
  clear hO ht
  go_enter Tryd.func7, Tryd.ntmps7
  go_wp2_with fail
  go_loopw [19] (fun i wr => ∃ k : Nat, k ≤ 2 ∧ i = .int .i64 (k : Int) ∧ Ow.Own w wr [(w.heap.size + 1, #[.pointer none, .pointer (some ⟨w.heap.size, 0, none⟩)], 24), (w.heap.size, #[.pointer none, .pointer none, .int .i64 0, .bool false, .slice none 0 0, .int .i64 0, .int .i64 0, .bool false], 81)]) (fun i wr => 2 - (intOf i).toNat)
  case atStart => exact ⟨0, by omega, rfl, HO.out⟩
  case round =>
    obtain ⟨k, hk, rfl, hO⟩ := hrel
    by_cases hlt : k < 2
    · obtain ⟨p, hcp, hU⟩ : ∃ p, wr.cell? ⟨w.heap.size + 1, k, none⟩ = some (.pointer p) ∧ Sp.Inb.Un wr p := by
        rcases (show k = 0 ∨ k = 1 by omega) with rfl | rfl
        · exact ⟨none, hO.cell (.head _) 0 rfl, .inl rfl⟩
        · exact ⟨_, hO.cell (.head _) 1 rfl, .inr ⟨_, rfl, hO.cell (.tail _ (.head _)) 0 rfl⟩⟩
      have UN := hidden (fun (X : World) (hX : Below wr.heap.size wr X) => hU.later hX)
      have HOr := hidden (fun (X : World) (hX : Below wr.heap.size wr X) => hO.later hX)
      have hlt' : (k : Int) < 2 := by omega
      clear hU hO
      go_wp2_with fail
      refine Calls.mono (Sp.Inb.n_come (UN.out _ (Below.refl _ _)) _) ?_
      rintro e w' ⟨rfl, rfl⟩
      go_wp2_with fail
      refine Calls.mono (Sp.Inb.n_report (UN.out _ (Below.refl _ _)) _ _) ?_
      rintro e X1 ⟨rfl, hB1⟩
      have hX := (Ow.Own.refl X1).alloc Sp.Inb.zch 46
      have F2 := hidden (Sp.Inb.store_ch (kind := 0) (c := 0) (win := 0) (a1 := none) (a2 := none) (a3 := none) (n1 := 0) (n2 := 0) (n3 := 0) (k1 := 0) (k2 := 0) (k3 := 0) (hX.has (.head _)))
      have hY := hX.row (Sp.Inb.chv 0 0 0 (.slice none 0 0) (.slice none 0 0) (.slice none 0 0)) (by simp)
      obtain ⟨Y, eY⟩ : ∃ Y, (X1.alloc (.cells Sp.Inb.zch 46)).setRow X1.heap.size (Sp.Inb.chv 0 0 0 (.slice none 0 0) (.slice none 0 0) (.slice none 0 0)) = Y := ⟨_, rfl⟩
      rw [eY] at hY F2
      have HBY := hidden (hB1.trans (hY.below.mono hB1.size))
      clear hX hY eY hB1
      go_wp2_with (first | (refine Sp.Inb.wpList_stA rfl 46 _ _ rfl rfl rfl rfl F2.out ?_) | fail)
      refine Calls.mono (Sp.Inb.n_due (UN.out _ HBY.out)) ?_
      rintro e w' ⟨rfl, rfl⟩
      go_wp2_with fail
      refine Calls.mono (Sp.Inb.n_heard (UN.out _ HBY.out) _) ?_
      rintro e w' ⟨rfl, rfl⟩
      go_wp2_with fail
      refine Calls.mono (Sp.Inb.n_drop (UN.out _ HBY.out) _) ?_
      rintro e w' ⟨rfl, rfl⟩
      go_wp2_with fail
      refine Calls.mono (Sp.Inb.n_has (UN.out _ HBY.out) _) ?_
      rintro e w' ⟨rfl, rfl⟩
      go_wp2_with fail
      refine Calls.mono (Sp.Inb.n_cum (UN.out _ HBY.out)) ?_
      rintro e w' ⟨rfl, rfl⟩
      have HBZ := hidden (HBY.out.trans ((Sp.Inb.below_new Y (.cells #[.int .u32 a0] 22)).mono HBY.out.size))
      go_wp2_with fail
      refine Calls.mono (Sp.Inb.n_fix (UN.out _ HBZ.out) _) ?_
      rintro e w' ⟨rfl, rfl⟩
      obtain ⟨Z, hZ⟩ : ∃ Z, Y.alloc (.cells #[.int .u32 a0] 22) = Z := ⟨_, rfl⟩
      rw [hZ] at HBZ ⊢
      clear hZ
      go_wp2_with fail
      refine Calls.mono (Sp.Inb.n_above (UN.out _ HBZ.out)) ?_
      rintro e w' ⟨rfl, rfl⟩
      go_wp2_with fail
      refine Calls.mono (Sp.Inb.n_fixed (UN.out _ HBZ.out)) ?_
      rintro e w' ⟨rfl, rfl⟩
      go_wp2_with fail
      refine Calls.mono (Sp.Inb.n_dups (UN.out _ HBZ.out)) ?_
      rintro e w' ⟨rfl, rfl⟩
      go_wp2
      go_roundw
      case rel => exact ⟨k + 1, hlt, rfl, HOr.out _ HBZ.out⟩
      case measure => simp only [intOf]; omega
    · obtain rfl : k = 2 := by omega
      have HB := hidden hO.below
      clear hO
      go_wp2_with fail
      refine Calls.mono (AL.out _ HB.out) ?_
      rintro e X ⟨rfl, hX⟩
      have FN := hidden (HB.out.trans (hX.mono HB.out.size))
      clear hX
      go_wp2
      go_ret
      exact ⟨rfl, FN.out⟩

set_option maxRecDepth 100000 in
theorem contract (H : Type) (enc : TypeId × Value → H) (W : World) (base : Nat) (args : Array Value) (ds gs : List (DataW H)) (before : List MemPlace)
    (hval : ∀ (j : Nat) t v, Tryd.f7.params[j]? = some t → args[j]? = some v → Value.okWide Tryd.prog W .any base t v)
    (hW : DataW.Whole enc Tryd.prog Tryd.f7.params.toList Rows.inboxNobodySpec.vars false W args.toList ds gs before)
    (hsz0 : (DataW.weightsEach Tryd.prog (Tryd.f7.params.toList ++ Rows.inboxNobodySpec.plain.varTypes Tryd.prog) (ds ++ gs)).all (· ≤ reachBytes) = true)
    (hL : laidMetH Tryd.prog Rows.inboxNobodyRow.laid W) :
    Calls Tryd.prog 7 args W fun e W' => ∃ v, e = .returned v ∧ Rows.inboxNobodySpec.post enc Tryd.prog Tryd.f7 false true false false W args v W' := by
  have hW' := hW
  obtain ⟨p, q, hA0, hV, rfl, hfz, hnd⟩ := hW
  have hA : DataW.TrodAll enc Tryd.prog W 0 (fun _ => true) true Tryd.f7.params.toList args.toList ds p := hA0
  have hsz := hsz0
  rw [Tryd.params7] at hA hval hsz
  obtain ⟨v0, vs0, d0, ds0, p0, q0, hargs, rfl, rfl, h0, r0⟩ := trodAll_cons hA
  obtain ⟨v1, vs1, d1, ds1, p1, q1, rfl, rfl, rfl, h1, r1⟩ := trodAll_cons r0
  obtain ⟨rfl, rfl, rfl⟩ := trodAll_nil r1
  obtain rfl : args = #[v0, v1] := by cases args; simp_all
  obtain ⟨rfl, rfl⟩ := trodVars_none hV
  obtain ⟨a0, rfl, rfl, rfl, w0⟩ := open_int Tryd.underlying22 (hval 0 22 v0 rfl rfl) h0
  obtain ⟨a1, rfl, rfl, rfl, w1⟩ := open_int Tryd.underlying3 (hval 1 3 v1 rfl rfl) h1
  clear hA0 hsz0 hsz
  refine (walk a0 a1 W w0 w1 (table hL)).mono fun e W' ⟨he, bel⟩ => ?_
  subst he
  exact ⟨_, rfl, _, _, _, [], _, [], hW', trodAll_mk1 (shut_bool Tryd.underlying4 _), (trodAll_cons_mk (shut_int Tryd.underlying22 w0) (trodAll_cons_mk (shut_int Tryd.underlying3 w1) trodAll_mk0)), rfl, bel.frame _, fun h => by cases h⟩

noncomputable def laidWorld (os : Os) : World :=
  { World.holding Tryd.prog os ⟨#[], #[], []⟩ with heap := (World.holding Tryd.prog os ⟨#[], #[], []⟩).heap.modify 0 fun
      | .cells _ t frozen => .cells #[.int .u8 0, .int .u8 1, .int .u8 56, .int .u8 2, .int .u8 57, .int .u8 49, .int .u8 28, .int .u8 3, .int .u8 61, .int .u8 58, .int .u8 42, .int .u8 50, .int .u8 38, .int .u8 29, .int .u8 17, .int .u8 4, .int .u8 62, .int .u8 47, .int .u8 59, .int .u8 36, .int .u8 45, .int .u8 43, .int .u8 51, .int .u8 22, .int .u8 53, .int .u8 39, .int .u8 33, .int .u8 30, .int .u8 24, .int .u8 18, .int .u8 12, .int .u8 5, .int .u8 63, .int .u8 55, .int .u8 48, .int .u8 27, .int .u8 60, .int .u8 41, .int .u8 37, .int .u8 16, .int .u8 46, .int .u8 35, .int .u8 44, .int .u8 21, .int .u8 52, .int .u8 32, .int .u8 23, .int .u8 11, .int .u8 54, .int .u8 26, .int .u8 40, .int .u8 15, .int .u8 34, .int .u8 20, .int .u8 31, .int .u8 10, .int .u8 25, .int .u8 14, .int .u8 19, .int .u8 9, .int .u8 13, .int .u8 8, .int .u8 7, .int .u8 6] t frozen
      | o => o }
theorem laid_met (os : Os) : laidMet Tryd.prog Rows.inboxNobodyRow.laid ((laidWorld os).forCall (fun _ _ => 0) ⟨#[], #[.int .u32 0, .int .i64 0], []⟩).memory :=
  laidMet_of_run' 8 (by kernel_rfl) (by kernel_rfl)
theorem reads (os : Os) {H : Type} (enc : TypeId × Value → H) : ∃ places, DataW.whole enc Tryd.prog ((laidWorld os).forCall (fun _ _ => 0) ⟨#[], #[.int .u32 0, .int .i64 0], []⟩).memory Tryd.f7.params.toList Rows.inboxNobodySpec.vars false #[Value.int .u32 0, Value.int .i64 0].toList 8 = some ([.lit (.int .u32 0), .lit (.int .i64 0)], [], places) :=
  ⟨[], by kernel_rfl⟩

set_option maxRecDepth 100000 in
theorem lifted (os : Os) (started : os.Started) (H : Type) (enc : TypeId × Value → H) (F : Stop.Interp) :
    ReturnsInHanded {} Tryd.checked os 7 .any ((OpenSpec.ofChange Rows.inboxNobodySpec).preRow enc Tryd.prog Tryd.f7 Rows.inboxNobodyRow.domain false Rows.inboxNobodyRow.laid) (((OpenSpec.ofChange Rows.inboxNobodySpec).at F).post enc Tryd.prog Tryd.f7 false true false false) := by
  obtain ⟨places, hx⟩ := reads os enc
  refine returnsInHanded_of_row (C := Tryd.checked) (s := OpenSpec.ofChange Rows.inboxNobodySpec) own started (by kernel_rfl) Tryd.func7
    (witness_row_at (enc := enc) (C := Tryd.checked) false (laidWorld os) #[.int .u32 0, .int .i64 0] rfl (by kernel_rfl) (by kernel_rfl) (by kernel_rfl)
      (OpenSpec.preRow_of_cond 8 hx (by kernel_rfl) (fun k hk => by cases hk) (by kernel_rfl) (laid_met os))) ?_
  intro W base args ds gs before hval hW _ hcond hsz hL _ _
  exact contract H enc W base args ds gs before hval hW hsz hL

theorem said : Rows.InboxNobodySaid :=
  OpenClaim.holds_of_cond 7 Tryd.f7 rfl rfl rfl rfl rfl rfl rfl ⟨rfl, rfl, rfl, rfl, rfl⟩ rfl rfl rfl rfl rfl (by kernel_rfl) Tryd.func7 (by kernel_rfl)
    (of_decide_eq_true (by kernel_rfl)) (by unfold Func.isWrapper; first | (rw [if_pos (by decide +kernel)]; kernel_rfl) | (rw [if_neg (by decide +kernel)]; exact ⟨rfl, rfl⟩))
    (fun os started H enc _ F => by rw [OpenClaim.pre_eq_preRow]; exact lifted os started H enc F)

theorem plain (f : FuncId) (fn : Func) (hf : Tryd.pinned.checked.prog.funcNamed "ropewalk/ropewalklaw19.InboxNobody" = some f) (hfn : Tryd.pinned.checked.prog.funcs[f]? = some fn) :
    false = Tryd.pinned.checked.prog.looks [] ∧ ∀ (j : Nat) t, fn.params[j]? = some t → Tryd.pinned.checked.prog.wantsStandIn t = false := by
  obtain rfl : f = 7 := Option.some.inj ((show Tryd.prog.funcNamed "ropewalk/ropewalklaw19.InboxNobody" = some 7 by kernel_rfl).symm.trans hf) |>.symm
  obtain rfl : fn = Tryd.f7 := (Option.some.inj (Tryd.func7.symm.trans hfn)).symm
  refine ⟨by kernel_rfl, fun j t ht => ?_⟩
  rw [Tryd.params7] at ht
  have hm : t ∈ [22, 3] := by simpa using Array.mem_of_getElem? ht
  have hall : ∀ t ∈ [22, 3], Tryd.prog.wantsStandIn t = false := by
    intro t ht
    simp only [List.mem_cons, List.not_mem_nil, or_false] at ht
    rcases ht with rfl | rfl <;> kernel_rfl
  exact hall t hm

/-- THE CARD -/
theorem proved : Rows.InboxNobodyCardSaid :=
  Claim7.holds_tied_plain_at .later [] _ _ _ _ said (fun _ h => by cases h) (by kernel_rfl) (fun _ h => by cases h) inboxNobody_row_tie rfl ⟨rfl, rfl⟩ (by kernel_rfl) rfl plain (by kernel_rfl)
#print axioms proved
end Go.Proofs.YtdifceikfnnfeaaDoor.inboxNobody
