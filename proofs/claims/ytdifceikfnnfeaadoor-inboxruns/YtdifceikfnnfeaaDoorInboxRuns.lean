/-
  The law InboxRuns: the box and the document's box, made alike and taken through a row of acts, answer and report alike behind each act. Conditions: none but what the card ties.
-/
import Derived.Test.YtdifceikfnnfeaaDoorCards
import Derived.Test.YtdifceikfnnfeaaDoorTie
import Derived.WalkKit
import Derived.ProofKit
import Derived.OpenShut
import Derived.ShutString
import Derived.ChangeOld
import Derived.Below
import Derived.SizedLaws
import Derived.Deep.DeepHandedRow
import Derived.Lib.LaidTab
import Derived.Test.YtdifceikfnnfeaaDoorInS
import Derived.Test.YtdifceikfnnfeaaDoorInArgs
namespace Go.Proofs.YtdifceikfnnfeaaDoor.inboxRuns
open Go.ChangeShapes Go.WideShapes Go.ChangeAt Go.RowKit
set_option linter.unusedVariables false

theorem own : ownKnob Tryd.prog.godebug = none := by kernel_rfl
theorem laidOut : laidOutB Tryd.prog = true := by kernel_rfl
theorem gTab : Tryd.prog.globalNamed "math/bits.deBruijn64tab" = some 0 := by kernel_rfl
theorem gTabType : (Tryd.prog.globals[0]?).map (·.type) = some 120 := by kernel_rfl
theorem table {W : World} (h : laidMetH Tryd.prog Rows.inboxRunsRow.laid W) : Sp.Tab W := fun i hi =>
  (show Lib.TabIs Tryd.prog W "math/bits.deBruijn64tab" .u8 Sp.tab64 from
    Lib.tabIs_of_head (rest := []) gTab gTabType Tryd.underlying120 Tryd.underlying5 (by kernel_rfl) (by kernel_rfl) h).cell gTab i hi

open Ba (hidden Has cell_lt heap_lt)

set_option maxRecDepth 20000 in
set_option maxHeartbeats 1000000 in
theorem walk (a0 : Int) (a1 : Int) (a2 : Bool) (a3 : Option Addr) (len3 cap3 : Nat) (z3 : List Sp.Inb.OA) (w : World) (w0 : (Lit.int .u32 a0).wf = true) (w1 : (Lit.int .i64 a1).wf = true)  (w3 : Sp.Inb.Ops w a3 len3 z3) (ht : Sp.Tab w) :
    Calls Tryd.prog 3 #[.int .u32 a0, .int .i64 a1, .bool a2, .slice a3 len3 cap3] w fun e w' => e = .returned (.bool true) ∧ Below w.heap.size w w' := by
  have AL := hidden (fun (X : World) (hX : Below w.heap.size w X) => Sp.Inb.alive X (ht.below hX (by have := cell_lt (ht 0 (by decide)); exact this)))
  have hb0 := Ser.b32 w0
  obtain ⟨f0, rfl⟩ := Int.eq_ofNat_of_zero_le hb0.1
  have hf0 : f0 < 4294967296 := by omega
  have hn0 : 0 < w.heap.size := by have := cell_lt (ht 0 (by decide)); exact this
  have NB := hidden (Sp.Inb.new_box f0 hf0 a1 a2 w ht)
  have NR := hidden (fun (w1 : World) (h : w.heap.size ≤ w1.heap.size) => Sp.Inb.r_new f0 hf0 a1 a2 w1 (by omega))
  have BT := hidden (fun (w1 w2 : World) (b bc bf r bs : Nat) hd h1 m1 h2 m2 => Sp.Inb.both (w := w) (w1 := w1) (w2 := w2) (b := b) (bc := bc) (bf := bf) (r := r) (bs := bs) hf0 a1 a2 hd h1 m1 h2 m2)
  have HZ := hidden w3
  have hnb := w3.2.2.1
  clear ht hb0 hn0 w3
  generalize hfI : ((f0 : Nat) : Int) = fI at *
  go_enter Tryd.func3, Tryd.ntmps3
  go_wp2_with fail
  refine Calls.mono NB.out ?_
  rintro e w1 (⟨hno, rfl, rfl⟩ | ⟨hd, b, bc, bf, rfl, hC1, hB1⟩)
  · go_wp2_with fail
    refine Calls.mono (NR.out _ (Nat.le_refl _)) ?_
    rintro e w2 (⟨_, rfl, rfl⟩ | ⟨hd, _⟩)
    · have HA := hidden (AL.out w (Below.refl _ _))
      go_wp2_with fail
      refine Calls.mono HA.out ?_
      rintro e X ⟨rfl, hX⟩
      have FN := hidden hX
      clear hX
      go_wp2
      go_ret
      exact ⟨rfl, FN.out⟩
    · exact absurd hd hno
  · have HC1 := hidden hC1
    have HB1 := hidden hB1
    clear hC1 hB1
    go_wp2_with fail
    refine Calls.mono (NR.out _ HB1.out.size) ?_
    rintro e w2 (⟨hno, _⟩ | ⟨_, r, bs, rfl, hR2, hB2⟩)
    · exact absurd hd hno
    have AF := hidden (BT.out _ _ _ _ _ _ _ hd HC1.out HB1.out hR2 hB2)
    clear hR2 hB2
    go_wp2_with fail
    go_loopw [13] (fun i wr => ∃ k : Nat, k ≤ min len3 200 ∧ i = .int .i64 (k : Int) ∧ Hid (Sp.Inb.After w.heap.size w wr b bc bf r bs k (Sp.Inb.runS (z3.take k) (Sp.Inb.newS fI a1 a2)))) (fun i wr => 200 - (intOf i).toNat)
    case atStart => exact ⟨0, by omega, rfl, AF⟩
    case round =>
      obtain ⟨k, hk, rfl, hA⟩ := hrel
      by_cases hlt : k < min len3 200
      · have h1 : (k : Int) < (len3 : Int) := by omega
        have h2 : (k : Int) < 200 := by omega
        have hA0 := hA.out
        obtain ⟨v, fx, dp, P, hX, hB⟩ := hA0
        obtain ⟨bb, off, z, rfl, hzk, c0, c1, c2, hrow⟩ := HZ.out.at hB (j := k) (by omega)
        have AC := hidden (Sp.Inb.act hX (by omega) z hrow)
        have LD := hidden (Sp.Inb.ld_op z.a z.m z.cap c0 c1 c2)
        have ST := hidden (fun (x : World) (h : Sp.Inb.After w.heap.size wr x b bc bf r bs (k + 1) (Sp.Inb.actS z (Sp.Inb.runS (z3.take k) (Sp.Inb.newS fI a1 a2)))) => (by
          obtain ⟨v, fx, dp, P, hX, hB2⟩ := h
          rw [Sp.Inb.runS_take hzk]
          exact ⟨⟨v, fx, dp, P, hX, hB.trans hB2⟩, (Sp.Inb.same hX).mono fun e w' k => ⟨k.1, v, fx, dp, P, hX.later k.2, (hB.trans hB2).trans (k.2.mono (hX.cd.hn))⟩⟩ : Sp.Inb.After w.heap.size w x b bc bf r bs (k + 1) (Sp.Inb.runS (z3.take (k + 1)) (Sp.Inb.newS fI a1 a2)) ∧ Calls Tryd.prog 12 #[.pointer (some ⟨b, 0, none⟩), .pointer (some ⟨r, 0, none⟩)] x fun e w' => e = .returned (.bool true) ∧ Sp.Inb.After w.heap.size w w' b bc bf r bs (k + 1) (Sp.Inb.runS (z3.take (k + 1)) (Sp.Inb.newS fI a1 a2))))
        clear hX hB c0 c1 c2 hrow hA
        have hlk : k < len3 := by omega
        go_wp2_with (first | (refine Sp.Inb.wpList_ldA rfl 35 _ rfl rfl LD.out ?_) | fail)
        refine Calls.mono AC.out ?_
        rintro e x ⟨rfl, hx⟩
        have SM := hidden (ST.out x hx).2
        clear hx
        go_wp2_with fail
        refine Calls.mono SM.out ?_
        rintro e x2 ⟨rfl, hx2⟩
        have FN := hidden hx2
        clear hx2
        go_wp2
        go_roundw
        case rel => exact ⟨k + 1, by omega, rfl, FN⟩
        case measure => simp only [intOf]; omega
      · have hA0 := hA.out
        obtain ⟨v, fx, dp, P, hX, hB⟩ := hA0
        have SM := hidden (Sp.Inb.same hX)
        have BL := hidden (fun (x : World) (h : Below wr.heap.size wr x) => hB.trans (h.mono hX.cd.hn))
        clear hX hB hA
        have FX := hidden (fun (x : World) (h : Below wr.heap.size wr x) => AL.out x (BL.out x h))
        by_cases hn2 : k < len3
        · have h1 : (k : Int) < (len3 : Int) := by omega
          have h2 : ¬ (k : Int) < 200 := by omega
          go_wp2_with fail
          refine Calls.mono SM.out ?_
          rintro e x ⟨rfl, hx⟩
          have KA := hidden (FX.out x hx)
          have BX := hidden (BL.out x hx)
          clear hx
          go_wp2_with fail
          refine Calls.mono KA.out ?_
          rintro e y ⟨rfl, hy⟩
          have FN := hidden (BX.out.trans (hy.mono BX.out.size))
          clear hy
          go_wp2
          go_ret
          exact ⟨rfl, FN.out⟩
        · have h1 : ¬ (k : Int) < (len3 : Int) := by omega
          go_wp2_with fail
          refine Calls.mono SM.out ?_
          rintro e x ⟨rfl, hx⟩
          have KA := hidden (FX.out x hx)
          have BX := hidden (BL.out x hx)
          clear hx
          go_wp2_with fail
          refine Calls.mono KA.out ?_
          rintro e y ⟨rfl, hy⟩
          have FN := hidden (BX.out.trans (hy.mono BX.out.size))
          clear hy
          go_wp2
          go_ret
          exact ⟨rfl, FN.out⟩

set_option maxRecDepth 100000 in
theorem contract (H : Type) (enc : TypeId × Value → H) (W : World) (base : Nat) (args : Array Value) (ds gs : List (DataW H)) (before : List MemPlace)
    (hval : ∀ (j : Nat) t v, Tryd.f3.params[j]? = some t → args[j]? = some v → Value.okWide Tryd.prog W .any base t v)
    (hW : DataW.Whole enc Tryd.prog Tryd.f3.params.toList Rows.inboxRunsSpec.vars false W args.toList ds gs before)
    (hsz0 : (DataW.weightsEach Tryd.prog (Tryd.f3.params.toList ++ Rows.inboxRunsSpec.plain.varTypes Tryd.prog) (ds ++ gs)).all (· ≤ reachBytes) = true)
    (hL : laidMetH Tryd.prog Rows.inboxRunsRow.laid W) :
    Calls Tryd.prog 3 args W fun e W' => ∃ v, e = .returned v ∧ Rows.inboxRunsSpec.post enc Tryd.prog Tryd.f3 false true false false W args v W' := by
  have hW' := hW
  obtain ⟨p, q, hA0, hV, rfl, hfz, hnd⟩ := hW
  have hA : DataW.TrodAll enc Tryd.prog W 0 (fun _ => true) true Tryd.f3.params.toList args.toList ds p := hA0
  have hsz := hsz0
  rw [Tryd.params3] at hA hval hsz
  obtain ⟨v0, vs0, d0, ds0, p0, q0, hargs, rfl, rfl, h0, r0⟩ := trodAll_cons hA
  obtain ⟨v1, vs1, d1, ds1, p1, q1, rfl, rfl, rfl, h1, r1⟩ := trodAll_cons r0
  obtain ⟨v2, vs2, d2, ds2, p2, q2, rfl, rfl, rfl, h2, r2⟩ := trodAll_cons r1
  obtain ⟨v3, vs3, d3, ds3, p3, q3, rfl, rfl, rfl, h3, r3⟩ := trodAll_cons r2
  obtain ⟨rfl, rfl, rfl⟩ := trodAll_nil r3
  obtain rfl : args = #[v0, v1, v2, v3] := by cases args; simp_all
  obtain ⟨rfl, rfl⟩ := trodVars_none hV
  obtain ⟨a0, rfl, rfl, rfl, w0⟩ := open_int Tryd.underlying22 (hval 0 22 v0 rfl rfl) h0
  obtain ⟨a1, rfl, rfl, rfl, w1⟩ := open_int Tryd.underlying3 (hval 1 3 v1 rfl rfl) h1
  obtain ⟨a2, rfl, rfl, rfl⟩ := open_bool Tryd.underlying4 (hval 2 4 v2 rfl rfl) h2
  obtain ⟨a3, len3, cap3, rfl⟩ := okWide_slice Tryd.underlying23 (hval 3 23 v3 rfl rfl)
  have k3 := h3
  have lt3 : ∀ x ∈ p3, x.block < W.heap.size := by obtain ⟨m, hm⟩ := k3; exact DataW.trod_lt m _ _ _ hm
  have sz3 : (d3.weights Tryd.prog 23).all (· ≤ reachBytes) = true := List.all_eq_true.2 fun m hm => List.all_eq_true.1 hsz m (DataW.weights_mem_each (j := 3) rfl rfl m hm)
  obtain ⟨z3, w3⟩ : ∃ z3, Sp.Inb.Ops W a3 len3 z3 := by
    obtain ⟨fuel, hf⟩ := h3
    exact Sp.Inb.ops_arg hf sz3
  clear hA0 hsz0 hsz
  refine (walk a0 a1 a2 a3 len3 cap3 z3 W w0 w1  w3 (table hL)).mono fun e W' ⟨he, bel⟩ => ?_
  subst he
  exact ⟨_, rfl, _, _, _, [], _, [], hW', trodAll_mk1 (shut_bool Tryd.underlying4 _), (trodAll_cons_mk (shut_int Tryd.underlying22 w0) (trodAll_cons_mk (shut_int Tryd.underlying3 w1) (trodAll_cons_mk (shut_bool Tryd.underlying4 _) (trodAll_cons_mk (Below.trod laidOut (by kernel_rfl) (of_decide_eq_true (by kernel_rfl)) k3 bel lt3) trodAll_mk0)))), rfl, bel.frame _, fun h => by cases h⟩

noncomputable def laidWorld (os : Os) : World :=
  { World.holding Tryd.prog os ⟨#[], #[], []⟩ with heap := (World.holding Tryd.prog os ⟨#[], #[], []⟩).heap.modify 0 fun
      | .cells _ t frozen => .cells #[.int .u8 0, .int .u8 1, .int .u8 56, .int .u8 2, .int .u8 57, .int .u8 49, .int .u8 28, .int .u8 3, .int .u8 61, .int .u8 58, .int .u8 42, .int .u8 50, .int .u8 38, .int .u8 29, .int .u8 17, .int .u8 4, .int .u8 62, .int .u8 47, .int .u8 59, .int .u8 36, .int .u8 45, .int .u8 43, .int .u8 51, .int .u8 22, .int .u8 53, .int .u8 39, .int .u8 33, .int .u8 30, .int .u8 24, .int .u8 18, .int .u8 12, .int .u8 5, .int .u8 63, .int .u8 55, .int .u8 48, .int .u8 27, .int .u8 60, .int .u8 41, .int .u8 37, .int .u8 16, .int .u8 46, .int .u8 35, .int .u8 44, .int .u8 21, .int .u8 52, .int .u8 32, .int .u8 23, .int .u8 11, .int .u8 54, .int .u8 26, .int .u8 40, .int .u8 15, .int .u8 34, .int .u8 20, .int .u8 31, .int .u8 10, .int .u8 25, .int .u8 14, .int .u8 19, .int .u8 9, .int .u8 13, .int .u8 8, .int .u8 7, .int .u8 6] t frozen
      | o => o }
theorem laid_met (os : Os) : laidMet Tryd.prog Rows.inboxRunsRow.laid ((laidWorld os).forCall (fun _ _ => 0) ⟨#[], #[.int .u32 0, .int .i64 0, .bool false, .slice none 0 0], []⟩).memory :=
  laidMet_of_run' 8 (by kernel_rfl) (by kernel_rfl)
theorem reads (os : Os) {H : Type} (enc : TypeId × Value → H) : ∃ places, DataW.whole enc Tryd.prog ((laidWorld os).forCall (fun _ _ => 0) ⟨#[], #[.int .u32 0, .int .i64 0, .bool false, .slice none 0 0], []⟩).memory Tryd.f3.params.toList Rows.inboxRunsSpec.vars false #[Value.int .u32 0, Value.int .i64 0, Value.bool false, Value.slice none 0 0].toList 8 = some ([.lit (.int .u32 0), .lit (.int .i64 0), .lit (.bool false), .nil], [], places) :=
  ⟨[], by kernel_rfl⟩

set_option maxRecDepth 100000 in
theorem lifted (os : Os) (started : os.Started) (H : Type) (enc : TypeId × Value → H) (F : Stop.Interp) :
    ReturnsInHanded {} Tryd.checked os 3 .any ((OpenSpec.ofChange Rows.inboxRunsSpec).preRow enc Tryd.prog Tryd.f3 Rows.inboxRunsRow.domain false Rows.inboxRunsRow.laid) (((OpenSpec.ofChange Rows.inboxRunsSpec).at F).post enc Tryd.prog Tryd.f3 false true false false) := by
  obtain ⟨places, hx⟩ := reads os enc
  refine returnsInHanded_of_row (C := Tryd.checked) (s := OpenSpec.ofChange Rows.inboxRunsSpec) own started (by kernel_rfl) Tryd.func3
    (witness_row_at (enc := enc) (C := Tryd.checked) false (laidWorld os) #[.int .u32 0, .int .i64 0, .bool false, .slice none 0 0] rfl (by kernel_rfl) (by kernel_rfl) (by kernel_rfl)
      (OpenSpec.preRow_of_cond 8 hx (by kernel_rfl) (fun k hk => by cases hk) (by kernel_rfl) (laid_met os))) ?_
  intro W base args ds gs before hval hW _ hcond hsz hL _ _
  exact contract H enc W base args ds gs before hval hW hsz hL

theorem said : Rows.InboxRunsSaid :=
  OpenClaim.holds_of_cond 3 Tryd.f3 rfl rfl rfl rfl rfl rfl rfl ⟨rfl, rfl, rfl, rfl, rfl⟩ rfl rfl rfl rfl rfl (by kernel_rfl) Tryd.func3 (by kernel_rfl)
    (of_decide_eq_true (by kernel_rfl)) (by unfold Func.isWrapper; first | (rw [if_pos (by decide +kernel)]; kernel_rfl) | (rw [if_neg (by decide +kernel)]; exact ⟨rfl, rfl⟩))
    (fun os started H enc _ F => by rw [OpenClaim.pre_eq_preRow]; exact lifted os started H enc F)

theorem plain (f : FuncId) (fn : Func) (hf : Tryd.pinned.checked.prog.funcNamed "ropewalk/ropewalklaw19.InboxRuns" = some f) (hfn : Tryd.pinned.checked.prog.funcs[f]? = some fn) :
    false = Tryd.pinned.checked.prog.looks [] ∧ ∀ (j : Nat) t, fn.params[j]? = some t → Tryd.pinned.checked.prog.wantsStandIn t = false := by
  obtain rfl : f = 3 := Option.some.inj ((show Tryd.prog.funcNamed "ropewalk/ropewalklaw19.InboxRuns" = some 3 by kernel_rfl).symm.trans hf) |>.symm
  obtain rfl : fn = Tryd.f3 := (Option.some.inj (Tryd.func3.symm.trans hfn)).symm
  refine ⟨by kernel_rfl, fun j t ht => ?_⟩
  rw [Tryd.params3] at ht
  have hm : t ∈ [22, 3, 4, 23] := by simpa using Array.mem_of_getElem? ht
  have hall : ∀ t ∈ [22, 3, 4, 23], Tryd.prog.wantsStandIn t = false := by
    intro t ht
    simp only [List.mem_cons, List.not_mem_nil, or_false] at ht
    rcases ht with rfl | rfl | rfl | rfl <;> kernel_rfl
  exact hall t hm

/-- THE CARD -/
theorem proved : Rows.InboxRunsCardSaid :=
  Claim7.holds_tied_plain_at .later [] _ _ _ _ said (fun _ h => by cases h) (by kernel_rfl) (fun _ h => by cases h) inboxRuns_row_tie rfl ⟨rfl, rfl⟩ (by kernel_rfl) rfl plain (by kernel_rfl)
#print axioms proved
end Go.Proofs.YtdifceikfnnfeaaDoor.inboxRuns
