/-
  What ChunkSames says of two chunks is true: which chunks are the same, as package chunk and the document tell it. Conditions: the chunks and all that they hold lie in memory, as whatever is handed in does.
-/
import Derived.Test.YtifdkpifambhaaaRows
import Derived.WalkKit
import Derived.ProofKit
import Derived.OpenShut
import Derived.ShutString
import Derived.ChangeOld
import Derived.Below
import Derived.SizedLaws
import Derived.Deep.DeepHandedRow
import Derived.LaidLaws
import Derived.ChangeMaps5
import Derived.Test.YtifdkpifambhaaaChArgs
namespace Go.Proofs.Ytifdkpifambhaaa.chunkSames
open Go.ChangeShapes Go.WideShapes Go.ChangeAt Go.RowKit
open Go.ChangeMaps (open_string shut_string)
set_option linter.unusedVariables false

theorem own : ownKnob Try.prog.godebug = none := by kernel_rfl
theorem laidOut : laidOutB Try.prog = true := by kernel_rfl

open Par (hidden)
attribute [local go_sem ↓] Chu.execOp_ld Chu.execOp_bx Chu.execOp_st
attribute [local go_sem] Chu.run_box
section
variable {a : Act} {o : Oper} {w : World}
theorem e_same {u0 u1 : Value} (x0 x1 : Operand) (h0 : a.eval x0 = u0) (h1 : a.eval x1 = u1) (ho : o.op = .call { callee := .value (.func 22), args := #[x0, x1], argTypes := #[37, 37] }) : (execOp a.eval o).run Try.prog w = .ok (.enter 22 #[u0, u1]) w := by
  unfold execOp
  rw [ho]
  go_simp
  exact ⟨by cases x0 <;> simpa [Act.eval] using h0, by cases x1 <;> simpa [Act.eval] using h1⟩
theorem e_rsame {u0 u1 : Value} (x0 x1 : Operand) (h0 : a.eval x0 = u0) (h1 : a.eval x1 = u1) (ho : o.op = .call { callee := .value (.func 18), args := #[x0, x1], argTypes := #[37, 37] }) : (execOp a.eval o).run Try.prog w = .ok (.enter 18 #[u0, u1]) w := by
  unfold execOp
  rw [ho]
  go_simp
  exact ⟨by cases x0 <;> simpa [Act.eval] using h0, by cases x1 <;> simpa [Act.eval] using h1⟩
theorem e_awake (ho : o.op = .call { callee := .value (.func 11), args := #[], argTypes := #[] }) : (execOp a.eval o).run Try.prog w = .ok (.enter 11 #[]) w := by
  unfold execOp
  rw [ho]
  go_simp
theorem eqb {p : Bool} (x y : Operand) (ho : o.op = .binOp .eql 4 x y 4) (hx : a.eval x = .bool p) (hy : a.eval y = .bool p) : (execOp a.eval o).run Try.prog w = .ok (.value (.bool true)) w := by
  unfold execOp
  rw [ho]
  simp only [hx, hy]
  go_simp
theorem pickT {v : Value} (x y z : Operand) (ho : o.op = .pick x y z) (hx : a.eval x = .bool true) (hy : a.eval y = v) : (execOp a.eval o).run Try.prog w = .ok (.value v) w := by
  unfold execOp
  rw [ho]
  simp [hx, hy, asBool]
end
theorem dec_of {t : Bool} {p : Prop} [Decidable p] (h : t = true ↔ p) : Value.bool t = .bool (decide p) := by
  rw [Bool.eq_iff_iff.2 (h.trans decide_eq_true_iff.symm)]
open Classical in
noncomputable def Es (a0 a1 : Chu.Ck) : List (Value → World → Prop) :=
  [fun v _ => v = Chu.cv a0,
   fun v _ => v = Chu.cv a1,
   fun v _ => v = .bool (decide (Chu.val a0 = Chu.val a1)),
   fun v _ => v = Chu.cv a0,
   fun v _ => v = Chu.cv a1,
   fun v _ => v = .bool (decide (Chu.val a0 = Chu.val a1)),
   fun v _ => v = .bool true,
   fun v _ => v = .bool true,
   fun v _ => v = Chu.cv a0,
   fun v _ => v = Chu.cv a0,
   fun v _ => v = .bool true,
   fun v _ => v = .bool true,
   fun v _ => v = .bool true,
   fun v _ => v = .bool true,
   fun v _ => v = .bool true,
   fun v _ => v = .bool true]
open Classical in
theorem stays (a0 a1 : Chu.Ck) : ∀ j, Ord.Stays (Ord.fact (Es a0 a1) j) := fun j => match j with
  | 0 => Ord.stays_eq _
  | 1 => Ord.stays_eq _
  | 2 => Ord.stays_eq _
  | 3 => Ord.stays_eq _
  | 4 => Ord.stays_eq _
  | 5 => Ord.stays_eq _
  | 6 => Ord.stays_eq _
  | 7 => Ord.stays_eq _
  | 8 => Ord.stays_eq _
  | 9 => Ord.stays_eq _
  | 10 => Ord.stays_eq _
  | 11 => Ord.stays_eq _
  | 12 => Ord.stays_eq _
  | 13 => Ord.stays_eq _
  | 14 => Ord.stays_eq _
  | 15 => Ord.stays_eq _
  | _ + 16 => fun _ _ _ _ h => h
open Classical in

theorem walk (a0 : Chu.Ck) (a1 : Chu.Ck) (w : World) (w0 : Chu.Chk 0 w a0) (w1 : Chu.Chk 0 w a1) :
    Calls Try.prog 6 #[Chu.cv a0, Chu.cv a1] w fun e w' => e = .returned (.bool true) ∧ Below w.heap.size w w' := by
  have W0 := hidden w0
  have W1 := hidden w1
  clear w0 w1
  have hb0 := (Chu.below_box w a0).trans ((Chu.below_box (w.alloc (.cells (Chu.cc a0) 37)) a1).mono (by simp))
  have b1 := (Chu.Bx.new w a0).alloc (.cells (Chu.cc a1) 37)
  have b2 := Chu.Bx.new (w.alloc (.cells (Chu.cc a0) 37)) a1
  simp only [World.size_alloc] at b2
  have B0 := hidden hb0
  have X0 := hidden b1
  have X1 := hidden b2
  clear hb0 b1 b2
  go_enter Try.func6, Try.ntmps6
  go_wp2_with fail
  generalize (w.alloc (.cells (Chu.cc a0) 37)).alloc (.cells (Chu.cc a1) 37) = W at *
  refine Ord.wp_region_slots (by kernel_rfl) 20 [(2, .pointer (some ⟨w.heap.size, 0, none⟩)), (3, .pointer (some ⟨w.heap.size + 1, 0, none⟩))] [5, 6, 7, 8, 9, 10, 11, 12, 13, 14, 15, 16, 17, 18, 19, 4] (Es a0 a1) W.drew (by kernel_rfl) (by kernel_rfl) (by kernel_rfl) rfl (stays a0 a1) ?_ ?_ ?_
  case refine_3 => exact ⟨rfl, rfl, (fun p hp => by simp only [List.mem_cons, List.not_mem_nil, or_false] at hp; rcases hp with rfl | rfl <;> rfl), Below.refl _ _⟩
  case refine_2 =>
    intro a w' hG hF
    obtain ⟨g1, g2, g3, g4⟩ := hG
    have h4 : a.eval (.tmp 4) = .bool true := hF 15 (by decide)
    have h4' : a.tmps[4]?.getD undef = .bool true := by simpa [Act.eval] using h4
    rename_i hKK
    refine hKK a w' ?_
    refine wp_ret ?_
    refine bodyPost_ret (v := .bool true) ?_ g2 ⟨rfl, B0.out.trans (Below.mono ⟨g4.os, g4.tape, g4.output, g4.size, g4.block⟩ B0.out.size)⟩
    simp [results, Try.results6, go_sem, h4']
  case refine_1 =>
    intro i o a w' ho hG hdep
    obtain ⟨g1, g2, g3, g4⟩ := hG
    have bw : Below w.heap.size w w' := B0.out.trans (Below.mono ⟨g4.os, g4.tape, g4.output, g4.size, g4.block⟩ B0.out.size)
    have x0 : Chu.Bx w' w.heap.size a0 := Chu.Bx.later (w := W.drew) X0.out g4
    have x1 : Chu.Bx w' (w.heap.size + 1) a1 := Chu.Bx.later (w := W.drew) X1.out g4
    match i, ho with
    | 0, ho =>
      cases ho
      exact Ord.by_value rfl rfl (Chu.e_ldc _ (g3 (2, .pointer (some ⟨w.heap.size, 0, none⟩)) (by simp)) rfl x0) (Below.refl _ _) rfl
    | 1, ho =>
      cases ho
      exact Ord.by_value rfl rfl (Chu.e_ldc _ (g3 (3, .pointer (some ⟨w.heap.size + 1, 0, none⟩)) (by simp)) rfl x1) (Below.refl _ _) rfl
    | 2, ho =>
      cases ho
      have da0 : a.eval (.tmp 5) = Chu.cv a0 := hdep ⟨0, .data⟩ (by simp) rfl
      have da1 : a.eval (.tmp 6) = Chu.cv a1 := hdep ⟨1, .data⟩ (by simp) rfl
      refine Ord.by_call rfl rfl (e_same _ _ da0 da1 rfl) (Calls.mono (Chu.same 0 0 w' a0 a1 (W0.out.later bw).2 (W1.out.later bw).2) ?_)
      rintro e w3 ⟨t, rfl, ht, hb3⟩
      exact ⟨_, rfl, hb3, dec_of ht⟩
    | 3, ho =>
      cases ho
      exact Ord.by_value rfl rfl (Chu.e_ldc _ (g3 (2, .pointer (some ⟨w.heap.size, 0, none⟩)) (by simp)) rfl x0) (Below.refl _ _) rfl
    | 4, ho =>
      cases ho
      exact Ord.by_value rfl rfl (Chu.e_ldc _ (g3 (3, .pointer (some ⟨w.heap.size + 1, 0, none⟩)) (by simp)) rfl x1) (Below.refl _ _) rfl
    | 5, ho =>
      cases ho
      have da0 : a.eval (.tmp 8) = Chu.cv a0 := hdep ⟨3, .data⟩ (by simp) rfl
      have da1 : a.eval (.tmp 9) = Chu.cv a1 := hdep ⟨4, .data⟩ (by simp) rfl
      refine Ord.by_call rfl rfl (e_rsame _ _ da0 da1 rfl) (Calls.mono (Chu.rSame 0 0 w' a0 a1 (W0.out.later bw).2 (W1.out.later bw).2) ?_)
      rintro e w3 ⟨t, rfl, ht, hb3⟩
      exact ⟨_, rfl, hb3, dec_of ht⟩
    | 6, ho =>
      cases ho
      have da0 : a.eval (.tmp 7) = .bool (decide (Chu.val a0 = Chu.val a1)) := hdep ⟨2, .data⟩ (by simp) rfl
      have da1 : a.eval (.tmp 10) = .bool (decide (Chu.val a0 = Chu.val a1)) := hdep ⟨5, .data⟩ (by simp) rfl
      exact Ord.by_value rfl rfl (eqb _ _ rfl da0 da1) (Below.refl _ _) rfl
    | 7, ho =>
      cases ho
      have da : a.eval (.tmp 11) = .bool true := hdep ⟨6, .data⟩ (by simp) rfl
      exact Ord.by_value rfl rfl (v := a.eval (.tmp 11)) rfl (Below.refl _ _) da
    | 8, ho =>
      cases ho
      have dg : a.eval (.tmp 12) = .bool true := hdep ⟨7, .guard⟩ (by simp) rfl
      exact Ord.by_value rfl (Ord.wanted_of dg (by rw [g1]; decide) rfl rfl) (Chu.e_ldc _ (g3 (2, .pointer (some ⟨w.heap.size, 0, none⟩)) (by simp)) rfl x0) (Below.refl _ _) rfl
    | 9, ho =>
      cases ho
      have dg : a.eval (.tmp 12) = .bool true := hdep ⟨7, .guard⟩ (by simp) rfl
      exact Ord.by_value rfl (Ord.wanted_of dg (by rw [g1]; decide) rfl rfl) (Chu.e_ldc _ (g3 (2, .pointer (some ⟨w.heap.size, 0, none⟩)) (by simp)) rfl x0) (Below.refl _ _) rfl
    | 10, ho =>
      cases ho
      have dg : a.eval (.tmp 12) = .bool true := hdep ⟨7, .guard⟩ (by simp) rfl
      have da0 : a.eval (.tmp 13) = Chu.cv a0 := hdep ⟨8, .data⟩ (by simp) rfl
      have da1 : a.eval (.tmp 14) = Chu.cv a0 := hdep ⟨9, .data⟩ (by simp) rfl
      refine Ord.by_call rfl (Ord.wanted_of dg (by rw [g1]; decide) rfl rfl) (e_same _ _ da0 da1 rfl) (Calls.mono (Chu.same 0 0 w' a0 a0 (W0.out.later bw).2 (W0.out.later bw).2) ?_)
      rintro e w3 ⟨t, rfl, ht, hb3⟩
      exact ⟨_, rfl, hb3, congrArg Value.bool (ht.2 rfl)⟩
    | 11, ho =>
      cases ho
      have da0 : a.eval (.tmp 12) = .bool true := hdep ⟨7, .data⟩ (by simp) rfl
      have da1 : a.eval (.tmp 15) = .bool true := hdep ⟨10, .data⟩ (by simp) rfl
      exact Ord.by_value rfl rfl (pickT _ _ _ rfl da0 da1) (Below.refl _ _) rfl
    | 12, ho =>
      cases ho
      have da : a.eval (.tmp 16) = .bool true := hdep ⟨11, .data⟩ (by simp) rfl
      exact Ord.by_value rfl rfl (v := a.eval (.tmp 16)) rfl (Below.refl _ _) da
    | 13, ho =>
      cases ho
      have dg : a.eval (.tmp 17) = .bool true := hdep ⟨12, .guard⟩ (by simp) rfl
      refine Ord.by_call rfl (Ord.wanted_of dg (by rw [g1]; decide) rfl rfl) (e_awake  rfl) (Calls.mono (Chu.awake w') ?_)
      rintro e w3 ⟨rfl, hb3⟩
      exact ⟨_, rfl, hb3, rfl⟩
    | 14, ho =>
      cases ho
      have da0 : a.eval (.tmp 17) = .bool true := hdep ⟨12, .data⟩ (by simp) rfl
      have da1 : a.eval (.tmp 18) = .bool true := hdep ⟨13, .data⟩ (by simp) rfl
      exact Ord.by_value rfl rfl (pickT _ _ _ rfl da0 da1) (Below.refl _ _) rfl
    | 15, ho =>
      cases ho
      have da : a.eval (.tmp 19) = .bool true := hdep ⟨14, .data⟩ (by simp) rfl
      exact Ord.by_value rfl rfl (v := a.eval (.tmp 19)) rfl (Below.refl _ _) da

set_option maxRecDepth 100000 in
theorem contract (H : Type) (enc : TypeId × Value → H) (W : World) (base : Nat) (args : Array Value) (ds gs : List (DataW H)) (before : List MemPlace)
    (hval : ∀ (j : Nat) t v, Try.f6.params[j]? = some t → args[j]? = some v → Value.okWide Try.prog W .any base t v)
    (hW : DataW.Whole enc Try.prog Try.f6.params.toList Rows.chunkSamesSpec.vars false W args.toList ds gs before)
    (hsz0 : (DataW.weightsEach Try.prog (Try.f6.params.toList ++ Rows.chunkSamesSpec.plain.varTypes Try.prog) (ds ++ gs)).all (· ≤ reachBytes) = true) :
    Calls Try.prog 6 args W fun e W' => ∃ v, e = .returned v ∧ Rows.chunkSamesSpec.post enc Try.prog Try.f6 false true false false W args v W' := by
  have hW' := hW
  obtain ⟨p, q, hA0, hV, rfl, hfz, hnd⟩ := hW
  have hA : DataW.TrodAll enc Try.prog W 0 (fun _ => true) true Try.f6.params.toList args.toList ds p := hA0
  have hsz := hsz0
  rw [Try.params6] at hA hval hsz
  obtain ⟨v0, vs0, d0, ds0, p0, q0, hargs, rfl, rfl, h0, r0⟩ := trodAll_cons hA
  obtain ⟨v1, vs1, d1, ds1, p1, q1, rfl, rfl, rfl, h1, r1⟩ := trodAll_cons r0
  obtain ⟨rfl, rfl, rfl⟩ := trodAll_nil r1
  obtain rfl : args = #[v0, v1] := by cases args; simp_all
  obtain ⟨rfl, rfl⟩ := trodVars_none hV
  have k0 := h0
  have lt0 : ∀ x ∈ p0, x.block < W.heap.size := by obtain ⟨m, hm⟩ := k0; exact DataW.trod_lt m _ _ _ hm
  have sz0 : (d0.weights Try.prog 37).all (· ≤ reachBytes) = true := List.all_eq_true.2 fun m hm => List.all_eq_true.1 hsz m (DataW.weights_mem_each (j := 0) rfl rfl m hm)
  obtain ⟨a0, rfl, w0⟩ : ∃ c, v0 = Chu.cv c ∧ Chu.Chk 0 W c := by
    obtain ⟨fuel, hf⟩ := h0
    exact Chu.chunk_arg (hval 0 37 v0 rfl rfl) hf sz0
  have k1 := h1
  have lt1 : ∀ x ∈ p1, x.block < W.heap.size := by obtain ⟨m, hm⟩ := k1; exact DataW.trod_lt m _ _ _ hm
  have sz1 : (d1.weights Try.prog 37).all (· ≤ reachBytes) = true := List.all_eq_true.2 fun m hm => List.all_eq_true.1 hsz m (DataW.weights_mem_each (j := 1) rfl rfl m hm)
  obtain ⟨a1, rfl, w1⟩ : ∃ c, v1 = Chu.cv c ∧ Chu.Chk 0 W c := by
    obtain ⟨fuel, hf⟩ := h1
    exact Chu.chunk_arg (hval 1 37 v1 rfl rfl) hf sz1
  clear hA0 hsz0 hsz
  refine (walk a0 a1 W w0 w1).mono fun e W' ⟨he, bel⟩ => ?_
  subst he
  exact ⟨_, rfl, _, _, _, [], _, [], hW', trodAll_mk1 (shut_bool Try.underlying4 _), (trodAll_cons_mk (Below.trod laidOut (by kernel_rfl) (of_decide_eq_true (by kernel_rfl)) k0 bel lt0) (trodAll_cons_mk (Below.trod laidOut (by kernel_rfl) (of_decide_eq_true (by kernel_rfl)) k1 bel lt1) trodAll_mk0)), rfl, bel.frame _, fun h => by cases h⟩

noncomputable def laidWorld (os : Os) : World :=
  World.holding Try.prog os ⟨#[], #[], []⟩
set_option maxRecDepth 100000 in
theorem laid_met (os : Os) : laidMet Try.prog Rows.chunkSamesRow.laid ((laidWorld os).forCall (fun _ _ => 0) ⟨#[], #[.agg #[.int .u8 0, .int .u8 0, .int .u32 0, .int .u16 0, .int .u16 0, .int .u32 0, .int .u32 0, .int .u32 0, .int .u16 0, .int .u16 0, .slice none 0 0, .slice none 0 0, .slice none 0 0, .slice none 0 0, .slice none 0 0], .agg #[.int .u8 0, .int .u8 0, .int .u32 0, .int .u16 0, .int .u16 0, .int .u32 0, .int .u32 0, .int .u32 0, .int .u16 0, .int .u16 0, .slice none 0 0, .slice none 0 0, .slice none 0 0, .slice none 0 0, .slice none 0 0]], []⟩).memory :=
  laidMet_of_run' 8 (by kernel_rfl) (by kernel_rfl)
set_option maxRecDepth 100000 in
theorem reads (os : Os) {H : Type} (enc : TypeId × Value → H) : ∃ places, DataW.whole enc Try.prog ((laidWorld os).forCall (fun _ _ => 0) ⟨#[], #[.agg #[.int .u8 0, .int .u8 0, .int .u32 0, .int .u16 0, .int .u16 0, .int .u32 0, .int .u32 0, .int .u32 0, .int .u16 0, .int .u16 0, .slice none 0 0, .slice none 0 0, .slice none 0 0, .slice none 0 0, .slice none 0 0], .agg #[.int .u8 0, .int .u8 0, .int .u32 0, .int .u16 0, .int .u16 0, .int .u32 0, .int .u32 0, .int .u32 0, .int .u16 0, .int .u16 0, .slice none 0 0, .slice none 0 0, .slice none 0 0, .slice none 0 0, .slice none 0 0]], []⟩).memory Try.f6.params.toList Rows.chunkSamesSpec.vars false #[Value.agg #[.int .u8 0, .int .u8 0, .int .u32 0, .int .u16 0, .int .u16 0, .int .u32 0, .int .u32 0, .int .u32 0, .int .u16 0, .int .u16 0, .slice none 0 0, .slice none 0 0, .slice none 0 0, .slice none 0 0, .slice none 0 0], Value.agg #[.int .u8 0, .int .u8 0, .int .u32 0, .int .u16 0, .int .u16 0, .int .u32 0, .int .u32 0, .int .u32 0, .int .u16 0, .int .u16 0, .slice none 0 0, .slice none 0 0, .slice none 0 0, .slice none 0 0, .slice none 0 0]].toList 8 = some ([.agg [.lit (.int .u8 0), .lit (.int .u8 0), .lit (.int .u32 0), .lit (.int .u16 0), .lit (.int .u16 0), .lit (.int .u32 0), .lit (.int .u32 0), .lit (.int .u32 0), .lit (.int .u16 0), .lit (.int .u16 0), .nil, .nil, .nil, .nil, .nil], .agg [.lit (.int .u8 0), .lit (.int .u8 0), .lit (.int .u32 0), .lit (.int .u16 0), .lit (.int .u16 0), .lit (.int .u32 0), .lit (.int .u32 0), .lit (.int .u32 0), .lit (.int .u16 0), .lit (.int .u16 0), .nil, .nil, .nil, .nil, .nil]], [], places) :=
  ⟨[], by kernel_rfl⟩

set_option maxRecDepth 100000 in
theorem lifted (os : Os) (started : os.Started) (H : Type) (enc : TypeId × Value → H) (F : Stop.Interp) :
    ReturnsInHanded {} Try.checked os 6 .any ((OpenSpec.ofChange Rows.chunkSamesSpec).preRow enc Try.prog Try.f6 Rows.chunkSamesRow.domain false Rows.chunkSamesRow.laid) (((OpenSpec.ofChange Rows.chunkSamesSpec).at F).post enc Try.prog Try.f6 false true false false) := by
  obtain ⟨places, hx⟩ := reads os enc
  refine returnsInHanded_of_row (C := Try.checked) (s := OpenSpec.ofChange Rows.chunkSamesSpec) own started (by kernel_rfl) Try.func6
    (witness_row_at (enc := enc) (C := Try.checked) false (laidWorld os) #[.agg #[.int .u8 0, .int .u8 0, .int .u32 0, .int .u16 0, .int .u16 0, .int .u32 0, .int .u32 0, .int .u32 0, .int .u16 0, .int .u16 0, .slice none 0 0, .slice none 0 0, .slice none 0 0, .slice none 0 0, .slice none 0 0], .agg #[.int .u8 0, .int .u8 0, .int .u32 0, .int .u16 0, .int .u16 0, .int .u32 0, .int .u32 0, .int .u32 0, .int .u16 0, .int .u16 0, .slice none 0 0, .slice none 0 0, .slice none 0 0, .slice none 0 0, .slice none 0 0]] rfl (by kernel_rfl) (by kernel_rfl) (by kernel_rfl)
      (OpenSpec.preRow_of_cond 8 hx (by kernel_rfl) (fun k hk => by cases hk) (by kernel_rfl) (laid_met os))) ?_
  intro W base args ds gs before hval hW _ hcond hsz hL _ _
  exact contract H enc W base args ds gs before hval hW hsz

theorem said : Rows.ChunkSamesSaid :=
  OpenClaim.holds_of_cond 6 Try.f6 rfl rfl rfl rfl rfl rfl rfl ⟨rfl, rfl, rfl, rfl, rfl⟩ rfl rfl rfl rfl rfl (by kernel_rfl) Try.func6 (by kernel_rfl)
    (of_decide_eq_true (by kernel_rfl)) (by unfold Func.isWrapper; first | (rw [if_pos (by decide +kernel)]; kernel_rfl) | (rw [if_neg (by decide +kernel)]; exact ⟨rfl, rfl⟩))
    (fun os started H enc _ F => by rw [OpenClaim.pre_eq_preRow]; exact lifted os started H enc F)

/-- THE STATEMENT -/
theorem proved : Rows.ChunkSamesSaid := said
#print axioms proved
end Go.Proofs.Ytifdkpifambhaaa.chunkSames
