/-
  For every key and every row of bytes the law MacBytes returns true: the seal of the bytes under the key is the document's (P4.1). Conditions: none.
-/
import Derived.Test.YtalfhcaggjgibaaRows
import Derived.WalkKit
import Derived.ProofKit
import Derived.OpenShut
import Derived.ShutString
import Derived.ChangeOld
import Derived.Below
import Derived.SizedLaws
import Derived.Deep.DeepHandedRow
import Derived.LaidLaws
import Derived.Test.YtalfhcaggjgibaaMacArgs
namespace Go.Proofs.Ytalfhcaggjgibaa.macBytes
open Go.ChangeShapes Go.WideShapes Go.ChangeAt Go.RowKit
set_option linter.unusedVariables false

theorem own : ownKnob Try.prog.godebug = none := by kernel_rfl
theorem laidOut : laidOutB Try.prog = true := by kernel_rfl

/-- a key's cells, as they were laid -/
theorem keyCells (w : World) (x0 x1 x2 x3 x4 x5 x6 x7 x8 x9 x10 x11 x12 x13 x14 x15 : Int) (w' : World) (h : Below (w.alloc (.cells #[.int .u8 x0, .int .u8 x1, .int .u8 x2, .int .u8 x3, .int .u8 x4, .int .u8 x5, .int .u8 x6, .int .u8 x7, .int .u8 x8, .int .u8 x9, .int .u8 x10, .int .u8 x11, .int .u8 x12, .int .u8 x13, .int .u8 x14, .int .u8 x15] 23)).heap.size (w.alloc (.cells #[.int .u8 x0, .int .u8 x1, .int .u8 x2, .int .u8 x3, .int .u8 x4, .int .u8 x5, .int .u8 x6, .int .u8 x7, .int .u8 x8, .int .u8 x9, .int .u8 x10, .int .u8 x11, .int .u8 x12, .int .u8 x13, .int .u8 x14, .int .u8 x15] 23)) w') (g : Nat) (hg : g = w.heap.size) :
    w'.cell? ⟨g, 0, none⟩ = some (.int .u8 x0) ∧
    w'.cell? ⟨g, 1, none⟩ = some (.int .u8 x1) ∧
    w'.cell? ⟨g, 2, none⟩ = some (.int .u8 x2) ∧
    w'.cell? ⟨g, 3, none⟩ = some (.int .u8 x3) ∧
    w'.cell? ⟨g, 4, none⟩ = some (.int .u8 x4) ∧
    w'.cell? ⟨g, 5, none⟩ = some (.int .u8 x5) ∧
    w'.cell? ⟨g, 6, none⟩ = some (.int .u8 x6) ∧
    w'.cell? ⟨g, 7, none⟩ = some (.int .u8 x7) ∧
    w'.cell? ⟨g, 8, none⟩ = some (.int .u8 x8) ∧
    w'.cell? ⟨g, 9, none⟩ = some (.int .u8 x9) ∧
    w'.cell? ⟨g, 10, none⟩ = some (.int .u8 x10) ∧
    w'.cell? ⟨g, 11, none⟩ = some (.int .u8 x11) ∧
    w'.cell? ⟨g, 12, none⟩ = some (.int .u8 x12) ∧
    w'.cell? ⟨g, 13, none⟩ = some (.int .u8 x13) ∧
    w'.cell? ⟨g, 14, none⟩ = some (.int .u8 x14) ∧
    w'.cell? ⟨g, 15, none⟩ = some (.int .u8 x15) := by
  subst hg
  have hl : ∀ i, w'.cell? ⟨w.heap.size, i, none⟩ = #[Value.int .u8 x0, .int .u8 x1, .int .u8 x2, .int .u8 x3, .int .u8 x4, .int .u8 x5, .int .u8 x6, .int .u8 x7, .int .u8 x8, .int .u8 x9, .int .u8 x10, .int .u8 x11, .int .u8 x12, .int .u8 x13, .int .u8 x14, .int .u8 x15][i]? := fun i => by rw [h.cell (by simp), World.cell?_alloc_at _ _ _ _ rfl]
  exact ⟨hl 0, hl 1, hl 2, hl 3, hl 4, hl 5, hl 6, hl 7, hl 8, hl 9, hl 10, hl 11, hl 12, hl 13, hl 14, hl 15⟩
theorem chain {w W0 w2 w3 w4 : World} (B0 : Below w.heap.size w W0) (b2 : Below W0.drew.heap.size W0.drew w2) (b3 : Below w2.heap.size w2 w3) (b4 : Below w3.heap.size w3 w4) : Below w.heap.size w w4 := by
  have e2 : Below W0.heap.size W0 w2 := ⟨b2.os, b2.tape, b2.output, b2.size, b2.block⟩
  have x2 := B0.trans (e2.mono B0.size)
  have x3 := x2.trans (b3.mono x2.size)
  exact x3.trans (b4.mono x3.size)
set_option maxHeartbeats 4000000 in
set_option maxRecDepth 20000 in

theorem walk (k0 : List Int) (a1 : Option Addr) (len1 cap1 : Nat) (z1 : List Int) (w : World) (w0 : Mac.Key k0) (w1 : Mac.Row w a1 len1 z1) (s1 : len1 ≤ cap1 ∧ cap1 ≤ 140737488351232 ∧ (a1 = none → len1 = 0 ∧ cap1 = 0)) :
    Calls Try.prog 3 #[Mac.keyv k0, .slice a1 len1 cap1] w fun e w' => e = .returned (.bool true) ∧ Below w.heap.size w w' := by
  have H1 := fun W (h : Below w.heap.size w W) => Mac.bytes W k0 w0 a1 len1 cap1 z1 (w1.later h)
  have H2 := fun W (h : Below w.heap.size w W) => Mac.rbytes W k0 w0 a1 len1 cap1 z1 (w1.later h)
  generalize Mac.sip k0 z1 = R at *
  obtain ⟨x0, x1, x2, x3, x4, x5, x6, x7, x8, x9, x10, x11, x12, x13, x14, x15, rfl, hk⟩ := Mac.key16 k0 w0
  rw [hk] at H1 H2 ⊢
  clear hk
  have B0 := Mac.hidden ((Below.refl w.heap.size w).alloc (Nat.le_refl _) (.cells #[.int .u8 x0, .int .u8 x1, .int .u8 x2, .int .u8 x3, .int .u8 x4, .int .u8 x5, .int .u8 x6, .int .u8 x7, .int .u8 x8, .int .u8 x9, .int .u8 x10, .int .u8 x11, .int .u8 x12, .int .u8 x13, .int .u8 x14, .int .u8 x15] 23))
  have S0 := Mac.hidden (Mac.size_alloc w (.cells #[.int .u8 x0, .int .u8 x1, .int .u8 x2, .int .u8 x3, .int .u8 x4, .int .u8 x5, .int .u8 x6, .int .u8 x7, .int .u8 x8, .int .u8 x9, .int .u8 x10, .int .u8 x11, .int .u8 x12, .int .u8 x13, .int .u8 x14, .int .u8 x15] 23))
  have KC := Mac.hidden (keyCells w x0 x1 x2 x3 x4 x5 x6 x7 x8 x9 x10 x11 x12 x13 x14 x15)
  go_enter Try.func3, Try.ntmps3
  go_wp2_with fail
  go_region_with (first
    | (go_at_call 7; refine Calls.mono (H1 _ B0.out.drew) ?_; rintro e w2 ⟨rfl, b2⟩; obtain ⟨c0, c1, c2, c3, c4, c5, c6, c7, c8, c9, c10, c11, c12, c13, c14, c15⟩ := KC.out w2 ⟨b2.os, b2.tape, b2.output, b2.size, b2.block⟩ _ rfl)
    | (go_at_call 8; refine Calls.mono (H2 _ (B0.out.trans ⟨b2.os, b2.tape, b2.output, b2.size, fun k hk => b2.block k (by have := S0.out; show k < (w.alloc _).heap.size; omega)⟩)) ?_; rintro e w3 ⟨rfl, b3⟩)
    | (go_at_call 9; refine Calls.mono (Mac.awake _) ?_; rintro e w4 ⟨rfl, b4⟩))
  all_goals (go_wp2; go_ret; exact ⟨rfl, chain B0.out b2 b3 b4⟩)

theorem contract (H : Type) (enc : TypeId × Value → H) (W : World) (base : Nat) (args : Array Value) (ds gs : List (DataW H)) (before : List MemPlace)
    (hval : ∀ (j : Nat) t v, Try.f3.params[j]? = some t → args[j]? = some v → Value.okWide Try.prog W .any base t v)
    (hW : DataW.Whole enc Try.prog Try.f3.params.toList Rows.macBytesSpec.vars false W args.toList ds gs before)
    (hsz0 : (DataW.weightsEach Try.prog (Try.f3.params.toList ++ Rows.macBytesSpec.plain.varTypes Try.prog) (ds ++ gs)).all (· ≤ reachBytes) = true) :
    Calls Try.prog 3 args W fun e W' => ∃ v, e = .returned v ∧ Rows.macBytesSpec.post enc Try.prog Try.f3 false true false false W args v W' := by
  have hW' := hW
  obtain ⟨p, q, hA0, hV, rfl, hfz, hnd⟩ := hW
  have hA : DataW.TrodAll enc Try.prog W 0 (fun _ => true) true Try.f3.params.toList args.toList ds p := hA0
  have hsz := hsz0
  rw [Try.params3] at hA hval hsz
  obtain ⟨v0, vs0, d0, ds0, p0, q0, hargs, rfl, rfl, h0, r0⟩ := trodAll_cons hA
  obtain ⟨v1, vs1, d1, ds1, p1, q1, rfl, rfl, rfl, h1, r1⟩ := trodAll_cons r0
  obtain ⟨rfl, rfl, rfl⟩ := trodAll_nil r1
  obtain rfl : args = #[v0, v1] := by cases args; simp_all
  obtain ⟨rfl, rfl⟩ := trodVars_none hV
  have k0 := h0
  have lt0 : ∀ x ∈ p0, x.block < W.heap.size := by obtain ⟨m, hm⟩ := k0; exact DataW.trod_lt m _ _ _ hm
  obtain ⟨kz0, rfl, w0⟩ := Mac.key_of (hval 0 23 v0 rfl rfl) h0
  obtain ⟨a1, len1, cap1, rfl⟩ := okWide_slice Try.underlying24 (hval 1 24 v1 rfl rfl)
  have k1 := h1
  have lt1 : ∀ x ∈ p1, x.block < W.heap.size := by obtain ⟨m, hm⟩ := k1; exact DataW.trod_lt m _ _ _ hm
  obtain ⟨z1, w1, s1⟩ : ∃ zs, Mac.Row W a1 len1 zs ∧ len1 ≤ cap1 ∧ cap1 ≤ 140737488351232 ∧ (a1 = none → len1 = 0 ∧ cap1 = 0) := by
    obtain ⟨fuel, hf⟩ := h1
    refine Mac.row_of hf fun elems spare hd => ?_
    simp only at hd
    subst hd
    have sz := sized_slice hsz (j := 1) (t := 24) (elems := elems) (spare := spare) rfl rfl Try.underlying24
    rw [show Try.prog.bytesOf 5 = 1 by kernel_rfl, Nat.mul_one] at sz
    exact sz
  clear hA0 hsz0 hsz
  refine (walk kz0 a1 len1 cap1 z1 W w0 w1 s1).mono fun e W' ⟨he, bel⟩ => ?_
  subst he
  exact ⟨_, rfl, _, _, _, [], _, [], hW', trodAll_mk1 (shut_bool Try.underlying4 _), (trodAll_cons_mk (Below.trod laidOut (by kernel_rfl) (of_decide_eq_true (by kernel_rfl)) k0 bel lt0) (trodAll_cons_mk (Below.trod laidOut (by kernel_rfl) (of_decide_eq_true (by kernel_rfl)) k1 bel lt1) trodAll_mk0)), rfl, bel.frame _, fun h => by cases h⟩

noncomputable def laidWorld (os : Os) : World :=
  World.holding Try.prog os ⟨#[], #[], []⟩
theorem laid_met (os : Os) : laidMet Try.prog Rows.macBytesRow.laid ((laidWorld os).forCall (fun _ _ => 0) ⟨#[], #[.agg #[.int .u8 0, .int .u8 0, .int .u8 0, .int .u8 0, .int .u8 0, .int .u8 0, .int .u8 0, .int .u8 0, .int .u8 0, .int .u8 0, .int .u8 0, .int .u8 0, .int .u8 0, .int .u8 0, .int .u8 0, .int .u8 0], .slice none 0 0], []⟩).memory :=
  laidMet_of_run' 8 (by kernel_rfl) (by kernel_rfl)
theorem reads (os : Os) {H : Type} (enc : TypeId × Value → H) : ∃ places, DataW.whole enc Try.prog ((laidWorld os).forCall (fun _ _ => 0) ⟨#[], #[.agg #[.int .u8 0, .int .u8 0, .int .u8 0, .int .u8 0, .int .u8 0, .int .u8 0, .int .u8 0, .int .u8 0, .int .u8 0, .int .u8 0, .int .u8 0, .int .u8 0, .int .u8 0, .int .u8 0, .int .u8 0, .int .u8 0], .slice none 0 0], []⟩).memory Try.f3.params.toList Rows.macBytesSpec.vars false #[Value.agg #[.int .u8 0, .int .u8 0, .int .u8 0, .int .u8 0, .int .u8 0, .int .u8 0, .int .u8 0, .int .u8 0, .int .u8 0, .int .u8 0, .int .u8 0, .int .u8 0, .int .u8 0, .int .u8 0, .int .u8 0, .int .u8 0], Value.slice none 0 0].toList 8 = some ([.agg [.lit (.int .u8 0), .lit (.int .u8 0), .lit (.int .u8 0), .lit (.int .u8 0), .lit (.int .u8 0), .lit (.int .u8 0), .lit (.int .u8 0), .lit (.int .u8 0), .lit (.int .u8 0), .lit (.int .u8 0), .lit (.int .u8 0), .lit (.int .u8 0), .lit (.int .u8 0), .lit (.int .u8 0), .lit (.int .u8 0), .lit (.int .u8 0)], .nil], [], places) :=
  ⟨[], by kernel_rfl⟩

set_option maxRecDepth 100000 in
theorem lifted (os : Os) (started : os.Started) (H : Type) (enc : TypeId × Value → H) (F : Stop.Interp) :
    ReturnsInHanded {} Try.checked os 3 .any ((OpenSpec.ofChange Rows.macBytesSpec).preRow enc Try.prog Try.f3 Rows.macBytesRow.domain false Rows.macBytesRow.laid) (((OpenSpec.ofChange Rows.macBytesSpec).at F).post enc Try.prog Try.f3 false true false false) := by
  obtain ⟨places, hx⟩ := reads os enc
  refine returnsInHanded_of_row (C := Try.checked) (s := OpenSpec.ofChange Rows.macBytesSpec) own started (by kernel_rfl) Try.func3
    (witness_row_at (enc := enc) (C := Try.checked) false (laidWorld os) #[.agg #[.int .u8 0, .int .u8 0, .int .u8 0, .int .u8 0, .int .u8 0, .int .u8 0, .int .u8 0, .int .u8 0, .int .u8 0, .int .u8 0, .int .u8 0, .int .u8 0, .int .u8 0, .int .u8 0, .int .u8 0, .int .u8 0], .slice none 0 0] rfl (by kernel_rfl) (by kernel_rfl) (by kernel_rfl)
      (OpenSpec.preRow_of_cond 8 hx (by kernel_rfl) (fun k hk => by cases hk) (by kernel_rfl) (laid_met os))) ?_
  intro W base args ds gs before hval hW _ hcond hsz hL _ _
  exact contract H enc W base args ds gs before hval hW hsz

theorem said : Rows.MacBytesSaid :=
  OpenClaim.holds_of_cond 3 Try.f3 rfl rfl rfl rfl rfl rfl rfl ⟨rfl, rfl, rfl, rfl, rfl⟩ rfl rfl rfl rfl rfl (by kernel_rfl) Try.func3 (by kernel_rfl)
    (of_decide_eq_true (by kernel_rfl)) (by unfold Func.isWrapper; first | (rw [if_pos (by decide +kernel)]; kernel_rfl) | (rw [if_neg (by decide +kernel)]; exact ⟨rfl, rfl⟩))
    (fun os started H enc _ F => by rw [OpenClaim.pre_eq_preRow]; exact lifted os started H enc F)

/-- THE STATEMENT -/
theorem proved : Rows.MacBytesSaid := said
#print axioms proved
end Go.Proofs.Ytalfhcaggjgibaa.macBytes
