/-
  What ChunkReads says of every row of bytes is true: a chunk that is read may be, and is the same when it is written and read again. Conditions: the bytes lie in memory, as whatever is handed in does.
-/
import Derived.Test.YtifdkpifambhaaaRows
import Derived.WalkKit
import Derived.ProofKit
import Derived.OpenShut
import Derived.ShutString
import Derived.ChangeOld
import Derived.Below
import Derived.SizedLaws
import Derived.Deep.DeepHandedRow
import Derived.LaidLaws
import Derived.ChangeMaps5
import Derived.Test.YtifdkpifambhaaaChArgs
import Derived.Test.YtifdkpifambhaaaChZ
namespace Go.Proofs.Ytifdkpifambhaaa.chunkReads
open Go.ChangeShapes Go.WideShapes Go.ChangeAt Go.RowKit
open Go.ChangeMaps (open_string shut_string)
set_option linter.unusedVariables false

theorem own : ownKnob Try.prog.godebug = none := by kernel_rfl
theorem laidOut : laidOutB Try.prog = true := by kernel_rfl

open Par (hidden)
attribute [local go_sem ↓] Chu.execOp_ld Chu.execOp_bx Chu.execOp_st Chu.execOp_bs
attribute [local go_sem] Chu.run_box Chu.run_bsl
set_option maxRecDepth 20000 in
set_option maxHeartbeats 1000000 in

theorem walk (a0 : Option Addr) (len0 cap0 : Nat) (z0 : List Int) (w : World) (w0 : Par.Row 0 w a0 len0 z0) (s0 : len0 ≤ cap0 ∧ cap0 ≤ 140737488351232 ∧ (a0 = none → len0 = 0 ∧ cap0 = 0)) :
    Calls Try.prog 8 #[.slice a0 len0 cap0] w fun e w' => e = .returned (.bool true) ∧ Below w.heap.size w w' := by
  have DE := hidden (Chu.decode 0 w a0 len0 cap0 z0 w0 s0.1 s0.2.2)
  have HBY := hidden w0.2.1
  have hzl := w0.1
  have hlim := w0.2.2.1
  clear w0 s0
  go_enter Try.func8, Try.ntmps8
  go_wp2_with fail
  refine Calls.mono DE.out ?_
  rintro e w1 ⟨c, m, er, rfl, ⟨y, hD, hv⟩, hbad, hC, b1⟩
  obtain ⟨W, hS, hbx, hbw⟩ := Chu.newvar w1 c
  have hb := b1.trans (hbw.mono b1.size)
  have HB := hidden hb
  have HX := hidden hbx
  have HC := hidden ((hC.later hbw).2.mono (Nat.zero_le _))
  have HN := hidden hC.1
  have HD := hidden hD
  have HV := hidden hv
  have HBAD := hidden hbad
  clear hb hbx hC hD hv hbad hbw b1 DE
  go_wp2_with fail
  refine Calls.mono (Chu.awake W) ?_
  rintro e w2 ⟨rfl, b2⟩
  have HB2 := hidden (HB.out.trans (b2.mono HB.out.size))
  have HX2 := hidden (HX.out.later b2)
  have HC2 := hidden (HC.out.later b2)
  clear b2 HB HX HC hS
  by_cases he : er = 0
  · subst he
    have hvy := HV.out rfl
    have hDy := HD.out
    obtain ⟨r1, r2, r3, r4⟩ := Chu.read_ok z0 HBY.out y m hDy
    subst hvy
    have l1 := HX2.out.ld
    have EN := hidden (Chu.encode 0 _ _ 1 1 _ (Chu.cks_one (c := c) (w := w2) ⟨HN.out, HC2.out⟩ (Nat.zero_le _)))
    have HR1 := hidden r1
    have HR2 := hidden r2
    have HB3 := hidden (HB2.out.trans ((Chu.below_box w2 c).mono HB2.out.size))
    have HX3 := hidden ((HX2.out).alloc (.cells (Chu.cc c) 37))
    have HC3 := hidden (HC2.out.later (Chu.below_box w2 c))
    clear r1 r2 hDy HD HV
    go_wp2_with fail
    refine Calls.mono EN.out ?_
    rintro e w3 ⟨v, e3, rfl, hE, _, h0, b3⟩
    obtain rfl := Chu.encR_one (v := Chu.val c) hE HR1.out
    obtain ⟨g, cap, rfl, hcap⟩ := h0 rfl
    have hlen : Chu.tot ([c].map Chu.val) = (Chu.encA [Chu.val c]).length := (Chu.encA_len (vs := [Chu.val c]) (Chu.all_one HR1.out)).symm
    have hbyt : Par.Bytes (Chu.encA [Chu.val c]) := Chu.encA_bytes (Chu.all_one HR2.out) (Chu.all_one HR1.out)
    have hrow := hcap.row (show Par.Bytes (Chu.encA ([c].map Chu.val)) from hbyt)
    have hcl : (Chu.encA ([c].map Chu.val)).length ≤ cap := by obtain ⟨_, _, _, _, h, _⟩ := hcap; exact h
    rw [hlen]
    have DE2 := hidden (Chu.decode 0 w3 (some ⟨g, 0, none⟩) _ cap _ (hrow.mono (Nat.zero_le _)) hcl (fun h => by cases h))
    have HB4 := hidden (HB3.out.trans (b3.mono HB3.out.size))
    have HX4 := hidden (HX3.out.later b3)
    have HC4 := hidden (HC3.out.later b3)
    clear hcap hrow hcl hlen hbyt h0 hE EN b3 HB3 HX3 HC3 HB2 HX2 HC2 l1
    simp only [List.map_cons, List.map_nil] at DE2
    go_wp2_with fail
    refine Calls.mono DE2.out ?_
    rintro e w5 ⟨d, m2, e5, rfl, ⟨y5, hD5, hv5⟩, _, hC5, b5⟩
    obtain ⟨rfl, rfl, rfl⟩ := Chu.read_one HR2.out HR1.out hD5
    have HV5 := hidden (hv5 rfl)
    obtain ⟨W6, hS6, hbx6, hbw6⟩ := Chu.newvar w5 d
    have b6 := b5.trans (hbw6.mono b5.size)
    have HB6 := hidden (HB4.out.trans (b6.mono HB4.out.size))
    have HX6 := hidden (HX4.out.later b6)
    have HC6 := hidden (HC4.out.later b6)
    have HY6 := hidden hbx6
    have HD6 := hidden ((hC5.later hbw6).2.mono (Nat.zero_le _))
    have l1 := HX6.out.ld
    clear hD5 hv5 hC5 b5 b6 hbx6 hbw6 DE2 HB4 HX4 HC4
    have CK := hidden (Chu.check 0 c W6 ⟨HN.out, HC6.out⟩)
    rw [HR1.out] at CK
    go_wp2_with fail
    refine Calls.mono CK.out ?_
    rintro e w7 ⟨rfl, b7⟩
    have HB7 := hidden (HB6.out.trans (b7.mono HB6.out.size))
    have HX7 := hidden (HX6.out.later b7)
    have HY7 := hidden (HY6.out.later b7)
    have HC7 := hidden (HC6.out.later b7)
    have HD7 := hidden (HD6.out.later b7)
    clear b7 HB6 HX6 HY6 HC6 HD6 l1 CK
    have l1 := HX7.out.ld
    have l2 := HY7.out.ld
    have i1 : (4 : Int) ≤ (m : Int) := by omega
    have i2 : (m : Int) ≤ (len0 : Int) := by omega
    go_wp2_with fail
    refine Calls.mono (Chu.rSame 0 0 w7 c d HC7.out HD7.out) ?_
    rintro e w8 ⟨t, rfl, ht, b8⟩
    obtain rfl : t = true := ht.2 HV5.out.symm
    have HB8 := hidden (HB7.out.trans (b8.mono HB7.out.size))
    clear b8 ht
    go_wp2
    go_ret
    exact ⟨rfl, HB8.out⟩
  · obtain ⟨rfl, rfl⟩ := HBAD.out he
    have hne := Chu.bne_t he
    have l1 := HX2.out.ld
    have SA := hidden (Chu.rSame 0 0 w2 (Chu.zck 0) (Chu.zck 0) HC2.out HC2.out)
    clear he
    go_wp2_with fail
    refine Calls.mono SA.out ?_
    rintro e w3 ⟨t, rfl, ht, b3⟩
    obtain rfl : t = true := by simpa using ht
    have HB3 := hidden (HB2.out.trans (b3.mono HB2.out.size))
    clear b3 ht
    go_wp2
    go_ret
    exact ⟨rfl, HB3.out⟩

set_option maxRecDepth 100000 in
theorem contract (H : Type) (enc : TypeId × Value → H) (W : World) (base : Nat) (args : Array Value) (ds gs : List (DataW H)) (before : List MemPlace)
    (hval : ∀ (j : Nat) t v, Try.f8.params[j]? = some t → args[j]? = some v → Value.okWide Try.prog W .any base t v)
    (hW : DataW.Whole enc Try.prog Try.f8.params.toList Rows.chunkReadsSpec.vars false W args.toList ds gs before)
    (hsz0 : (DataW.weightsEach Try.prog (Try.f8.params.toList ++ Rows.chunkReadsSpec.plain.varTypes Try.prog) (ds ++ gs)).all (· ≤ reachBytes) = true) :
    Calls Try.prog 8 args W fun e W' => ∃ v, e = .returned v ∧ Rows.chunkReadsSpec.post enc Try.prog Try.f8 false true false false W args v W' := by
  have hW' := hW
  obtain ⟨p, q, hA0, hV, rfl, hfz, hnd⟩ := hW
  have hA : DataW.TrodAll enc Try.prog W 0 (fun _ => true) true Try.f8.params.toList args.toList ds p := hA0
  have hsz := hsz0
  rw [Try.params8] at hA hval hsz
  obtain ⟨v0, vs0, d0, ds0, p0, q0, hargs, rfl, rfl, h0, r0⟩ := trodAll_cons hA
  obtain ⟨rfl, rfl, rfl⟩ := trodAll_nil r0
  obtain rfl : args = #[v0] := by cases args; simp_all
  obtain ⟨rfl, rfl⟩ := trodVars_none hV
  obtain ⟨a0, len0, cap0, rfl⟩ := okWide_slice Try.underlying23 (hval 0 23 v0 rfl rfl)
  have k0 := h0
  have lt0 : ∀ x ∈ p0, x.block < W.heap.size := by obtain ⟨m, hm⟩ := k0; exact DataW.trod_lt m _ _ _ hm
  have sz0 : (d0.weights Try.prog 23).all (· ≤ reachBytes) = true := List.all_eq_true.2 fun m hm => List.all_eq_true.1 hsz m (DataW.weights_mem_each (j := 0) rfl rfl m hm)
  obtain ⟨z0, w0, s0⟩ : ∃ zs, Par.Row 0 W a0 len0 zs ∧ len0 ≤ cap0 ∧ cap0 ≤ 140737488351232 ∧ (a0 = none → len0 = 0 ∧ cap0 = 0) := by
    obtain ⟨fuel, hf⟩ := h0
    exact Par.row_arg hf sz0
  clear hA0 hsz0 hsz
  refine (walk a0 len0 cap0 z0 W w0 s0).mono fun e W' ⟨he, bel⟩ => ?_
  subst he
  exact ⟨_, rfl, _, _, _, [], _, [], hW', trodAll_mk1 (shut_bool Try.underlying4 _), (trodAll_cons_mk (Below.trod laidOut (by kernel_rfl) (of_decide_eq_true (by kernel_rfl)) k0 bel lt0) trodAll_mk0), rfl, bel.frame _, fun h => by cases h⟩

noncomputable def laidWorld (os : Os) : World :=
  World.holding Try.prog os ⟨#[], #[], []⟩
set_option maxRecDepth 100000 in
theorem laid_met (os : Os) : laidMet Try.prog Rows.chunkReadsRow.laid ((laidWorld os).forCall (fun _ _ => 0) ⟨#[], #[.slice none 0 0], []⟩).memory :=
  laidMet_of_run' 8 (by kernel_rfl) (by kernel_rfl)
set_option maxRecDepth 100000 in
theorem reads (os : Os) {H : Type} (enc : TypeId × Value → H) : ∃ places, DataW.whole enc Try.prog ((laidWorld os).forCall (fun _ _ => 0) ⟨#[], #[.slice none 0 0], []⟩).memory Try.f8.params.toList Rows.chunkReadsSpec.vars false #[Value.slice none 0 0].toList 8 = some ([.nil], [], places) :=
  ⟨[], by kernel_rfl⟩

set_option maxRecDepth 100000 in
theorem lifted (os : Os) (started : os.Started) (H : Type) (enc : TypeId × Value → H) (F : Stop.Interp) :
    ReturnsInHanded {} Try.checked os 8 .any ((OpenSpec.ofChange Rows.chunkReadsSpec).preRow enc Try.prog Try.f8 Rows.chunkReadsRow.domain false Rows.chunkReadsRow.laid) (((OpenSpec.ofChange Rows.chunkReadsSpec).at F).post enc Try.prog Try.f8 false true false false) := by
  obtain ⟨places, hx⟩ := reads os enc
  refine returnsInHanded_of_row (C := Try.checked) (s := OpenSpec.ofChange Rows.chunkReadsSpec) own started (by kernel_rfl) Try.func8
    (witness_row_at (enc := enc) (C := Try.checked) false (laidWorld os) #[.slice none 0 0] rfl (by kernel_rfl) (by kernel_rfl) (by kernel_rfl)
      (OpenSpec.preRow_of_cond 8 hx (by kernel_rfl) (fun k hk => by cases hk) (by kernel_rfl) (laid_met os))) ?_
  intro W base args ds gs before hval hW _ hcond hsz hL _ _
  exact contract H enc W base args ds gs before hval hW hsz

theorem said : Rows.ChunkReadsSaid :=
  OpenClaim.holds_of_cond 8 Try.f8 rfl rfl rfl rfl rfl rfl rfl ⟨rfl, rfl, rfl, rfl, rfl⟩ rfl rfl rfl rfl rfl (by kernel_rfl) Try.func8 (by kernel_rfl)
    (of_decide_eq_true (by kernel_rfl)) (by unfold Func.isWrapper; first | (rw [if_pos (by decide +kernel)]; kernel_rfl) | (rw [if_neg (by decide +kernel)]; exact ⟨rfl, rfl⟩))
    (fun os started H enc _ F => by rw [OpenClaim.pre_eq_preRow]; exact lifted os started H enc F)

/-- THE STATEMENT -/
theorem proved : Rows.ChunkReadsSaid := said
#print axioms proved
end Go.Proofs.Ytifdkpifambhaaa.chunkReads
