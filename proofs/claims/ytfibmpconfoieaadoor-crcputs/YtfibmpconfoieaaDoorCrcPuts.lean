/-
  For every row of bytes the law CrcPuts returns true: crc.Put is the document's packet with its sum, crc.Check the document's answer, and what Put answers has its sum (P2.2). Conditions: none; the table nibbleSteps starts as the program's text lays it (the card ties it).
-/
import Derived.Test.YtfibmpconfoieaaDoorCards
import Derived.Test.YtfibmpconfoieaaDoorTie
import Derived.WalkKit
import Derived.ProofKit
import Derived.OpenShut
import Derived.ShutString
import Derived.ChangeOld
import Derived.Below
import Derived.SizedLaws
import Derived.Deep.DeepHandedRow
import Derived.Lib.LaidTab
import Derived.Test.YtfibmpconfoieaaDoorRef
namespace Go.Proofs.YtfibmpconfoieaaDoor.crcPuts
open Go.ChangeShapes Go.WideShapes Go.ChangeAt Go.RowKit
set_option linter.unusedVariables false

theorem own : ownKnob Tryd.prog.godebug = none := by kernel_rfl
theorem laidOut : laidOutB Tryd.prog = true := by kernel_rfl
theorem gTab : Tryd.prog.globalNamed "ropewalk/crc.nibbleSteps" = some 0 := by kernel_rfl
theorem gTabType : (Tryd.prog.globals[0]?).map (·.type) = some 45 := by kernel_rfl
theorem table {W : World} (h : laidMetH Tryd.prog Rows.crcPutsRow.laid W) : Crc.Tab W := fun i hi =>
  (show Lib.TabIs Tryd.prog W "ropewalk/crc.nibbleSteps" .u32 Crc.tab from
    Lib.tabIs_of_head (rest := []) gTab gTabType Tryd.underlying45 Tryd.underlying23 (by kernel_rfl) (by kernel_rfl) h).cell gTab i hi

theorem put_put {zs : List Int} (h : 12 ≤ zs.length) : Crc.putOf (Crc.putOf zs) = Crc.putOf zs := by
  have hz : Crc.zed (Crc.putOf zs) = Crc.zed zs := by
    unfold Crc.zed
    have e1 : (Crc.putOf zs).take 8 = zs.take 8 := by
      unfold Crc.putOf
      rw [List.take_append_of_le_length (by simp; omega), List.take_of_length_le (by simp; omega)]
    have e2 : (Crc.putOf zs).drop 12 = zs.drop 12 := by
      unfold Crc.putOf
      rw [← List.append_assoc, List.drop_append_of_le_length (by simp [Crc.b4]; omega), List.drop_of_length_le (by simp [Crc.b4]; omega)]
      rfl
    rw [e1, e2]
  rw [Crc.put_eq_iff (by rw [Crc.put_len h]; exact h), hz]
  unfold Crc.putOf
  rw [List.drop_append_of_le_length (by simp; omega), List.drop_of_length_le (by simp; omega), List.nil_append, List.take_append_of_le_length (by simp [Crc.b4])]
  rfl

theorem walk (a0 : Option Addr) (len0 cap0 : Nat) (z0 : List Int) (w : World) (w0 : Crc.Row w a0 len0 z0) (s0 : len0 ≤ cap0 ∧ cap0 ≤ 140737488351232 ∧ (a0 = none → len0 = 0 ∧ cap0 = 0)) (ht : Crc.Tab w) :
    Calls Tryd.prog 5 #[.slice a0 len0 cap0] w fun e w' => e = .returned (.bool true) ∧ Below w.heap.size w w' := by
  rcases Nat.lt_or_ge len0 12 with hlt | hge
  · have t1 := run_convert_bytes_nil (P := Tryd.prog) w 22 5 Tryd.underlying22 Tryd.underlying5 0 0 9 Tryd.underlying9
    go_enter Tryd.func5, Tryd.ntmps5
    go_wp2_with fail
    refine (Crc.put_brief a0 len0 cap0 w hlt).mono ?_
    rintro e w' ⟨rfl, rfl⟩
    go_wp2_with fail
    refine (Crc.rput_brief a0 len0 cap0 w hlt).mono ?_
    rintro e w' ⟨rfl, rfl⟩
    go_wp2_with fail
    refine (Crc.check_brief a0 len0 cap0 w hlt).mono ?_
    rintro e w' ⟨rfl, rfl⟩
    go_wp2_with fail
    refine (Crc.rcheck_brief a0 len0 cap0 w hlt).mono ?_
    rintro e w' ⟨rfl, rfl⟩
    go_wp2_with fail
    refine (Crc.awake w ht).mono ?_
    rintro e w' ⟨rfl, hb⟩
    go_wp2
    go_ret
    exact ⟨rfl, hb⟩
  · obtain ⟨b, off, rfl⟩ : ∃ b off, a0 = some ⟨b, off, none⟩ := by
      obtain ⟨b, off, h, _⟩ := w0.2.2.2.resolve_left (by omega)
      exact ⟨b, off, h⟩
    have hpb := Crc.put_bytes w0.2.1
    have hpp := put_put (zs := z0) (by rw [w0.1]; omega)
    have hpc := Crc.code_ok hpp
    have HC : Hid _ := hpc
    clear hpp hpc
    go_enter Tryd.func5, Tryd.ntmps5
    go_wp2_with fail
    refine (Crc.put b off len0 cap0 z0 w ht w0 hge s0.1 (by omega)).mono ?_
    rintro e w1 ⟨v1, rfl, hown1, hb1⟩
    obtain ⟨p1, c1, rfl, hrow1, hc1, hn1, _⟩ := Crc.row_own hown1 hpb (by omega)
    go_wp2_with fail
    refine (Crc.rput b off len0 cap0 z0 w1 (w0.later hb1) hge (by omega)).mono ?_
    rintro e w2 ⟨v2, rfl, hown2, hb2⟩
    obtain ⟨p2, c2, rfl, hrow2, hc2, hn2, _⟩ := Crc.row_own hown2 hpb (by omega)
    have hr1 := hrow1.later hb2
    have t1 := Crc.text (cap := c1) hr1 (fun h => (hn1 h).1)
    have t2 := Crc.text (cap := c2) hrow2 (fun h => (hn2 h).1)
    have B2 : Below w.heap.size w w2 := hb1.trans (hb2.mono hb1.size)
    have hT2 := ht.later B2 ht.pos
    have hR2 := w0.later B2
    clear hown1 hown2
    go_wp2_with fail
    refine (Crc.check b off len0 cap0 z0 w2 hT2 hR2 hge s0.1 (by omega)).mono ?_
    rintro e w3 ⟨rfl, hb3⟩
    have B3 : Below w.heap.size w w3 := B2.trans (hb3.mono B2.size)
    go_wp2_with fail
    refine (Crc.rcheck b off len0 cap0 z0 w3 (w0.later B3) hge (by omega)).mono ?_
    rintro e w4 ⟨rfl, hb4⟩
    have B4 : Below w.heap.size w w4 := B3.trans (hb4.mono B3.size)
    go_wp2_with fail
    refine (Crc.awake w4 (ht.later B4 ht.pos)).mono ?_
    rintro e w5 ⟨rfl, hb5⟩
    have B5 : Below w.heap.size w w5 := B4.trans (hb5.mono B4.size)
    obtain ⟨g1, o1, rfl⟩ : ∃ b off, p1 = some ⟨b, off, none⟩ := by
      obtain ⟨b, off, h, _⟩ := hrow1.2.2.2.resolve_left (by omega)
      exact ⟨b, off, h⟩
    have hr5 := ((hr1.later hb3).later hb4).later hb5
    go_wp2_with fail
    refine (Crc.check g1 o1 len0 c1 _ w5 (ht.later B5 ht.pos) hr5 hge hc1 (by omega)).mono ?_
    rintro e w6 ⟨rfl, hb6⟩
    rw [HC.out]
    go_wp2
    go_ret
    exact ⟨rfl, B5.trans (hb6.mono B5.size)⟩

theorem contract (H : Type) (enc : TypeId × Value → H) (W : World) (base : Nat) (args : Array Value) (ds gs : List (DataW H)) (before : List MemPlace)
    (hval : ∀ (j : Nat) t v, Tryd.f5.params[j]? = some t → args[j]? = some v → Value.okWide Tryd.prog W .any base t v)
    (hW : DataW.Whole enc Tryd.prog Tryd.f5.params.toList Rows.crcPutsSpec.vars false W args.toList ds gs before)
    (hsz0 : (DataW.weightsEach Tryd.prog (Tryd.f5.params.toList ++ Rows.crcPutsSpec.plain.varTypes Tryd.prog) (ds ++ gs)).all (· ≤ reachBytes) = true)
    (hL : laidMetH Tryd.prog Rows.crcPutsRow.laid W) :
    Calls Tryd.prog 5 args W fun e W' => ∃ v, e = .returned v ∧ Rows.crcPutsSpec.post enc Tryd.prog Tryd.f5 false true false false W args v W' := by
  have hW' := hW
  obtain ⟨p, q, hA0, hV, rfl, hfz, hnd⟩ := hW
  have hA : DataW.TrodAll enc Tryd.prog W 0 (fun _ => true) true Tryd.f5.params.toList args.toList ds p := hA0
  have hsz := hsz0
  rw [Tryd.params5] at hA hval hsz
  obtain ⟨v0, vs0, d0, ds0, p0, q0, hargs, rfl, rfl, h0, r0⟩ := trodAll_cons hA
  obtain ⟨rfl, rfl, rfl⟩ := trodAll_nil r0
  obtain rfl : args = #[v0] := by cases args; simp_all
  obtain ⟨rfl, rfl⟩ := trodVars_none hV
  obtain ⟨a0, len0, cap0, rfl⟩ := okWide_slice Tryd.underlying22 (hval 0 22 v0 rfl rfl)
  have k0 := h0
  have lt0 : ∀ x ∈ p0, x.block < W.heap.size := by obtain ⟨m, hm⟩ := k0; exact DataW.trod_lt m _ _ _ hm
  obtain ⟨z0, w0, s0⟩ : ∃ zs, Crc.Row W a0 len0 zs ∧ len0 ≤ cap0 ∧ cap0 ≤ 140737488351232 ∧ (a0 = none → len0 = 0 ∧ cap0 = 0) := by
    obtain ⟨fuel, hf⟩ := h0
    refine Crc.row_of hf fun elems spare hd => ?_
    simp only at hd
    subst hd
    have sz := sized_slice hsz (j := 0) (t := 22) (elems := elems) (spare := spare) rfl rfl Tryd.underlying22
    rw [show Tryd.prog.bytesOf 5 = 1 by kernel_rfl, Nat.mul_one] at sz
    exact sz
  clear hA0 hsz0 hsz
  refine (walk a0 len0 cap0 z0 W w0 s0 (table hL)).mono fun e W' ⟨he, bel⟩ => ?_
  subst he
  exact ⟨_, rfl, _, _, _, [], _, [], hW', trodAll_mk1 (shut_bool Tryd.underlying4 _), (trodAll_cons_mk (Below.trod laidOut (by kernel_rfl) (of_decide_eq_true (by kernel_rfl)) k0 bel lt0) trodAll_mk0), rfl, bel.frame _, fun h => by cases h⟩

noncomputable def laidWorld (os : Os) : World :=
  { World.holding Tryd.prog os ⟨#[], #[], []⟩ with heap := (World.holding Tryd.prog os ⟨#[], #[], []⟩).heap.modify 0 fun
      | .cells _ t frozen => .cells #[.int .u32 0, .int .u32 274646895, .int .u32 549293790, .int .u32 820201905, .int .u32 1098587580, .int .u32 1361435347, .int .u32 1640403810, .int .u32 1905808397, .int .u32 2197175160, .int .u32 2460548119, .int .u32 2722870694, .int .u32 2987750089, .int .u32 3280807620, .int .u32 3553878443, .int .u32 3811616794, .int .u32 4084100981] t frozen
      | o => o }
theorem laid_met (os : Os) : laidMet Tryd.prog Rows.crcPutsRow.laid ((laidWorld os).forCall (fun _ _ => 0) ⟨#[], #[.slice none 0 0], []⟩).memory :=
  laidMet_of_run' 8 (by kernel_rfl) (by kernel_rfl)
theorem reads (os : Os) {H : Type} (enc : TypeId × Value → H) : ∃ places, DataW.whole enc Tryd.prog ((laidWorld os).forCall (fun _ _ => 0) ⟨#[], #[.slice none 0 0], []⟩).memory Tryd.f5.params.toList Rows.crcPutsSpec.vars false #[Value.slice none 0 0].toList 8 = some ([.nil], [], places) :=
  ⟨[], by kernel_rfl⟩

set_option maxRecDepth 100000 in
theorem lifted (os : Os) (started : os.Started) (H : Type) (enc : TypeId × Value → H) (F : Stop.Interp) :
    ReturnsInHanded {} Tryd.checked os 5 .any ((OpenSpec.ofChange Rows.crcPutsSpec).preRow enc Tryd.prog Tryd.f5 Rows.crcPutsRow.domain false Rows.crcPutsRow.laid) (((OpenSpec.ofChange Rows.crcPutsSpec).at F).post enc Tryd.prog Tryd.f5 false true false false) := by
  obtain ⟨places, hx⟩ := reads os enc
  refine returnsInHanded_of_row (C := Tryd.checked) (s := OpenSpec.ofChange Rows.crcPutsSpec) own started (by kernel_rfl) Tryd.func5
    (witness_row_at (enc := enc) (C := Tryd.checked) false (laidWorld os) #[.slice none 0 0] rfl (by kernel_rfl) (by kernel_rfl) (by kernel_rfl)
      (OpenSpec.preRow_of_cond 8 hx (by kernel_rfl) (fun k hk => by cases hk) (by kernel_rfl) (laid_met os))) ?_
  intro W base args ds gs before hval hW _ hcond hsz hL _ _
  exact contract H enc W base args ds gs before hval hW hsz hL

theorem said : Rows.CrcPutsSaid :=
  OpenClaim.holds_of_cond 5 Tryd.f5 rfl rfl rfl rfl rfl rfl rfl ⟨rfl, rfl, rfl, rfl, rfl⟩ rfl rfl rfl rfl rfl (by kernel_rfl) Tryd.func5 (by kernel_rfl)
    (of_decide_eq_true (by kernel_rfl)) (by unfold Func.isWrapper; first | (rw [if_pos (by decide +kernel)]; kernel_rfl) | (rw [if_neg (by decide +kernel)]; exact ⟨rfl, rfl⟩))
    (fun os started H enc _ F => by rw [OpenClaim.pre_eq_preRow]; exact lifted os started H enc F)

theorem plain (f : FuncId) (fn : Func) (hf : Tryd.pinned.checked.prog.funcNamed "ropewalk/ropewalklaw02.CrcPuts" = some f) (hfn : Tryd.pinned.checked.prog.funcs[f]? = some fn) :
    false = Tryd.pinned.checked.prog.looks [] ∧ ∀ (j : Nat) t, fn.params[j]? = some t → Tryd.pinned.checked.prog.wantsStandIn t = false := by
  obtain rfl : f = 5 := Option.some.inj ((show Tryd.prog.funcNamed "ropewalk/ropewalklaw02.CrcPuts" = some 5 by kernel_rfl).symm.trans hf) |>.symm
  obtain rfl : fn = Tryd.f5 := (Option.some.inj (Tryd.func5.symm.trans hfn)).symm
  refine ⟨by kernel_rfl, fun j t ht => ?_⟩
  rw [Tryd.params5] at ht
  have hm : t ∈ [22] := by simpa using Array.mem_of_getElem? ht
  have hall : ∀ t ∈ [22], Tryd.prog.wantsStandIn t = false := by
    intro t ht
    simp only [List.mem_cons, List.not_mem_nil, or_false] at ht
    subst ht; kernel_rfl
  exact hall t hm

/-- THE CARD -/
theorem proved : Rows.CrcPutsCardSaid :=
  Claim7.holds_tied_plain_at .later [] _ _ _ _ said (fun _ h => by cases h) (by kernel_rfl) (fun _ h => by cases h) crcPuts_row_tie rfl ⟨rfl, rfl⟩ (by kernel_rfl) rfl plain (by kernel_rfl)
#print axioms proved
end Go.Proofs.YtfibmpconfoieaaDoor.crcPuts
