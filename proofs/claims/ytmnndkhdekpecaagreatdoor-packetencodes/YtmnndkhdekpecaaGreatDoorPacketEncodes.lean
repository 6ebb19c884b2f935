/-
  What PacketEncodes says of every packet and every kind is true: package packet tells which packets may be, the bytes of each, and which kinds stand alone, as the document says. Conditions: the packet and all that it holds lie in memory, as whatever is handed in does.
-/
import Derived.Test.YtmnndkhdekpecaaGreatDoorCards
import Derived.Test.YtmnndkhdekpecaaGreatDoorTie
import Derived.WalkKit
import Derived.ProofKit
import Derived.OpenShut
import Derived.ShutString
import Derived.ChangeOld
import Derived.Below
import Derived.SizedLaws
import Derived.Deep.DeepHandedRow
import Derived.LaidLaws
import Derived.ChangeMaps5
import Derived.Lib.LaidTab
import Derived.Test.YtmnndkhdekpecaaGreatDoorPkK
import Derived.Test.YtmnndkhdekpecaaGreatDoorPkH
import Derived.Test.YtmnndkhdekpecaaGreatDoorPkArgs
namespace Go.Proofs.YtmnndkhdekpecaaGreatDoor.packetEncodes
open Go.ChangeShapes Go.WideShapes Go.ChangeAt Go.RowKit
open Go.ChangeMaps (open_string shut_string)
set_option linter.unusedVariables false

theorem own : ownKnob Tryz.prog.godebug = none := by kernel_rfl
theorem laidOut : laidOutB Tryz.prog = true := by kernel_rfl
theorem gTab : Tryz.prog.globalNamed "ropewalk/crc.nibbleSteps" = some 0 := by kernel_rfl
theorem gTabType : (Tryz.prog.globals[0]?).map (·.type) = some 152 := by kernel_rfl
theorem table {W : World} (h : laidMetH Tryz.prog Rows.packetEncodesRow.laid W) : Crc.Tab W := fun i hi =>
  (show Lib.TabIs Tryz.prog W "ropewalk/crc.nibbleSteps" .u32 Crc.tab from
    Lib.tabIs_of_head (rest := []) gTab gTabType Tryz.underlying152 Tryz.underlying23 (by kernel_rfl) (by kernel_rfl) h).cell gTab i hi

open Par (hidden)
/-- the text of what Encode told -/
theorem enc_text {base : Nat} {w w1 w2 : World} {p : Pkt.Pk} {v : Value} {er : Int} (hp : Pkt.PkOk base w p) (h : Pkt.EncO w w1 p v er) (hb : Below w1.heap.size w1 w2) :
    ∃ va vl vc, v = .slice va vl vc ∧ (convert 27 9 (.slice va vl vc)).run Tryz.prog w2 = .ok (.string (strOfNums (if er = 0 then Pkt.pby p.f p.t p.g (p.l.map Chu.val) else []))) w2 := by
  obtain ⟨hE, hbad, hgood, _⟩ := h
  by_cases he : er = 0
  · subst he
    obtain ⟨_, _, _, hall, htot⟩ := hE.ok
    have hvo : ∀ v ∈ p.l.map Chu.val, Chu.VOk v := fun v hv => by
      obtain ⟨c, hc, rfl⟩ := List.mem_map.1 hv
      exact (hp.2.2.2.2.2.1 c hc).vok
    have hby := Pkt.pby_bytes (g := p.g) hp.1 hp.2.1 hp.2.2.1 hvo hall
    obtain ⟨va, cap, rfl, hrow, _, _, _⟩ := Par.row_own (zs := Pkt.pby p.f p.t p.g (p.l.map Chu.val)) (hgood rfl) hby (by omega)
    refine ⟨_, _, _, rfl, ?_⟩
    rw [if_pos rfl]
    exact Par.conv_row _ w2 _ _ cap _ (hrow.later hb)
  · obtain rfl := hbad he
    refine ⟨_, _, _, rfl, ?_⟩
    rw [if_neg he]
    exact Par.conv_row 0 w2 none 0 0 [] ⟨rfl, (fun n hn => by cases hn), by decide, .inl rfl⟩
set_option maxRecDepth 20000 in
set_option maxHeartbeats 1000000 in

theorem walk (a0 : Pkt.Pk) (a1 : Int) (w : World) (w0 : Pkt.PkOk 0 w a0) (s0 : ∀ c ∈ a0.l, c.bl ≤ 140737488351232) (w1 : (Lit.int .u8 a1).wf = true) (ht : Crc.Tab w) :
    Calls Tryz.prog 3 #[Pkt.pkv a0, .int .u8 a1] w fun e w' => e = .returned (.bool true) ∧ Below w.heap.size w w' := by
  have hb0 := Pkt.below_new w (.cells (Pkt.pkc a0) 26)
  have HB0 := hidden hb0
  have EN := hidden (Pkt.encode 0 _ a0 (w0.later hb0) (ht.later hb0 ht.pos))
  have HP0 := hidden (Pkt.Pb.new w a0)
  have W0 := hidden w0
  have S0 := hidden s0
  have HT := hidden ht
  clear w0 s0 ht hb0 w1
  simp only [Pkt.pkv, Pkt.pkc] at *
  go_enter Tryz.func3, Tryz.ntmps3
  go_wp2_with fail
  generalize hW : World.alloc w _ = W at *
  clear hW
  refine Calls.mono EN.out ?_
  rintro e w1 ⟨v, er, rfl, hE⟩
  have HE := hidden hE
  have HB1 := hidden (HB0.out.trans (hE.2.2.2.mono HB0.out.size))
  have HP1 := hidden (HP0.out.later hE.2.2.2)
  have RE := hidden (Pkt.rEncode 0 w1 a0 (W0.out.later HB1.out) S0.out)
  simp only [Pkt.pkv, Pkt.pkc] at RE
  obtain ⟨c0, c1, c2, c3⟩ := HP1.out.px
  clear hE EN
  go_wp2_with fail
  refine Calls.mono RE.out ?_
  rintro e w2 ⟨u, er2, rfl, hE2⟩
  obtain rfl : er = er2 := HE.out.1.one hE2.1
  have HB2 := hidden (HB1.out.trans (hE2.2.2.2.mono HB1.out.size))
  have HP2 := hidden (HP1.out.later hE2.2.2.2)
  obtain ⟨va, vl, vc, rfl, hv⟩ := enc_text (W0.out.later HB0.out) HE.out hE2.2.2.2
  obtain ⟨ua, ul, uc, rfl, hu⟩ := enc_text (W0.out.later HB1.out) hE2 (Below.refl _ w2)
  have PN := hidden HE.out.1
  have CK := hidden (Pkt.check 0 w2 a0 (W0.out.later HB2.out) (HT.out.later HB2.out HT.out.pos))
  simp only [Pkt.pkv, Pkt.pkc] at CK
  clear hE2 RE HE c0 c1 c2 c3
  obtain ⟨c0, c1, c2, c3⟩ := HP2.out.px
  generalize strOfNums _ = s at hv hu
  go_wp2_with fail
  refine Calls.mono CK.out ?_
  rintro e w3 ⟨er3, rfl, hE3, b3⟩
  obtain rfl : er = er3 := PN.out.one hE3
  have HB3 := hidden (HB2.out.trans (b3.mono HB2.out.size))
  clear hE3 b3 CK hv hu c0 c1 c2 c3
  go_wp2_with fail
  have A1 := Pkt.alone_says a1 w3
  have A2 := Pkt.ralone_says a1 w3
  generalize Pkt.aloneB a1 = al at A1 A2
  refine Calls.mono A1 ?_
  rintro e w' ⟨rfl, rfl⟩
  have HA2 := hidden A2
  clear A1 A2
  go_wp2_with fail
  refine Calls.mono HA2.out ?_
  rintro e w' ⟨rfl, rfl⟩
  clear HA2
  go_wp2_with fail
  refine Calls.mono (Pkt.alive w3 (HT.out.later HB3.out HT.out.pos)) ?_
  rintro e w6 ⟨rfl, b6⟩
  have HB6 := hidden (HB3.out.trans (b6.mono HB3.out.size))
  clear b6
  go_wp2
  go_ret
  exact ⟨rfl, HB6.out⟩

set_option maxRecDepth 100000 in
theorem contract (H : Type) (enc : TypeId × Value → H) (W : World) (base : Nat) (args : Array Value) (ds gs : List (DataW H)) (before : List MemPlace)
    (hval : ∀ (j : Nat) t v, Tryz.f3.params[j]? = some t → args[j]? = some v → Value.okWide Tryz.prog W .any base t v)
    (hW : DataW.Whole enc Tryz.prog Tryz.f3.params.toList Rows.packetEncodesSpec.vars false W args.toList ds gs before)
    (hsz0 : (DataW.weightsEach Tryz.prog (Tryz.f3.params.toList ++ Rows.packetEncodesSpec.plain.varTypes Tryz.prog) (ds ++ gs)).all (· ≤ reachBytes) = true)
    (hL : laidMetH Tryz.prog Rows.packetEncodesRow.laid W) :
    Calls Tryz.prog 3 args W fun e W' => ∃ v, e = .returned v ∧ Rows.packetEncodesSpec.post enc Tryz.prog Tryz.f3 false true false false W args v W' := by
  have hW' := hW
  obtain ⟨p, q, hA0, hV, rfl, hfz, hnd⟩ := hW
  have hA : DataW.TrodAll enc Tryz.prog W 0 (fun _ => true) true Tryz.f3.params.toList args.toList ds p := hA0
  have hsz := hsz0
  rw [Tryz.params3] at hA hval hsz
  obtain ⟨v0, vs0, d0, ds0, p0, q0, hargs, rfl, rfl, h0, r0⟩ := trodAll_cons hA
  obtain ⟨v1, vs1, d1, ds1, p1, q1, rfl, rfl, rfl, h1, r1⟩ := trodAll_cons r0
  obtain ⟨rfl, rfl, rfl⟩ := trodAll_nil r1
  obtain rfl : args = #[v0, v1] := by cases args; simp_all
  obtain ⟨rfl, rfl⟩ := trodVars_none hV
  have k0 := h0
  have lt0 : ∀ x ∈ p0, x.block < W.heap.size := by obtain ⟨m, hm⟩ := k0; exact DataW.trod_lt m _ _ _ hm
  have sz0 : (d0.weights Tryz.prog 26).all (· ≤ reachBytes) = true := List.all_eq_true.2 fun m hm => List.all_eq_true.1 hsz m (DataW.weights_mem_each (j := 0) rfl rfl m hm)
  obtain ⟨a0, rfl, w0, s0⟩ : ∃ c, v0 = Pkt.pkv c ∧ Pkt.PkOk 0 W c ∧ ∀ x ∈ c.l, x.bl ≤ 140737488351232 := by
    obtain ⟨fuel, hf⟩ := h0
    exact Pkt.packet_arg (hval 0 26 v0 rfl rfl) hf sz0
  obtain ⟨a1, rfl, rfl, rfl, w1⟩ := open_int Tryz.underlying5 (hval 1 5 v1 rfl rfl) h1
  clear hA0 hsz0 hsz
  refine (walk a0 a1 W w0 s0 w1 (table hL)).mono fun e W' ⟨he, bel⟩ => ?_
  subst he
  exact ⟨_, rfl, _, _, _, [], _, [], hW', trodAll_mk1 (shut_bool Tryz.underlying4 _), (trodAll_cons_mk (Below.trod laidOut (by kernel_rfl) (of_decide_eq_true (by kernel_rfl)) k0 bel lt0) (trodAll_cons_mk (shut_int Tryz.underlying5 w1) trodAll_mk0)), rfl, bel.frame _, fun h => by cases h⟩

noncomputable def laidWorld (os : Os) : World :=
  { World.holding Tryz.prog os ⟨#[], #[], []⟩ with heap := (World.holding Tryz.prog os ⟨#[], #[], []⟩).heap.modify 0 fun
      | .cells _ t frozen => .cells #[.int .u32 0, .int .u32 274646895, .int .u32 549293790, .int .u32 820201905, .int .u32 1098587580, .int .u32 1361435347, .int .u32 1640403810, .int .u32 1905808397, .int .u32 2197175160, .int .u32 2460548119, .int .u32 2722870694, .int .u32 2987750089, .int .u32 3280807620, .int .u32 3553878443, .int .u32 3811616794, .int .u32 4084100981] t frozen
      | o => o }
set_option maxRecDepth 100000 in
theorem laid_met (os : Os) : laidMet Tryz.prog Rows.packetEncodesRow.laid ((laidWorld os).forCall (fun _ _ => 0) ⟨#[], #[.agg #[.int .u16 0, .int .u16 0, .int .u32 0, .slice none 0 0], .int .u8 0], []⟩).memory :=
  laidMet_of_run' 8 (by kernel_rfl) (by kernel_rfl)
set_option maxRecDepth 100000 in
theorem reads (os : Os) {H : Type} (enc : TypeId × Value → H) : ∃ places, DataW.whole enc Tryz.prog ((laidWorld os).forCall (fun _ _ => 0) ⟨#[], #[.agg #[.int .u16 0, .int .u16 0, .int .u32 0, .slice none 0 0], .int .u8 0], []⟩).memory Tryz.f3.params.toList Rows.packetEncodesSpec.vars false #[Value.agg #[.int .u16 0, .int .u16 0, .int .u32 0, .slice none 0 0], Value.int .u8 0].toList 8 = some ([.agg [.lit (.int .u16 0), .lit (.int .u16 0), .lit (.int .u32 0), .nil], .lit (.int .u8 0)], [], places) :=
  ⟨[], by kernel_rfl⟩

set_option maxRecDepth 100000 in
theorem lifted (os : Os) (started : os.Started) (H : Type) (enc : TypeId × Value → H) (F : Stop.Interp) :
    ReturnsInHanded {} Tryz.checked os 3 .any ((OpenSpec.ofChange Rows.packetEncodesSpec).preRow enc Tryz.prog Tryz.f3 Rows.packetEncodesRow.domain false Rows.packetEncodesRow.laid) (((OpenSpec.ofChange Rows.packetEncodesSpec).at F).post enc Tryz.prog Tryz.f3 false true false false) := by
  obtain ⟨places, hx⟩ := reads os enc
  refine returnsInHanded_of_row (C := Tryz.checked) (s := OpenSpec.ofChange Rows.packetEncodesSpec) own started (by kernel_rfl) Tryz.func3
    (witness_row_at (enc := enc) (C := Tryz.checked) false (laidWorld os) #[.agg #[.int .u16 0, .int .u16 0, .int .u32 0, .slice none 0 0], .int .u8 0] rfl (by kernel_rfl) (by kernel_rfl) (by kernel_rfl)
      (OpenSpec.preRow_of_cond 8 hx (by kernel_rfl) (fun k hk => by cases hk) (by kernel_rfl) (laid_met os))) ?_
  intro W base args ds gs before hval hW _ hcond hsz hL _ _
  exact contract H enc W base args ds gs before hval hW hsz hL

theorem said : Rows.PacketEncodesSaid :=
  OpenClaim.holds_of_cond 3 Tryz.f3 rfl rfl rfl rfl rfl rfl rfl ⟨rfl, rfl, rfl, rfl, rfl⟩ rfl rfl rfl rfl rfl (by kernel_rfl) Tryz.func3 (by kernel_rfl)
    (of_decide_eq_true (by kernel_rfl)) (by unfold Func.isWrapper; first | (rw [if_pos (by decide +kernel)]; kernel_rfl) | (rw [if_neg (by decide +kernel)]; exact ⟨rfl, rfl⟩))
    (fun os started H enc _ F => by rw [OpenClaim.pre_eq_preRow]; exact lifted os started H enc F)

theorem plain (f : FuncId) (fn : Func) (hf : Tryz.pinned.checked.prog.funcNamed "ropewalk/ropewalklaw07.PacketEncodes" = some f) (hfn : Tryz.pinned.checked.prog.funcs[f]? = some fn) :
    true = Tryz.pinned.checked.prog.looks [] ∧ ∀ (j : Nat) t, fn.params[j]? = some t → Tryz.pinned.checked.prog.wantsStandIn t = false := by
  obtain rfl : f = 3 := Option.some.inj ((show Tryz.prog.funcNamed "ropewalk/ropewalklaw07.PacketEncodes" = some 3 by kernel_rfl).symm.trans hf) |>.symm
  obtain rfl : fn = Tryz.f3 := (Option.some.inj (Tryz.func3.symm.trans hfn)).symm
  refine ⟨by kernel_rfl, fun j t ht => ?_⟩
  rw [Tryz.params3] at ht
  have hm : t ∈ [26, 5] := by simpa using Array.mem_of_getElem? ht
  have hall : ∀ t ∈ [26, 5], Tryz.prog.wantsStandIn t = false := by
    intro t ht
    simp only [List.mem_cons, List.not_mem_nil, or_false] at ht
    rcases ht with rfl | rfl <;> kernel_rfl
  exact hall t hm

/-- THE CARD -/
theorem proved : Rows.PacketEncodesCardSaid :=
  Claim7.holds_tied_plain_at .later [] _ _ _ _ said (fun _ h => by cases h) (by kernel_rfl) (fun _ h => by cases h) packetEncodes_row_tie rfl ⟨rfl, rfl⟩ (by kernel_rfl) rfl plain (by kernel_rfl)
#print axioms proved
end Go.Proofs.YtmnndkhdekpecaaGreatDoor.packetEncodes
