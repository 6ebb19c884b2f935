/-
  What PacketDecodes says of every row of bytes is true: package packet reads it, and its head, as the document says. Conditions: the bytes lie in memory, as whatever is handed in does.
-/
import Derived.Test.YtmnndkhdekpecaaGreatDoorCards
import Derived.Test.YtmnndkhdekpecaaGreatDoorTie
import Derived.WalkKit
import Derived.ProofKit
import Derived.OpenShut
import Derived.ShutString
import Derived.ChangeOld
import Derived.Below
import Derived.SizedLaws
import Derived.Deep.DeepHandedRow
import Derived.LaidLaws
import Derived.ChangeMaps5
import Derived.Lib.LaidTab
import Derived.Test.YtmnndkhdekpecaaGreatDoorPkG
import Derived.Test.YtmnndkhdekpecaaGreatDoorPkH
import Derived.Test.YtmnndkhdekpecaaGreatDoorPkJ
import Derived.Test.YtmnndkhdekpecaaGreatDoorPkArgs
namespace Go.Proofs.YtmnndkhdekpecaaGreatDoor.packetDecodes
open Go.ChangeShapes Go.WideShapes Go.ChangeAt Go.RowKit
open Go.ChangeMaps (open_string shut_string)
set_option linter.unusedVariables false

theorem own : ownKnob Tryz.prog.godebug = none := by kernel_rfl
theorem laidOut : laidOutB Tryz.prog = true := by kernel_rfl
theorem gTab : Tryz.prog.globalNamed "ropewalk/crc.nibbleSteps" = some 0 := by kernel_rfl
theorem gTabType : (Tryz.prog.globals[0]?).map (·.type) = some 152 := by kernel_rfl
theorem table {W : World} (h : laidMetH Tryz.prog Rows.packetDecodesRow.laid W) : Crc.Tab W := fun i hi =>
  (show Lib.TabIs Tryz.prog W "ropewalk/crc.nibbleSteps" .u32 Crc.tab from
    Lib.tabIs_of_head (rest := []) gTab gTabType Tryz.underlying152 Tryz.underlying23 (by kernel_rfl) (by kernel_rfl) h).cell gTab i hi

open Par (hidden)
set_option maxRecDepth 20000 in
set_option maxHeartbeats 1000000 in

theorem walk (a0 : Option Addr) (len0 cap0 : Nat) (z0 : List Int) (w : World) (w0 : Par.Row 0 w a0 len0 z0) (s0 : len0 ≤ cap0 ∧ cap0 ≤ 140737488351232 ∧ (a0 = none → len0 = 0 ∧ cap0 = 0)) (ht : Crc.Tab w) :
    Calls Tryz.prog 4 #[.slice a0 len0 cap0] w fun e w' => e = .returned (.bool true) ∧ Below w.heap.size w w' := by
  have DE := hidden (Pkt.decode 0 w a0 len0 cap0 z0 w0 s0.1 s0.2.2 ht)
  have HT := hidden ht
  have W0 := hidden w0
  have S0 := hidden s0
  clear w0 s0 ht
  go_enter Tryz.func4, Tryz.ntmps4
  go_wp2_with fail
  refine Calls.mono DE.out ?_
  rintro e w1 ⟨p, q, er, rfl, hok, hD, hnum, hz, b1⟩
  have hbn := Pkt.below_new w1 (.cells (Pkt.pkc p) 26)
  have HB1 := hidden (b1.trans (hbn.mono b1.size))
  have HO1 := hidden (hok.later hbn)
  have HP1 := hidden (Pkt.Pb.new w1 p)
  have HD := hidden hD
  have HN := hidden hnum
  have HZ := hidden hz
  clear hok hD hnum hz b1 hbn DE
  rw [show Pkt.pkv p = .agg #[.int .u16 p.f, .int .u16 p.t, .int .u32 p.g, .slice p.a p.n p.c] from rfl]
  rw [show Pkt.pkc p = #[.int .u16 p.f, .int .u16 p.t, .int .u32 p.g, .slice p.a p.n p.c] from rfl] at HB1 HO1 HP1
  go_wp2_with fail
  generalize hV1 : World.alloc w1 _ = V1 at *
  clear hV1
  refine Calls.mono (Pkt.rDecode 0 V1 a0 len0 cap0 z0 (W0.out.later HB1.out) S0.out.1 S0.out.2.2) ?_
  rintro e w2 ⟨p2, q2, er2, rfl, hok, hD, hnum, hz, b2⟩
  obtain ⟨hl, rfl, rfl⟩ := HD.out.one hD
  have HSP := hidden (show Pkt.SamePk p p2 from by
    by_cases he : er = 0
    · exact ⟨(HN.out he).1.trans (hnum he).1.symm, (HN.out he).2.1.trans (hnum he).2.1.symm, (HN.out he).2.2.trans (hnum he).2.2.symm, hl⟩
    · rw [HZ.out he, hz he]
      exact ⟨rfl, rfl, rfl, rfl⟩)
  have hbn := Pkt.below_new w2 (.cells (Pkt.pkc p2) 26)
  have b2n := b2.trans (hbn.mono b2.size)
  have HB2 := hidden (HB1.out.trans (b2n.mono HB1.out.size))
  have HO2 := hidden (hok.later hbn)
  have HP2 := hidden (Pkt.Pb.new w2 p2)
  have HO1' := hidden (HO1.out.later b2n)
  have HP1' := hidden (HP1.out.later b2n)
  have lt1 : w1.heap.size < V1.heap.size := HP1.out.lt
  have lt1' : w1.heap.size < w2.heap.size := Nat.lt_of_lt_of_le lt1 b2.size
  clear hok hD hnum hz b2 b2n hbn hl HD HN HZ HO1 HP1 HB1
  rw [show Pkt.pkv p2 = .agg #[.int .u16 p2.f, .int .u16 p2.t, .int .u32 p2.g, .slice p2.a p2.n p2.c] from rfl]
  rw [show Pkt.pkc p2 = #[.int .u16 p2.f, .int .u16 p2.t, .int .u32 p2.g, .slice p2.a p2.n p2.c] from rfl] at HB2 HO2 HP2 HO1' HP1'
  go_wp2_with fail
  generalize hV2 : World.alloc w2 _ = V2 at *
  clear hV2
  refine Calls.mono (Pkt.head_says 0 V2 a0 len0 cap0 z0 (W0.out.later HB2.out) S0.out.1 S0.out.2.2 (HT.out.later HB2.out HT.out.pos)) ?_
  rintro e w3 ⟨rfl, b3⟩
  obtain ⟨F, hF⟩ : ∃ F, Pkt.hfrom z0 = F := ⟨_, rfl⟩
  obtain ⟨T, hT⟩ : ∃ T, Pkt.hto z0 = T := ⟨_, rfl⟩
  obtain ⟨G, hG⟩ : ∃ G, Pkt.htag z0 = G := ⟨_, rfl⟩
  obtain ⟨H, hH⟩ : ∃ H, Pkt.hcode z0 = H := ⟨_, rfl⟩
  rw [hF, hT, hG, hH]
  have HE := hidden (show Pkt.hfrom z0 = F ∧ Pkt.hto z0 = T ∧ Pkt.htag z0 = G ∧ Pkt.hcode z0 = H from ⟨hF, hT, hG, hH⟩)
  have hbd : (0 ≤ F ∧ F < 65536) ∧ (0 ≤ T ∧ T < 65536) ∧ (0 ≤ G ∧ G < 4294967296) := by
    by_cases hc : Pkt.hcode z0 = 0
    · obtain ⟨e1, e2, e3⟩ := Pkt.head_ok hc
      rw [← hF, ← hT, ← hG, e1, e2, e3]
      exact ⟨Chu.n2_bound W0.out.2.1 0, Chu.n2_bound W0.out.2.1 2, Chu.n4_bound W0.out.2.1 4⟩
    · obtain ⟨e1, e2, e3⟩ := Pkt.head_bad hc
      rw [← hF, ← hT, ← hG, e1, e2, e3]
      decide
  have HBD := hidden hbd
  clear hF hT hG hH hbd
  have hbn := Pkt.below_new w3 (.cells (Pkt.pkc ⟨F, T, G, none, 0, 0, []⟩) 26)
  have b3n := b3.trans (hbn.mono b3.size)
  have HB3 := hidden (HB2.out.trans (b3n.mono HB2.out.size))
  have HO2' := hidden (HO2.out.later b3n)
  have HP2' := hidden (HP2.out.later b3n)
  have HO1'' := hidden (HO1'.out.later b3n)
  have HP1'' := hidden (HP1'.out.later b3n)
  have HP3 := hidden (Pkt.Pb.new w3 ⟨F, T, G, none, 0, 0, []⟩)
  clear b3 b3n hbn HO2 HP2 HO1' HP1' HB2 lt1 lt1'
  rw [show Pkt.pkv ⟨F, T, G, none, 0, 0, []⟩ = .agg #[.int .u16 F, .int .u16 T, .int .u32 G, .slice none 0 0] from rfl]
  rw [show Pkt.pkc ⟨F, T, G, none, 0, 0, []⟩ = #[.int .u16 F, .int .u16 T, .int .u32 G, .slice none 0 0] from rfl] at HB3 HO2' HP2' HO1'' HP1'' HP3
  go_wp2_with fail
  generalize hV3 : World.alloc w3 _ = V3 at *
  clear hV3
  refine Calls.mono (Pkt.rHead 0 V3 a0 len0 cap0 z0 (W0.out.later HB3.out) S0.out.1) ?_
  rintro e w4 ⟨rfl, b4⟩
  rw [HE.out.1, HE.out.2.1, HE.out.2.2.1, HE.out.2.2.2]
  have hbn := Pkt.below_new w4 (.cells (Pkt.pkc ⟨F, T, G, none, 0, 0, []⟩) 26)
  have b4n := b4.trans (hbn.mono b4.size)
  have HB4 := hidden (HB3.out.trans (b4n.mono HB3.out.size))
  have O2 := hidden (HO2'.out.later b4n)
  have P2 := hidden (HP2'.out.later b4n)
  have O1 := hidden (HO1''.out.later b4n)
  have P1 := hidden (HP1''.out.later b4n)
  have P3 := hidden (HP3.out.later b4n)
  have P4 := hidden (Pkt.Pb.new w4 ⟨F, T, G, none, 0, 0, []⟩)
  clear b4 b4n hbn HO2' HP2' HO1'' HP1'' HB3 HP3
  rw [show Pkt.pkv ⟨F, T, G, none, 0, 0, []⟩ = .agg #[.int .u16 F, .int .u16 T, .int .u32 G, .slice none 0 0] from rfl]
  rw [show Pkt.pkc ⟨F, T, G, none, 0, 0, []⟩ = #[.int .u16 F, .int .u16 T, .int .u32 G, .slice none 0 0] from rfl] at HB4 O1 O2 P1 P2 P3 P4
  obtain ⟨c0, c1, c2, c3⟩ := P1.out.px
  obtain ⟨d0, d1, d2, d3⟩ := P2.out.px
  have RS := hidden (Pkt.rSame _ _ _ p p2 O1.out O2.out)
  simp only [Pkt.pkv, Pkt.pkc] at RS
  go_wp2_with fail
  generalize hV4 : World.alloc w4 _ = V4 at *
  clear hV4
  refine Calls.mono RS.out ?_
  rintro e w5 ⟨t, rfl, ht, b5⟩
  obtain rfl : t = true := ht.2 HSP.out
  have HB5 := hidden (HB4.out.trans (b5.mono HB4.out.size))
  have Q3 := hidden (P3.out.later b5)
  have Q4 := hidden (P4.out.later b5)
  clear ht b5 RS HB4 c0 c1 c2 c3 d0 d1 d2 d3 P1 P2 P3 P4 O1 O2
  obtain ⟨c0, c1, c2, c3⟩ := Q3.out.px
  obtain ⟨d0, d1, d2, d3⟩ := Q4.out.px
  have RT := hidden (Pkt.rSame 0 0 w5 ⟨F, T, G, none, 0, 0, []⟩ ⟨F, T, G, none, 0, 0, []⟩ ⟨HBD.out.1, HBD.out.2.1, HBD.out.2.2, Chu.Cks.nil _ _ _⟩ ⟨HBD.out.1, HBD.out.2.1, HBD.out.2.2, Chu.Cks.nil _ _ _⟩)
  simp only [Pkt.pkv, Pkt.pkc] at RT
  go_wp2_with fail
  refine Calls.mono RT.out ?_
  rintro e w6 ⟨t, rfl, ht, b6⟩
  obtain rfl : t = true := ht.2 ⟨rfl, rfl, rfl, rfl⟩
  have HB6 := hidden (HB5.out.trans (b6.mono HB5.out.size))
  clear ht b6 RT HB5 c0 c1 c2 c3 d0 d1 d2 d3
  go_wp2_with fail
  refine Calls.mono (Pkt.alive w6 (HT.out.later HB6.out HT.out.pos)) ?_
  rintro e w7 ⟨rfl, b7⟩
  have HB7 := hidden (HB6.out.trans (b7.mono HB6.out.size))
  clear b7
  go_wp2
  go_ret
  exact ⟨rfl, HB7.out⟩

set_option maxRecDepth 100000 in
theorem contract (H : Type) (enc : TypeId × Value → H) (W : World) (base : Nat) (args : Array Value) (ds gs : List (DataW H)) (before : List MemPlace)
    (hval : ∀ (j : Nat) t v, Tryz.f4.params[j]? = some t → args[j]? = some v → Value.okWide Tryz.prog W .any base t v)
    (hW : DataW.Whole enc Tryz.prog Tryz.f4.params.toList Rows.packetDecodesSpec.vars false W args.toList ds gs before)
    (hsz0 : (DataW.weightsEach Tryz.prog (Tryz.f4.params.toList ++ Rows.packetDecodesSpec.plain.varTypes Tryz.prog) (ds ++ gs)).all (· ≤ reachBytes) = true)
    (hL : laidMetH Tryz.prog Rows.packetDecodesRow.laid W) :
    Calls Tryz.prog 4 args W fun e W' => ∃ v, e = .returned v ∧ Rows.packetDecodesSpec.post enc Tryz.prog Tryz.f4 false true false false W args v W' := by
  have hW' := hW
  obtain ⟨p, q, hA0, hV, rfl, hfz, hnd⟩ := hW
  have hA : DataW.TrodAll enc Tryz.prog W 0 (fun _ => true) true Tryz.f4.params.toList args.toList ds p := hA0
  have hsz := hsz0
  rw [Tryz.params4] at hA hval hsz
  obtain ⟨v0, vs0, d0, ds0, p0, q0, hargs, rfl, rfl, h0, r0⟩ := trodAll_cons hA
  obtain ⟨rfl, rfl, rfl⟩ := trodAll_nil r0
  obtain rfl : args = #[v0] := by cases args; simp_all
  obtain ⟨rfl, rfl⟩ := trodVars_none hV
  obtain ⟨a0, len0, cap0, rfl⟩ := okWide_slice Tryz.underlying27 (hval 0 27 v0 rfl rfl)
  have k0 := h0
  have lt0 : ∀ x ∈ p0, x.block < W.heap.size := by obtain ⟨m, hm⟩ := k0; exact DataW.trod_lt m _ _ _ hm
  have sz0 : (d0.weights Tryz.prog 27).all (· ≤ reachBytes) = true := List.all_eq_true.2 fun m hm => List.all_eq_true.1 hsz m (DataW.weights_mem_each (j := 0) rfl rfl m hm)
  obtain ⟨z0, w0, s0⟩ : ∃ zs, Par.Row 0 W a0 len0 zs ∧ len0 ≤ cap0 ∧ cap0 ≤ 140737488351232 ∧ (a0 = none → len0 = 0 ∧ cap0 = 0) := by
    obtain ⟨fuel, hf⟩ := h0
    exact Par.row_arg hf sz0
  clear hA0 hsz0 hsz
  refine (walk a0 len0 cap0 z0 W w0 s0 (table hL)).mono fun e W' ⟨he, bel⟩ => ?_
  subst he
  exact ⟨_, rfl, _, _, _, [], _, [], hW', trodAll_mk1 (shut_bool Tryz.underlying4 _), (trodAll_cons_mk (Below.trod laidOut (by kernel_rfl) (of_decide_eq_true (by kernel_rfl)) k0 bel lt0) trodAll_mk0), rfl, bel.frame _, fun h => by cases h⟩

noncomputable def laidWorld (os : Os) : World :=
  { World.holding Tryz.prog os ⟨#[], #[], []⟩ with heap := (World.holding Tryz.prog os ⟨#[], #[], []⟩).heap.modify 0 fun
      | .cells _ t frozen => .cells #[.int .u32 0, .int .u32 274646895, .int .u32 549293790, .int .u32 820201905, .int .u32 1098587580, .int .u32 1361435347, .int .u32 1640403810, .int .u32 1905808397, .int .u32 2197175160, .int .u32 2460548119, .int .u32 2722870694, .int .u32 2987750089, .int .u32 3280807620, .int .u32 3553878443, .int .u32 3811616794, .int .u32 4084100981] t frozen
      | o => o }
set_option maxRecDepth 100000 in
theorem laid_met (os : Os) : laidMet Tryz.prog Rows.packetDecodesRow.laid ((laidWorld os).forCall (fun _ _ => 0) ⟨#[], #[.slice none 0 0], []⟩).memory :=
  laidMet_of_run' 8 (by kernel_rfl) (by kernel_rfl)
set_option maxRecDepth 100000 in
theorem reads (os : Os) {H : Type} (enc : TypeId × Value → H) : ∃ places, DataW.whole enc Tryz.prog ((laidWorld os).forCall (fun _ _ => 0) ⟨#[], #[.slice none 0 0], []⟩).memory Tryz.f4.params.toList Rows.packetDecodesSpec.vars false #[Value.slice none 0 0].toList 8 = some ([.nil], [], places) :=
  ⟨[], by kernel_rfl⟩

set_option maxRecDepth 100000 in
theorem lifted (os : Os) (started : os.Started) (H : Type) (enc : TypeId × Value → H) (F : Stop.Interp) :
    ReturnsInHanded {} Tryz.checked os 4 .any ((OpenSpec.ofChange Rows.packetDecodesSpec).preRow enc Tryz.prog Tryz.f4 Rows.packetDecodesRow.domain false Rows.packetDecodesRow.laid) (((OpenSpec.ofChange Rows.packetDecodesSpec).at F).post enc Tryz.prog Tryz.f4 false true false false) := by
  obtain ⟨places, hx⟩ := reads os enc
  refine returnsInHanded_of_row (C := Tryz.checked) (s := OpenSpec.ofChange Rows.packetDecodesSpec) own started (by kernel_rfl) Tryz.func4
    (witness_row_at (enc := enc) (C := Tryz.checked) false (laidWorld os) #[.slice none 0 0] rfl (by kernel_rfl) (by kernel_rfl) (by kernel_rfl)
      (OpenSpec.preRow_of_cond 8 hx (by kernel_rfl) (fun k hk => by cases hk) (by kernel_rfl) (laid_met os))) ?_
  intro W base args ds gs before hval hW _ hcond hsz hL _ _
  exact contract H enc W base args ds gs before hval hW hsz hL

theorem said : Rows.PacketDecodesSaid :=
  OpenClaim.holds_of_cond 4 Tryz.f4 rfl rfl rfl rfl rfl rfl rfl ⟨rfl, rfl, rfl, rfl, rfl⟩ rfl rfl rfl rfl rfl (by kernel_rfl) Tryz.func4 (by kernel_rfl)
    (of_decide_eq_true (by kernel_rfl)) (by unfold Func.isWrapper; first | (rw [if_pos (by decide +kernel)]; kernel_rfl) | (rw [if_neg (by decide +kernel)]; exact ⟨rfl, rfl⟩))
    (fun os started H enc _ F => by rw [OpenClaim.pre_eq_preRow]; exact lifted os started H enc F)

theorem plain (f : FuncId) (fn : Func) (hf : Tryz.pinned.checked.prog.funcNamed "ropewalk/ropewalklaw07.PacketDecodes" = some f) (hfn : Tryz.pinned.checked.prog.funcs[f]? = some fn) :
    true = Tryz.pinned.checked.prog.looks [] ∧ ∀ (j : Nat) t, fn.params[j]? = some t → Tryz.pinned.checked.prog.wantsStandIn t = false := by
  obtain rfl : f = 4 := Option.some.inj ((show Tryz.prog.funcNamed "ropewalk/ropewalklaw07.PacketDecodes" = some 4 by kernel_rfl).symm.trans hf) |>.symm
  obtain rfl : fn = Tryz.f4 := (Option.some.inj (Tryz.func4.symm.trans hfn)).symm
  refine ⟨by kernel_rfl, fun j t ht => ?_⟩
  rw [Tryz.params4] at ht
  have hm : t ∈ [27] := by simpa using Array.mem_of_getElem? ht
  have hall : ∀ t ∈ [27], Tryz.prog.wantsStandIn t = false := by
    intro t ht
    simp only [List.mem_cons, List.not_mem_nil, or_false] at ht
    subst ht; kernel_rfl
  exact hall t hm

/-- THE CARD -/
theorem proved : Rows.PacketDecodesCardSaid :=
  Claim7.holds_tied_plain_at .later [] _ _ _ _ said (fun _ h => by cases h) (by kernel_rfl) (fun _ h => by cases h) packetDecodes_row_tie rfl ⟨rfl, rfl⟩ (by kernel_rfl) rfl plain (by kernel_rfl)
#print axioms proved
end Go.Proofs.YtmnndkhdekpecaaGreatDoor.packetDecodes
