/-
  What PacketAgain says of every row of bytes is true: what is read as a packet is written, unless it is too long, and read again as the same packet. Conditions: the bytes lie in memory, as whatever is handed in does.
-/
import Derived.Test.YtmnndkhdekpecabGreatDoorCards
import Derived.Test.YtmnndkhdekpecabGreatDoorTie
import Derived.WalkKit
import Derived.ProofKit
import Derived.OpenShut
import Derived.ShutString
import Derived.ChangeOld
import Derived.Below
import Derived.SizedLaws
import Derived.Deep.DeepHandedRow
import Derived.LaidLaws
import Derived.ChangeMaps5
import Derived.Lib.LaidTab
import Derived.Test.YtmnndkhdekpecabGreatDoorPkG
import Derived.Test.YtmnndkhdekpecabGreatDoorPkH
import Derived.Test.YtmnndkhdekpecabGreatDoorPkArgs
import Derived.Test.YtmnndkhdekpecabGreatDoorCx
namespace Go.Proofs.YtmnndkhdekpecabGreatDoor.packetAgain
open Go.ChangeShapes Go.WideShapes Go.ChangeAt Go.RowKit
open Go.ChangeMaps (open_string shut_string)
set_option linter.unusedVariables false

theorem own : ownKnob Tryz.prog.godebug = none := by kernel_rfl
theorem laidOut : laidOutB Tryz.prog = true := by kernel_rfl
theorem gTab : Tryz.prog.globalNamed "ropewalk/crc.nibbleSteps" = some 0 := by kernel_rfl
theorem gTabType : (Tryz.prog.globals[0]?).map (·.type) = some 128 := by kernel_rfl
theorem table {W : World} (h : laidMetH Tryz.prog Rows.packetAgainRow.laid W) : Crc.Tab W := fun i hi =>
  (show Lib.TabIs Tryz.prog W "ropewalk/crc.nibbleSteps" .u32 Crc.tab from
    Lib.tabIs_of_head (rest := []) gTab gTabType Tryz.underlying128 Tryz.underlying24 (by kernel_rfl) (by kernel_rfl) h).cell gTab i hi

open Par (hidden)
attribute [local go_sem ↓] Chu.execOp_ld Chu.execOp_bx Chu.execOp_st
attribute [local go_sem] Chu.run_box
theorem body_small {base : Nat} {w : World} {c : Chu.Ck} (h : Chu.Chk base w c) (hk : Chu.chk (Chu.val c) = 0) : c.bl ≤ 140737488351232 := by
  obtain ⟨_, _, _, hv⟩ := Chu.chk_ok hk
  have h1 : c.bs.length = c.bl := h.2.2.2.2.1.1
  have h2 : (Chu.val c).bs.length ≤ Chu.vlen (Chu.val c) := by unfold Chu.vlen; omega
  have h3 : (Chu.val c).bs = c.bs := rfl
  rw [h3] at h2
  omega
set_option maxRecDepth 20000 in
set_option maxHeartbeats 1000000 in

theorem walk (a0 : Option Addr) (len0 cap0 : Nat) (z0 : List Int) (w : World) (w0 : Par.Row 0 w a0 len0 z0) (s0 : len0 ≤ cap0 ∧ cap0 ≤ 140737488351232 ∧ (a0 = none → len0 = 0 ∧ cap0 = 0)) (ht : Crc.Tab w) :
    Calls Tryz.prog 3 #[.slice a0 len0 cap0] w fun e w' => e = .returned (.bool true) ∧ Below w.heap.size w w' := by
  have DE := hidden (Pkt.decode 0 w a0 len0 cap0 z0 w0 s0.1 s0.2.2 ht)
  have HT := hidden ht
  have HBY := hidden w0.2.1
  clear w0 s0 ht
  go_enter Tryz.func3, Tryz.ntmps3
  go_wp2_with fail
  refine Calls.mono DE.out ?_
  rintro e w1 ⟨p, q, er, rfl, hok, hD, hnum, hz, b1⟩
  have hbn := Pkt.below_new w1 (.cells (Pkt.pkc p) 27)
  have HBV := hidden (b1.trans (hbn.mono b1.size))
  have HOK := hidden (hok.later hbn)
  have HPV := hidden (Pkt.Pb.new w1 p)
  have HD := hidden hD
  have HNM := hidden hnum
  clear hok hD hnum b1 hbn DE
  by_cases he : er = 0
  · subst he
    obtain ⟨g1, rfl, g3, g4, g5⟩ := HD.out.good HBY.out
    obtain ⟨_, _, _, f1, f2⟩ := Pkt.hcode_zero g1
    obtain ⟨j1, j2, j3⟩ := Pkt.head_ok g1
    have HPO := hidden (show p.f ≠ 0 ∧ p.t ≠ 0 from ⟨by rw [(HNM.out rfl).1, j1]; exact f1, by rw [(HNM.out rfl).2.1, j2]; exact f2⟩)
    have HNE := hidden g3
    have HMX := hidden g4
    have HCK := hidden g5
    have hnl := HOK.out.2.2.2.2.1
    have hpl := HOK.out.2.2.2.1
    clear g1 g3 g4 g5 f1 f2 j1 j2 j3 hz HD HNM
    rw [show Pkt.pkv p = .agg #[.int .u16 p.f, .int .u16 p.t, .int .u32 p.g, .slice p.a p.n p.c] from rfl]
    rw [show Pkt.pkc p = #[.int .u16 p.f, .int .u16 p.t, .int .u32 p.g, .slice p.a p.n p.c] from rfl] at HBV HOK HPV
    go_wp2_with fail
    generalize hV : World.alloc w1 _ = V at *
    clear hV
    go_loopw [6] (fun i wr => ∃ k : Nat, k ≤ p.n ∧ i = .int .i64 k ∧ Below V.heap.size V wr) (fun i _ => p.n - (intOf i).toNat)
    case atStart => exact ⟨0, Nat.zero_le _, rfl, Below.refl _ _⟩
    case round =>
      obtain ⟨k, hk, rfl, hbl⟩ := hrel
      have HPR := hidden (HPV.out.later hbl)
      obtain ⟨c0, c1, c2, c3⟩ := HPR.out.px
      rcases Nat.lt_or_ge k p.n with hlt | hge
      · obtain ⟨b, off, c, hpa, hpk, hl1, hc1⟩ := (HOK.out.2.2.2.later hbl).get hlt
        have hck := (HCK.out (Chu.val c) (List.mem_map.2 ⟨c, List.mem_of_getElem? hpk, rfl⟩)).1
        have CK := hidden (Chu.rCheck _ c wr hc1 (body_small hc1 hck))
        rw [hck] at CK
        have HB := hidden hbl
        rw [hpa] at c3
        clear hpk hck hbl hc1 hpa
        go_wp2_with fail
        refine Calls.mono CK.out ?_
        rintro e w2 ⟨rfl, b2⟩
        have HB2 := hidden (HB.out.trans (b2.mono HB.out.size))
        clear b2
        go_wp2
        go_roundw
        case rel => exact ⟨k + 1, by omega, by go_num, HB2.out⟩
        case measure => simp [intOf]; omega
      · obtain rfl : k = p.n := by omega
        have HBR := hidden (HBV.out.trans (hbl.mono HBV.out.size))
        have HOR := hidden (HOK.out.later hbl)
        have EN := hidden (Pkt.encode _ wr p HOR.out (HT.out.later HBR.out HT.out.pos))
        clear hbl
        go_wp2_with fail
        refine Calls.mono EN.out ?_
        rintro e w3 ⟨v, er, rfl, hE, hbad, hgood, b3⟩
        have HB3 := hidden (HBR.out.trans (b3.mono HBR.out.size))
        have P3 := hidden (HPR.out.later b3)
        have HO3 := hidden (HOR.out.later b3)
        have HE := hidden hE
        have hall : ∀ u ∈ p.l.map Chu.val, Chu.chk u = 0 := fun u hu => (HCK.out u hu).1
        have HVO := hidden (show ∀ v ∈ p.l.map Chu.val, Chu.VOk v from fun u hu => (HCK.out u hu).2)
        clear b3 EN c0 c1 c2 c3 hE
        by_cases he : er = 0
        · subst he
          obtain ⟨_, _, _, _, htot⟩ := HE.out.ok
          have hby := Pkt.pby_bytes (g := p.g) HOK.out.1 HOK.out.2.1 HOK.out.2.2.1 HVO.out hall
          obtain ⟨va, cap, rfl, hrow, hlc, _, hnn⟩ := Par.row_own (zs := Pkt.pby p.f p.t p.g (p.l.map Chu.val)) (hgood rfl) hby (by omega)
          have DE := hidden (Pkt.decode _ w3 va _ cap _ hrow hlc hnn (HT.out.later HB3.out HT.out.pos))
          clear hgood hbad hrow hlc hnn hby hall
          go_wp2_with fail
          refine Calls.mono DE.out ?_
          rintro e w4 ⟨p2, q2, er, rfl, hok, hD, hnum, _, b4⟩
          obtain ⟨k1, k2, k3, k4⟩ := Pkt.back (g := p.g) HOK.out.1 HOK.out.2.1 HOK.out.2.2.1 HVO.out HE.out
          obtain ⟨hl, rfl, rfl⟩ := hD.one k1
          obtain ⟨m1, m2, m3⟩ := hnum rfl
          have HSP := hidden (show Pkt.SamePk p p2 from ⟨(m1.trans k2).symm, (m2.trans k3).symm, (m3.trans k4).symm, hl.symm⟩)
          have hbn := Pkt.below_new w4 (.cells (Pkt.pkc p2) 27)
          have b4n := b4.trans (hbn.mono b4.size)
          have HB4 := hidden (HB3.out.trans (b4n.mono HB3.out.size))
          have P4 := hidden ((P3.out.later b4).later hbn)
          have Q4 := hidden (Pkt.Pb.new w4 p2)
          have RS := hidden (Pkt.rSame _ _ (w4.alloc (.cells (Pkt.pkc p2) 27)) p p2 (HO3.out.later b4n) (hok.later hbn))
          clear hok hD hnum k1 k2 k3 k4 hl m1 m2 m3 b4 hbn b4n DE P3 HB3
          rw [show Pkt.pkv p2 = .agg #[.int .u16 p2.f, .int .u16 p2.t, .int .u32 p2.g, .slice p2.a p2.n p2.c] from rfl]
          simp only [Pkt.pkv, Pkt.pkc] at RS P4 Q4 HB4
          obtain ⟨c0, c1, c2, c3⟩ := P4.out.px
          obtain ⟨d0, d1, d2, d3⟩ := Q4.out.px
          go_wp2_with fail
          generalize hV : World.alloc w4 _ = V4 at *
          clear hV
          refine Calls.mono RS.out ?_
          rintro e w5 ⟨t, rfl, ht, b5⟩
          obtain rfl : t = true := ht.2 HSP.out
          have HB5 := hidden (HB4.out.trans (b5.mono HB4.out.size))
          clear ht b5 RS HB4 c0 c1 c2 c3 d0 d1 d2 d3
          go_wp2_with fail
          refine Calls.mono (Pkt.alive w5 (HT.out.later HB5.out HT.out.pos)) ?_
          rintro e w6 ⟨rfl, b6⟩
          have HB6 := hidden (HB5.out.trans (b6.mono HB5.out.size))
          clear b6
          go_wp2
          go_ret
          exact ⟨rfl, HB6.out⟩
        · obtain rfl : er = 2 := by
            rcases HE.out with ⟨h1, _⟩ | ⟨_, h1, _⟩ | ⟨_, _, h1, _⟩ | ⟨_, _, _, h1, _⟩ | ⟨_, _, _, _, _, h1⟩ | ⟨_, _, _, _, _, h1⟩
            · have := HPO.out; omega
            · exact absurd h1 HNE.out
            · exact absurd h1 HMX.out
            · rcases Pkt.encR_of h1 hall with ⟨h2, _⟩ | ⟨h2, _⟩
              · exact h2
              · exact absurd h2 he
            · exact h1
            · exact absurd h1 he
          obtain rfl := hbad he
          clear he hbad hgood hall
          go_wp2_with fail
          refine Calls.mono (Pkt.alive w3 (HT.out.later HB3.out HT.out.pos)) ?_
          rintro e w6 ⟨rfl, b6⟩
          have HB6 := hidden (HB3.out.trans (b6.mono HB3.out.size))
          clear b6
          go_wp2
          go_ret
          exact ⟨rfl, HB6.out⟩
  · obtain rfl := hz he
    have hne := Chu.bne_t he
    have AL := hidden (Pkt.alive (w1.alloc (.cells (Pkt.pkc Pkt.zpk) 27)) (HT.out.later HBV.out HT.out.pos))
    clear he hz HD HNM HOK
    rw [show Pkt.pkv Pkt.zpk = .agg #[.int .u16 0, .int .u16 0, .int .u32 0, .slice none 0 0] from rfl]
    rw [show Pkt.pkc Pkt.zpk = #[.int .u16 0, .int .u16 0, .int .u32 0, .slice none 0 0] from rfl] at HBV HPV AL
    go_wp2_with fail
    refine Calls.mono AL.out ?_
    rintro e w6 ⟨rfl, b6⟩
    have HB6 := hidden (HBV.out.trans (b6.mono HBV.out.size))
    clear b6
    go_wp2
    go_ret
    exact ⟨rfl, HB6.out⟩

set_option maxRecDepth 100000 in
theorem contract (H : Type) (enc : TypeId × Value → H) (W : World) (base : Nat) (args : Array Value) (ds gs : List (DataW H)) (before : List MemPlace)
    (hval : ∀ (j : Nat) t v, Tryz.f3.params[j]? = some t → args[j]? = some v → Value.okWide Tryz.prog W .any base t v)
    (hW : DataW.Whole enc Tryz.prog Tryz.f3.params.toList Rows.packetAgainSpec.vars false W args.toList ds gs before)
    (hsz0 : (DataW.weightsEach Tryz.prog (Tryz.f3.params.toList ++ Rows.packetAgainSpec.plain.varTypes Tryz.prog) (ds ++ gs)).all (· ≤ reachBytes) = true)
    (hL : laidMetH Tryz.prog Rows.packetAgainRow.laid W) :
    Calls Tryz.prog 3 args W fun e W' => ∃ v, e = .returned v ∧ Rows.packetAgainSpec.post enc Tryz.prog Tryz.f3 false true false false W args v W' := by
  have hW' := hW
  obtain ⟨p, q, hA0, hV, rfl, hfz, hnd⟩ := hW
  have hA : DataW.TrodAll enc Tryz.prog W 0 (fun _ => true) true Tryz.f3.params.toList args.toList ds p := hA0
  have hsz := hsz0
  rw [Tryz.params3] at hA hval hsz
  obtain ⟨v0, vs0, d0, ds0, p0, q0, hargs, rfl, rfl, h0, r0⟩ := trodAll_cons hA
  obtain ⟨rfl, rfl, rfl⟩ := trodAll_nil r0
  obtain rfl : args = #[v0] := by cases args; simp_all
  obtain ⟨rfl, rfl⟩ := trodVars_none hV
  obtain ⟨a0, len0, cap0, rfl⟩ := okWide_slice Tryz.underlying22 (hval 0 22 v0 rfl rfl)
  have k0 := h0
  have lt0 : ∀ x ∈ p0, x.block < W.heap.size := by obtain ⟨m, hm⟩ := k0; exact DataW.trod_lt m _ _ _ hm
  have sz0 : (d0.weights Tryz.prog 22).all (· ≤ reachBytes) = true := List.all_eq_true.2 fun m hm => List.all_eq_true.1 hsz m (DataW.weights_mem_each (j := 0) rfl rfl m hm)
  obtain ⟨z0, w0, s0⟩ : ∃ zs, Par.Row 0 W a0 len0 zs ∧ len0 ≤ cap0 ∧ cap0 ≤ 140737488351232 ∧ (a0 = none → len0 = 0 ∧ cap0 = 0) := by
    obtain ⟨fuel, hf⟩ := h0
    exact Par.row_arg hf sz0
  clear hA0 hsz0 hsz
  refine (walk a0 len0 cap0 z0 W w0 s0 (table hL)).mono fun e W' ⟨he, bel⟩ => ?_
  subst he
  exact ⟨_, rfl, _, _, _, [], _, [], hW', trodAll_mk1 (shut_bool Tryz.underlying4 _), (trodAll_cons_mk (Below.trod laidOut (by kernel_rfl) (of_decide_eq_true (by kernel_rfl)) k0 bel lt0) trodAll_mk0), rfl, bel.frame _, fun h => by cases h⟩

noncomputable def laidWorld (os : Os) : World :=
  { World.holding Tryz.prog os ⟨#[], #[], []⟩ with heap := (World.holding Tryz.prog os ⟨#[], #[], []⟩).heap.modify 0 fun
      | .cells _ t frozen => .cells #[.int .u32 0, .int .u32 274646895, .int .u32 549293790, .int .u32 820201905, .int .u32 1098587580, .int .u32 1361435347, .int .u32 1640403810, .int .u32 1905808397, .int .u32 2197175160, .int .u32 2460548119, .int .u32 2722870694, .int .u32 2987750089, .int .u32 3280807620, .int .u32 3553878443, .int .u32 3811616794, .int .u32 4084100981] t frozen
      | o => o }
set_option maxRecDepth 100000 in
theorem laid_met (os : Os) : laidMet Tryz.prog Rows.packetAgainRow.laid ((laidWorld os).forCall (fun _ _ => 0) ⟨#[], #[.slice none 0 0], []⟩).memory :=
  laidMet_of_run' 8 (by kernel_rfl) (by kernel_rfl)
set_option maxRecDepth 100000 in
theorem reads (os : Os) {H : Type} (enc : TypeId × Value → H) : ∃ places, DataW.whole enc Tryz.prog ((laidWorld os).forCall (fun _ _ => 0) ⟨#[], #[.slice none 0 0], []⟩).memory Tryz.f3.params.toList Rows.packetAgainSpec.vars false #[Value.slice none 0 0].toList 8 = some ([.nil], [], places) :=
  ⟨[], by kernel_rfl⟩

set_option maxRecDepth 100000 in
theorem lifted (os : Os) (started : os.Started) (H : Type) (enc : TypeId × Value → H) (F : Stop.Interp) :
    ReturnsInHanded {} Tryz.checked os 3 .any ((OpenSpec.ofChange Rows.packetAgainSpec).preRow enc Tryz.prog Tryz.f3 Rows.packetAgainRow.domain false Rows.packetAgainRow.laid) (((OpenSpec.ofChange Rows.packetAgainSpec).at F).post enc Tryz.prog Tryz.f3 false true false false) := by
  obtain ⟨places, hx⟩ := reads os enc
  refine returnsInHanded_of_row (C := Tryz.checked) (s := OpenSpec.ofChange Rows.packetAgainSpec) own started (by kernel_rfl) Tryz.func3
    (witness_row_at (enc := enc) (C := Tryz.checked) false (laidWorld os) #[.slice none 0 0] rfl (by kernel_rfl) (by kernel_rfl) (by kernel_rfl)
      (OpenSpec.preRow_of_cond 8 hx (by kernel_rfl) (fun k hk => by cases hk) (by kernel_rfl) (laid_met os))) ?_
  intro W base args ds gs before hval hW _ hcond hsz hL _ _
  exact contract H enc W base args ds gs before hval hW hsz hL

theorem said : Rows.PacketAgainSaid :=
  OpenClaim.holds_of_cond 3 Tryz.f3 rfl rfl rfl rfl rfl rfl rfl ⟨rfl, rfl, rfl, rfl, rfl⟩ rfl rfl rfl rfl rfl (by kernel_rfl) Tryz.func3 (by kernel_rfl)
    (of_decide_eq_true (by kernel_rfl)) (by unfold Func.isWrapper; first | (rw [if_pos (by decide +kernel)]; kernel_rfl) | (rw [if_neg (by decide +kernel)]; exact ⟨rfl, rfl⟩))
    (fun os started H enc _ F => by rw [OpenClaim.pre_eq_preRow]; exact lifted os started H enc F)

theorem plain (f : FuncId) (fn : Func) (hf : Tryz.pinned.checked.prog.funcNamed "ropewalk/ropewalklaw07.PacketAgain" = some f) (hfn : Tryz.pinned.checked.prog.funcs[f]? = some fn) :
    true = Tryz.pinned.checked.prog.looks [] ∧ ∀ (j : Nat) t, fn.params[j]? = some t → Tryz.pinned.checked.prog.wantsStandIn t = false := by
  obtain rfl : f = 3 := Option.some.inj ((show Tryz.prog.funcNamed "ropewalk/ropewalklaw07.PacketAgain" = some 3 by kernel_rfl).symm.trans hf) |>.symm
  obtain rfl : fn = Tryz.f3 := (Option.some.inj (Tryz.func3.symm.trans hfn)).symm
  refine ⟨by kernel_rfl, fun j t ht => ?_⟩
  rw [Tryz.params3] at ht
  have hm : t ∈ [22] := by simpa using Array.mem_of_getElem? ht
  have hall : ∀ t ∈ [22], Tryz.prog.wantsStandIn t = false := by
    intro t ht
    simp only [List.mem_cons, List.not_mem_nil, or_false] at ht
    subst ht; kernel_rfl
  exact hall t hm

/-- THE CARD -/
theorem proved : Rows.PacketAgainCardSaid :=
  Claim7.holds_tied_plain_at .later [] _ _ _ _ said (fun _ h => by cases h) (by kernel_rfl) (fun _ h => by cases h) packetAgain_row_tie rfl ⟨rfl, rfl⟩ (by kernel_rfl) rfl plain (by kernel_rfl)
#print axioms proved
end Go.Proofs.YtmnndkhdekpecabGreatDoor.packetAgain
