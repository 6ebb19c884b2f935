/-
  What PacketBack says of every two packets is true: what is written is read as the same packet, and packets are told apart as the document says. Conditions: the packets and all that they hold lie in memory, as whatever is handed in does.
-/
import Derived.Test.YtmnndkhdekpecaaGreatDoorCards
import Derived.Test.YtmnndkhdekpecaaGreatDoorTie
import Derived.WalkKit
import Derived.ProofKit
import Derived.OpenShut
import Derived.ShutString
import Derived.ChangeOld
import Derived.Below
import Derived.SizedLaws
import Derived.Deep.DeepHandedRow
import Derived.LaidLaws
import Derived.ChangeMaps5
import Derived.Lib.LaidTab
import Derived.Test.YtmnndkhdekpecaaGreatDoorPkG
import Derived.Test.YtmnndkhdekpecaaGreatDoorPkH
import Derived.Test.YtmnndkhdekpecaaGreatDoorPkArgs
import Derived.Deep.RegionHeld3
namespace Go.Proofs.YtmnndkhdekpecaaGreatDoor.packetBack
open Go.ChangeShapes Go.WideShapes Go.ChangeAt Go.RowKit
open Go.ChangeMaps (open_string shut_string)
set_option linter.unusedVariables false

theorem own : ownKnob Tryz.prog.godebug = none := by kernel_rfl
theorem laidOut : laidOutB Tryz.prog = true := by kernel_rfl
theorem gTab : Tryz.prog.globalNamed "ropewalk/crc.nibbleSteps" = some 0 := by kernel_rfl
theorem gTabType : (Tryz.prog.globals[0]?).map (·.type) = some 152 := by kernel_rfl
theorem table {W : World} (h : laidMetH Tryz.prog Rows.packetBackRow.laid W) : Crc.Tab W := fun i hi =>
  (show Lib.TabIs Tryz.prog W "ropewalk/crc.nibbleSteps" .u32 Crc.tab from
    Lib.tabIs_of_head (rest := []) gTab gTabType Tryz.underlying152 Tryz.underlying23 (by kernel_rfl) (by kernel_rfl) h).cell gTab i hi

open Par (hidden)
section
variable {a : Act} {o : Oper} {w : World}
theorem e_same {u0 u1 : Value} (x0 x1 : Operand) (h0 : a.eval x0 = u0) (h1 : a.eval x1 = u1) (ho : o.op = .call { callee := .value (.func 19), args := #[x0, x1], argTypes := #[26, 26] }) : (execOp a.eval o).run Tryz.prog w = .ok (.enter 19 #[u0, u1]) w := by
  unfold execOp
  rw [ho]
  go_simp
  exact ⟨by cases x0 <;> simpa [Act.eval] using h0, by cases x1 <;> simpa [Act.eval] using h1⟩
theorem e_rsame {u0 u1 : Value} (x0 x1 : Operand) (h0 : a.eval x0 = u0) (h1 : a.eval x1 = u1) (ho : o.op = .call { callee := .value (.func 18), args := #[x0, x1], argTypes := #[26, 26] }) : (execOp a.eval o).run Tryz.prog w = .ok (.enter 18 #[u0, u1]) w := by
  unfold execOp
  rw [ho]
  go_simp
  exact ⟨by cases x0 <;> simpa [Act.eval] using h0, by cases x1 <;> simpa [Act.eval] using h1⟩
theorem e_ldp {B : Nat} {p : Pkt.Pk} (x : Operand) (hu : a.eval x = .pointer (some ⟨B, 0, none⟩)) (ho : o.op = .load 26 x) (hb : Pkt.Pb w B p) : (execOp a.eval o).run Tryz.prog w = .ok (.value (Pkt.pkv p)) w := by
  obtain ⟨c0, c1, c2, c3⟩ := hb.px
  unfold execOp
  rw [ho]
  simp only [hu]
  exact Ord.run_v (show (Instr.loadAt 26 (.pointer (some ⟨B, 0, none⟩))).run Tryz.prog w = .ok (Pkt.pkv p) w by simp [go_sem, c0, c1, c2, c3, Pkt.pkv, Pkt.pkc])
theorem o_neB {p : Bool} (x y : Operand) (ho : o.op = .binOp .neq 4 x y 4) (hx : a.eval x = .bool p) (hy : a.eval y = .bool p) : (execOp a.eval o).run Tryz.prog w = .ok (.value (.bool false)) w := by
  unfold execOp
  rw [ho]
  simp only [hx, hy]
  go_simp
theorem o_not (x : Operand) (ho : o.op = .unOp .not 4 x) (hx : a.eval x = .bool true) : (execOp a.eval o).run Tryz.prog w = .ok (.value (.bool false)) w := by
  unfold execOp
  rw [ho]
  simp only [hx]
  go_simp
theorem o_pk (x y : Operand) (ho : o.op = .pick x (.const (.bool true)) y) (hx : a.eval x = .bool false) (hy : a.eval y = .bool false) : (execOp a.eval o).run Tryz.prog w = .ok (.value (.bool false)) w := by
  unfold execOp
  rw [ho]
  simp [hx, hy, asBool]
end
set_option maxRecDepth 20000 in
set_option maxHeartbeats 1000000 in

theorem walk (a0 : Pkt.Pk) (a1 : Pkt.Pk) (w : World) (w0 : Pkt.PkOk 0 w a0) (s0 : ∀ c ∈ a0.l, c.bl ≤ 140737488351232) (w1 : Pkt.PkOk 0 w a1) (s1 : ∀ c ∈ a1.l, c.bl ≤ 140737488351232) (ht : Crc.Tab w) :
    Calls Tryz.prog 5 #[Pkt.pkv a0, Pkt.pkv a1] w fun e w' => e = .returned (.bool true) ∧ Below w.heap.size w w' := by
  obtain ⟨T, hT⟩ : ∃ T : Bool, T = true ↔ Pkt.SamePk a0 a1 := by
    by_cases h : Pkt.SamePk a0 a1
    · exact ⟨true, fun _ => h, fun _ => rfl⟩
    · exact ⟨false, fun e => Bool.noConfusion e, fun e => absurd e h⟩
  obtain ⟨W, hW⟩ : ∃ W, (w.alloc (.cells (Pkt.pkc a0) 26)).alloc (.cells (Pkt.pkc a1) 26) = W := ⟨_, rfl⟩
  have hbW : Below w.heap.size w W := by rw [← hW]; exact ((Below.refl _ w).alloc (Nat.le_refl _) _).alloc (by simp) _
  have P0 := hidden (show Pkt.Pb W w.heap.size a0 by rw [← hW]; exact (Pkt.Pb.new w a0).later (Pkt.below_new _ _))
  have P1 := hidden (show Pkt.Pb W (w.heap.size + 1) a1 by
    have := Pkt.Pb.new (w.alloc (.cells (Pkt.pkc a0) 26)) a1
    rw [World.size_alloc, hW] at this
    exact this)
  have SM := hidden (show ∀ x, Below W.heap.size W x → Calls Tryz.prog 19 #[Pkt.pkv a0, Pkt.pkv a1] x fun e x' => e = .returned (.bool T) ∧ Below W.heap.size W x' from fun x hx => by
    refine (Pkt.same 0 0 x a0 a1 ((w0.later hbW).later hx) ((w1.later hbW).later hx)).mono ?_
    rintro e x' ⟨t, rfl, ht, b⟩
    obtain rfl : t = T := by rw [Bool.eq_iff_iff, ht, hT]
    exact ⟨rfl, hx.trans (b.mono hx.size)⟩)
  have RS := hidden (show ∀ x, Below W.heap.size W x → Calls Tryz.prog 18 #[Pkt.pkv a0, Pkt.pkv a1] x fun e x' => e = .returned (.bool T) ∧ Below W.heap.size W x' from fun x hx => by
    refine (Pkt.rSame 0 0 x a0 a1 ((w0.later hbW).later hx) ((w1.later hbW).later hx)).mono ?_
    rintro e x' ⟨t, rfl, ht, b⟩
    obtain rfl : t = T := by rw [Bool.eq_iff_iff, ht, hT]
    exact ⟨rfl, hx.trans (b.mono hx.size)⟩)
  have SN := hidden (show ∀ x, Below W.heap.size W x → Calls Tryz.prog 19 #[Pkt.pkv a0, Pkt.pkv a0] x fun e x' => e = .returned (.bool true) ∧ Below W.heap.size W x' from fun x hx => by
    refine (Pkt.same 0 0 x a0 a0 ((w0.later hbW).later hx) ((w0.later hbW).later hx)).mono ?_
    rintro e x' ⟨t, rfl, ht, b⟩
    obtain rfl : t = true := ht.2 ⟨rfl, rfl, rfl, rfl⟩
    exact ⟨rfl, hx.trans (b.mono hx.size)⟩)
  have HW := hidden hbW
  have W0 := hidden w0
  have HT := hidden ht
  have HVO := hidden (show ∀ v ∈ a0.l.map Chu.val, Chu.VOk v from fun v hv => by
    obtain ⟨c, hc, rfl⟩ := List.mem_map.1 hv
    exact (w0.2.2.2.2.2.1 c hc).vok)
  have hnl := w0.2.2.2.2.1
  clear w0 w1 s0 s1 ht hbW hT
  simp only [Pkt.pkc] at hW
  unfold Pkt.pkv Pkt.pkc
  go_enter Tryz.func5, Tryz.ntmps5
  go_wp2_with fail
  try rw [hW]
  clear hW
  refine Ord.wp_region_det (by kernel_rfl) 56 [(some 10, Pkt.pkv a0), (some 11, Pkt.pkv a1), (some 12, .bool T), (some 13, Pkt.pkv a0), (some 14, Pkt.pkv a1), (some 15, .bool T), (some 16, .bool false), (some 17, .bool false), (some 18, Pkt.pkv a0), (some 19, Pkt.pkv a0), (some 20, .bool true), (some 21, .bool false), (some 22, .bool false)] rfl (by kernel_rfl) (by rfl) (by kernel_rfl) (fun _ x => Below W.heap.size W x) (fun _ _ _ _ h => h) ?_ ?_ (Below.refl _ _).drew
  case refine_1 =>
    intro L i o ac w' ho hi hcl hdep hF hW
    obtain ⟨f1, f2, f3, f4⟩ := hF
    have f1' : ac.tmps.size = 56 := f1
    match i, ho, hi with
    | 0, ho, hi =>
      cases ho
      have da0 : ac.eval (.tmp 2) = .pointer (some ⟨w.heap.size, 0, none⟩) := f3 2 rfl
      exact Ord.det_value rfl rfl (e_ldp _ da0 rfl (P0.out.later hW)) rfl (hW)
    | 1, ho, hi =>
      cases ho
      have da0 : ac.eval (.tmp 3) = .pointer (some ⟨w.heap.size + 1, 0, none⟩) := f3 3 rfl
      exact Ord.det_value rfl rfl (e_ldp _ da0 rfl (P1.out.later hW)) rfl (hW)
    | 2, ho, hi =>
      cases ho
      have da0 : ac.eval (.tmp 10) = Pkt.pkv a0 := f4 0 10 _ rfl (hdep ⟨0, .data⟩ (by simp) rfl)
      have da1 : ac.eval (.tmp 11) = Pkt.pkv a1 := f4 1 11 _ rfl (hdep ⟨1, .data⟩ (by simp) rfl)
      exact Ord.det_call rfl rfl (e_same _ _ da0 da1 rfl) (SM.out _ hW)
    | 3, ho, hi =>
      cases ho
      have da0 : ac.eval (.tmp 2) = .pointer (some ⟨w.heap.size, 0, none⟩) := f3 2 rfl
      exact Ord.det_value rfl rfl (e_ldp _ da0 rfl (P0.out.later hW)) rfl (hW)
    | 4, ho, hi =>
      cases ho
      have da0 : ac.eval (.tmp 3) = .pointer (some ⟨w.heap.size + 1, 0, none⟩) := f3 3 rfl
      exact Ord.det_value rfl rfl (e_ldp _ da0 rfl (P1.out.later hW)) rfl (hW)
    | 5, ho, hi =>
      cases ho
      have da0 : ac.eval (.tmp 13) = Pkt.pkv a0 := f4 3 13 _ rfl (hdep ⟨3, .data⟩ (by simp) rfl)
      have da1 : ac.eval (.tmp 14) = Pkt.pkv a1 := f4 4 14 _ rfl (hdep ⟨4, .data⟩ (by simp) rfl)
      exact Ord.det_call rfl rfl (e_rsame _ _ da0 da1 rfl) (RS.out _ hW)
    | 6, ho, hi =>
      cases ho
      have da0 : ac.eval (.tmp 12) = .bool T := f4 2 12 _ rfl (hdep ⟨2, .data⟩ (by simp) rfl)
      have da1 : ac.eval (.tmp 15) = .bool T := f4 5 15 _ rfl (hdep ⟨5, .data⟩ (by simp) rfl)
      exact Ord.det_value rfl rfl (o_neB _ _ rfl da0 da1) rfl (hW)
    | 7, ho, hi =>
      cases ho
      have da0 : ac.eval (.tmp 16) = .bool false := f4 6 16 _ rfl (hdep ⟨6, .data⟩ (by simp) rfl)
      exact Ord.det_value rfl rfl (Pkt.q_mv _ rfl da0) rfl (hW)
    | 8, ho, hi =>
      cases ho
      have dg : ac.eval (.tmp 17) = .bool false := f4 7 17 _ rfl (hdep ⟨7, .guard⟩ (by simp) rfl)
      have da0 : ac.eval (.tmp 2) = .pointer (some ⟨w.heap.size, 0, none⟩) := f3 2 rfl
      exact Ord.det_value rfl (Ord.wanted_of dg (by rw [f1']; decide) rfl rfl) (e_ldp _ da0 rfl (P0.out.later hW)) rfl (hW)
    | 9, ho, hi =>
      cases ho
      have dg : ac.eval (.tmp 17) = .bool false := f4 7 17 _ rfl (hdep ⟨7, .guard⟩ (by simp) rfl)
      have da0 : ac.eval (.tmp 2) = .pointer (some ⟨w.heap.size, 0, none⟩) := f3 2 rfl
      exact Ord.det_value rfl (Ord.wanted_of dg (by rw [f1']; decide) rfl rfl) (e_ldp _ da0 rfl (P0.out.later hW)) rfl (hW)
    | 10, ho, hi =>
      cases ho
      have dg : ac.eval (.tmp 17) = .bool false := f4 7 17 _ rfl (hdep ⟨7, .guard⟩ (by simp) rfl)
      have da0 : ac.eval (.tmp 18) = Pkt.pkv a0 := f4 8 18 _ rfl (hdep ⟨8, .data⟩ (by simp) rfl)
      have da1 : ac.eval (.tmp 19) = Pkt.pkv a0 := f4 9 19 _ rfl (hdep ⟨9, .data⟩ (by simp) rfl)
      exact Ord.det_call rfl (Ord.wanted_of dg (by rw [f1']; decide) rfl rfl) (e_same _ _ da0 da1 rfl) (SN.out _ hW)
    | 11, ho, hi =>
      cases ho
      have dg : ac.eval (.tmp 17) = .bool false := f4 7 17 _ rfl (hdep ⟨7, .guard⟩ (by simp) rfl)
      have da0 : ac.eval (.tmp 20) = .bool true := f4 10 20 _ rfl (hdep ⟨10, .data⟩ (by simp) rfl)
      exact Ord.det_value rfl (Ord.wanted_of dg (by rw [f1']; decide) rfl rfl) (o_not _ rfl da0) rfl (hW)
    | 12, ho, hi =>
      cases ho
      have da0 : ac.eval (.tmp 17) = .bool false := f4 7 17 _ rfl (hdep ⟨7, .data⟩ (by simp) rfl)
      have da1 : ac.eval (.tmp 21) = .bool false := f4 11 21 _ rfl (hdep ⟨11, .data⟩ (by simp) rfl)
      exact Ord.det_value rfl rfl (o_pk _ _ rfl da0 da1) rfl (hW)
  intro w2 hb2
  simp only [Ord.puts, Ord.prs]
  go_simp
  have HB2 := hidden (HW.out.trans (hb2.mono HW.out.size))
  have P2 := hidden (P0.out.later hb2)
  clear hb2 SM RS SN P1
  have EN := hidden (Pkt.encode 0 w2 a0 (W0.out.later HB2.out) (HT.out.later HB2.out HT.out.pos))
  obtain ⟨c0, c1, c2, c3⟩ := P2.out.px
  go_wp2_with fail
  refine Calls.mono EN.out ?_
  rintro e w3 ⟨v, er, rfl, hE, hbad, hgood, b3⟩
  have HB3 := hidden (HB2.out.trans (b3.mono HB2.out.size))
  have P3 := hidden (P2.out.later b3)
  have HE := hidden hE
  clear b3 EN P2 c0 c1 c2 c3 hE
  by_cases he : er = 0
  · subst he
    obtain ⟨_, _, _, hall, htot⟩ := HE.out.ok
    have hby := Pkt.pby_bytes (g := a0.g) W0.out.1 W0.out.2.1 W0.out.2.2.1 HVO.out hall
    obtain ⟨va, cap, rfl, hrow, hlc, _, hnn⟩ := Par.row_own (zs := Pkt.pby a0.f a0.t a0.g (a0.l.map Chu.val)) (hgood rfl) hby (by omega)
    have DE := hidden (Pkt.decode _ w3 va _ cap _ hrow hlc hnn (HT.out.later HB3.out HT.out.pos))
    clear hgood hbad hrow hlc hnn hby hall
    go_wp2_with fail
    refine Calls.mono DE.out ?_
    rintro e w4 ⟨p, q, er, rfl, hok, hD, hnum, _, b4⟩
    obtain ⟨k1, k2, k3, k4⟩ := Pkt.back (g := a0.g) W0.out.1 W0.out.2.1 W0.out.2.2.1 HVO.out HE.out
    obtain ⟨hl, rfl, rfl⟩ := hD.one k1
    obtain ⟨m1, m2, m3⟩ := hnum rfl
    have HSP := hidden (show Pkt.SamePk p a0 from ⟨m1.trans k2, m2.trans k3, m3.trans k4, hl⟩)
    have hbn := Pkt.below_new w4 (.cells (Pkt.pkc p) 26)
    have HB4 := hidden (HB3.out.trans ((b4.trans (hbn.mono b4.size)).mono HB3.out.size))
    have P4 := hidden ((P3.out.later b4).later hbn)
    have Q4 := hidden (Pkt.Pb.new w4 p)
    have RS := hidden (Pkt.rSame _ 0 (w4.alloc (.cells (Pkt.pkc p) 26)) p a0 (hok.later hbn) (W0.out.later HB4.out))
    clear hok hD hnum k1 k2 k3 k4 hl m1 m2 m3 b4 hbn DE P3 HB3
    rw [show Pkt.pkv p = .agg #[.int .u16 p.f, .int .u16 p.t, .int .u32 p.g, .slice p.a p.n p.c] from rfl]
    simp only [Pkt.pkv, Pkt.pkc] at RS P4 Q4 HB4
    obtain ⟨c0, c1, c2, c3⟩ := P4.out.px
    obtain ⟨d0, d1, d2, d3⟩ := Q4.out.px
    go_wp2_with fail
    generalize hV : World.alloc w4 _ = V at *
    clear hV
    refine Calls.mono RS.out ?_
    rintro e w5 ⟨t, rfl, ht, b5⟩
    obtain rfl : t = true := ht.2 HSP.out
    have HB5 := hidden (HB4.out.trans (b5.mono HB4.out.size))
    clear ht b5 RS HB4 c0 c1 c2 c3 d0 d1 d2 d3
    go_wp2_with fail
    refine Calls.mono (Pkt.alive w5 (HT.out.later HB5.out HT.out.pos)) ?_
    rintro e w6 ⟨rfl, b6⟩
    have HB6 := hidden (HB5.out.trans (b6.mono HB5.out.size))
    clear b6
    go_wp2
    go_ret
    exact ⟨rfl, HB6.out⟩
  · obtain rfl := hbad he
    have hne := Chu.bne_t he
    clear he hbad hgood
    go_wp2_with fail
    refine Calls.mono (Pkt.alive w3 (HT.out.later HB3.out HT.out.pos)) ?_
    rintro e w6 ⟨rfl, b6⟩
    have HB6 := hidden (HB3.out.trans (b6.mono HB3.out.size))
    clear b6
    go_wp2
    go_ret
    exact ⟨rfl, HB6.out⟩

set_option maxRecDepth 100000 in
theorem contract (H : Type) (enc : TypeId × Value → H) (W : World) (base : Nat) (args : Array Value) (ds gs : List (DataW H)) (before : List MemPlace)
    (hval : ∀ (j : Nat) t v, Tryz.f5.params[j]? = some t → args[j]? = some v → Value.okWide Tryz.prog W .any base t v)
    (hW : DataW.Whole enc Tryz.prog Tryz.f5.params.toList Rows.packetBackSpec.vars false W args.toList ds gs before)
    (hsz0 : (DataW.weightsEach Tryz.prog (Tryz.f5.params.toList ++ Rows.packetBackSpec.plain.varTypes Tryz.prog) (ds ++ gs)).all (· ≤ reachBytes) = true)
    (hL : laidMetH Tryz.prog Rows.packetBackRow.laid W) :
    Calls Tryz.prog 5 args W fun e W' => ∃ v, e = .returned v ∧ Rows.packetBackSpec.post enc Tryz.prog Tryz.f5 false true false false W args v W' := by
  have hW' := hW
  obtain ⟨p, q, hA0, hV, rfl, hfz, hnd⟩ := hW
  have hA : DataW.TrodAll enc Tryz.prog W 0 (fun _ => true) true Tryz.f5.params.toList args.toList ds p := hA0
  have hsz := hsz0
  rw [Tryz.params5] at hA hval hsz
  obtain ⟨v0, vs0, d0, ds0, p0, q0, hargs, rfl, rfl, h0, r0⟩ := trodAll_cons hA
  obtain ⟨v1, vs1, d1, ds1, p1, q1, rfl, rfl, rfl, h1, r1⟩ := trodAll_cons r0
  obtain ⟨rfl, rfl, rfl⟩ := trodAll_nil r1
  obtain rfl : args = #[v0, v1] := by cases args; simp_all
  obtain ⟨rfl, rfl⟩ := trodVars_none hV
  have k0 := h0
  have lt0 : ∀ x ∈ p0, x.block < W.heap.size := by obtain ⟨m, hm⟩ := k0; exact DataW.trod_lt m _ _ _ hm
  have sz0 : (d0.weights Tryz.prog 26).all (· ≤ reachBytes) = true := List.all_eq_true.2 fun m hm => List.all_eq_true.1 hsz m (DataW.weights_mem_each (j := 0) rfl rfl m hm)
  obtain ⟨a0, rfl, w0, s0⟩ : ∃ c, v0 = Pkt.pkv c ∧ Pkt.PkOk 0 W c ∧ ∀ x ∈ c.l, x.bl ≤ 140737488351232 := by
    obtain ⟨fuel, hf⟩ := h0
    exact Pkt.packet_arg (hval 0 26 v0 rfl rfl) hf sz0
  have k1 := h1
  have lt1 : ∀ x ∈ p1, x.block < W.heap.size := by obtain ⟨m, hm⟩ := k1; exact DataW.trod_lt m _ _ _ hm
  have sz1 : (d1.weights Tryz.prog 26).all (· ≤ reachBytes) = true := List.all_eq_true.2 fun m hm => List.all_eq_true.1 hsz m (DataW.weights_mem_each (j := 1) rfl rfl m hm)
  obtain ⟨a1, rfl, w1, s1⟩ : ∃ c, v1 = Pkt.pkv c ∧ Pkt.PkOk 0 W c ∧ ∀ x ∈ c.l, x.bl ≤ 140737488351232 := by
    obtain ⟨fuel, hf⟩ := h1
    exact Pkt.packet_arg (hval 1 26 v1 rfl rfl) hf sz1
  clear hA0 hsz0 hsz
  refine (walk a0 a1 W w0 s0 w1 s1 (table hL)).mono fun e W' ⟨he, bel⟩ => ?_
  subst he
  exact ⟨_, rfl, _, _, _, [], _, [], hW', trodAll_mk1 (shut_bool Tryz.underlying4 _), (trodAll_cons_mk (Below.trod laidOut (by kernel_rfl) (of_decide_eq_true (by kernel_rfl)) k0 bel lt0) (trodAll_cons_mk (Below.trod laidOut (by kernel_rfl) (of_decide_eq_true (by kernel_rfl)) k1 bel lt1) trodAll_mk0)), rfl, bel.frame _, fun h => by cases h⟩

noncomputable def laidWorld (os : Os) : World :=
  { World.holding Tryz.prog os ⟨#[], #[], []⟩ with heap := (World.holding Tryz.prog os ⟨#[], #[], []⟩).heap.modify 0 fun
      | .cells _ t frozen => .cells #[.int .u32 0, .int .u32 274646895, .int .u32 549293790, .int .u32 820201905, .int .u32 1098587580, .int .u32 1361435347, .int .u32 1640403810, .int .u32 1905808397, .int .u32 2197175160, .int .u32 2460548119, .int .u32 2722870694, .int .u32 2987750089, .int .u32 3280807620, .int .u32 3553878443, .int .u32 3811616794, .int .u32 4084100981] t frozen
      | o => o }
set_option maxRecDepth 100000 in
theorem laid_met (os : Os) : laidMet Tryz.prog Rows.packetBackRow.laid ((laidWorld os).forCall (fun _ _ => 0) ⟨#[], #[.agg #[.int .u16 0, .int .u16 0, .int .u32 0, .slice none 0 0], .agg #[.int .u16 0, .int .u16 0, .int .u32 0, .slice none 0 0]], []⟩).memory :=
  laidMet_of_run' 8 (by kernel_rfl) (by kernel_rfl)
set_option maxRecDepth 100000 in
theorem reads (os : Os) {H : Type} (enc : TypeId × Value → H) : ∃ places, DataW.whole enc Tryz.prog ((laidWorld os).forCall (fun _ _ => 0) ⟨#[], #[.agg #[.int .u16 0, .int .u16 0, .int .u32 0, .slice none 0 0], .agg #[.int .u16 0, .int .u16 0, .int .u32 0, .slice none 0 0]], []⟩).memory Tryz.f5.params.toList Rows.packetBackSpec.vars false #[Value.agg #[.int .u16 0, .int .u16 0, .int .u32 0, .slice none 0 0], Value.agg #[.int .u16 0, .int .u16 0, .int .u32 0, .slice none 0 0]].toList 8 = some ([.agg [.lit (.int .u16 0), .lit (.int .u16 0), .lit (.int .u32 0), .nil], .agg [.lit (.int .u16 0), .lit (.int .u16 0), .lit (.int .u32 0), .nil]], [], places) :=
  ⟨[], by kernel_rfl⟩

set_option maxRecDepth 100000 in
theorem lifted (os : Os) (started : os.Started) (H : Type) (enc : TypeId × Value → H) (F : Stop.Interp) :
    ReturnsInHanded {} Tryz.checked os 5 .any ((OpenSpec.ofChange Rows.packetBackSpec).preRow enc Tryz.prog Tryz.f5 Rows.packetBackRow.domain false Rows.packetBackRow.laid) (((OpenSpec.ofChange Rows.packetBackSpec).at F).post enc Tryz.prog Tryz.f5 false true false false) := by
  obtain ⟨places, hx⟩ := reads os enc
  refine returnsInHanded_of_row (C := Tryz.checked) (s := OpenSpec.ofChange Rows.packetBackSpec) own started (by kernel_rfl) Tryz.func5
    (witness_row_at (enc := enc) (C := Tryz.checked) false (laidWorld os) #[.agg #[.int .u16 0, .int .u16 0, .int .u32 0, .slice none 0 0], .agg #[.int .u16 0, .int .u16 0, .int .u32 0, .slice none 0 0]] rfl (by kernel_rfl) (by kernel_rfl) (by kernel_rfl)
      (OpenSpec.preRow_of_cond 8 hx (by kernel_rfl) (fun k hk => by cases hk) (by kernel_rfl) (laid_met os))) ?_
  intro W base args ds gs before hval hW _ hcond hsz hL _ _
  exact contract H enc W base args ds gs before hval hW hsz hL

theorem said : Rows.PacketBackSaid :=
  OpenClaim.holds_of_cond 5 Tryz.f5 rfl rfl rfl rfl rfl rfl rfl ⟨rfl, rfl, rfl, rfl, rfl⟩ rfl rfl rfl rfl rfl (by kernel_rfl) Tryz.func5 (by kernel_rfl)
    (of_decide_eq_true (by kernel_rfl)) (by unfold Func.isWrapper; first | (rw [if_pos (by decide +kernel)]; kernel_rfl) | (rw [if_neg (by decide +kernel)]; exact ⟨rfl, rfl⟩))
    (fun os started H enc _ F => by rw [OpenClaim.pre_eq_preRow]; exact lifted os started H enc F)

theorem plain (f : FuncId) (fn : Func) (hf : Tryz.pinned.checked.prog.funcNamed "ropewalk/ropewalklaw07.PacketBack" = some f) (hfn : Tryz.pinned.checked.prog.funcs[f]? = some fn) :
    true = Tryz.pinned.checked.prog.looks [] ∧ ∀ (j : Nat) t, fn.params[j]? = some t → Tryz.pinned.checked.prog.wantsStandIn t = false := by
  obtain rfl : f = 5 := Option.some.inj ((show Tryz.prog.funcNamed "ropewalk/ropewalklaw07.PacketBack" = some 5 by kernel_rfl).symm.trans hf) |>.symm
  obtain rfl : fn = Tryz.f5 := (Option.some.inj (Tryz.func5.symm.trans hfn)).symm
  refine ⟨by kernel_rfl, fun j t ht => ?_⟩
  rw [Tryz.params5] at ht
  have hm : t ∈ [26, 26] := by simpa using Array.mem_of_getElem? ht
  have hall : ∀ t ∈ [26, 26], Tryz.prog.wantsStandIn t = false := by
    intro t ht
    simp only [List.mem_cons, List.not_mem_nil, or_false] at ht
    rcases ht with rfl | rfl <;> kernel_rfl
  exact hall t hm

/-- THE CARD -/
theorem proved : Rows.PacketBackCardSaid :=
  Claim7.holds_tied_plain_at .later [] _ _ _ _ said (fun _ h => by cases h) (by kernel_rfl) (fun _ h => by cases h) packetBack_row_tie rfl ⟨rfl, rfl⟩ (by kernel_rfl) rfl plain (by kernel_rfl)
#print axioms proved
end Go.Proofs.YtmnndkhdekpecaaGreatDoor.packetBack
