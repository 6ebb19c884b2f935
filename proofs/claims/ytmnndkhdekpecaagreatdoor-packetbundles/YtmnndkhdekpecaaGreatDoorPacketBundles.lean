/-
  What PacketBundles says of every length and every list of chunks is true: package packet lays chunks into rows as the document does, and refuses as it does. Conditions: the chunks and all that they hold lie in memory, as whatever is handed in does.
-/
import Derived.Test.YtmnndkhdekpecaaGreatDoorCards
import Derived.Test.YtmnndkhdekpecaaGreatDoorTie
import Derived.WalkKit
import Derived.ProofKit
import Derived.OpenShut
import Derived.ShutString
import Derived.ChangeOld
import Derived.Below
import Derived.SizedLaws
import Derived.Deep.DeepHandedRow
import Derived.LaidLaws
import Derived.ChangeMaps5
import Derived.Lib.LaidTab
import Derived.Test.YtmnndkhdekpecaaGreatDoorPkZ
namespace Go.Proofs.YtmnndkhdekpecaaGreatDoor.packetBundles
open Go.ChangeShapes Go.WideShapes Go.ChangeAt Go.RowKit
open Go.ChangeMaps (open_string shut_string)
set_option linter.unusedVariables false

theorem own : ownKnob Tryz.prog.godebug = none := by kernel_rfl
theorem laidOut : laidOutB Tryz.prog = true := by kernel_rfl
theorem gTab : Tryz.prog.globalNamed "ropewalk/crc.nibbleSteps" = some 0 := by kernel_rfl
theorem gTabType : (Tryz.prog.globals[0]?).map (·.type) = some 152 := by kernel_rfl
theorem table {W : World} (h : laidMetH Tryz.prog Rows.packetBundlesRow.laid W) : Crc.Tab W := fun i hi =>
  (show Lib.TabIs Tryz.prog W "ropewalk/crc.nibbleSteps" .u32 Crc.tab from
    Lib.tabIs_of_head (rest := []) gTab gTabType Tryz.underlying152 Tryz.underlying23 (by kernel_rfl) (by kernel_rfl) h).cell gTab i hi

open Par (hidden)
section
variable {a : Act} {o : Oper} {w : World}
theorem r_same {u v : Value} {T : Array TypeId} (x y : Operand) (hu : a.eval x = u) (hv : a.eval y = v) (ho : o.op = .call { callee := .value (.func 22), args := #[x, y], argTypes := T }) : (execOp a.eval o).run Tryz.prog w = .ok (.enter 22 #[u, v]) w := by
  unfold execOp
  rw [ho]
  go_simp
  cases x <;> cases y <;> simp_all [Act.eval]
theorem r_not (x : Operand) (hx : a.eval x = .bool true) (ho : o.op = .unOp .not 4 x) : (execOp a.eval o).run Tryz.prog w = .ok (.value (.bool false)) w := by
  unfold execOp
  rw [ho]
  simp only [hx]
  go_simp
end
set_option maxRecDepth 20000 in
set_option maxHeartbeats 1000000 in

theorem walk (a0 : Int) (a1 : Option Addr) (len1 cap1 : Nat) (z1 : List Chu.Ck) (w : World) (w0 : (Lit.int .i64 a0).wf = true) (w1 : Chu.Cks 0 w a1 len1 z1) (s1 : ∀ c ∈ z1, c.bl ≤ 140737488351232) (t1 : len1 * 152 ≤ 140737488351232) (ht : Crc.Tab w) :
    Calls Tryz.prog 6 #[.int .i64 a0, .slice a1 len1 cap1] w fun e w' => e = .returned (.bool true) ∧ Below w.heap.size w w' := by
  have hm : -9223372036854775808 ≤ a0 ∧ a0 ≤ 9223372036854775807 := by
    simp [Lit.wf, IntKind.min, IntKind.max, IntKind.signed, IntKind.bits] at w0
    omega
  have BU := hidden (Pkt.bundle 0 a0 w a1 len1 cap1 z1 w1 hm t1)
  have W1 := hidden w1
  have S1 := hidden s1
  have HT := hidden ht
  have T1 := hidden t1
  clear w0 w1 s1 ht t1
  go_enter Tryz.func6, Tryz.ntmps6
  go_wp2_with fail
  refine Calls.mono BU.out ?_
  rintro e wA ⟨⟨v, R, er, rfl, hR, hO⟩, b1⟩
  have RB := hidden (Pkt.rBundle 0 a0 wA a1 len1 cap1 z1 (W1.out.later b1) S1.out hm T1.out)
  have HR := hidden hR
  have HO := hidden hO
  have B1 := hidden b1
  clear hR hO b1 BU
  obtain ⟨va, vcap, rfl⟩ : ∃ va vcap, v = .slice va R.length vcap := by obtain ⟨a, cap, e, _⟩ := Pkt.own_lies HR.out.1; exact ⟨a, cap, e⟩
  go_wp2_with fail
  refine Calls.mono RB.out ?_
  rintro e wB ⟨⟨u, Q, er2, rfl, hQ, hO2⟩, b2⟩
  obtain ⟨rfl, hRQ⟩ := HO.out.same hO2
  have hQR : Q.length = R.length := by
    have := congrArg List.length hRQ
    simp [Pkt.rvs] at this
    exact this.symm
  obtain ⟨ua, ucap, rfl⟩ : ∃ ua ucap, u = .slice ua R.length ucap := by obtain ⟨a, cap, e, _⟩ := Pkt.own_lies hQ.1; exact ⟨a, cap, by rw [e, hQR]⟩
  have HQ := hidden hQ
  have HR2 := hidden (HR.out.later b2)
  have HRQ := hidden hRQ
  have HQR := hidden hQR
  have B2 := hidden (B1.out.trans (b2.mono B1.out.size))
  have HLN : Hid ((∀ r ∈ R, r.2.length ≤ 1000000) ∧ (∀ r ∈ Q, r.2.length ≤ 1000000) ∧ R.length ≤ 1000000000000) := by
    by_cases he : er = 0
    · obtain ⟨e1, m1, m2, hck, hfit⟩ := HO.out.2.2.2 he
      have hbi := Pkt.BI.all (m := a0) (vs := z1.map Chu.val) hfit _ (Nat.le_refl _)
      rw [List.take_length] at hbi
      have hz := W1.out.1
      refine hidden ⟨Pkt.rows_len hbi e1 m2, Pkt.rows_len hbi (hRQ ▸ e1) m2, ?_⟩
      have h1 := Pkt.bun_len hbi
      rw [← e1] at h1
      simp [Pkt.rvs] at h1
      have h2 := T1.out
      omega
    · have e1 := HO.out.2.2.1 he
      have e2 := hRQ ▸ e1
      have r1 : R = [] := by simpa [Pkt.rvs] using e1
      have r2 : Q = [] := by simpa [Pkt.rvs] using e2
      subst r1
      subst r2
      exact hidden ⟨(fun r hr => by cases hr), (fun r hr => by cases hr), by simp⟩
  have hRm := HLN.out.2.2
  clear hQ hRQ hQR b2 hO2 RB
  go_wp2_with fail
  go_loopw [9] (fun i wr => ∃ k : Nat, k ≤ R.length ∧ i = .int .i64 k ∧ Below wB.heap.size wB wr) (fun i _ => R.length - (intOf i).toNat)
  case atStart => exact ⟨0, Nat.zero_le _, rfl, Below.refl _ _⟩
  case round =>
    obtain ⟨k, hk, rfl, hb⟩ := hrel
    rcases Nat.lt_or_ge k R.length with hlt | hge
    · obtain ⟨r, hr⟩ : ∃ r, R[k]? = some r := ⟨_, List.getElem?_eq_getElem hlt⟩
      obtain ⟨q, hq⟩ : ∃ q, Q[k]? = some q := ⟨_, List.getElem?_eq_getElem (by rw [HQR.out]; exact hlt)⟩
      have hvv : r.2.map Chu.val = q.2.map Chu.val := by
        have e := congrArg (fun t => t[k]?) HRQ.out
        simp only [Pkt.rvs, List.getElem?_map, hr, hq, Option.map_some, Option.some.injEq] at e
        exact e
      have hmr := List.mem_of_getElem? hr
      have hmq := List.mem_of_getElem? hq
      have hR3 := HR2.out.later hb
      have hQ3 := HQ.out.later hb
      obtain ⟨g, rfl, _, _, _, hc1, _⟩ := hR3.cell hr
      obtain ⟨g2, rfl, _, _, _, hc2, _⟩ := hQ3.cell hq
      obtain ⟨ra, rc, er1, hk1⟩ := hR3.row hmr (by have := HLN.out.1 r hmr; omega)
      obtain ⟨qa, qc, eq1, hk2⟩ := hQ3.row hmq (by have := HLN.out.2.1 q hmq; omega)
      rw [er1] at hc1
      rw [eq1] at hc2
      have C1 := hidden hc1
      have C2 := hidden hc2
      have HK1 := hidden (Pkt.cks_zero hk1)
      have HK2 := hidden (Pkt.cks_zero hk2)
      have HVV := hidden hvv
      have HB := hidden hb
      have i1 : ((k : Nat) : Int) < (R.length : Int) := by omega
      clear hr hq hvv hmr hmq hR3 hQ3 er1 eq1 hk1 hk2 hc1 hc2 hb
      go_upto_region 8 with fail
      refine Ord.wp_region_ex (X := Unit) (by kernel_rfl) 49 (fun x => [(some 38, .slice (some ⟨g, 0, none⟩) R.length vcap), (some 39, .int .i64 (k : Int)), (some 40, .pointer (some ⟨g, k, none⟩)), (some 41, .slice ra r.2.length rc), (some 42, .slice (some ⟨g2, 0, none⟩) R.length ucap), (some 43, .int .i64 (k : Int)), (some 44, .pointer (some ⟨g2, k, none⟩)), (some 45, .slice qa q.2.length qc), (some 46, .bool true), (some 47, .bool false)]) [some 38, some 39, some 40, some 41, some 42, some 43, some 44, some 45, some 46, some 47] rfl (by kernel_rfl) (by rfl) (fun _ => rfl) (by kernel_rfl) (Pkt.StM [8] (fun _ _ u => Below wr.heap.size wr u)) (fun _ _ _ _ hL h => h.ext (n := 10) (by decide) hL) ?_ ?_ () ?_
      case refine_1 =>
        intro x L i o ac w' ho hi hcl hdep hF hW
        have f1 : ac.tmps.size = 49 := hF.1
        match i, ho, hi, hdep with
        | 0, ho, hi, hdep =>
          cases ho
          have da0 : ac.eval (.tmp 5) = .slice (some ⟨g, 0, none⟩) R.length vcap := hF.old 5 rfl
          exact Ord.ex_value x rfl rfl (Pkt.q_mv _ rfl da0) rfl (hW.keep (by decide))
        | 1, ho, hi, hdep =>
          cases ho
          have da0 : ac.eval (.tmp 9) = .int .i64 (k : Int) := hF.old 9 rfl
          exact Ord.ex_value x rfl rfl (Pkt.q_mv _ rfl da0) rfl (hW.keep (by decide))
        | 2, ho, hi, hdep =>
          cases ho
          have da0 : ac.eval (.tmp 38) = .slice (some ⟨g, 0, none⟩) R.length vcap := hF.2.2.2 0 38 _ rfl (hdep ⟨0, .data⟩ (by simp) rfl)
          have da1 : ac.eval (.tmp 39) = .int .i64 (k : Int) := hF.2.2.2 1 39 _ rfl (hdep ⟨1, .data⟩ (by simp) rfl)
          exact Ord.ex_value x rfl rfl (Pkt.r_ixL _ _ da0 da1 rfl hlt rfl) rfl (hW.keep (by decide))
        | 3, ho, hi, hdep =>
          cases ho
          have da0 : ac.eval (.tmp 40) = .pointer (some ⟨g, k, none⟩) := hF.2.2.2 2 40 _ rfl (hdep ⟨2, .data⟩ (by simp) rfl)
          exact Ord.ex_value x rfl rfl (Pkt.r_ldR _ da0 rfl (((Pkt.StM.bel hW).cell (Par.cell_lt C1.out)).trans C1.out)) rfl (hW.keep (by decide))
        | 4, ho, hi, hdep =>
          cases ho
          have da0 : ac.eval (.tmp 7) = .slice (some ⟨g2, 0, none⟩) R.length ucap := hF.old 7 rfl
          exact Ord.ex_value x rfl rfl (Pkt.q_mv _ rfl da0) rfl (hW.keep (by decide))
        | 5, ho, hi, hdep =>
          cases ho
          have da0 : ac.eval (.tmp 9) = .int .i64 (k : Int) := hF.old 9 rfl
          exact Ord.ex_value x rfl rfl (Pkt.q_mv _ rfl da0) rfl (hW.keep (by decide))
        | 6, ho, hi, hdep =>
          cases ho
          have da0 : ac.eval (.tmp 42) = .slice (some ⟨g2, 0, none⟩) R.length ucap := hF.2.2.2 4 42 _ rfl (hdep ⟨4, .data⟩ (by simp) rfl)
          have da1 : ac.eval (.tmp 43) = .int .i64 (k : Int) := hF.2.2.2 5 43 _ rfl (hdep ⟨5, .data⟩ (by simp) rfl)
          exact Ord.ex_value x rfl rfl (Pkt.r_ixL _ _ da0 da1 rfl hlt rfl) rfl (hW.keep (by decide))
        | 7, ho, hi, hdep =>
          cases ho
          have da0 : ac.eval (.tmp 44) = .pointer (some ⟨g2, k, none⟩) := hF.2.2.2 6 44 _ rfl (hdep ⟨6, .data⟩ (by simp) rfl)
          exact Ord.ex_value x rfl rfl (Pkt.r_ldR _ da0 rfl (((Pkt.StM.bel hW).cell (Par.cell_lt C2.out)).trans C2.out)) rfl (hW.keep (by decide))
        | 8, ho, hi, hdep =>
          cases ho
          have da0 : ac.eval (.tmp 41) = .slice ra r.2.length rc := hF.2.2.2 3 41 _ rfl (hdep ⟨3, .data⟩ (by simp) rfl)
          have da1 : ac.eval (.tmp 45) = .slice qa q.2.length qc := hF.2.2.2 7 45 _ rfl (hdep ⟨7, .data⟩ (by simp) rfl)
          have hA := hW.at (k := 0) rfl hi (.inl rfl)
          refine Pkt.ex_told x rfl rfl (r_same _ _ da0 da1 rfl) (Calls.mono (Pkt.rSameChunks 0 0 w' ra qa _ _ rc qc r.2 q.2 (HK1.out.later hA) (HK2.out.later hA)) ?_)
          rintro e w2 ⟨t, rfl, ht, hb2⟩
          obtain rfl : t = true := ht.2 HVV.out
          exact ⟨rfl, hW.next (k := 0) rfl (by decide) hi (.inl rfl) (hA.trans (hb2.mono hA.size))⟩
        | 9, ho, hi, hdep =>
          cases ho
          have da0 : ac.eval (.tmp 46) = .bool true := hF.2.2.2 8 46 _ rfl (hdep ⟨8, .data⟩ (by simp) rfl)
          exact Ord.ex_value x rfl rfl (r_not _ da0 rfl) rfl (hW.keep (by decide))
      case refine_3 => exact ⟨0, by decide, (fun j c hj => ⟨fun e => Bool.noConfusion e, fun e => absurd e (Nat.not_lt_zero _)⟩), (Below.refl _ _).drew⟩
      intro x w2 hW
      simp only [Ord.puts, Ord.prs]
      go_simp
      have HB2 := hidden (HB.out.trans ((Pkt.StM.bel hW).mono HB.out.size))
      clear hW
      go_wp2
      go_roundw
      case rel => exact ⟨k + 1, by omega, by go_num, HB2.out⟩
      case measure => simp [intOf]; omega
    · obtain rfl : k = R.length := by omega
      have HB := hidden (B2.out.trans (hb.mono B2.out.size))
      clear hb
      go_wp2_with fail
      refine Calls.mono (Pkt.alive wr (HT.out.later HB.out HT.out.pos)) ?_
      rintro e w6 ⟨rfl, b6⟩
      have HB6 := hidden (HB.out.trans (b6.mono HB.out.size))
      clear b6
      go_wp2
      go_ret
      exact ⟨rfl, HB6.out⟩

set_option maxRecDepth 100000 in
theorem contract (H : Type) (enc : TypeId × Value → H) (W : World) (base : Nat) (args : Array Value) (ds gs : List (DataW H)) (before : List MemPlace)
    (hval : ∀ (j : Nat) t v, Tryz.f6.params[j]? = some t → args[j]? = some v → Value.okWide Tryz.prog W .any base t v)
    (hW : DataW.Whole enc Tryz.prog Tryz.f6.params.toList Rows.packetBundlesSpec.vars false W args.toList ds gs before)
    (hsz0 : (DataW.weightsEach Tryz.prog (Tryz.f6.params.toList ++ Rows.packetBundlesSpec.plain.varTypes Tryz.prog) (ds ++ gs)).all (· ≤ reachBytes) = true)
    (hL : laidMetH Tryz.prog Rows.packetBundlesRow.laid W) :
    Calls Tryz.prog 6 args W fun e W' => ∃ v, e = .returned v ∧ Rows.packetBundlesSpec.post enc Tryz.prog Tryz.f6 false true false false W args v W' := by
  have hW' := hW
  obtain ⟨p, q, hA0, hV, rfl, hfz, hnd⟩ := hW
  have hA : DataW.TrodAll enc Tryz.prog W 0 (fun _ => true) true Tryz.f6.params.toList args.toList ds p := hA0
  have hsz := hsz0
  rw [Tryz.params6] at hA hval hsz
  obtain ⟨v0, vs0, d0, ds0, p0, q0, hargs, rfl, rfl, h0, r0⟩ := trodAll_cons hA
  obtain ⟨v1, vs1, d1, ds1, p1, q1, rfl, rfl, rfl, h1, r1⟩ := trodAll_cons r0
  obtain ⟨rfl, rfl, rfl⟩ := trodAll_nil r1
  obtain rfl : args = #[v0, v1] := by cases args; simp_all
  obtain ⟨rfl, rfl⟩ := trodVars_none hV
  obtain ⟨a0, rfl, rfl, rfl, w0⟩ := open_int Tryz.underlying3 (hval 0 3 v0 rfl rfl) h0
  obtain ⟨a1, len1, cap1, rfl⟩ := okWide_slice Tryz.underlying24 (hval 1 24 v1 rfl rfl)
  have k1 := h1
  have lt1 : ∀ x ∈ p1, x.block < W.heap.size := by obtain ⟨m, hm⟩ := k1; exact DataW.trod_lt m _ _ _ hm
  have sz1 : (d1.weights Tryz.prog 24).all (· ≤ reachBytes) = true := List.all_eq_true.2 fun m hm => List.all_eq_true.1 hsz m (DataW.weights_mem_each (j := 1) rfl rfl m hm)
  have t1 : len1 * 152 ≤ 140737488351232 := by
    obtain ⟨fuel, hf⟩ := h1
    exact Pkt.chunks_len hf sz1
  obtain ⟨z1, w1, s1⟩ : ∃ l, Chu.Cks 0 W a1 len1 l ∧ ∀ c ∈ l, c.bl ≤ 140737488351232 := by
    obtain ⟨fuel, hf⟩ := h1
    exact Chu.chunks_arg' hf sz1
  clear hA0 hsz0 hsz
  refine (walk a0 a1 len1 cap1 z1 W w0 w1 s1 t1 (table hL)).mono fun e W' ⟨he, bel⟩ => ?_
  subst he
  exact ⟨_, rfl, _, _, _, [], _, [], hW', trodAll_mk1 (shut_bool Tryz.underlying4 _), (trodAll_cons_mk (shut_int Tryz.underlying3 w0) (trodAll_cons_mk (Below.trod laidOut (by kernel_rfl) (of_decide_eq_true (by kernel_rfl)) k1 bel lt1) trodAll_mk0)), rfl, bel.frame _, fun h => by cases h⟩

noncomputable def laidWorld (os : Os) : World :=
  { World.holding Tryz.prog os ⟨#[], #[], []⟩ with heap := (World.holding Tryz.prog os ⟨#[], #[], []⟩).heap.modify 0 fun
      | .cells _ t frozen => .cells #[.int .u32 0, .int .u32 274646895, .int .u32 549293790, .int .u32 820201905, .int .u32 1098587580, .int .u32 1361435347, .int .u32 1640403810, .int .u32 1905808397, .int .u32 2197175160, .int .u32 2460548119, .int .u32 2722870694, .int .u32 2987750089, .int .u32 3280807620, .int .u32 3553878443, .int .u32 3811616794, .int .u32 4084100981] t frozen
      | o => o }
set_option maxRecDepth 100000 in
theorem laid_met (os : Os) : laidMet Tryz.prog Rows.packetBundlesRow.laid ((laidWorld os).forCall (fun _ _ => 0) ⟨#[], #[.int .i64 0, .slice none 0 0], []⟩).memory :=
  laidMet_of_run' 8 (by kernel_rfl) (by kernel_rfl)
set_option maxRecDepth 100000 in
theorem reads (os : Os) {H : Type} (enc : TypeId × Value → H) : ∃ places, DataW.whole enc Tryz.prog ((laidWorld os).forCall (fun _ _ => 0) ⟨#[], #[.int .i64 0, .slice none 0 0], []⟩).memory Tryz.f6.params.toList Rows.packetBundlesSpec.vars false #[Value.int .i64 0, Value.slice none 0 0].toList 8 = some ([.lit (.int .i64 0), .nil], [], places) :=
  ⟨[], by kernel_rfl⟩

set_option maxRecDepth 100000 in
theorem lifted (os : Os) (started : os.Started) (H : Type) (enc : TypeId × Value → H) (F : Stop.Interp) :
    ReturnsInHanded {} Tryz.checked os 6 .any ((OpenSpec.ofChange Rows.packetBundlesSpec).preRow enc Tryz.prog Tryz.f6 Rows.packetBundlesRow.domain false Rows.packetBundlesRow.laid) (((OpenSpec.ofChange Rows.packetBundlesSpec).at F).post enc Tryz.prog Tryz.f6 false true false false) := by
  obtain ⟨places, hx⟩ := reads os enc
  refine returnsInHanded_of_row (C := Tryz.checked) (s := OpenSpec.ofChange Rows.packetBundlesSpec) own started (by kernel_rfl) Tryz.func6
    (witness_row_at (enc := enc) (C := Tryz.checked) false (laidWorld os) #[.int .i64 0, .slice none 0 0] rfl (by kernel_rfl) (by kernel_rfl) (by kernel_rfl)
      (OpenSpec.preRow_of_cond 8 hx (by kernel_rfl) (fun k hk => by cases hk) (by kernel_rfl) (laid_met os))) ?_
  intro W base args ds gs before hval hW _ hcond hsz hL _ _
  exact contract H enc W base args ds gs before hval hW hsz hL

theorem said : Rows.PacketBundlesSaid :=
  OpenClaim.holds_of_cond 6 Tryz.f6 rfl rfl rfl rfl rfl rfl rfl ⟨rfl, rfl, rfl, rfl, rfl⟩ rfl rfl rfl rfl rfl (by kernel_rfl) Tryz.func6 (by kernel_rfl)
    (of_decide_eq_true (by kernel_rfl)) (by unfold Func.isWrapper; first | (rw [if_pos (by decide +kernel)]; kernel_rfl) | (rw [if_neg (by decide +kernel)]; exact ⟨rfl, rfl⟩))
    (fun os started H enc _ F => by rw [OpenClaim.pre_eq_preRow]; exact lifted os started H enc F)

theorem plain (f : FuncId) (fn : Func) (hf : Tryz.pinned.checked.prog.funcNamed "ropewalk/ropewalklaw07.PacketBundles" = some f) (hfn : Tryz.pinned.checked.prog.funcs[f]? = some fn) :
    true = Tryz.pinned.checked.prog.looks [] ∧ ∀ (j : Nat) t, fn.params[j]? = some t → Tryz.pinned.checked.prog.wantsStandIn t = false := by
  obtain rfl : f = 6 := Option.some.inj ((show Tryz.prog.funcNamed "ropewalk/ropewalklaw07.PacketBundles" = some 6 by kernel_rfl).symm.trans hf) |>.symm
  obtain rfl : fn = Tryz.f6 := (Option.some.inj (Tryz.func6.symm.trans hfn)).symm
  refine ⟨by kernel_rfl, fun j t ht => ?_⟩
  rw [Tryz.params6] at ht
  have hm : t ∈ [3, 24] := by simpa using Array.mem_of_getElem? ht
  have hall : ∀ t ∈ [3, 24], Tryz.prog.wantsStandIn t = false := by
    intro t ht
    simp only [List.mem_cons, List.not_mem_nil, or_false] at ht
    rcases ht with rfl | rfl <;> kernel_rfl
  exact hall t hm

/-- THE CARD -/
theorem proved : Rows.PacketBundlesCardSaid :=
  Claim7.holds_tied_plain_at .later [] _ _ _ _ said (fun _ h => by cases h) (by kernel_rfl) (fun _ h => by cases h) packetBundles_row_tie rfl ⟨rfl, rfl⟩ (by kernel_rfl) rfl plain (by kernel_rfl)
#print axioms proved
end Go.Proofs.YtmnndkhdekpecaaGreatDoor.packetBundles
