/-
  What PacketOneBit says of every packet and every bit is true: a packet's bytes with one bit turned are no packet. Conditions: the packet and all that it holds lie in memory, as whatever is handed in does.
-/
import Derived.Test.YtmnndkhdekpecaaDoorCards
import Derived.Test.YtmnndkhdekpecaaDoorTie
import Derived.WalkKit
import Derived.ProofKit
import Derived.OpenShut
import Derived.ShutString
import Derived.ChangeOld
import Derived.Below
import Derived.SizedLaws
import Derived.Deep.DeepHandedRow
import Derived.LaidLaws
import Derived.ChangeMaps5
import Derived.Lib.LaidTab
import Derived.Test.YtmnndkhdekpecaaDoorPkO
import Derived.Test.YtmnndkhdekpecaaDoorPkH
import Derived.Test.YtmnndkhdekpecaaDoorPkArgs
import Derived.BigRegion
namespace Go.Proofs.YtmnndkhdekpecaaDoor.packetOneBit
open Go.ChangeShapes Go.WideShapes Go.ChangeAt Go.RowKit
open Go.ChangeMaps (open_string shut_string)
set_option linter.unusedVariables false

theorem own : ownKnob Tryd.prog.godebug = none := by kernel_rfl
theorem laidOut : laidOutB Tryd.prog = true := by kernel_rfl
theorem gTab : Tryd.prog.globalNamed "ropewalk/crc.nibbleSteps" = some 0 := by kernel_rfl
theorem gTabType : (Tryd.prog.globals[0]?).map (·.type) = some 114 := by kernel_rfl
theorem table {W : World} (h : laidMetH Tryd.prog Rows.packetOneBitRow.laid W) : Crc.Tab W := fun i hi =>
  (show Lib.TabIs Tryd.prog W "ropewalk/crc.nibbleSteps" .u32 Crc.tab from
    Lib.tabIs_of_head (rest := []) gTab gTabType Tryd.underlying114 Tryd.underlying23 (by kernel_rfl) (by kernel_rfl) h).cell gTab i hi

open Par (hidden)
set_option maxRecDepth 20000 in
set_option maxHeartbeats 1000000 in

theorem walk (a0 : Pkt.Pk) (a1 : Int) (w : World) (w0 : Pkt.PkOk 0 w a0) (s0 : ∀ c ∈ a0.l, c.bl ≤ 140737488351232) (w1 : (Lit.int .u32 a1).wf = true) (ht : Crc.Tab w) :
    Calls Tryd.prog 3 #[Pkt.pkv a0, .int .u32 a1] w fun e w' => e = .returned (.bool true) ∧ Below w.heap.size w w' := by
  have hb0 := Pkt.below_new w (.cells (Pkt.pkc a0) 26)
  have EN := hidden (Pkt.encode 0 _ a0 (w0.later hb0) (ht.later hb0 ht.pos))
  have HB0 := hidden hb0
  have W0 := hidden w0
  have HT := hidden ht
  have hbit := Chu.u32_bounds w1
  have HVO := hidden (show ∀ v ∈ a0.l.map Chu.val, Chu.VOk v from fun v hv => by
    obtain ⟨c, hc, rfl⟩ := List.mem_map.1 hv
    exact (w0.2.2.2.2.2.1 c hc).vok)
  clear w0 s0 ht hb0 w1
  simp only [Pkt.pkv, Pkt.pkc] at *
  go_enter Tryd.func3, Tryd.ntmps3
  go_wp2_with fail
  generalize hW : World.alloc w _ = W at *
  clear hW
  refine Calls.mono EN.out ?_
  rintro e w3 ⟨v, er, rfl, hE, hbad, hgood, b3⟩
  have HB3 := hidden (HB0.out.trans (b3.mono HB0.out.size))
  have HE := hidden hE
  clear b3 EN hE
  by_cases he : er = 0
  · subst he
    obtain ⟨_, hne, _, hall, htot⟩ := HE.out.ok
    have hby := Pkt.pby_bytes (g := a0.g) W0.out.1 W0.out.2.1 W0.out.2.2.1 HVO.out hall
    have hlen := Pkt.pby_len (f := a0.f) (t := a0.t) (g := a0.g) hall
    have hown := hgood rfl
    obtain ⟨n, hn⟩ : ∃ n, n = 12 + Chu.tot (a0.l.map Chu.val) := ⟨_, rfl⟩
    rw [← hn] at hown hlen
    obtain ⟨va, cap, rfl, hrow, hlc, _, hnn⟩ := Par.row_own (zs := Pkt.pby a0.f a0.t a0.g (a0.l.map Chu.val)) hown hby (by omega)
    obtain ⟨b, off, rfl⟩ : ∃ b off, va = some ⟨b, off, none⟩ := by
      rcases hrow.2.2.2 with h | ⟨b, off, h, _⟩
      · omega
      · exact ⟨b, off, h⟩
    have hnle : n ≤ 65536 := by omega
    have hn12 : 12 ≤ n := by omega
    have HROW := hidden hrow
    have HBY := hidden hby
    have HLEN := hidden hlen
    have i0 : ((n : Int) == 0) = false := by simp; omega
    obtain ⟨k, hk⟩ : ∃ k : Int, a1 % (8 * (n : Int)) = k := ⟨_, rfl⟩
    have hk0 : 0 ≤ k := by rw [← hk]; exact Int.emod_nonneg _ (by omega)
    have hk1 : k < 8 * (n : Int) := by rw [← hk]; exact Int.emod_lt_of_pos _ (by omega)
    obtain ⟨i1, hi, hz0, hz1, hz2⟩ := info_parts Par.info5
    have hbe := Pkt.below_new w3 (.cells #[] 5)
    have hown0 : (w3.alloc (.cells #[] 5)).ownsRow w3.heap.size 5 1 (.slice (some ⟨w3.heap.size, 0, none⟩) 0 0) 0 [] := World.ownsRow_lit w3 #[] 0 (Nat.le_refl _) (Nat.zero_le _) rfl
    have hnews := (hrow.later hbe).news
    have HBE := hidden (HB3.out.trans (hbe.mono HB3.out.size))
    have hs3 := HB3.out.size
    clear hgood hbad hrow hnn hby hlen hown hn hall htot hne
    go_wp2_with (first | (at_builtin; refine wpList_append_own _ rfl (.tmp 36) _ 27 rfl w3.heap.size 5 i1 (.int .u8 0) 1 1 Tryd.underlying27 hi hz0 hz1 hz2 rfl (by decide) _ _ _ rfl hown0 ⟨b, off, none⟩ n cap (Par.cs (Pkt.pby a0.f a0.t a0.g (a0.l.map Chu.val))) rfl ?c0 hnews (Par.cs_one _) ?c3 ?c4 (by simp) ?_) | go_in)
    case c0 => rw [Par.cs_len, HLEN.out]; simp
    case c3 => unfold maxLen; omega
    case c4 => omega
    intro v' w4 hown4 hgrow _
    try simp only [Nat.zero_add, List.nil_append] at hown4
    obtain ⟨g, gc, rfl, hge⟩ : ∃ g gc, v' = .slice (some ⟨g, 0, none⟩) n gc ∧ w3.heap.size ≤ g := by
      rcases hown4.2 with ⟨_, h0⟩ | ⟨g, gc, _, hv, hge, _⟩
      · omega
      · exact ⟨g, gc, by simpa using hv, hge⟩
    have hb4 : Below w.heap.size w w4 := HBE.out.grown hgrow HBE.out.size (fun q hq => by cases hq; exact hs3)
    have HB4 := hidden hb4
    have hcell := hown4.cellAt (k / 8).toNat (by omega)
    have hfr := hown4.frozenAt (k / 8).toNat
    have HST := hidden (fun u => hown4.stored (k / 8).toNat u)
    have hxb := Par.at_bound _ HBY.out (k / 8).toNat
    rw [show Par.cs (Pkt.pby a0.f a0.t a0.g (a0.l.map Chu.val)) = (Pkt.pby a0.f a0.t a0.g (a0.l.map Chu.val)).map (Value.int .u8) from rfl, List.getElem?_map, List.getElem?_eq_getElem (by rw [HLEN.out]; omega), Option.map_some] at hcell
    have hgd : (Pkt.pby a0.f a0.t a0.g (a0.l.map Chu.val)).getD (k / 8).toNat 0 = (Pkt.pby a0.f a0.t a0.g (a0.l.map Chu.val))[(k / 8).toNat]'(by rw [HLEN.out]; omega) := by rw [List.getD_eq_getElem?_getD, List.getElem?_eq_getElem (by rw [HLEN.out]; omega)]; rfl
    rw [← hgd] at hcell
    generalize hx : (Pkt.pby a0.f a0.t a0.g (a0.l.map Chu.val)).getD (k / 8).toNat 0 = x at hcell hxb
    have HX := hidden hx
    have hJ : ((k / 8).toNat : Int) < (n : Int) := by omega
    clear hown0 hnews hgrow hown4 hgd hx hb4 hbe
    go_wp2_with fail
    go_region
    have hfl := Crc.flip_walk k 0 x hk0 hxb
    rw [show k + ((0 : Nat) : Int) = k by omega, Nat.add_zero] at hfl
    have e8 : (k / 8).toNat = k.toNat / 8 := by omega
    have hst := HST.out (.int .u8 (bits .xor .u8 x (2 ^ (k % 8).toNat % 256)))
    have hrowT : (w4.setCell ⟨g, (k / 8).toNat, none⟩ (.int .u8 (bits .xor .u8 x (2 ^ (k % 8).toNat % 256)))).ownsRow w3.heap.size 5 1 (.slice (some ⟨g, 0, none⟩) n gc) n (Par.cs (Pkt.turned (Pkt.pby a0.f a0.t a0.g (a0.l.map Chu.val)) k.toNat)) := by
      have h1 := hst.1
      rw [show Par.cs (Pkt.pby a0.f a0.t a0.g (a0.l.map Chu.val)) = (Pkt.pby a0.f a0.t a0.g (a0.l.map Chu.val)).map (Value.int .u8) from rfl, ← List.map_set] at h1
      have e : Pkt.turned (Pkt.pby a0.f a0.t a0.g (a0.l.map Chu.val)) k.toNat = (Pkt.pby a0.f a0.t a0.g (a0.l.map Chu.val)).set (k / 8).toNat (bits .xor .u8 x (2 ^ (k % 8).toNat % 256)) := by
        unfold Pkt.turned
        rw [← e8, HX.out, hfl]
      rw [e]
      exact h1
    obtain ⟨_, _, he, hrow5, hlc5, _, hnn5⟩ := Par.row_own hrowT (Pkt.turned_bytes HBY.out _) (by omega)
    cases he
    have hdr : Below (w4.setCell ⟨g, (k / 8).toNat, none⟩ (.int .u8 (bits .xor .u8 x (2 ^ (k % 8).toNat % 256)))).heap.size (w4.setCell ⟨g, (k / 8).toNat, none⟩ (.int .u8 (bits .xor .u8 x (2 ^ (k % 8).toNat % 256)))) (w4.setCell ⟨g, (k / 8).toNat, none⟩ (.int .u8 (bits .xor .u8 x (2 ^ (k % 8).toNat % 256)))).drew := (Below.refl _ _).drew
    have hb5 := HB4.out.grown hst.2 HB4.out.size (fun q hq => by cases hq; omega)
    have HB5 := hidden (hb5.trans (hdr.mono hb5.size))
    have DE := hidden (Pkt.decode _ _ _ n gc _ (hrow5.later hdr) hlc5 hnn5 (HT.out.later HB5.out HT.out.pos))
    have hbad5 : Pkt.hcode (Pkt.turned (Pkt.pby a0.f a0.t a0.g (a0.l.map Chu.val)) k.toNat) = 21 := by
      refine Pkt.hcode_sum (by rw [Pkt.turned_len, HLEN.out]; omega) (by rw [Pkt.turned_len, HLEN.out]; omega) ?_
      have hpl : (Pkt.pre a0.f a0.t a0.g (Chu.encA (a0.l.map Chu.val))).length = n := by
        rw [← HLEN.out]
        unfold Pkt.pby
        rw [Crc.put_len (by rw [Pkt.pre_len]; omega)]
      exact Pkt.turned_bad (zs := Pkt.pre a0.f a0.t a0.g (Chu.encA (a0.l.map Chu.val))) (by omega) (Pkt.pre_bytes W0.out.1 W0.out.2.1 W0.out.2.2.1 (Chu.encA_bytes HVO.out HE.out.ok.2.2.2.1)) k.toNat (by rw [hpl]; omega)
    have HBAD := hidden hbad5
    clear hrowT hst hfl hrow5 hlc5 hnn5 hdr hb5 hbad5 HST hcell hfr e8
    go_wp2_with fail
    generalize hV : World.drew (World.setCell w4 _ _) = V at *
    clear hV
    refine Calls.mono DE.out ?_
    rintro e w6 ⟨p, q, er, rfl, hok, hD, _, hz, b6⟩
    obtain rfl : er = 21 := by
      have := hD.one (.inl ⟨by rw [HBAD.out]; decide, rfl, rfl, rfl⟩)
      rw [this.2.2, HBAD.out]
    obtain rfl := hz (by decide)
    have HB6 := hidden ((HB5.out.trans (b6.mono HB5.out.size)).trans ((Pkt.below_new w6 (.cells (Pkt.pkc Pkt.zpk) 26)).mono (HB5.out.trans (b6.mono HB5.out.size)).size))
    have HP6 := hidden (Pkt.Pb.new w6 Pkt.zpk)
    have AL := hidden (Pkt.alive (w6.alloc (.cells (Pkt.pkc Pkt.zpk) 26)) (HT.out.later HB6.out HT.out.pos))
    clear hok hD hz b6 DE
    rw [show Pkt.pkv Pkt.zpk = .agg #[.int .u16 0, .int .u16 0, .int .u32 0, .slice none 0 0] from rfl]
    rw [show Pkt.pkc Pkt.zpk = #[.int .u16 0, .int .u16 0, .int .u32 0, .slice none 0 0] from rfl] at HB6 HP6 AL
    go_wp2_with fail
    refine Calls.mono AL.out ?_
    rintro e w7 ⟨rfl, b7⟩
    have HB7 := hidden (HB6.out.trans (b7.mono HB6.out.size))
    clear b7
    go_wp2
    go_ret
    exact ⟨rfl, HB7.out⟩
  · obtain rfl := hbad he
    have hne := Chu.bne_t he
    clear he hbad hgood
    go_wp2_with fail
    refine Calls.mono (Pkt.alive w3 (HT.out.later HB3.out HT.out.pos)) ?_
    rintro e w6 ⟨rfl, b6⟩
    have HB6 := hidden (HB3.out.trans (b6.mono HB3.out.size))
    clear b6
    go_wp2
    go_ret
    exact ⟨rfl, HB6.out⟩

set_option maxRecDepth 100000 in
theorem contract (H : Type) (enc : TypeId × Value → H) (W : World) (base : Nat) (args : Array Value) (ds gs : List (DataW H)) (before : List MemPlace)
    (hval : ∀ (j : Nat) t v, Tryd.f3.params[j]? = some t → args[j]? = some v → Value.okWide Tryd.prog W .any base t v)
    (hW : DataW.Whole enc Tryd.prog Tryd.f3.params.toList Rows.packetOneBitSpec.vars false W args.toList ds gs before)
    (hsz0 : (DataW.weightsEach Tryd.prog (Tryd.f3.params.toList ++ Rows.packetOneBitSpec.plain.varTypes Tryd.prog) (ds ++ gs)).all (· ≤ reachBytes) = true)
    (hL : laidMetH Tryd.prog Rows.packetOneBitRow.laid W) :
    Calls Tryd.prog 3 args W fun e W' => ∃ v, e = .returned v ∧ Rows.packetOneBitSpec.post enc Tryd.prog Tryd.f3 false true false false W args v W' := by
  have hW' := hW
  obtain ⟨p, q, hA0, hV, rfl, hfz, hnd⟩ := hW
  have hA : DataW.TrodAll enc Tryd.prog W 0 (fun _ => true) true Tryd.f3.params.toList args.toList ds p := hA0
  have hsz := hsz0
  rw [Tryd.params3] at hA hval hsz
  obtain ⟨v0, vs0, d0, ds0, p0, q0, hargs, rfl, rfl, h0, r0⟩ := trodAll_cons hA
  obtain ⟨v1, vs1, d1, ds1, p1, q1, rfl, rfl, rfl, h1, r1⟩ := trodAll_cons r0
  obtain ⟨rfl, rfl, rfl⟩ := trodAll_nil r1
  obtain rfl : args = #[v0, v1] := by cases args; simp_all
  obtain ⟨rfl, rfl⟩ := trodVars_none hV
  have k0 := h0
  have lt0 : ∀ x ∈ p0, x.block < W.heap.size := by obtain ⟨m, hm⟩ := k0; exact DataW.trod_lt m _ _ _ hm
  have sz0 : (d0.weights Tryd.prog 26).all (· ≤ reachBytes) = true := List.all_eq_true.2 fun m hm => List.all_eq_true.1 hsz m (DataW.weights_mem_each (j := 0) rfl rfl m hm)
  obtain ⟨a0, rfl, w0, s0⟩ : ∃ c, v0 = Pkt.pkv c ∧ Pkt.PkOk 0 W c ∧ ∀ x ∈ c.l, x.bl ≤ 140737488351232 := by
    obtain ⟨fuel, hf⟩ := h0
    exact Pkt.packet_arg (hval 0 26 v0 rfl rfl) hf sz0
  obtain ⟨a1, rfl, rfl, rfl, w1⟩ := open_int Tryd.underlying23 (hval 1 23 v1 rfl rfl) h1
  clear hA0 hsz0 hsz
  refine (walk a0 a1 W w0 s0 w1 (table hL)).mono fun e W' ⟨he, bel⟩ => ?_
  subst he
  exact ⟨_, rfl, _, _, _, [], _, [], hW', trodAll_mk1 (shut_bool Tryd.underlying4 _), (trodAll_cons_mk (Below.trod laidOut (by kernel_rfl) (of_decide_eq_true (by kernel_rfl)) k0 bel lt0) (trodAll_cons_mk (shut_int Tryd.underlying23 w1) trodAll_mk0)), rfl, bel.frame _, fun h => by cases h⟩

noncomputable def laidWorld (os : Os) : World :=
  { World.holding Tryd.prog os ⟨#[], #[], []⟩ with heap := (World.holding Tryd.prog os ⟨#[], #[], []⟩).heap.modify 0 fun
      | .cells _ t frozen => .cells #[.int .u32 0, .int .u32 274646895, .int .u32 549293790, .int .u32 820201905, .int .u32 1098587580, .int .u32 1361435347, .int .u32 1640403810, .int .u32 1905808397, .int .u32 2197175160, .int .u32 2460548119, .int .u32 2722870694, .int .u32 2987750089, .int .u32 3280807620, .int .u32 3553878443, .int .u32 3811616794, .int .u32 4084100981] t frozen
      | o => o }
set_option maxRecDepth 100000 in
theorem laid_met (os : Os) : laidMet Tryd.prog Rows.packetOneBitRow.laid ((laidWorld os).forCall (fun _ _ => 0) ⟨#[], #[.agg #[.int .u16 0, .int .u16 0, .int .u32 0, .slice none 0 0], .int .u32 0], []⟩).memory :=
  laidMet_of_run' 8 (by kernel_rfl) (by kernel_rfl)
set_option maxRecDepth 100000 in
theorem reads (os : Os) {H : Type} (enc : TypeId × Value → H) : ∃ places, DataW.whole enc Tryd.prog ((laidWorld os).forCall (fun _ _ => 0) ⟨#[], #[.agg #[.int .u16 0, .int .u16 0, .int .u32 0, .slice none 0 0], .int .u32 0], []⟩).memory Tryd.f3.params.toList Rows.packetOneBitSpec.vars false #[Value.agg #[.int .u16 0, .int .u16 0, .int .u32 0, .slice none 0 0], Value.int .u32 0].toList 8 = some ([.agg [.lit (.int .u16 0), .lit (.int .u16 0), .lit (.int .u32 0), .nil], .lit (.int .u32 0)], [], places) :=
  ⟨[], by kernel_rfl⟩

set_option maxRecDepth 100000 in
theorem lifted (os : Os) (started : os.Started) (H : Type) (enc : TypeId × Value → H) (F : Stop.Interp) :
    ReturnsInHanded {} Tryd.checked os 3 .any ((OpenSpec.ofChange Rows.packetOneBitSpec).preRow enc Tryd.prog Tryd.f3 Rows.packetOneBitRow.domain false Rows.packetOneBitRow.laid) (((OpenSpec.ofChange Rows.packetOneBitSpec).at F).post enc Tryd.prog Tryd.f3 false true false false) := by
  obtain ⟨places, hx⟩ := reads os enc
  refine returnsInHanded_of_row (C := Tryd.checked) (s := OpenSpec.ofChange Rows.packetOneBitSpec) own started (by kernel_rfl) Tryd.func3
    (witness_row_at (enc := enc) (C := Tryd.checked) false (laidWorld os) #[.agg #[.int .u16 0, .int .u16 0, .int .u32 0, .slice none 0 0], .int .u32 0] rfl (by kernel_rfl) (by kernel_rfl) (by kernel_rfl)
      (OpenSpec.preRow_of_cond 8 hx (by kernel_rfl) (fun k hk => by cases hk) (by kernel_rfl) (laid_met os))) ?_
  intro W base args ds gs before hval hW _ hcond hsz hL _ _
  exact contract H enc W base args ds gs before hval hW hsz hL

theorem said : Rows.PacketOneBitSaid :=
  OpenClaim.holds_of_cond 3 Tryd.f3 rfl rfl rfl rfl rfl rfl rfl ⟨rfl, rfl, rfl, rfl, rfl⟩ rfl rfl rfl rfl rfl (by kernel_rfl) Tryd.func3 (by kernel_rfl)
    (of_decide_eq_true (by kernel_rfl)) (by unfold Func.isWrapper; first | (rw [if_pos (by decide +kernel)]; kernel_rfl) | (rw [if_neg (by decide +kernel)]; exact ⟨rfl, rfl⟩))
    (fun os started H enc _ F => by rw [OpenClaim.pre_eq_preRow]; exact lifted os started H enc F)

theorem plain (f : FuncId) (fn : Func) (hf : Tryd.pinned.checked.prog.funcNamed "ropewalk/ropewalklaw07.PacketOneBit" = some f) (hfn : Tryd.pinned.checked.prog.funcs[f]? = some fn) :
    true = Tryd.pinned.checked.prog.looks [] ∧ ∀ (j : Nat) t, fn.params[j]? = some t → Tryd.pinned.checked.prog.wantsStandIn t = false := by
  obtain rfl : f = 3 := Option.some.inj ((show Tryd.prog.funcNamed "ropewalk/ropewalklaw07.PacketOneBit" = some 3 by kernel_rfl).symm.trans hf) |>.symm
  obtain rfl : fn = Tryd.f3 := (Option.some.inj (Tryd.func3.symm.trans hfn)).symm
  refine ⟨by kernel_rfl, fun j t ht => ?_⟩
  rw [Tryd.params3] at ht
  have hm : t ∈ [26, 23] := by simpa using Array.mem_of_getElem? ht
  have hall : ∀ t ∈ [26, 23], Tryd.prog.wantsStandIn t = false := by
    intro t ht
    simp only [List.mem_cons, List.not_mem_nil, or_false] at ht
    rcases ht with rfl | rfl <;> kernel_rfl
  exact hall t hm

/-- THE CARD -/
theorem proved : Rows.PacketOneBitCardSaid :=
  Claim7.holds_tied_plain_at .later [] _ _ _ _ said (fun _ h => by cases h) (by kernel_rfl) (fun _ h => by cases h) packetOneBit_row_tie rfl ⟨rfl, rfl⟩ (by kernel_rfl) rfl plain (by kernel_rfl)
#print axioms proved
end Go.Proofs.YtmnndkhdekpecaaDoor.packetOneBit
