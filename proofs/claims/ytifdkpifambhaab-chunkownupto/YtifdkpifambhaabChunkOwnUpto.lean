/-
  What ChunkOwn says of every row of bytes (of bulk at most 1048576) is true: All and Encode of package chunk change nothing that they are handed, and a later change of that, or of what they told, changes nothing that they told. Conditions: as the statement's second form has it (the first is false by size alone).
-/
import Derived.Test.YtifdkpifambhaabRows
import Derived.WalkKit
import Derived.ProofKit
import Derived.OpenShut
import Derived.ShutString
import Derived.ChangeOld
import Derived.Below
import Derived.SizedLaws
import Derived.Deep.DeepHandedRow
import Derived.LaidLaws
import Derived.ChangeMaps5
import Derived.Test.YtifdkpifambhaabChRh
import Derived.Test.YtifdkpifambhaabParArgs
namespace Go.Proofs.Ytifdkpifambhaab.chunkOwn
open Go.ChangeShapes Go.WideShapes Go.ChangeAt Go.RowKit
open Go.ChangeMaps (open_string shut_string)
set_option linter.unusedVariables false

theorem own : ownKnob Try.prog.godebug = none := by kernel_rfl
theorem laidOut : laidOutB Try.prog = true := by kernel_rfl

open Par (hidden)
/-- a row of the call's own, whatever it holds -/
def Mine (w : World) (base g cap n : Nat) : Prop := ∃ xs, w.ownsRow base 5 1 (.slice (some ⟨g, 0, none⟩) n cap) n xs
theorem Mine.cell {w : World} {base g cap n : Nat} (h : Mine w base g cap n) (j : Nat) (hj : j < n) : ∃ v, w.cell? ⟨g, j, none⟩ = some v := by
  obtain ⟨xs, h⟩ := h
  have hl := h.1
  rw [Nat.mul_one] at hl
  exact ⟨_, (h.cellAt j (by omega)).trans (List.getElem?_eq_getElem (by omega))⟩
theorem Mine.frozen {w : World} {base g cap n : Nat} (h : Mine w base g cap n) (j : Nat) : w.frozen? ⟨g, j, none⟩ = false := by
  obtain ⟨xs, h⟩ := h
  exact h.frozenAt j
theorem Mine.set {w : World} {base g cap n : Nat} (h : Mine w base g cap n) (j : Nat) (u : Value) : Mine (w.setCell ⟨g, j, none⟩ u) base g cap n := by
  obtain ⟨xs, h⟩ := h
  exact ⟨_, (h.stored j u).1⟩
theorem Mine.later {w w' : World} {base g cap n : Nat} (h : Mine w base g cap n) (hb : Below w.heap.size w w') : Mine w' base g cap n := by
  obtain ⟨xs, h⟩ := h
  exact ⟨xs, h.kept (row := none) ⟨hb.os, hb.tape, hb.output, hb.size, fun k hk _ => hb.block k hk⟩ (Classical.em (Value.ownBlock (.slice (some ⟨g, 0, none⟩) n cap) = none))⟩
theorem own_some {w : World} {base n : Nat} {v : Value} {xs : List Value} (h : w.ownsRow base 5 1 v n xs) (hv : ¬ v = .slice none 0 0) : ∃ g cap, v = .slice (some ⟨g, 0, none⟩) n cap ∧ base ≤ g ∧ g < w.heap.size := by
  rcases h.2 with ⟨rfl, _⟩ | ⟨g, cap, cur, rfl, hb, hh, _⟩
  · exact absurd rfl hv
  · exact ⟨g, cap, rfl, hb, (Array.getElem?_eq_some_iff.1 hh).1⟩
theorem encR_ok {vs : List Chu.Ch} (h : Chu.EncR vs 0) : (∀ u ∈ vs, Chu.chk u = 0) ∧ Chu.tot vs ≤ 65536 := by
  rcases h with ⟨k, v, _, _, hne, he⟩ | ⟨_, _, he⟩ | ⟨h1, h2, _⟩
  · exact absurd he.symm hne
  · cases he
  · exact ⟨h1, h2⟩
set_option maxRecDepth 20000 in
set_option maxHeartbeats 2000000 in

theorem walk (a0 : Option Addr) (len0 cap0 : Nat) (z0 : List Int) (w : World) (w0 : Par.Row 0 w a0 len0 z0) (s0 : len0 ≤ cap0 ∧ cap0 ≤ 140737488351232 ∧ (a0 = none → len0 = 0 ∧ cap0 = 0)) (m0 : len0 ≤ 1048576) :
    Calls Try.prog 3 #[.slice a0 len0 cap0] w fun e w' => e = .returned (.bool true) ∧ Below w.heap.size w w' := by
  obtain ⟨i0, hi, hz0, hz1, hz2⟩ := info_parts Par.info5
  have hl0 := w0.1
  have hlim := w0.2.2.1
  have HZ := hidden w0.2.1
  have HW := hidden w0
  have S0 := hidden s0
  have hE := Par.own_empty w w.heap.size (Nat.le_refl _)
  have hEB : Below w.heap.size w (w.alloc (.cells #[] 5)) := (Below.refl _ w).alloc (Nat.le_refl _) _
  have HE := hidden hE
  have HEB := hidden hEB
  clear w0 hE hEB
  go_enter Try.func3, Try.ntmps3
  go_upto_region 1 with fail
  go_cut [0, 3] from 14 (fun s0 s3 wx => s0 = .slice a0 len0 cap0 ∧ ∃ g vc, s3 = .slice (some ⟨g, 0, none⟩) len0 vc ∧ w.heap.size ≤ g ∧ g < wx.heap.size ∧ wx.ownsRow w.heap.size 5 1 (.slice (some ⟨g, 0, none⟩) len0 vc) len0 (Par.cs z0) ∧ Below w.heap.size w wx)
  case first =>
    rcases a0 with _ | ad
    · obtain ⟨h0, h1⟩ := s0.2.2 rfl
      subst h0; subst h1
      obtain rfl := List.eq_nil_of_length_eq_zero hl0
      go_wp2_with (at_builtin; refine wpList_append_own_none rfl _ _ 22 rfl w.heap.size 5 i0 1 Try.underlying22 hi _ _ _ rfl HE.out rfl ?_)
      go_wp2_with fail
      go_meet
      exact ⟨rfl, w.heap.size, 0, rfl, Nat.le_refl _, by simp, HE.out, HEB.out⟩
    · have HN := hidden ((HW.out.later HEB.out).news)
      go_wp2_with (at_builtin; refine wpList_append_own _ rfl _ _ 22 rfl w.heap.size 5 i0 (.int .u8 0) 1 1 Try.underlying22 hi hz0 hz1 hz2 rfl (by decide) _ _ _ rfl HE.out ad len0 cap0 (Par.cs z0) rfl ?c0 HN.out (Par.cs_one _) ?c3 ?c4 (by simp) ?_)
      case c0 => rw [Par.cs_len, hl0, Nat.mul_one]
      case c3 => unfold maxLen; omega
      case c4 => omega
      intro v' w2 ho2 hg2 hv2
      have ho3 : w2.ownsRow w.heap.size 5 1 v' len0 (Par.cs z0) := by simpa using ho2
      obtain ⟨g, vc, rfl, hg, hglt⟩ := own_some ho3 hv2
      have B2 : Below w.heap.size w w2 := HEB.out.grown hg2 (by simp) (fun j hj => (HE.out.lt j hj).1)
      have HO := hidden ho3
      clear ho2 hg2 hv2 ho3
      go_wp2_with fail
      go_meet
      exact ⟨rfl, g, vc, rfl, hg, hglt, HO.out, B2⟩
  case rest =>
  obtain ⟨rfl, g, vc, rfl, hg, hglt, ho, bc⟩ := hcut
  obtain ⟨a', vc', e, hrow, hlc, _, _⟩ := Par.row_own ho HZ.out hlim
  cases e
  have D := hidden (Chu.all 0 wc (some ⟨g, 0, none⟩) len0 vc z0 (hrow.mono (Nat.zero_le _)) hlc m0)
  have HM := hidden (show Mine wc w.heap.size g vc len0 from ⟨_, ho⟩)
  have HCL := hidden (show ∀ j, j < len0 → wc.cell? ⟨g, j, none⟩ = some (.int .u8 (z0.getD j 0)) from fun j hj => by
    obtain ⟨b', off', e, hc⟩ := Chu.row_cell hrow (Below.refl _ _) hj
    obtain ⟨rfl, rfl⟩ : b' = g ∧ off' = 0 := by cases e; exact ⟨rfl, rfl⟩
    rw [Nat.zero_add] at hc
    exact hc)
  have HBC := hidden bc
  clear ho hrow bc HE HEB
  go_wp2_with fail
  refine Calls.mono D.out ?_
  rintro e w1 ⟨pa, n, pcap, l, p, er, rfl, hck, hO, b1⟩
  have HB1 := hidden (HBC.out.trans (b1.mono HBC.out.size))
  have HCK := hidden hck
  have HO := hidden hO
  have HM1 := hidden (HM.out.later b1)
  have HCL1 := hidden (show ∀ j, j < len0 → w1.cell? ⟨g, j, none⟩ = some (.int .u8 (z0.getD j 0)) from fun j hj => (b1.cell (by exact hglt)).trans (HCL.out j hj))
  have hs1 := b1.size
  clear D b1 hck hO HM HCL
  go_wp2_with fail
  go_loopw [25] (fun i wr => ∃ k : Nat, k ≤ len0 ∧ i = .int .i64 k ∧ Mine wr w.heap.size g vc len0 ∧ (∀ j, k ≤ j → j < len0 → wr.cell? ⟨g, j, none⟩ = some (.int .u8 (z0.getD j 0))) ∧ Chu.Cks wc.heap.size wr pa n l ∧ Below w.heap.size w wr) (fun i _ => len0 - (intOf i).toNat)
  case atStart => exact ⟨0, Nat.zero_le _, rfl, HM1.out, fun j _ hj => HCL1.out j hj, HCK.out, HB1.out⟩
  case round =>
    obtain ⟨k, hk, rfl, hM, hcl, hCk, hb⟩ := hrel
    rcases Nat.lt_or_ge k len0 with hlt | hge
    · have c0 := hcl k (Nat.le_refl _) hlt
      have f0 := hM.frozen k
      obtain ⟨b, off, ea, c1⟩ := Chu.row_cell HW.out hb hlt
      subst ea
      have HMM := hidden hM
      have HCC := hidden hCk
      have HDB := hidden hb
      have HCLL := hidden hcl
      generalize z0.getD k 0 = z at c0 c1
      clear hM hCk hb hcl
      go_wp2
      go_quiet (fail)
      have hMq : Mine (wr.drewN nq) w.heap.size g vc len0 := HMM.out
      have hCq : Chu.Cks wc.heap.size (wr.drewN nq) pa n l := HCC.out
      have hBq : Below w.heap.size w (wr.drewN nq) := Par.below_drewN HDB.out nq
      have hclq : ∀ j, k ≤ j → j < len0 → (wr.drewN nq).cell? ⟨g, j, none⟩ = some (.int .u8 (z0.getD j 0)) := HCLL.out
      have HM3 := hidden (fun u : Value => hMq.set k u)
      have HC3 := hidden (fun u : Value => hCq.set (x := ⟨g, k, none⟩) (by show g < wc.heap.size; exact hglt) u)
      have HB3 := hidden (fun u : Value => hBq.setCell (p := ⟨g, k, none⟩) hg u)
      have HCL3 := hidden (show ∀ (u : Value) j, k + 1 ≤ j → j < len0 → ((wr.drewN nq).setCell ⟨g, k, none⟩ u).cell? ⟨g, j, none⟩ = some (.int .u8 (z0.getD j 0)) from fun u j hj hjl => (World.cell?_setCell_other _ _ _ _ (fun e => by cases e; omega)).trans (hclq j (by omega) hjl))
      clear hMq hCq hBq hclq HMM HCC HDB HCLL
      go_wp2
      go_roundw
      case rel => exact ⟨k + 1, by omega, by go_num, HM3.out _, HCL3.out _, HC3.out _, HB3.out _⟩
      case measure => simp [intOf]; omega
    · obtain rfl : len0 = k := by omega
      have RE := hidden (Chu.rAll 0 wr a0 len0 cap0 z0 (HW.out.later hb) S0.out.1 m0)
      have HCk := hidden hCk
      have HBw := hidden hb
      clear hM hcl hCk hb HM1 HCL1 HCK HB1 HBC
      go_wp2_with fail
      refine Calls.mono RE.out ?_
      rintro e w2 ⟨qa, n2, qcap, l2, p2, er2, rfl, hck2, hO2, b2⟩
      obtain ⟨hl, rfl, rfl⟩ := HO.out.one hO2
      have HB2 := hidden (HBw.out.trans (b2.mono HBw.out.size))
      have HC1 := hidden (HCk.out.later b2)
      have HC2 := hidden hck2
      have HL := hidden hl
      clear hO2 hck2 b2 RE hl HCk HBw HO
      have SA := hidden (Chu.rAllSame _ _ w2 pa qa n n2 pcap qcap l l2 HC1.out HC2.out)
      go_wp2_with fail
      refine Calls.mono SA.out ?_
      rintro e w3 ⟨t, rfl, ht, b3⟩
      obtain rfl : t = true := ht.2 HL.out
      have HB3 := hidden (HB2.out.trans (b3.mono HB2.out.size))
      have HC3 := hidden (HC1.out.later b3)
      have HC4 := hidden (HC2.out.later b3)
      clear b3 ht SA HB2 HC1 HC2
      go_wp2_with fail
      refine Calls.mono (Chu.awake w3) ?_
      rintro e w4 ⟨rfl, b4⟩
      have HB4 := hidden (HB3.out.trans (b4.mono HB3.out.size))
      have HC5 := hidden (HC3.out.later b4)
      have HC6 := hidden (HC4.out.later b4)
      clear b4 HB3 HC3 HC4
      have EN := hidden (Chu.encode _ w4 pa n pcap l HC5.out)
      go_wp2_with fail
      refine Calls.mono EN.out ?_
      rintro e w5 ⟨v, c, rfl, hE, hnil, hok, b5⟩
      obtain ⟨va, T, vc2, rfl, hT, hrow⟩ : ∃ va T vc2, v = .slice va T vc2 ∧ T ≤ 65536 ∧ (T = 0 ∨ ∃ g2, va = some ⟨g2, 0, none⟩ ∧ w4.heap.size ≤ g2 ∧ Mine w5 w4.heap.size g2 vc2 T) := by
        by_cases hc : c = 0
        · subst hc
          obtain ⟨g2, cp2, rfl, hcap⟩ := hok rfl
          obtain ⟨hall, htot⟩ := encR_ok hE
          have hlen := Chu.encA_len hall
          have hown := hcap.own
          rw [hlen] at hown
          have hg2 : w4.heap.size ≤ g2 := by obtain ⟨_, _, h, _⟩ := hcap; exact h
          exact ⟨_, _, _, rfl, htot, .inr ⟨g2, rfl, hg2, _, hown⟩⟩
        · exact ⟨none, 0, 0, hnil hc, by decide, .inl rfl⟩
      have HB5 := hidden b5
      have HRW := hidden hrow
      clear hE hnil hok b5 hrow EN
      go_wp2_with fail
      go_loopw [72] (fun i wr => ∃ k : Nat, k ≤ T ∧ i = .int .i64 k ∧ (T = 0 ∨ ∃ g2, va = some ⟨g2, 0, none⟩ ∧ w4.heap.size ≤ g2 ∧ Mine wr w4.heap.size g2 vc2 T) ∧ Below w4.heap.size w4 wr) (fun i _ => T - (intOf i).toNat)
      case atStart => exact ⟨0, Nat.zero_le _, rfl, HRW.out, HB5.out⟩
      case round =>
        obtain ⟨k, hk, rfl, hrw, hb⟩ := hrel
        rcases Nat.lt_or_ge k T with hlt | hge
        · obtain ⟨g2, rfl, hg2, hM⟩ := hrw.resolve_left (by omega)
          obtain ⟨u, c0⟩ := hM.cell k hlt
          have f0 := hM.frozen k
          have HM3 := hidden (hM.set k (.int .u8 0))
          have HB6 := hidden (hb.setCell (p := ⟨g2, k, none⟩) hg2 (.int .u8 0))
          clear hM hb hrw
          go_wp2
          go_roundw
          case rel => exact ⟨k + 1, by omega, by go_num, .inr ⟨g2, rfl, hg2, HM3.out⟩, HB6.out⟩
          case measure => simp [intOf]; omega
        · obtain rfl : T = k := by omega
          have SA2 := hidden (Chu.rAllSame _ _ wr pa qa n n2 pcap qcap l l2 (HC5.out.later hb) (HC6.out.later hb))
          have HB7 := hidden (HB4.out.trans (hb.mono HB4.out.size))
          clear hb hrw
          go_wp2_with fail
          refine Calls.mono SA2.out ?_
          rintro e w6 ⟨t, rfl, ht, b6⟩
          obtain rfl : t = true := ht.2 HL.out
          have HB8 := hidden (HB7.out.trans (b6.mono HB7.out.size))
          clear ht b6
          go_wp2
          go_ret
          exact ⟨rfl, HB8.out⟩

set_option maxRecDepth 100000 in
theorem contract (H : Type) (enc : TypeId × Value → H) (W : World) (base : Nat) (args : Array Value) (ds gs : List (DataW H)) (before : List MemPlace)
    (hval : ∀ (j : Nat) t v, Try.f3.params[j]? = some t → args[j]? = some v → Value.okWide Try.prog W .any base t v)
    (hW : DataW.Whole enc Try.prog Try.f3.params.toList Rows.chunkOwnSpec.vars false W args.toList ds gs before)
    (hsz0 : (DataW.weightsEach Try.prog (Try.f3.params.toList ++ Rows.chunkOwnSpec.plain.varTypes Try.prog) (ds ++ gs)).all (· ≤ reachBytes) = true) (hk : Rows.uptoSmall H (ds ++ gs) = true) :
    Calls Try.prog 3 args W fun e W' => ∃ v, e = .returned v ∧ Rows.chunkOwnSpec.post enc Try.prog Try.f3 false true false false W args v W' := by
  have hW' := hW
  obtain ⟨p, q, hA0, hV, rfl, hfz, hnd⟩ := hW
  have hA : DataW.TrodAll enc Try.prog W 0 (fun _ => true) true Try.f3.params.toList args.toList ds p := hA0
  have hsz := hsz0
  rw [Try.params3] at hA hval hsz
  obtain ⟨v0, vs0, d0, ds0, p0, q0, hargs, rfl, rfl, h0, r0⟩ := trodAll_cons hA
  obtain ⟨rfl, rfl, rfl⟩ := trodAll_nil r0
  obtain rfl : args = #[v0] := by cases args; simp_all
  obtain ⟨rfl, rfl⟩ := trodVars_none hV
  obtain ⟨a0, len0, cap0, rfl⟩ := okWide_slice Try.underlying22 (hval 0 22 v0 rfl rfl)
  have k0 := h0
  have lt0 : ∀ x ∈ p0, x.block < W.heap.size := by obtain ⟨m, hm⟩ := k0; exact DataW.trod_lt m _ _ _ hm
  have sz0 : (d0.weights Try.prog 22).all (· ≤ reachBytes) = true := List.all_eq_true.2 fun m hm => List.all_eq_true.1 hsz m (DataW.weights_mem_each (j := 0) rfl rfl m hm)
  obtain ⟨z0, w0, s0⟩ : ∃ zs, Par.Row 0 W a0 len0 zs ∧ len0 ≤ cap0 ∧ cap0 ≤ 140737488351232 ∧ (a0 = none → len0 = 0 ∧ cap0 = 0) := by
    obtain ⟨fuel, hf⟩ := h0
    exact Par.row_arg hf sz0
  have m0 : len0 ≤ 1048576 := by
    have hbulk0 := of_decide_eq_true hk
    obtain ⟨fuel, hf⟩ := k0
    refine Chu.row_small hf ?_
    simp only [List.append_nil, Rows.uptoBulkAll, Nat.add_zero] at hbulk0
    omega
  clear hA0 hsz0 hsz
  refine (walk a0 len0 cap0 z0 W w0 s0 m0).mono fun e W' ⟨he, bel⟩ => ?_
  subst he
  exact ⟨_, rfl, _, _, _, [], _, [], hW', trodAll_mk1 (shut_bool Try.underlying4 _), (trodAll_cons_mk (Below.trod laidOut (by kernel_rfl) (of_decide_eq_true (by kernel_rfl)) k0 bel lt0) trodAll_mk0), rfl, bel.frame _, fun h => by cases h⟩

noncomputable def laidWorld (os : Os) : World :=
  World.holding Try.prog os ⟨#[], #[], []⟩
set_option maxRecDepth 100000 in
theorem laid_met (os : Os) : laidMet Try.prog Rows.chunkOwnUptoRow.laid ((laidWorld os).forCall (fun _ _ => 0) ⟨#[], #[.slice none 0 0], []⟩).memory :=
  laidMet_of_run' 8 (by kernel_rfl) (by kernel_rfl)
set_option maxRecDepth 100000 in
theorem reads (os : Os) {H : Type} (enc : TypeId × Value → H) : ∃ places, DataW.whole enc Try.prog ((laidWorld os).forCall (fun _ _ => 0) ⟨#[], #[.slice none 0 0], []⟩).memory Try.f3.params.toList Rows.chunkOwnSpec.vars false #[Value.slice none 0 0].toList 8 = some ([.nil], [], places) :=
  ⟨[], by kernel_rfl⟩

set_option maxRecDepth 100000 in
theorem lifted (os : Os) (started : os.Started) (H : Type) (enc : TypeId × Value → H) (F : Stop.Interp) :
    ReturnsInHanded {} Try.checked os 3 .any ((Rows.OpenSpec.upto Rows.chunkOwnSpec).preRow enc Try.prog Try.f3 Rows.chunkOwnUptoRow.domain false Rows.chunkOwnUptoRow.laid) (((Rows.OpenSpec.upto Rows.chunkOwnSpec).at F).post enc Try.prog Try.f3 false true false false) := by
  obtain ⟨places, hx⟩ := reads os enc
  refine returnsInHanded_of_row (C := Try.checked) (s := Rows.OpenSpec.upto Rows.chunkOwnSpec) own started (by kernel_rfl) Try.func3
    (witness_row_at (enc := enc) (C := Try.checked) false (laidWorld os) #[.slice none 0 0] rfl (by kernel_rfl) (by kernel_rfl) (by kernel_rfl)
      (OpenSpec.preRow_of_cond 8 hx (by kernel_rfl) (fun k hk => by cases hk; kernel_rfl) (by kernel_rfl) (laid_met os))) ?_
  intro W base args ds gs before hval hW _ hcond hsz hL _ _
  exact contract H enc W base args ds gs before hval hW hsz (hcond _ rfl)

theorem said : Rows.ChunkOwnUptoSaid :=
  OpenClaim.holds_of_cond 3 Try.f3 rfl rfl rfl rfl rfl rfl rfl ⟨rfl, rfl, rfl, rfl, rfl⟩ rfl rfl rfl rfl rfl (by kernel_rfl) Try.func3 (by kernel_rfl)
    (of_decide_eq_true (by kernel_rfl)) (by unfold Func.isWrapper; first | (rw [if_pos (by decide +kernel)]; kernel_rfl) | (rw [if_neg (by decide +kernel)]; exact ⟨rfl, rfl⟩))
    (fun os started H enc _ F => by rw [OpenClaim.pre_eq_preRow]; exact lifted os started H enc F)

/-- THE STATEMENT -/
theorem proved : Rows.ChunkOwnUptoSaid := said
#print axioms proved
end Go.Proofs.Ytifdkpifambhaab.chunkOwn
