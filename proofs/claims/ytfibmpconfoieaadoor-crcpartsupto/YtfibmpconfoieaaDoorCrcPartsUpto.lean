/-
  For every list of parts of at most 1048576 values and bytes together (the second form) the law CrcParts returns true: in whatever parts bytes stand, crc.Sum and crc.Extend are the sum and the remainder of the row they make (P2.3). Conditions: the second form's bound; the table nibbleSteps starts as the program's text lays it (the card ties it).
-/
import Derived.Test.YtfibmpconfoieaaDoorCards
import Derived.Test.YtfibmpconfoieaaDoorTie
import Derived.WalkKit
import Derived.ProofKit
import Derived.OpenShut
import Derived.ShutString
import Derived.ChangeOld
import Derived.Below
import Derived.SizedLaws
import Derived.Deep.DeepHandedRow
import Derived.Lib.LaidTab
import Derived.Test.YtfibmpconfoieaaDoorParts
namespace Go.Proofs.YtfibmpconfoieaaDoor.crcParts
open Go.ChangeShapes Go.WideShapes Go.ChangeAt Go.RowKit
set_option linter.unusedVariables false

theorem own : ownKnob Tryd.prog.godebug = none := by kernel_rfl
theorem laidOut : laidOutB Tryd.prog = true := by kernel_rfl
theorem gTab : Tryd.prog.globalNamed "ropewalk/crc.nibbleSteps" = some 0 := by kernel_rfl
theorem gTabType : (Tryd.prog.globals[0]?).map (·.type) = some 45 := by kernel_rfl
theorem table {W : World} (h : laidMetH Tryd.prog Rows.crcPartsUptoRow.laid W) : Crc.Tab W := fun i hi =>
  (show Lib.TabIs Tryd.prog W "ropewalk/crc.nibbleSteps" .u32 Crc.tab from
    Lib.tabIs_of_head (rest := []) gTab gTabType Tryd.underlying45 Tryd.underlying23 (by kernel_rfl) (by kernel_rfl) h).cell gTab i hi

theorem walk (a0 : Option Addr) (n0 cap0 : Nat) (ps0 : List (Option Addr × Nat × Nat × List Int)) (w : World) (w0 : Crc.Parts w a0 n0 ps0) (q0 : ∀ p ∈ ps0, p.1 = none → p.2.1 = 0 ∧ p.2.2.1 = 0) (s0 : (Crc.all ps0).length ≤ 1048576) (ht : Crc.Tab w) :
    Calls Tryd.prog 4 #[.slice a0 n0 cap0] w fun e w' => e = .returned (.bool true) ∧ Below w.heap.size w w' := by
  have hsize : ∀ wr, Below w.heap.size w wr → w.heap.size ≤ wr.heap.size := fun _ h => h.size
  obtain ⟨i0, hi, hz0, hz1, hz2⟩ := info_parts Crc.info5
  go_enter Tryd.func4, Tryd.ntmps4
  go_wp2
  go_loopw [3, 4] (fun v i wr => ∃ k : Nat, k ≤ n0 ∧ i = .int .i64 k ∧ wr.ownsRow w.heap.size 5 1 v (Crc.all (ps0.take k)).length ((Crc.all (ps0.take k)).map (Value.int .u8)) ∧ Below w.heap.size w wr)
    (fun _ i _ => n0 - (intOf i).toNat)
  case atStart => exact ⟨0, Nat.zero_le _, rfl, World.ownsRow_nil _ _ _ _, Below.refl _ _⟩
  case round =>
    obtain ⟨k, hk, rfl, hown, hbel⟩ := hrel
    have hlim := w0.2.1
    rcases Nat.lt_or_ge k n0 with hlt | hge
    · obtain ⟨hpl, _, hrow, hor⟩ := w0
      rcases hor with h00 | ⟨b, off, rfl, hc⟩
      · omega
      obtain ⟨⟨a, len, cap, zs⟩, hp⟩ : ∃ p, ps0[k]? = some p := ⟨_, List.getElem?_eq_getElem (by omega)⟩
      have hcw := hc k _ hp
      have hcell := (hbel.cell (Crc.cell_lt hcw)).trans hcw
      have hr := (hrow _ (List.mem_of_getElem? hp)).later hbel
      have hsn := Crc.all_snoc ps0 k _ hp
      have hle := Crc.all_len ps0 (k + 1)
      have hq := q0 _ (List.mem_of_getElem? hp)
      obtain ⟨hzl, hzb, hzlim, hor⟩ := hr
      simp only at hcell hzl hzb hzlim hor hsn hq
      rw [hsn, List.length_append] at hle
      have HN : Hid (Crc.all (ps0.take (k + 1)) = Crc.all (ps0.take k) ++ zs) := hsn
      clear hc hrow hp hcw hsn q0
      generalize hX : Crc.all (ps0.take k) = xs at *
      clear hX
      have hbase := hbel.size
      rcases a with _ | ad
      · obtain ⟨rfl, rfl⟩ := hq rfl
        obtain rfl := List.eq_nil_of_length_eq_zero hzl
        go_wp2_with (first | (at_builtin; refine wpList_append_own_none rfl _ _ 22 rfl w.heap.size 5 i0 1 Tryd.underlying22 hi _ _ _ rfl hown rfl ?_) | go_in)
        go_wp2
        go_roundw
        case rel => exact ⟨k + 1, by omega, by go_num, by rw [HN.out, List.append_nil]; exact hown, hbel⟩
        case measure => simp [intOf]; omega
      · have hnews : ∀ j u, (zs.map (Value.int .u8))[j]? = some u → wr.cell? (ad.add j) = some u := by
          rcases hor with h0 | ⟨b', off', he, hc'⟩
          · intro j u hj
            rw [List.eq_nil_of_length_eq_zero (by omega : zs.length = 0)] at hj
            cases hj
          · cases he
            exact Crc.news hzl hc'
        go_wp2_with (first | (at_builtin; refine wpList_append_own _ rfl _ _ 22 rfl w.heap.size 5 i0 (.int .u8 0) 1 1 Tryd.underlying22 hi hz0 hz1 hz2 rfl (by decide) _ _ _ rfl hown ad len cap (zs.map (Value.int .u8)) rfl ?c0 hnews (Crc.one_cell zs) ?c3 ?c4 hbase ?_) | go_in)
        case c0 => simp; omega
        case c3 => unfold maxLen; omega
        case c4 => omega
        intro v' w1 hown' hgrow _
        have hb1 : Below w.heap.size w w1 := hbel.grown hgrow hbase (fun g hg => by
          rcases hown.2 with ⟨rfl, _⟩ | ⟨g', _, _, rfl, hge, _⟩
          · cases hg
          · cases hg; exact hge)
        have hown2 : w1.ownsRow w.heap.size 5 1 v' (Crc.all (ps0.take (k + 1))).length ((Crc.all (ps0.take (k + 1))).map (Value.int .u8)) := by
          rw [HN.out, List.map_append, List.length_append, hzl]
          exact hown'
        clear hown hown' hgrow hnews hcell hor
        go_wp2
        go_roundw
        case rel => exact ⟨k + 1, by omega, by go_num, hown2, hb1⟩
        case measure => simp [intOf]; omega
    · have hge : k = n0 := by omega
      subst hge
      rw [List.take_of_length_le (by rw [w0.1]; exact Nat.le_refl _)] at hown
      obtain ⟨a, cap, rfl, hrow, _⟩ := Crc.row_own hown (Crc.all_bytes w0.2.2.1) (by omega)
      have hT := ht.later hbel ht.pos
      have hP := w0.later hbel
      clear hown
      go_wp2_with fail
      refine (Crc.crcsum a0 k cap0 ps0 wr hT hP).mono ?_
      rintro e w' ⟨rfl, rfl⟩
      go_wp2_with fail
      refine (Crc.rsum a _ cap _ wr hrow).mono ?_
      rintro e w' ⟨rfl, rfl⟩
      go_wp2_with fail
      refine (Crc.extend 7 (by decide) a0 k cap0 ps0 wr hT hP).mono ?_
      rintro e w' ⟨rfl, rfl⟩
      go_wp2_with fail
      refine (Crc.rextend 7 (by decide) a _ cap _ wr hrow).mono ?_
      rintro e w' ⟨rfl, rfl⟩
      go_wp2_with fail
      refine (Crc.awake wr hT).mono ?_
      rintro e w' ⟨rfl, hb⟩
      go_wp2
      go_ret
      exact ⟨rfl, hbel.trans (hb.mono hbel.size)⟩

theorem contract (H : Type) (enc : TypeId × Value → H) (W : World) (base : Nat) (args : Array Value) (ds gs : List (DataW H)) (before : List MemPlace)
    (hval : ∀ (j : Nat) t v, Tryd.f4.params[j]? = some t → args[j]? = some v → Value.okWide Tryd.prog W .any base t v)
    (hW : DataW.Whole enc Tryd.prog Tryd.f4.params.toList Rows.crcPartsSpec.vars false W args.toList ds gs before)
    (hsz0 : (DataW.weightsEach Tryd.prog (Tryd.f4.params.toList ++ Rows.crcPartsSpec.plain.varTypes Tryd.prog) (ds ++ gs)).all (· ≤ reachBytes) = true)
    (hL : laidMetH Tryd.prog Rows.crcPartsUptoRow.laid W) (hk : Rows.uptoSmall H (ds ++ gs) = true) :
    Calls Tryd.prog 4 args W fun e W' => ∃ v, e = .returned v ∧ Rows.crcPartsSpec.post enc Tryd.prog Tryd.f4 false true false false W args v W' := by
  have hW' := hW
  obtain ⟨p, q, hA0, hV, rfl, hfz, hnd⟩ := hW
  have hA : DataW.TrodAll enc Tryd.prog W 0 (fun _ => true) true Tryd.f4.params.toList args.toList ds p := hA0
  have hsz := hsz0
  rw [Tryd.params4] at hA hval hsz
  obtain ⟨v0, vs0, d0, ds0, p0, q0, hargs, rfl, rfl, h0, r0⟩ := trodAll_cons hA
  obtain ⟨rfl, rfl, rfl⟩ := trodAll_nil r0
  obtain rfl : args = #[v0] := by cases args; simp_all
  obtain ⟨rfl, rfl⟩ := trodVars_none hV
  obtain ⟨a0, n0, cap0, rfl⟩ := okWide_slice Tryd.underlying30 (hval 0 30 v0 rfl rfl)
  have k0 := h0
  have lt0 : ∀ x ∈ p0, x.block < W.heap.size := by obtain ⟨m, hm⟩ := k0; exact DataW.trod_lt m _ _ _ hm
  have hbulk : Rows.uptoBulkAll ([d0] ++ []) ≤ 1048576 := of_decide_eq_true hk
  simp only [List.append_nil, Rows.uptoBulkAll, Nat.add_zero] at hbulk
  obtain ⟨ps0, w0, q0, s0⟩ : ∃ ps, Crc.Parts W a0 n0 ps ∧ (∀ p ∈ ps, p.1 = none → p.2.1 = 0 ∧ p.2.2.1 = 0) ∧ (Crc.all ps).length ≤ 1048576 := by
    obtain ⟨fuel, hf⟩ := h0
    exact Crc.parts_of hf hbulk
  clear hA0 hsz0 hsz
  refine (walk a0 n0 cap0 ps0 W w0 q0 s0 (table hL)).mono fun e W' ⟨he, bel⟩ => ?_
  subst he
  exact ⟨_, rfl, _, _, _, [], _, [], hW', trodAll_mk1 (shut_bool Tryd.underlying4 _), (trodAll_cons_mk (Below.trod laidOut (by kernel_rfl) (of_decide_eq_true (by kernel_rfl)) k0 bel lt0) trodAll_mk0), rfl, bel.frame _, fun h => by cases h⟩

noncomputable def laidWorld (os : Os) : World :=
  { World.holding Tryd.prog os ⟨#[], #[], []⟩ with heap := (World.holding Tryd.prog os ⟨#[], #[], []⟩).heap.modify 0 fun
      | .cells _ t frozen => .cells #[.int .u32 0, .int .u32 274646895, .int .u32 549293790, .int .u32 820201905, .int .u32 1098587580, .int .u32 1361435347, .int .u32 1640403810, .int .u32 1905808397, .int .u32 2197175160, .int .u32 2460548119, .int .u32 2722870694, .int .u32 2987750089, .int .u32 3280807620, .int .u32 3553878443, .int .u32 3811616794, .int .u32 4084100981] t frozen
      | o => o }
theorem laid_met (os : Os) : laidMet Tryd.prog Rows.crcPartsUptoRow.laid ((laidWorld os).forCall (fun _ _ => 0) ⟨#[], #[.slice none 0 0], []⟩).memory :=
  laidMet_of_run' 8 (by kernel_rfl) (by kernel_rfl)
theorem reads (os : Os) {H : Type} (enc : TypeId × Value → H) : ∃ places, DataW.whole enc Tryd.prog ((laidWorld os).forCall (fun _ _ => 0) ⟨#[], #[.slice none 0 0], []⟩).memory Tryd.f4.params.toList Rows.crcPartsSpec.vars false #[Value.slice none 0 0].toList 8 = some ([.nil], [], places) :=
  ⟨[], by kernel_rfl⟩

set_option maxRecDepth 100000 in
theorem lifted (os : Os) (started : os.Started) (H : Type) (enc : TypeId × Value → H) (F : Stop.Interp) :
    ReturnsInHanded {} Tryd.checked os 4 .any ((Rows.OpenSpec.upto Rows.crcPartsSpec).preRow enc Tryd.prog Tryd.f4 Rows.crcPartsUptoRow.domain false Rows.crcPartsUptoRow.laid) (((Rows.OpenSpec.upto Rows.crcPartsSpec).at F).post enc Tryd.prog Tryd.f4 false true false false) := by
  obtain ⟨places, hx⟩ := reads os enc
  refine returnsInHanded_of_row (C := Tryd.checked) (s := Rows.OpenSpec.upto Rows.crcPartsSpec) own started (by kernel_rfl) Tryd.func4
    (witness_row_at (enc := enc) (C := Tryd.checked) false (laidWorld os) #[.slice none 0 0] rfl (by kernel_rfl) (by kernel_rfl) (by kernel_rfl)
      (OpenSpec.preRow_of_cond 8 hx (by kernel_rfl) (fun k hk => by cases hk; kernel_rfl) (by kernel_rfl) (laid_met os))) ?_
  intro W base args ds gs before hval hW _ hcond hsz hL _ _
  exact contract H enc W base args ds gs before hval hW hsz hL (hcond _ rfl)

theorem said : Rows.CrcPartsUptoSaid :=
  OpenClaim.holds_of_cond 4 Tryd.f4 rfl rfl rfl rfl rfl rfl rfl ⟨rfl, rfl, rfl, rfl, rfl⟩ rfl rfl rfl rfl rfl (by kernel_rfl) Tryd.func4 (by kernel_rfl)
    (of_decide_eq_true (by kernel_rfl)) (by unfold Func.isWrapper; first | (rw [if_pos (by decide +kernel)]; kernel_rfl) | (rw [if_neg (by decide +kernel)]; exact ⟨rfl, rfl⟩))
    (fun os started H enc _ F => by rw [OpenClaim.pre_eq_preRow]; exact lifted os started H enc F)

theorem plain (f : FuncId) (fn : Func) (hf : Tryd.pinned.checked.prog.funcNamed "ropewalk/ropewalklaw02.CrcParts" = some f) (hfn : Tryd.pinned.checked.prog.funcs[f]? = some fn) :
    false = Tryd.pinned.checked.prog.looks [] ∧ ∀ (j : Nat) t, fn.params[j]? = some t → Tryd.pinned.checked.prog.wantsStandIn t = false := by
  obtain rfl : f = 4 := Option.some.inj ((show Tryd.prog.funcNamed "ropewalk/ropewalklaw02.CrcParts" = some 4 by kernel_rfl).symm.trans hf) |>.symm
  obtain rfl : fn = Tryd.f4 := (Option.some.inj (Tryd.func4.symm.trans hfn)).symm
  refine ⟨by kernel_rfl, fun j t ht => ?_⟩
  rw [Tryd.params4] at ht
  have hm : t ∈ [30] := by simpa using Array.mem_of_getElem? ht
  have hall : ∀ t ∈ [30], Tryd.prog.wantsStandIn t = false := by
    intro t ht
    simp only [List.mem_cons, List.not_mem_nil, or_false] at ht
    subst ht; kernel_rfl
  exact hall t hm

/-- THE CARD -/
theorem proved : Rows.CrcPartsUptoCardSaid :=
  Claim7.holds_tied_plain_at .later [] _ _ _ _ said (fun _ h => by cases h) (by kernel_rfl) (fun _ h => by cases h) crcPartsUpto_row_tie rfl ⟨rfl, rfl⟩ (by kernel_rfl) rfl plain (by kernel_rfl)
#print axioms proved
end Go.Proofs.YtfibmpconfoieaaDoor.crcParts
