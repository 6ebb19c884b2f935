/-
  For every row of bytes the law CrcOwn returns true: crc.Put changes nothing of what is handed in, and what it answers shares no memory with it (DOC.md's rule 4). Conditions: none; the table nibbleSteps starts as the program's text lays it (the card ties it).
-/
import Derived.Test.YtfibmpconfoieaaDoorCards
import Derived.Test.YtfibmpconfoieaaDoorTie
import Derived.WalkKit
import Derived.ProofKit
import Derived.OpenShut
import Derived.ShutString
import Derived.ChangeOld
import Derived.Below
import Derived.SizedLaws
import Derived.Deep.DeepHandedRow
import Derived.Lib.LaidTab
import Derived.Test.YtfibmpconfoieaaDoorAny
namespace Go.Proofs.YtfibmpconfoieaaDoor.crcOwn
open Go.ChangeShapes Go.WideShapes Go.ChangeAt Go.RowKit
set_option linter.unusedVariables false

theorem own : ownKnob Tryd.prog.godebug = none := by kernel_rfl
theorem laidOut : laidOutB Tryd.prog = true := by kernel_rfl
theorem gTab : Tryd.prog.globalNamed "ropewalk/crc.nibbleSteps" = some 0 := by kernel_rfl
theorem gTabType : (Tryd.prog.globals[0]?).map (·.type) = some 45 := by kernel_rfl
theorem table {W : World} (h : laidMetH Tryd.prog Rows.crcOwnRow.laid W) : Crc.Tab W := fun i hi =>
  (show Lib.TabIs Tryd.prog W "ropewalk/crc.nibbleSteps" .u32 Crc.tab from
    Lib.tabIs_of_head (rest := []) gTab gTabType Tryd.underlying45 Tryd.underlying23 (by kernel_rfl) (by kernel_rfl) h).cell gTab i hi

theorem empty (w : World) (a : Option Addr) : Crc.Row w a 0 [] := ⟨rfl, (fun n hn => by cases hn), by decide, .inl rfl⟩
theorem next {w w2 wr : World} {g gc len k : Nat} {ys zs : List Int}
    (HS : ∀ u, (wr.setCell ⟨g, k, none⟩ u).ownsRow w.heap.size 5 1 (.slice (some ⟨g, 0, none⟩) len gc) len ((ys.map (Value.int .u8)).set k u) ∧ wr.grownBy (wr.setCell ⟨g, k, none⟩ u) (some g))
    (HD : ys.drop k = zs.drop k) (HO : ∀ x : Addr, x.block ≠ g → wr.cell? x = w2.cell? x) (hyl : ys.length = len) (hlt : k < len) (hbel : Below w.heap.size w wr) (hge : w.heap.size ≤ g) (z : Int) :
    ∃ (k' : Nat) (ys' : List Int), k' ≤ len ∧ Value.int .i64 ((k : Int) + 1) = .int .i64 (k' : Int) ∧ ys'.length = len ∧ ys'.drop k' = zs.drop k' ∧
      (wr.setCell ⟨g, k, none⟩ (.int .u8 z)).drew.ownsRow w.heap.size 5 1 (.slice (some ⟨g, 0, none⟩) len gc) len (ys'.map (Value.int .u8)) ∧ Below w.heap.size w (wr.setCell ⟨g, k, none⟩ (.int .u8 z)).drew ∧
      ∀ x : Addr, x.block ≠ g → (wr.setCell ⟨g, k, none⟩ (.int .u8 z)).drew.cell? x = w2.cell? x := by
  refine ⟨k + 1, ys.set k z, by omega, by go_num, by simpa using hyl, ?_, ?_, ?_, ?_⟩
  · have e := congrArg (fun t => t.drop 1) HD
    simp only [List.drop_drop] at e
    rw [List.drop_set_of_lt (by omega)]
    exact e
  · rw [List.map_set]
    exact (HS _).1.drew
  · exact (hbel.grown (HS _).2 hbel.size (fun q hq => by cases hq; exact hge)).drew
  · intro x hx
    exact (Crc.setCell_other wr g k _ x hx).trans (HO x hx)

theorem walk (a0 : Option Addr) (len0 cap0 : Nat) (z0 : List Int) (w : World) (w0 : Crc.Row w a0 len0 z0) (s0 : len0 ≤ cap0 ∧ cap0 ≤ 140737488351232 ∧ (a0 = none → len0 = 0 ∧ cap0 = 0)) (ht : Crc.Tab w) :
    Calls Tryd.prog 8 #[.slice a0 len0 cap0] w fun e w' => e = .returned (.bool true) ∧ Below w.heap.size w w' := by
  obtain ⟨hcap0, hmax0, hnn0⟩ := s0
  obtain ⟨i0, hi, hz0, hz1, hz2⟩ := info_parts Crc.info5
  have hown0 : (w.alloc (.cells #[] 5)).ownsRow w.heap.size 5 1 (.slice (some ⟨w.heap.size, 0, none⟩) 0 0) 0 [] := World.ownsRow_lit w #[] 0 (Nat.le_refl _) (Nat.zero_le _) rfl
  have hb0 : Below w.heap.size w (w.alloc (.cells #[] 5)) := (Below.refl _ _).alloc (Nat.le_refl _) _
  have hr1 := w0.later hb0
  have hnil : a0 = none → len0 = 0 := by
    intro h
    rcases w0.2.2.2 with h0 | ⟨b, off, h2, _⟩
    · exact h0
    · rw [h] at h2; cases h2
  obtain ⟨hl, hb, hlim, hor⟩ := hr1
  rcases Nat.eq_zero_or_pos len0 with rfl | hpos
  · obtain rfl := List.eq_nil_of_length_eq_zero hl
    rcases a0 with _ | ad
    · obtain ⟨_, rfl⟩ := hnn0 rfl
      clear hnn0
      go_enter Tryd.func8, Tryd.ntmps8
      go_wp2_with (first | (at_builtin; refine wpList_append_own_none rfl (.tmp 9) _ 22 rfl w.heap.size 5 i0 1 Tryd.underlying22 hi _ _ _ rfl hown0 rfl ?_) | fail)
      have B1 := hb0
      generalize w.alloc (.cells #[] 5) = W1 at *
      go_wp2_with fail
      refine (Crc.put_any _ 0 _ [] W1 (ht.later B1 ht.pos) (empty _ _) (Nat.zero_le _) (by decide)).mono ?_
      rintro e w2 ⟨p, n, pc, rfl, hrp, hpn, hpg, hb2⟩
      have B2 : Below w.heap.size w w2 := B1.trans (hb2.mono B1.size)
      go_wp2
      refine wp_loop_rounds 1 ?_
      rw [rounds_succ]
      go_wp2_with fail
      refine (Crc.rput_any _ 0 _ [] w2 (empty _ _) (by decide)).mono ?_
      rintro e w3 ⟨q, m, qc, rfl, hrq, hqn, hqg, hb3⟩
      have B3 : Below w.heap.size w w3 := B2.trans (hb3.mono B2.size)
      have t1 := Crc.text (cap := pc) (hrp.later hb3) hpn
      have t2 := Crc.text (cap := qc) hrq hqn
      go_wp2_with fail
      refine (Crc.awake w3 (ht.later B3 ht.pos)).mono ?_
      rintro e w4 ⟨rfl, hb4⟩
      go_wp2
      go_ret
      exact ⟨rfl, B3.trans (hb4.mono B3.size)⟩
    · clear hnn0
      have hnews : ∀ j u, ([] : List Value)[j]? = some u → (w.alloc (.cells #[] 5)).cell? (ad.add j) = some u := fun j u h => by cases h
      go_enter Tryd.func8, Tryd.ntmps8
      go_wp2_with (first | (at_builtin; refine wpList_append_own _ rfl (.tmp 9) _ 22 rfl w.heap.size 5 i0 (.int .u8 0) 1 1 Tryd.underlying22 hi hz0 hz1 hz2 rfl (by decide) _ _ _ rfl hown0 ad 0 cap0 [] rfl rfl hnews (fun u h => by cases h) (Nat.zero_le _) (by decide) (by simp) ?_) | fail)
      intro v' W1 hown1 hgrow hnn
      have B1 : Below w.heap.size w W1 := hb0.grown hgrow (by simp) (fun q hq => by cases hq; exact Nat.le_refl _)
      obtain ⟨g, gc, rfl⟩ : ∃ g gc, v' = .slice (some ⟨g, 0, none⟩) 0 gc := by
        rcases hown1.2 with ⟨h0, _⟩ | ⟨g, gc, cur, hv, _⟩
        · exact absurd h0 (by simpa using hnn)
        · exact ⟨g, gc, by simpa using hv⟩
      clear hgrow hown1 hnn hnews
      go_wp2_with fail
      refine (Crc.put_any _ 0 _ [] W1 (ht.later B1 ht.pos) (empty _ _) (Nat.zero_le _) (by decide)).mono ?_
      rintro e w2 ⟨p, n, pc, rfl, hrp, hpn, hpg, hb2⟩
      have B2 : Below w.heap.size w w2 := B1.trans (hb2.mono B1.size)
      go_wp2
      refine wp_loop_rounds 1 ?_
      rw [rounds_succ]
      go_wp2_with fail
      refine (Crc.rput_any _ 0 _ [] w2 (empty _ _) (by decide)).mono ?_
      rintro e w3 ⟨q, m, qc, rfl, hrq, hqn, hqg, hb3⟩
      have B3 : Below w.heap.size w w3 := B2.trans (hb3.mono B2.size)
      have t1 := Crc.text (cap := pc) (hrp.later hb3) hpn
      have t2 := Crc.text (cap := qc) hrq hqn
      go_wp2_with fail
      refine (Crc.awake w3 (ht.later B3 ht.pos)).mono ?_
      rintro e w4 ⟨rfl, hb4⟩
      go_wp2
      go_ret
      exact ⟨rfl, B3.trans (hb4.mono B3.size)⟩
  · obtain ⟨b, off, rfl, hc⟩ := hor.resolve_left (by omega)
    clear hnn0 hnil
    have hnews := Crc.news hl hc
    go_enter Tryd.func8, Tryd.ntmps8
    go_wp2_with (first | (at_builtin; refine wpList_append_own _ rfl (.tmp 9) _ 22 rfl w.heap.size 5 i0 (.int .u8 0) 1 1 Tryd.underlying22 hi hz0 hz1 hz2 rfl (by decide) _ _ _ rfl hown0 ⟨b, off, none⟩ len0 cap0 (z0.map (Value.int .u8)) rfl ?c0 hnews (Crc.one_cell z0) ?c3 ?c4 (by simp) ?_) | go_in)
    case c0 => simp; omega
    case c3 => unfold maxLen; omega
    case c4 => omega
    intro v' w1 hown1 hgrow _
    have hb1 : Below w.heap.size w w1 := hb0.grown hgrow (by simp) (fun q hq => by cases hq; exact Nat.le_refl _)
    obtain ⟨g, gc, rfl, hge, hgl⟩ : ∃ g gc, v' = .slice (some ⟨g, 0, none⟩) len0 gc ∧ w.heap.size ≤ g ∧ g < w1.heap.size := by
      rcases hown1.2 with ⟨_, h0⟩ | ⟨g, gc, cur, hv, hge, hh, _⟩
      · omega
      · refine ⟨g, gc, by simpa using hv, hge, ?_⟩
        rcases Nat.lt_or_ge g w1.heap.size with h | h
        · exact h
        · rw [Array.getElem?_eq_none h] at hh; cases hh
    try simp only [Nat.zero_add, List.nil_append] at hown1
    obtain ⟨_, _, he, hrow1, hgc, _, _⟩ := Crc.row_own hown1 hb (by omega)
    cases he
    clear hgrow hnews hc hor hown0 hb0
    go_wp2_with fail
    refine (Crc.put_any _ len0 gc z0 w1 (ht.later hb1 ht.pos) hrow1 hgc (by omega)).mono ?_
    rintro e w2 ⟨p, n, pc, rfl, hrp, hpn, hpg, hb2⟩
    have B2 : Below w.heap.size w w2 := hb1.trans (hb2.mono hb1.size)
    have hown2 : w2.ownsRow w.heap.size 5 1 (.slice (some ⟨g, 0, none⟩) len0 gc) len0 (z0.map (Value.int .u8)) := by
      refine ⟨hown1.1, ?_⟩
      rcases hown1.2 with h0 | ⟨g', gc', cur, hv, r1, r2, r3⟩
      · exact .inl h0
      · refine .inr ⟨g', gc', cur, hv, r1, ?_, r3⟩
        cases hv
        rw [hb2.block g hgl]
        exact r2
    go_wp2
    go_loopw [6, 19] (fun _ i wr => ∃ (k : Nat) (ys : List Int), k ≤ len0 ∧ i = .int .i64 k ∧ ys.length = len0 ∧ ys.drop k = z0.drop k ∧ wr.ownsRow w.heap.size 5 1 (.slice (some ⟨g, 0, none⟩) len0 gc) len0 (ys.map (Value.int .u8)) ∧ Below w.heap.size w wr ∧
        ∀ x : Addr, x.block ≠ g → wr.cell? x = w2.cell? x)
      (fun _ i _ => len0 - (intOf i).toNat)
    case atStart => exact ⟨0, z0, Nat.zero_le _, rfl, hl, rfl, hown2, B2, fun _ _ => rfl⟩
    case round =>
      obtain ⟨k, ys, hk, rfl, hyl, hyd, hown, hbel, hoth⟩ := hrel
      rcases Nat.lt_or_ge k len0 with hlt | hge2
      · obtain ⟨_, _, _, hcb⟩ := w0.later hbel
        obtain ⟨_, _, he, hcb⟩ := hcb.resolve_left (by omega)
        cases he
        have c2 := hcb k hlt
        have e0 : ys[k]? = z0[k]? := by
          have := congrArg (fun t => t[0]?) hyd
          simpa [List.getElem?_drop] using this
        have c1 := hown.cellAt k (by omega)
        rw [List.getElem?_map, e0, List.getElem?_eq_getElem (by omega), Option.map_some] at c1
        rw [List.getD_eq_getElem?_getD, List.getElem?_eq_getElem (by omega), Option.getD_some] at c2
        generalize z0[k]'(by omega) = x at c1 c2
        have hfr := hown.frozenAt k
        have HS : Hid (∀ u, _) := fun u => hown.stored k u
        have HD : Hid (ys.drop k = z0.drop k) := hyd
        have HO : Hid (∀ x : Addr, x.block ≠ g → wr.cell? x = w2.cell? x) := hoth
        have hk0 : (0 : Int) ≤ (k : Int) := by omega
        have hk1 : (k : Int) < (len0 : Int) := by omega
        have hxx : (x != x) = false := by simp
        clear hcb hyd hoth e0 hown hown2 hown1
        go_wp2
        go_region_held3 (fun w' => w'.cell? ⟨g, k, none⟩ = some (.int .u8 x) ∧ w'.cell? ⟨b, off + k, none⟩ = some (.int .u8 x)) (go_keep) (fail)
        go_wp2
        go_roundw
        case rel => exact next HS.out HD.out HO.out hyl hlt hbel hge _
        case measure => simp [intOf]; omega
      · have hk : k = len0 := by omega
        subst hk
        have hrb : Crc.Row wr (some ⟨b, off, none⟩) k z0 := w0.later hbel
        have hrp2 : Crc.Row wr p n (Crc.ansOf z0) := hrp.kept g hoth (fun b' off' h => by have := hpg b' off' h; omega)
        clear hown hown2 hown1 hoth hrow1 hyd
        go_wp2_with fail
        refine (Crc.rput_any _ k cap0 z0 wr hrb (by omega)).mono ?_
        rintro e w3 ⟨q, m, qc, rfl, hrq, hqn, hqg, hb3⟩
        have B3 : Below w.heap.size w w3 := hbel.trans (hb3.mono hbel.size)
        have t1 := Crc.text (cap := pc) (hrp2.later hb3) hpn
        have t2 := Crc.text (cap := qc) hrq hqn
        go_wp2_with fail
        refine (Crc.awake w3 (ht.later B3 ht.pos)).mono ?_
        rintro e w4 ⟨rfl, hb4⟩
        go_wp2
        go_ret
        exact ⟨rfl, B3.trans (hb4.mono B3.size)⟩

theorem contract (H : Type) (enc : TypeId × Value → H) (W : World) (base : Nat) (args : Array Value) (ds gs : List (DataW H)) (before : List MemPlace)
    (hval : ∀ (j : Nat) t v, Tryd.f8.params[j]? = some t → args[j]? = some v → Value.okWide Tryd.prog W .any base t v)
    (hW : DataW.Whole enc Tryd.prog Tryd.f8.params.toList Rows.crcOwnSpec.vars false W args.toList ds gs before)
    (hsz0 : (DataW.weightsEach Tryd.prog (Tryd.f8.params.toList ++ Rows.crcOwnSpec.plain.varTypes Tryd.prog) (ds ++ gs)).all (· ≤ reachBytes) = true)
    (hL : laidMetH Tryd.prog Rows.crcOwnRow.laid W) :
    Calls Tryd.prog 8 args W fun e W' => ∃ v, e = .returned v ∧ Rows.crcOwnSpec.post enc Tryd.prog Tryd.f8 false true false false W args v W' := by
  have hW' := hW
  obtain ⟨p, q, hA0, hV, rfl, hfz, hnd⟩ := hW
  have hA : DataW.TrodAll enc Tryd.prog W 0 (fun _ => true) true Tryd.f8.params.toList args.toList ds p := hA0
  have hsz := hsz0
  rw [Tryd.params8] at hA hval hsz
  obtain ⟨v0, vs0, d0, ds0, p0, q0, hargs, rfl, rfl, h0, r0⟩ := trodAll_cons hA
  obtain ⟨rfl, rfl, rfl⟩ := trodAll_nil r0
  obtain rfl : args = #[v0] := by cases args; simp_all
  obtain ⟨rfl, rfl⟩ := trodVars_none hV
  obtain ⟨a0, len0, cap0, rfl⟩ := okWide_slice Tryd.underlying22 (hval 0 22 v0 rfl rfl)
  have k0 := h0
  have lt0 : ∀ x ∈ p0, x.block < W.heap.size := by obtain ⟨m, hm⟩ := k0; exact DataW.trod_lt m _ _ _ hm
  obtain ⟨z0, w0, s0⟩ : ∃ zs, Crc.Row W a0 len0 zs ∧ len0 ≤ cap0 ∧ cap0 ≤ 140737488351232 ∧ (a0 = none → len0 = 0 ∧ cap0 = 0) := by
    obtain ⟨fuel, hf⟩ := h0
    refine Crc.row_of hf fun elems spare hd => ?_
    simp only at hd
    subst hd
    have sz := sized_slice hsz (j := 0) (t := 22) (elems := elems) (spare := spare) rfl rfl Tryd.underlying22
    rw [show Tryd.prog.bytesOf 5 = 1 by kernel_rfl, Nat.mul_one] at sz
    exact sz
  clear hA0 hsz0 hsz
  refine (walk a0 len0 cap0 z0 W w0 s0 (table hL)).mono fun e W' ⟨he, bel⟩ => ?_
  subst he
  exact ⟨_, rfl, _, _, _, [], _, [], hW', trodAll_mk1 (shut_bool Tryd.underlying4 _), (trodAll_cons_mk (Below.trod laidOut (by kernel_rfl) (of_decide_eq_true (by kernel_rfl)) k0 bel lt0) trodAll_mk0), rfl, bel.frame _, fun h => by cases h⟩

noncomputable def laidWorld (os : Os) : World :=
  { World.holding Tryd.prog os ⟨#[], #[], []⟩ with heap := (World.holding Tryd.prog os ⟨#[], #[], []⟩).heap.modify 0 fun
      | .cells _ t frozen => .cells #[.int .u32 0, .int .u32 274646895, .int .u32 549293790, .int .u32 820201905, .int .u32 1098587580, .int .u32 1361435347, .int .u32 1640403810, .int .u32 1905808397, .int .u32 2197175160, .int .u32 2460548119, .int .u32 2722870694, .int .u32 2987750089, .int .u32 3280807620, .int .u32 3553878443, .int .u32 3811616794, .int .u32 4084100981] t frozen
      | o => o }
theorem laid_met (os : Os) : laidMet Tryd.prog Rows.crcOwnRow.laid ((laidWorld os).forCall (fun _ _ => 0) ⟨#[], #[.slice none 0 0], []⟩).memory :=
  laidMet_of_run' 8 (by kernel_rfl) (by kernel_rfl)
theorem reads (os : Os) {H : Type} (enc : TypeId × Value → H) : ∃ places, DataW.whole enc Tryd.prog ((laidWorld os).forCall (fun _ _ => 0) ⟨#[], #[.slice none 0 0], []⟩).memory Tryd.f8.params.toList Rows.crcOwnSpec.vars false #[Value.slice none 0 0].toList 8 = some ([.nil], [], places) :=
  ⟨[], by kernel_rfl⟩

set_option maxRecDepth 100000 in
theorem lifted (os : Os) (started : os.Started) (H : Type) (enc : TypeId × Value → H) (F : Stop.Interp) :
    ReturnsInHanded {} Tryd.checked os 8 .any ((OpenSpec.ofChange Rows.crcOwnSpec).preRow enc Tryd.prog Tryd.f8 Rows.crcOwnRow.domain false Rows.crcOwnRow.laid) (((OpenSpec.ofChange Rows.crcOwnSpec).at F).post enc Tryd.prog Tryd.f8 false true false false) := by
  obtain ⟨places, hx⟩ := reads os enc
  refine returnsInHanded_of_row (C := Tryd.checked) (s := OpenSpec.ofChange Rows.crcOwnSpec) own started (by kernel_rfl) Tryd.func8
    (witness_row_at (enc := enc) (C := Tryd.checked) false (laidWorld os) #[.slice none 0 0] rfl (by kernel_rfl) (by kernel_rfl) (by kernel_rfl)
      (OpenSpec.preRow_of_cond 8 hx (by kernel_rfl) (fun k hk => by cases hk) (by kernel_rfl) (laid_met os))) ?_
  intro W base args ds gs before hval hW _ hcond hsz hL _ _
  exact contract H enc W base args ds gs before hval hW hsz hL

theorem said : Rows.CrcOwnSaid :=
  OpenClaim.holds_of_cond 8 Tryd.f8 rfl rfl rfl rfl rfl rfl rfl ⟨rfl, rfl, rfl, rfl, rfl⟩ rfl rfl rfl rfl rfl (by kernel_rfl) Tryd.func8 (by kernel_rfl)
    (of_decide_eq_true (by kernel_rfl)) (by unfold Func.isWrapper; first | (rw [if_pos (by decide +kernel)]; kernel_rfl) | (rw [if_neg (by decide +kernel)]; exact ⟨rfl, rfl⟩))
    (fun os started H enc _ F => by rw [OpenClaim.pre_eq_preRow]; exact lifted os started H enc F)

theorem plain (f : FuncId) (fn : Func) (hf : Tryd.pinned.checked.prog.funcNamed "ropewalk/ropewalklaw02.CrcOwn" = some f) (hfn : Tryd.pinned.checked.prog.funcs[f]? = some fn) :
    false = Tryd.pinned.checked.prog.looks [] ∧ ∀ (j : Nat) t, fn.params[j]? = some t → Tryd.pinned.checked.prog.wantsStandIn t = false := by
  obtain rfl : f = 8 := Option.some.inj ((show Tryd.prog.funcNamed "ropewalk/ropewalklaw02.CrcOwn" = some 8 by kernel_rfl).symm.trans hf) |>.symm
  obtain rfl : fn = Tryd.f8 := (Option.some.inj (Tryd.func8.symm.trans hfn)).symm
  refine ⟨by kernel_rfl, fun j t ht => ?_⟩
  rw [Tryd.params8] at ht
  have hm : t ∈ [22] := by simpa using Array.mem_of_getElem? ht
  have hall : ∀ t ∈ [22], Tryd.prog.wantsStandIn t = false := by
    intro t ht
    simp only [List.mem_cons, List.not_mem_nil, or_false] at ht
    subst ht; kernel_rfl
  exact hall t hm

/-- THE CARD -/
theorem proved : Rows.CrcOwnCardSaid :=
  Claim7.holds_tied_plain_at .later [] _ _ _ _ said (fun _ h => by cases h) (by kernel_rfl) (fun _ h => by cases h) crcOwn_row_tie rfl ⟨rfl, rfl⟩ (by kernel_rfl) rfl plain (by kernel_rfl)
#print axioms proved
end Go.Proofs.YtfibmpconfoieaaDoor.crcOwn
