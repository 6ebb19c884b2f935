/-
  For every cum and every script of calls the law SpansRuns returns true: every answer of a set, whatever is put in and taken out, is the document's (P3.1 to P3.4). Conditions: none; the table of math/bits starts as the program's text lays it (the card ties it).
-/
import Derived.Test.YtllipbkpbopomaaDoorCards
import Derived.Test.YtllipbkpbopomaaDoorTie
import Derived.WalkKit
import Derived.ProofKit
import Derived.OpenShut
import Derived.ShutString
import Derived.ChangeOld
import Derived.Below
import Derived.SizedLaws
import Derived.Deep.DeepHandedRow
import Derived.Lib.LaidTab
import Derived.Test.YtllipbkpbopomaaDoorSpOps
import Derived.Test.YtllipbkpbopomaaDoorSpSame
namespace Go.Proofs.YtllipbkpbopomaaDoor.spansRuns
open Go.ChangeShapes Go.WideShapes Go.ChangeAt Go.RowKit
set_option linter.unusedVariables false

theorem own : ownKnob Tryd.prog.godebug = none := by kernel_rfl
theorem laidOut : laidOutB Tryd.prog = true := by kernel_rfl
theorem gTab : Tryd.prog.globalNamed "math/bits.deBruijn64tab" = some 0 := by kernel_rfl
theorem gTabType : (Tryd.prog.globals[0]?).map (·.type) = some 98 := by kernel_rfl
theorem table {W : World} (h : laidMetH Tryd.prog Rows.spansRunsRow.laid W) : Sp.Tab W := fun i hi =>
  (show Lib.TabIs Tryd.prog W "math/bits.deBruijn64tab" .u8 Sp.tab64 from
    Lib.tabIs_of_head (rest := []) gTab gTabType Tryd.underlying98 Tryd.underlying5 (by kernel_rfl) (by kernel_rfl) h).cell gTab i hi

theorem addGrown {w w' : World} {bs br c : Nat} {L : List Nat} (hS : Sp.IsSet w bs c L) (hne : bs ≠ br) (hg : w.grownBy w' (some br)) : Sp.IsSet w' bs c L := hS.grown hg (by intro e; cases e; exact hne rfl)

set_option maxRecDepth 20000 in
set_option maxHeartbeats 1000000 in
theorem walk (a0 : Int) (a1 : Option Addr) (len1 cap1 : Nat) (z1 : Nat → Int × Int × Int) (w : World) (w0 : (Lit.int .u32 a0).wf = true) (w1 : Sp.RowO w a1 len1 z1) (s1 : len1 ≤ cap1 ∧ cap1 ≤ 140737488351232 ∧ (a1 = none → len1 = 0 ∧ cap1 = 0)) (ht : Sp.Tab w) :
    Calls Tryd.prog 3 #[.int .u32 a0, .slice a1 len1 cap1] w fun e w' => e = .returned (.bool true) ∧ Below w.heap.size w w' := by
  obtain ⟨cum, rfl, hcum⟩ : ∃ c : Nat, a0 = (c : Int) ∧ c < 4294967296 := by have := Ser.b32 w0; exact ⟨a0.toNat, by omega, by omega⟩
  clear w0
  obtain ⟨s1, s2, s3⟩ := s1
  have hpos := ht.pos
  go_enter Tryd.func3, Tryd.ntmps3
  go_wp2_with fail
  refine (Sp.new_ cum hcum w).mono ?_
  rintro e x1 ⟨rfl, hS1, hg1⟩
  have hB1 := Sp.grown0.below hg1
  go_wp2_with fail
  refine (Sp.rnew cum hcum x1).mono ?_
  rintro e x2 ⟨rfl, hR2, hB2⟩
  have hS2 := hS1.below hB2 hS1.lt
  have hlt1 := hS1.lt
  obtain ⟨bs, hbs⟩ : ∃ bs, Hid (w.heap.size = bs) := ⟨_, rfl⟩
  obtain ⟨br, hbr⟩ : ∃ br, Hid (x1.heap.size = br) := ⟨_, rfl⟩
  have hB0 : Below w.heap.size w x2 := hB1.trans (hB2.mono hB1.size)
  have hT2 : Sp.Tab x2 := ht.below hB0 hpos
  rw [hbs.out] at hS2 ⊢
  rw [hbr.out] at hR2 ⊢
  have hne : bs < br := by have := hbs.out; have := hbr.out; omega
  have hbs' : w.heap.size ≤ bs := by have := hbs.out; omega
  have hbs0 : bs ≠ 0 := by omega
  clear hS1
  go_wp2_with fail
  go_loopw [7] (fun i wr => ∃ (q : Int) (c : Nat) (L : List Nat), 0 ≤ q ∧ q ≤ (len1 : Int) ∧ q ≤ 300 ∧ i = .int .i64 q ∧ Sp.IsSet wr bs c L ∧ Sp.IsRef wr br c L ∧ Sp.Tab wr ∧ Below w.heap.size w wr) (fun i wr => len1 - (intOf i).toNat)
  case atStart => exact ⟨0, cum, [], by omega, by omega, by omega, rfl, hS2, hR2, hT2, hB0⟩
  case round =>
    obtain ⟨q, c, L, hq0, hq, hq3, rfl, hS, hR, hT, hB⟩ := hrel
    have hszr := hB.size
    by_cases hgo : q < (len1 : Int) ∧ q < 300
    · obtain ⟨hg1, hg2⟩ := hgo
      obtain ⟨hl, hwf, hor⟩ := w1.later hB
      obtain ⟨rb, off, rfl, hrb, hcc⟩ := hor.resolve_left (by omega)
      obtain ⟨k0, k1, k2⟩ := hcc q.toNat (by omega)
      obtain ⟨wf0, wf1, wf2⟩ := hwf q.toNat (by omega)
      generalize (z1 q.toNat).1 = kI at k0 wf0
      generalize (z1 q.toNat).2.1 = aI at k1 wf1
      generalize (z1 q.toNat).2.2 = nI at k2 wf2
      have ha := Ser.b32 wf1
      have hnb := bounds_i64 wf2
      have hkb := bounds_i64 wf0
      have hc := hS.1
      clear hcc hor hwf wf0 wf1 wf2
      obtain ⟨Y, hY⟩ : ∃ Y, wr.alloc (Obj.cells #[Value.int .i64 kI, Value.int .u32 aI, Value.int .i64 nI] 29) = Y := ⟨_, rfl⟩
      have hBy : Below wr.heap.size wr Y := by rw [← hY]; exact (Below.refl _ _).alloc (Nat.le_refl _) _
      have hhY : Y.heap[wr.heap.size]? = some (.cells #[Value.int .i64 kI, Value.int .u32 aI, Value.int .i64 nI] 29 (0, 0)) := by rw [← hY]; exact heap_alloc_new wr _
      have y0 : Y.cell? ⟨wr.heap.size, 0, none⟩ = some (.int .i64 kI) := by simp [World.cell?, hhY]
      have y1 : Y.cell? ⟨wr.heap.size, 1, none⟩ = some (.int .u32 aI) := by simp [World.cell?, hhY]
      have y2 : Y.cell? ⟨wr.heap.size, 2, none⟩ = some (.int .i64 nI) := by simp [World.cell?, hhY]
      have HY : Hid _ := hY
      clear hY
      have hSy := hS.below hBy hS.lt
      have hRy := hR.below hBy
      have hTy := hT.below hBy hT.pos
      have hBB : Below w.heap.size w Y := hB.trans (hBy.mono hszr)
      have r0 := hRy.read.1
      obtain ⟨T, hTT⟩ : ∃ T : Nat, Hid (((c : Int) + aI) % 4294967296 = (T : Int)) := ⟨((c : Int) + aI).toNat % 4294967296, show _ = _ by omega⟩
      have hTl : T < 4294967296 := by have := hTT.out; omega
      have C1 : Hid (∀ v : World, Calls Tryd.prog 11 #[.int .u32 (c : Int), .int .u32 aI] v fun e w' => e = .returned (.int .u32 (T : Int)) ∧ w' = v) := fun v =>
        (Ser.radd (c : Int) aI (by omega) (by omega) v).mono fun e w' hh => ⟨by rw [hh.1, hTT.out], hh.2.symm⟩
      go_wp2_with fail
      rw [HY.out]
      go_wp2_with fail
      go_quiet (first | (go_at_call 11; exact Calls.quiet_of_same (C1.out _)))
      obtain ⟨y, hy, hh⟩ : ∃ y, Y.drewN nq = y ∧ Hid (y.heap = Y.heap ∧ Below w.heap.size w y) := ⟨_, rfl, rfl, ⟨hBB.os, hBB.tape, hBB.output, hBB.size, hBB.block⟩⟩
      rw [hy]
      clear hy
      have hSz := hSy.ofHeap hh.out.1
      have hRz := hRy.ofHeap hh.out.1
      have hTz := hTy.ofHeap hh.out.1
      have hBz := hh.out.2
      have d0 : y.cell? ⟨wr.heap.size, 0, none⟩ = some (.int .i64 kI) := (World.cell?_of_block (by rw [hh.out.1])).trans y0
      have d2 : y.cell? ⟨wr.heap.size, 2, none⟩ = some (.int .i64 nI) := (World.cell?_of_block (by rw [hh.out.1])).trans y2
      clear y0 y1 y2 hhY HY r0 hSy hRy hTy hBB k0 k1 k2
      by_cases hk1 : kI = 1
      · subst hk1
        go_wp2_with fail
        refine (Sp.add_ T hTl _ hSz).mono ?_
        rintro e u1 (⟨i1, rfl, rfl⟩ | ⟨i1, f1, rfl, rfl⟩ | ⟨d, i1, hd, d1, d2, d3, rfl, hS', hg'⟩)
        · go_wp2_with fail
          refine (Sp.rAdd T hTl _ hRz).mono ?_
          rintro e u2 (⟨j1, rfl, rfl⟩ | ⟨j1, _, _, _⟩ | ⟨_, j1, _⟩)
          · clear i1 j1
            go_wp2_with fail
            refine (Sp.same _ hSz hRz hTz).mono ?_
            rintro e z9 ⟨rfl, b9⟩
            have hSw := hSz.below b9 hSz.lt
            have hRw := hRz.below b9
            have hTw := hTz.below b9 hTz.pos
            have hBw := hBz.trans (b9.mono hBz.size)
            go_wp2
            go_roundw
            case rel => exact ⟨q + 1, _, _, by omega, by omega, by omega, rfl, hSw, hRw, hTw, hBw⟩
            case measure => simp only [intOf]; omega
          · rw [i1] at j1; cases j1
          · rw [i1] at j1; cases j1
        · go_wp2_with fail
          refine (Sp.rAdd T hTl _ hRz).mono ?_
          rintro e u2 (⟨j1, _, _⟩ | ⟨j1, _, rfl, rfl⟩ | ⟨d', j1, hd', d1', _⟩)
          · rw [i1] at j1; cases j1
          · clear i1 j1 f1
            go_wp2_with fail
            refine (Sp.same _ hSz hRz hTz).mono ?_
            rintro e z9 ⟨rfl, b9⟩
            have hSw := hSz.below b9 hSz.lt
            have hRw := hRz.below b9
            have hTw := hTz.below b9 hTz.pos
            have hBw := hBz.trans (b9.mono hBz.size)
            go_wp2
            go_roundw
            case rel => exact ⟨q + 1, _, _, by omega, by omega, by omega, rfl, hSw, hRw, hTw, hBw⟩
            case measure => simp only [intOf]; omega
          · omega
        · have hRu := hRz.grownS hSz hg'
          have hTu := hTz.grown hg' hbs0
          have hBu := hBz.trans (Sp.grownS.below hg' hbs' hBz.size)
          have HD : Hid _ := hd
          clear hd
          go_wp2_with fail
          refine (Sp.rAdd T hTl _ hRu).mono ?_
          rintro e u2 (⟨j1, _, _⟩ | ⟨j1, f1, _, _⟩ | ⟨d', j1, hd', _, _, _, rfl, hR', hg''⟩)
          · rw [i1] at j1; cases j1
          · have := HD.out; omega
          · obtain rfl : d' = d := by have := HD.out; omega
            have hSz := addGrown hS' (by omega) hg''
            have hRz := hR'
            have hTz := hTu.grown hg'' (by omega)
            have hBz := hBu.trans (Sp.grownS.below hg'' (by omega) hBu.size)
            clear i1 j1 hd' hS' hR'
            go_wp2_with fail
            refine (Sp.same _ hSz hRz hTz).mono ?_
            rintro e z9 ⟨rfl, b9⟩
            have hSw := hSz.below b9 hSz.lt
            have hRw := hRz.below b9
            have hTw := hTz.below b9 hTz.pos
            have hBw := hBz.trans (b9.mono hBz.size)
            go_wp2
            go_roundw
            case rel => exact ⟨q + 1, _, _, by omega, by omega, by omega, rfl, hSw, hRw, hTw, hBw⟩
            case measure => simp only [intOf]; omega
      by_cases hk2 : kI = 2
      · subst hk2
        go_wp2_with fail
        refine (Sp.del_ T hTl _ hSz).mono ?_
        rintro e u1 ⟨rfl, hS', hg'⟩
        have hRu := hRz.grownS hSz hg'
        have hTu := hTz.grown hg' hbs0
        have hBu := hBz.trans (Sp.grownS.below hg' hbs' hBz.size)
        go_wp2_with fail
        refine (Sp.rDel T hTl _ hRu).mono ?_
        rintro e u2 ⟨rfl, hR', hg''⟩
        have hSz := addGrown hS' (by omega) hg''
        have hRz := hR'
        have hTz := hTu.grown hg'' (by omega)
        have hBz := hBu.trans (Sp.grownS.below hg'' (by omega) hBu.size)
        generalize decide ((Ser.dist 4294967296 (c : Int) (T : Int)).toNat ∈ L) = bb
        generalize Sp.del (Ser.dist 4294967296 (c : Int) (T : Int)).toNat L = L2 at hSz hRz
        clear hS' hR'
        go_wp2_with fail
        refine (Sp.same _ hSz hRz hTz).mono ?_
        rintro e z9 ⟨rfl, b9⟩
        have hSw := hSz.below b9 hSz.lt
        have hRw := hRz.below b9
        have hTw := hTz.below b9 hTz.pos
        have hBw := hBz.trans (b9.mono hBz.size)
        go_wp2
        go_roundw
        case rel => exact ⟨q + 1, _, _, by omega, by omega, by omega, rfl, hSw, hRw, hTw, hBw⟩
        case measure => simp only [intOf]; omega
      by_cases hk3 : kI = 3
      · subst hk3
        go_wp2_with fail
        refine (Sp.has T hTl _ hSz).mono ?_
        rintro e w' ⟨rfl, rfl⟩
        go_wp2_with fail
        refine (Sp.rHas T hTl _ hRz).mono ?_
        rintro e w' ⟨rfl, rfl⟩
        generalize Sp.isIn c L T = bb
        go_wp2_with fail
        refine (Sp.same _ hSz hRz hTz).mono ?_
        rintro e z9 ⟨rfl, b9⟩
        have hSw := hSz.below b9 hSz.lt
        have hRw := hRz.below b9
        have hTw := hTz.below b9 hTz.pos
        have hBw := hBz.trans (b9.mono hBz.size)
        go_wp2
        go_roundw
        case rel => exact ⟨q + 1, _, _, by omega, by omega, by omega, rfl, hSw, hRw, hTw, hBw⟩
        case measure => simp only [intOf]; omega
      · have e1 : (kI == 1) = false := by simpa using hk1
        have e2 : (kI == 2) = false := by simpa using hk2
        have e3 : (kI == 3) = false := by simpa using hk3
        obtain ⟨mI, hmI⟩ : ∃ mI : Int, Int.tmod nI 1000 = mI := ⟨_, rfl⟩
        have hmb : -1000 < mI ∧ mI < 1000 := by
          rw [← hmI]
          have h1 := Int.tmod_lt_of_pos nI (show (0 : Int) < 1000 by decide)
          have h2 : -1000 < Int.tmod nI 1000 := by
            rcases Int.le_total 0 nI with h | h
            · have := Int.tmod_nonneg 1000 h; omega
            · have h3 := Int.tmod_lt_of_pos (-nI) (show (0 : Int) < 1000 by decide)
              rw [Int.neg_tmod] at h3; omega
          exact ⟨h2, h1⟩
        go_wp2_with fail
        refine (Sp.gapsS hSz hTz mI).mono ?_
        rintro e u1 ⟨v1, rfl, o1, b1⟩
        have hS1 := hSz.below b1 hSz.lt
        have hR1 := hRz.below b1
        have hT1 := hTz.below b1 hTz.pos
        have hBu1 := hBz.trans (b1.mono hBz.size)
        have p1 := Sp.gps_own (X := Sp.gtake L mI) o1
        go_wp2_with fail
        refine (Sp.rGaps mI hmb _ hR1).mono ?_
        rintro e u2 ⟨v2, rfl, o2, b2⟩
        have hS2 := hS1.below b2 hS1.lt
        have hR2 := hR1.below b2
        have hT2 := hT1.below b2 hT1.pos
        have hBu2 := hBu1.trans (b2.mono hBu1.size)
        have p2 := Sp.gps_own o2
        have p1' := p1.later b2
        go_wp2_with fail
        refine (Sp.blocks_eq _ v1 v2 _ p1' p2).mono ?_
        rintro e u3 ⟨rfl, b3⟩
        have hS3 := hS2.below b3 hS2.lt
        have hR3 := hR2.below b3
        have hT3 := hT2.below b3 hT2.pos
        have hBu3 := hBu2.trans (b3.mono hBu2.size)
        go_wp2_with fail
        refine (Sp.missingS hS3 hT3 mI (by omega)).mono ?_
        rintro e u4 ⟨v4, rfl, o4, b4⟩
        rw [Sp.miss_blk] at o4
        have hS4 := hS3.below b4 hS3.lt
        have hR4 := hR3.below b4
        have hT4 := hT3.below b4 hT3.pos
        have hBu4 := hBu3.trans (b4.mono hBu3.size)
        have n4 : Sp.Nums u4 v4 (Sp.mtake L mI).length (Sp.tsF c (Sp.mtake L mI)) := Sp.nums_own o4 rfl
        go_wp2_with fail
        refine (Sp.rMissing mI hmb _ hR4).mono ?_
        rintro e u5 ⟨v5, rfl, o5, b5⟩
        have hS5 := hS4.below b5 hS4.lt
        have hR5 := hR4.below b5
        have hT5 := hT4.below b5 hT4.pos
        have hBu5 := hBu4.trans (b5.mono hBu4.size)
        have n5 := Sp.nums_own o5 rfl
        have n4' := n4.later b5
        go_wp2_with fail
        refine (Sp.numbers _ v4 v5 _ _ n4' n5).mono ?_
        rintro e u6 ⟨rfl, b6⟩
        have hSz := hS5.below b6 hS5.lt
        have hRz := hR5.below b6
        have hTz := hT5.below b6 hT5.pos
        have hBz := hBu5.trans (b6.mono hBu5.size)
        go_wp2_with fail
        refine (Sp.same _ hSz hRz hTz).mono ?_
        rintro e z9 ⟨rfl, b9⟩
        have hSw := hSz.below b9 hSz.lt
        have hRw := hRz.below b9
        have hTw := hTz.below b9 hTz.pos
        have hBw := hBz.trans (b9.mono hBz.size)
        go_wp2
        go_roundw
        case rel => exact ⟨q + 1, _, _, by omega, by omega, by omega, rfl, hSw, hRw, hTw, hBw⟩
        case measure => simp only [intOf]; omega
    · have hkk : ¬ q < (len1 : Int) ∨ (q < (len1 : Int) ∧ ¬ q < 300) := by omega
      rcases hkk with hkk | ⟨hka, hkk⟩
      · go_wp2_with fail
        refine (Sp.alive wr hT).mono ?_
        rintro e x9 ⟨rfl, b9⟩
        go_wp2
        go_ret
        exact ⟨rfl, hB.trans (b9.mono hszr)⟩
      · go_wp2_with fail
        refine (Sp.alive wr hT).mono ?_
        rintro e x9 ⟨rfl, b9⟩
        go_wp2
        go_ret
        exact ⟨rfl, hB.trans (b9.mono hszr)⟩

set_option maxRecDepth 100000 in
theorem contract (H : Type) (enc : TypeId × Value → H) (W : World) (base : Nat) (args : Array Value) (ds gs : List (DataW H)) (before : List MemPlace)
    (hval : ∀ (j : Nat) t v, Tryd.f3.params[j]? = some t → args[j]? = some v → Value.okWide Tryd.prog W .any base t v)
    (hW : DataW.Whole enc Tryd.prog Tryd.f3.params.toList Rows.spansRunsSpec.vars false W args.toList ds gs before)
    (hsz0 : (DataW.weightsEach Tryd.prog (Tryd.f3.params.toList ++ Rows.spansRunsSpec.plain.varTypes Tryd.prog) (ds ++ gs)).all (· ≤ reachBytes) = true)
    (hL : laidMetH Tryd.prog Rows.spansRunsRow.laid W) :
    Calls Tryd.prog 3 args W fun e W' => ∃ v, e = .returned v ∧ Rows.spansRunsSpec.post enc Tryd.prog Tryd.f3 false true false false W args v W' := by
  have hW' := hW
  obtain ⟨p, q, hA0, hV, rfl, hfz, hnd⟩ := hW
  have hA : DataW.TrodAll enc Tryd.prog W 0 (fun _ => true) true Tryd.f3.params.toList args.toList ds p := hA0
  have hsz := hsz0
  rw [Tryd.params3] at hA hval hsz
  obtain ⟨v0, vs0, d0, ds0, p0, q0, hargs, rfl, rfl, h0, r0⟩ := trodAll_cons hA
  obtain ⟨v1, vs1, d1, ds1, p1, q1, rfl, rfl, rfl, h1, r1⟩ := trodAll_cons r0
  obtain ⟨rfl, rfl, rfl⟩ := trodAll_nil r1
  obtain rfl : args = #[v0, v1] := by cases args; simp_all
  obtain ⟨rfl, rfl⟩ := trodVars_none hV
  obtain ⟨a0, rfl, rfl, rfl, w0⟩ := open_int Tryd.underlying22 (hval 0 22 v0 rfl rfl) h0
  obtain ⟨a1, len1, cap1, rfl⟩ := okWide_slice Tryd.underlying23 (hval 1 23 v1 rfl rfl)
  have k1 := h1
  have lt1 : ∀ x ∈ p1, x.block < W.heap.size := by obtain ⟨m, hm⟩ := k1; exact DataW.trod_lt m _ _ _ hm
  obtain ⟨z1, w1, s1⟩ : ∃ zs, Sp.RowO W a1 len1 zs ∧ len1 ≤ cap1 ∧ cap1 ≤ 140737488351232 ∧ (a1 = none → len1 = 0 ∧ cap1 = 0) := by
    obtain ⟨fuel, hf⟩ := h1
    refine Sp.rowO_of hf fun elems spare hd => ?_
    simp only at hd
    subst hd
    have sz := sized_slice hsz (j := 1) (t := 23) (elems := elems) (spare := spare) rfl rfl Tryd.underlying23
    rw [show Tryd.prog.bytesOf 29 = 24 by kernel_rfl] at sz
    unfold reachBytes at sz
    omega
  clear hA0 hsz0 hsz
  refine (walk a0 a1 len1 cap1 z1 W w0 w1 s1 (table hL)).mono fun e W' ⟨he, bel⟩ => ?_
  subst he
  exact ⟨_, rfl, _, _, _, [], _, [], hW', trodAll_mk1 (shut_bool Tryd.underlying4 _), (trodAll_cons_mk (shut_int Tryd.underlying22 w0) (trodAll_cons_mk (Below.trod laidOut (by kernel_rfl) (of_decide_eq_true (by kernel_rfl)) k1 bel lt1) trodAll_mk0)), rfl, bel.frame _, fun h => by cases h⟩

noncomputable def laidWorld (os : Os) : World :=
  { World.holding Tryd.prog os ⟨#[], #[], []⟩ with heap := (World.holding Tryd.prog os ⟨#[], #[], []⟩).heap.modify 0 fun
      | .cells _ t frozen => .cells #[.int .u8 0, .int .u8 1, .int .u8 56, .int .u8 2, .int .u8 57, .int .u8 49, .int .u8 28, .int .u8 3, .int .u8 61, .int .u8 58, .int .u8 42, .int .u8 50, .int .u8 38, .int .u8 29, .int .u8 17, .int .u8 4, .int .u8 62, .int .u8 47, .int .u8 59, .int .u8 36, .int .u8 45, .int .u8 43, .int .u8 51, .int .u8 22, .int .u8 53, .int .u8 39, .int .u8 33, .int .u8 30, .int .u8 24, .int .u8 18, .int .u8 12, .int .u8 5, .int .u8 63, .int .u8 55, .int .u8 48, .int .u8 27, .int .u8 60, .int .u8 41, .int .u8 37, .int .u8 16, .int .u8 46, .int .u8 35, .int .u8 44, .int .u8 21, .int .u8 52, .int .u8 32, .int .u8 23, .int .u8 11, .int .u8 54, .int .u8 26, .int .u8 40, .int .u8 15, .int .u8 34, .int .u8 20, .int .u8 31, .int .u8 10, .int .u8 25, .int .u8 14, .int .u8 19, .int .u8 9, .int .u8 13, .int .u8 8, .int .u8 7, .int .u8 6] t frozen
      | o => o }
theorem laid_met (os : Os) : laidMet Tryd.prog Rows.spansRunsRow.laid ((laidWorld os).forCall (fun _ _ => 0) ⟨#[], #[.int .u32 0, .slice none 0 0], []⟩).memory :=
  laidMet_of_run' 8 (by kernel_rfl) (by kernel_rfl)
theorem reads (os : Os) {H : Type} (enc : TypeId × Value → H) : ∃ places, DataW.whole enc Tryd.prog ((laidWorld os).forCall (fun _ _ => 0) ⟨#[], #[.int .u32 0, .slice none 0 0], []⟩).memory Tryd.f3.params.toList Rows.spansRunsSpec.vars false #[Value.int .u32 0, Value.slice none 0 0].toList 8 = some ([.lit (.int .u32 0), .nil], [], places) :=
  ⟨[], by kernel_rfl⟩

set_option maxRecDepth 100000 in
theorem lifted (os : Os) (started : os.Started) (H : Type) (enc : TypeId × Value → H) (F : Stop.Interp) :
    ReturnsInHanded {} Tryd.checked os 3 .any ((OpenSpec.ofChange Rows.spansRunsSpec).preRow enc Tryd.prog Tryd.f3 Rows.spansRunsRow.domain false Rows.spansRunsRow.laid) (((OpenSpec.ofChange Rows.spansRunsSpec).at F).post enc Tryd.prog Tryd.f3 false true false false) := by
  obtain ⟨places, hx⟩ := reads os enc
  refine returnsInHanded_of_row (C := Tryd.checked) (s := OpenSpec.ofChange Rows.spansRunsSpec) own started (by kernel_rfl) Tryd.func3
    (witness_row_at (enc := enc) (C := Tryd.checked) false (laidWorld os) #[.int .u32 0, .slice none 0 0] rfl (by kernel_rfl) (by kernel_rfl) (by kernel_rfl)
      (OpenSpec.preRow_of_cond 8 hx (by kernel_rfl) (fun k hk => by cases hk) (by kernel_rfl) (laid_met os))) ?_
  intro W base args ds gs before hval hW _ hcond hsz hL _ _
  exact contract H enc W base args ds gs before hval hW hsz hL

theorem said : Rows.SpansRunsSaid :=
  OpenClaim.holds_of_cond 3 Tryd.f3 rfl rfl rfl rfl rfl rfl rfl ⟨rfl, rfl, rfl, rfl, rfl⟩ rfl rfl rfl rfl rfl (by kernel_rfl) Tryd.func3 (by kernel_rfl)
    (of_decide_eq_true (by kernel_rfl)) (by unfold Func.isWrapper; first | (rw [if_pos (by decide +kernel)]; kernel_rfl) | (rw [if_neg (by decide +kernel)]; exact ⟨rfl, rfl⟩))
    (fun os started H enc _ F => by rw [OpenClaim.pre_eq_preRow]; exact lifted os started H enc F)

theorem plain (f : FuncId) (fn : Func) (hf : Tryd.pinned.checked.prog.funcNamed "ropewalk/ropewalklaw03.SpansRuns" = some f) (hfn : Tryd.pinned.checked.prog.funcs[f]? = some fn) :
    false = Tryd.pinned.checked.prog.looks [] ∧ ∀ (j : Nat) t, fn.params[j]? = some t → Tryd.pinned.checked.prog.wantsStandIn t = false := by
  obtain rfl : f = 3 := Option.some.inj ((show Tryd.prog.funcNamed "ropewalk/ropewalklaw03.SpansRuns" = some 3 by kernel_rfl).symm.trans hf) |>.symm
  obtain rfl : fn = Tryd.f3 := (Option.some.inj (Tryd.func3.symm.trans hfn)).symm
  refine ⟨by kernel_rfl, fun j t ht => ?_⟩
  rw [Tryd.params3] at ht
  have hm : t ∈ [22, 23] := by simpa using Array.mem_of_getElem? ht
  have hall : ∀ t ∈ [22, 23], Tryd.prog.wantsStandIn t = false := by
    intro t ht
    simp only [List.mem_cons, List.not_mem_nil, or_false] at ht
    rcases ht with rfl | rfl <;> kernel_rfl
  exact hall t hm

/-- THE CARD -/
theorem proved : Rows.SpansRunsCardSaid :=
  Claim7.holds_tied_plain_at .later [] _ _ _ _ said (fun _ h => by cases h) (by kernel_rfl) (fun _ h => by cases h) spansRuns_row_tie rfl ⟨rfl, rfl⟩ (by kernel_rfl) rfl plain (by kernel_rfl)
#print axioms proved
end Go.Proofs.YtllipbkpbopomaaDoor.spansRuns
