/-
  For every cum and every row of short distances the law SpansAll returns true: each number between cum and High is in All or in Missing, and what is missing is not in, stands between, and rises (P3.7). Conditions: none; the table of math/bits starts as the program's text lays it (the card ties it).
-/
import Derived.Test.YtllipbkpbopomaaDoorCards
import Derived.Test.YtllipbkpbopomaaDoorTie
import Derived.WalkKit
import Derived.ProofKit
import Derived.OpenShut
import Derived.ShutString
import Derived.ChangeOld
import Derived.Below
import Derived.SizedLaws
import Derived.Deep.DeepHandedRow
import Derived.Lib.LaidTab
import Derived.Test.YtllipbkpbopomaaDoorSpFill
import Derived.Test.YtllipbkpbopomaaDoorSpMiss
namespace Go.Proofs.YtllipbkpbopomaaDoor.spansAll
open Go.ChangeShapes Go.WideShapes Go.ChangeAt Go.RowKit
set_option linter.unusedVariables false

theorem own : ownKnob Tryd.prog.godebug = none := by kernel_rfl
theorem laidOut : laidOutB Tryd.prog = true := by kernel_rfl
theorem gTab : Tryd.prog.globalNamed "math/bits.deBruijn64tab" = some 0 := by kernel_rfl
theorem gTabType : (Tryd.prog.globals[0]?).map (·.type) = some 98 := by kernel_rfl
theorem table {W : World} (h : laidMetH Tryd.prog Rows.spansAllRow.laid W) : Sp.Tab W := fun i hi =>
  (show Lib.TabIs Tryd.prog W "math/bits.deBruijn64tab" .u8 Sp.tab64 from
    Lib.tabIs_of_head (rest := []) gTab gTabType Tryd.underlying98 Tryd.underlying5 (by kernel_rfl) (by kernel_rfl) h).cell gTab i hi

theorem dist_at (c x : Nat) (hc : c < 4294967296) (hx : x < 2147483648) : Ser.dist 4294967296 (c : Int) (((c + x) % 4294967296 : Nat) : Int) = (x : Int) := by
  unfold Ser.dist
  split <;> omega
theorem dist_two (c x y : Nat) (hx : x < y) (hy : y < 2147483648) : 0 < Ser.dist 4294967296 (((c + x) % 4294967296 : Nat) : Int) (((c + y) % 4294967296 : Nat) : Int) := by
  unfold Ser.dist
  split <;> omega

set_option maxRecDepth 20000 in
set_option maxHeartbeats 1000000 in
theorem walk (a0 : Int) (a1 : Option Addr) (len1 cap1 : Nat) (z1 : List Int) (w : World) (w0 : (Lit.int .u32 a0).wf = true) (w1 : Sp.Row w a1 len1 z1) (s1 : len1 ≤ cap1 ∧ cap1 ≤ 140737488351232 ∧ (a1 = none → len1 = 0 ∧ cap1 = 0)) (ht : Sp.Tab w) :
    Calls Tryd.prog 7 #[.int .u32 a0, .slice a1 len1 cap1] w fun e w' => e = .returned (.bool true) ∧ Below w.heap.size w w' := by
  obtain ⟨cum, rfl, hcum⟩ : ∃ c : Nat, a0 = (c : Int) ∧ c < 4294967296 := by have := Ser.b32 w0; exact ⟨a0.toNat, by omega, by omega⟩
  clear w0
  obtain ⟨s1, s2, s3⟩ := s1
  have hpos := ht.pos
  go_enter Tryd.func7, Tryd.ntmps7
  go_wp2_with fail
  refine (Sp.filled cum hcum a1 len1 cap1 z1 w w1 s1 ht).mono ?_
  rintro e x1 ⟨c, L, rfl, hS, -, b1⟩
  have hT1 := ht.below b1 ht.pos
  have hc := hS.1
  obtain ⟨m1, m2, m3, m4⟩ := Sp.miss_set hS.2.1
  clear w1
  go_wp2_with fail
  refine (Sp.allS hS hT1).mono ?_
  rintro e x2 ⟨v2, rfl, o2, b2⟩
  have hT2 := hT1.below b2 hT1.pos
  have hS2 := hS.below b2 hS.lt
  obtain ⟨g2, cap2, rfl⟩ := Sp.row_len o2
  go_wp2_with fail
  refine (Sp.missingS hS2 hT2 70000 (by omega)).mono ?_
  rintro e x3 ⟨v3, rfl, o3, b3⟩
  rw [Sp.miss_blk, List.take_of_length_le (by show _ ≤ 70000; omega)] at o3
  have hT3 := hT2.below b3 hT2.pos
  have hS3 := hS2.below b3 hS2.lt
  obtain ⟨g3, cap3, rfl⟩ := Sp.row_len o3
  obtain ⟨-, a3, c3', e3, hN⟩ := Sp.nums_own o3 rfl
  cases e3
  go_wp2_with fail
  refine (Sp.cumS hS3).mono ?_
  rintro e w' ⟨rfl, rfl⟩
  go_wp2_with fail
  refine (Sp.highS hS3 hT3).mono ?_
  rintro e x4 ⟨rfl, b4⟩
  have hT4 := hT3.below b4 hT3.pos
  have hS4 := hS3.below b4 hS3.lt
  have hd := dist_at c (Sp.lastD L) hc (by omega)
  unfold Sp.tsV
  generalize hH : (((c + Sp.lastD L) % 4294967296 : Nat) : Int) = hi at hd
  have hib : 0 ≤ hi ∧ hi < 4294967296 := by omega
  go_wp2_with fail
  refine (Ser.rdiff (c : Int) hi (by omega) hib _).mono ?_
  rintro e w' ⟨rfl, rfl⟩
  rw [hd]
  have HM : Hid (L.length + (Sp.mm 1 L).length = Sp.lastD L) := m3
  have HL : Hid (Sp.lastD L ≤ 65535) := m4
  have HU : Hid (Sp.Up (Sp.mm 1 L)) := m1
  have HF : Hid (∀ y ∈ Sp.mm 1 L, 1 ≤ y ∧ y < Sp.lastD L ∧ y ∉ L) := m2
  have hlen4 := b4.size
  have hlen3 := b3.size
  have hlen2 := b2.size
  have hlen1 := b1.size
  clear m1 m2 m3 m4 hd hH o2 o3
  obtain ⟨nI, hnI⟩ : ∃ nI : Int, Hid ((Sp.lastD L : Int) = nI) := ⟨_, rfl⟩
  obtain ⟨kI, hkI⟩ : ∃ kI : Nat, Hid ((Sp.mm 1 L).length = kI) := ⟨_, rfl⟩
  obtain ⟨lI, hlI⟩ : ∃ lI : Nat, Hid (L.length = lI) := ⟨_, rfl⟩
  rw [hnI.out, hkI.out, hlI.out]
  rw [hkI.out] at hN
  have hsum : (lI : Int) + (kI : Int) = nI := by have := hnI.out; have := hkI.out; have := hlI.out; have := HM.out; omega
  have hnb : 0 ≤ nI ∧ nI ≤ 65535 := by have := hnI.out; have := HL.out; omega
  have hne : ((lI : Int) + (kI : Int) != nI) = false := by simp [hsum]
  go_wp2
  go_loopw [10] (fun i wr => ∃ q : Int, 0 ≤ q ∧ q ≤ (kI : Int) ∧ i = .int .i64 q ∧ Below x4.heap.size x4 wr) (fun i wr => kI - (intOf i).toNat)
  case atStart => exact ⟨0, by omega, by omega, rfl, Below.refl _ _⟩
  case round =>
    obtain ⟨q, hq0, hq, rfl, hB⟩ := hrel
    have hSr := hS4.below hB hS4.lt
    have hTr := hT4.below hB hT4.pos
    by_cases hlt : q < (kI : Int)
    · obtain ⟨rb, off, rfl, hrb, hcell⟩ := hN.resolve_left (by omega)
      have hB3 : Below x3.heap.size x3 wr := b4.trans (hB.mono hlen4)
      have k1 := (hB3.cell (p := ⟨rb, off + q.toNat, none⟩) hrb).trans (hcell q.toNat (by omega))
      have hx : ∀ j : Nat, j < kI → (Sp.mm 1 L).getD j 0 ∈ Sp.mm 1 L := fun j hj => by
        rw [List.getD_eq_getElem?_getD, List.getElem?_eq_getElem (by have := hkI.out; omega)]; exact List.getElem_mem _
      obtain ⟨f1, f2, f3⟩ := HF.out _ (hx q.toNat (by omega))
      have hIn : Sp.isIn c L ((c + (Sp.mm 1 L).getD q.toNat 0) % 4294967296) = false := by
        have := HL.out
        unfold Sp.isIn
        rw [dist_at c _ hc (by omega), decide_eq_false (by omega), Int.toNat_natCast, decide_eq_false f3]; rfl
      have C1 : Hid (∀ v : World, v.heap = wr.heap → Calls Tryd.prog 29 #[.pointer (some ⟨w.heap.size, 0, none⟩)] v fun e w' => e = .returned (.int .u32 (c : Int)) ∧ w' = v) := fun v hv =>
        (Sp.cumS (hSr.ofHeap hv)).mono fun e w' h => ⟨h.1, h.2.symm⟩
      have C2 : Hid (∀ v : World, v.heap = wr.heap → Calls Tryd.prog 31 #[.int .u32 (c : Int), .int .u32 (Sp.tsF c (Sp.mm 1 L) q.toNat)] v fun e w' => e = .returned (.int .i64 ((Sp.mm 1 L).getD q.toNat 0 : Int)) ∧ w' = v) := fun v hv => by
        have h := Ser.rdiff (c : Int) (Sp.tsF c (Sp.mm 1 L) q.toNat) (by omega) (by unfold Sp.tsF; omega) v
        unfold Sp.tsF at h
        rw [dist_at c _ hc (by have := HL.out; omega)] at h
        exact h.mono fun e w' h => ⟨h.1, h.2.symm⟩
      have C3 : Hid (∀ v : World, v.heap = wr.heap → Calls Tryd.prog 16 #[.pointer (some ⟨w.heap.size, 0, none⟩), .int .u32 (Sp.tsF c (Sp.mm 1 L) q.toNat)] v fun e w' => e = .returned (.bool false) ∧ w' = v) := fun v hv => by
        have h := Sp.has ((c + (Sp.mm 1 L).getD q.toNat 0) % 4294967296) (by omega) v (hSr.ofHeap hv)
        rw [hIn] at h
        exact h.mono fun e w' h => ⟨h.1, h.2.symm⟩
      have C4 : Hid (0 < q → ∀ v : World, v.heap = wr.heap → Calls Tryd.prog 33 #[.int .u32 (Sp.tsF c (Sp.mm 1 L) (q - 1).toNat), .int .u32 (Sp.tsF c (Sp.mm 1 L) q.toNat)] v fun e w' => e = .returned (.bool true) ∧ w' = v) := fun hq1 v hv => by
        have h := Ser.rless (Sp.tsF c (Sp.mm 1 L) (q - 1).toNat) (Sp.tsF c (Sp.mm 1 L) q.toNat) (by unfold Sp.tsF; omega) (by unfold Sp.tsF; omega) v
        unfold Sp.tsF at h
        have hup : (Sp.mm 1 L).getD (q - 1).toNat 0 < (Sp.mm 1 L).getD q.toNat 0 := by
          have hl := hkI.out
          have := (List.pairwise_iff_getElem.1 HU.out) (q - 1).toNat q.toNat (by omega) (by omega) (by omega)
          rw [List.getD_eq_getElem?_getD, List.getD_eq_getElem?_getD, List.getElem?_eq_getElem (by omega), List.getElem?_eq_getElem (by omega)]
          exact this
        rw [decide_eq_true (dist_two c _ _ hup (by have := HL.out; omega))] at h
        exact h.mono fun e w' h => ⟨h.1, h.2.symm⟩
      have k2 : 0 < q → wr.cell? ⟨rb, off + (q - 1).toNat, none⟩ = some (.int .u32 (Sp.tsF c (Sp.mm 1 L) (q - 1).toNat)) := fun hq1 => (hB3.cell (p := ⟨rb, off + (q - 1).toNat, none⟩) hrb).trans (hcell (q - 1).toNat (by omega))
      have hxI : 1 ≤ ((Sp.mm 1 L).getD q.toNat 0 : Int) ∧ ((Sp.mm 1 L).getD q.toNat 0 : Int) < nI := by have := hnI.out; omega
      generalize ((Sp.mm 1 L).getD q.toNat 0 : Int) = xI at C2 hxI
      generalize Sp.tsF c (Sp.mm 1 L) q.toNat = z at k1 C2 C3 C4
      generalize Sp.tsF c (Sp.mm 1 L) (q - 1).toNat = zp at k2 C4
      obtain ⟨hx1, hx2⟩ := hxI
      have HR : Hid _ := hcell
      clear hcell hx f1 f2 f3 hIn hN
      go_wp2
      go_quiet (first | (go_at_call 29; exact Calls.quiet_of_same (C1.out _ rfl)) | (go_at_call 31; exact Calls.quiet_of_same (C2.out _ rfl)))
      obtain ⟨y2, hy2, hh2⟩ : ∃ y2, wr.drewN nq = y2 ∧ Hid (y2.heap = wr.heap ∧ Below x4.heap.size x4 y2) := ⟨_, rfl, rfl, ⟨hB.os, hB.tape, hB.output, hB.size, hB.block⟩⟩
      rw [hy2]
      clear hy2
      have k1' : y2.cell? ⟨rb, off + q.toNat, none⟩ = some (.int .u32 z) := (World.cell?_of_block (by rw [hh2.out.1])).trans k1
      by_cases hq1 : 0 < q
      · have k2' : y2.cell? ⟨rb, off + (q.toNat - 1), none⟩ = some (.int .u32 zp) := by
          rw [show q.toNat - 1 = (q - 1).toNat by omega]; exact (World.cell?_of_block (by rw [hh2.out.1])).trans (k2 hq1)
        clear k2
        have hd1 : decide (xI < 1) = false := decide_eq_false (by omega)
        have hd2 : decide (nI ≤ xI) = false := decide_eq_false (by omega)
        go_wp2
        go_quiet (first | (go_at_call 16; exact Calls.quiet_of_same (C3.out _ hh2.out.1)) | (go_at_call 33; exact Calls.quiet_of_same (C4.out hq1 _ hh2.out.1)))
        obtain ⟨y3, hy3, hh3⟩ : ∃ y3, y2.drewN nq = y3 ∧ Hid (Below x4.heap.size x4 y3) := ⟨_, rfl, ⟨hh2.out.2.os, hh2.out.2.tape, hh2.out.2.output, hh2.out.2.size, hh2.out.2.block⟩⟩
        rw [hy3]
        clear hy3
        go_wp2
        go_roundw
        case rel => exact ⟨q + 1, by omega, by omega, rfl, hh3.out⟩
        case measure => simp only [intOf]; omega
      · obtain rfl : q = 0 := by omega
        have k1'' : y2.cell? ⟨rb, off, none⟩ = some (.int .u32 z) := k1'
        clear k2 k1'
        have hd1 : decide (xI < 1) = false := decide_eq_false (by omega)
        have hd2 : decide (nI ≤ xI) = false := decide_eq_false (by omega)
        go_wp2
        go_quiet (first | (go_at_call 16; exact Calls.quiet_of_same (C3.out _ hh2.out.1)))
        obtain ⟨y3, hy3, hh3⟩ : ∃ y3, y2.drewN nq = y3 ∧ Hid (Below x4.heap.size x4 y3) := ⟨_, rfl, ⟨hh2.out.2.os, hh2.out.2.tape, hh2.out.2.output, hh2.out.2.size, hh2.out.2.block⟩⟩
        rw [hy3]
        clear hy3
        go_wp2
        go_roundw
        case rel => exact ⟨0 + 1, by omega, by omega, rfl, hh3.out⟩
        case measure => simp only [intOf]; omega
    · clear hN
      go_wp2_with fail
      refine (Sp.alive wr hTr).mono ?_
      rintro e x5 ⟨rfl, b5⟩
      have hlen5 := hB.size
      go_wp2
      go_ret
      exact ⟨rfl, (((((b1.trans (b2.mono hlen1)).trans (b3.mono (by omega))).trans (b4.mono (by omega))).trans (hB.mono (by omega))).trans (b5.mono (by omega)))⟩

set_option maxRecDepth 100000 in
theorem contract (H : Type) (enc : TypeId × Value → H) (W : World) (base : Nat) (args : Array Value) (ds gs : List (DataW H)) (before : List MemPlace)
    (hval : ∀ (j : Nat) t v, Tryd.f7.params[j]? = some t → args[j]? = some v → Value.okWide Tryd.prog W .any base t v)
    (hW : DataW.Whole enc Tryd.prog Tryd.f7.params.toList Rows.spansAllSpec.vars false W args.toList ds gs before)
    (hsz0 : (DataW.weightsEach Tryd.prog (Tryd.f7.params.toList ++ Rows.spansAllSpec.plain.varTypes Tryd.prog) (ds ++ gs)).all (· ≤ reachBytes) = true)
    (hL : laidMetH Tryd.prog Rows.spansAllRow.laid W) :
    Calls Tryd.prog 7 args W fun e W' => ∃ v, e = .returned v ∧ Rows.spansAllSpec.post enc Tryd.prog Tryd.f7 false true false false W args v W' := by
  have hW' := hW
  obtain ⟨p, q, hA0, hV, rfl, hfz, hnd⟩ := hW
  have hA : DataW.TrodAll enc Tryd.prog W 0 (fun _ => true) true Tryd.f7.params.toList args.toList ds p := hA0
  have hsz := hsz0
  rw [Tryd.params7] at hA hval hsz
  obtain ⟨v0, vs0, d0, ds0, p0, q0, hargs, rfl, rfl, h0, r0⟩ := trodAll_cons hA
  obtain ⟨v1, vs1, d1, ds1, p1, q1, rfl, rfl, rfl, h1, r1⟩ := trodAll_cons r0
  obtain ⟨rfl, rfl, rfl⟩ := trodAll_nil r1
  obtain rfl : args = #[v0, v1] := by cases args; simp_all
  obtain ⟨rfl, rfl⟩ := trodVars_none hV
  obtain ⟨a0, rfl, rfl, rfl, w0⟩ := open_int Tryd.underlying22 (hval 0 22 v0 rfl rfl) h0
  obtain ⟨a1, len1, cap1, rfl⟩ := okWide_slice Tryd.underlying54 (hval 1 54 v1 rfl rfl)
  have k1 := h1
  have lt1 : ∀ x ∈ p1, x.block < W.heap.size := by obtain ⟨m, hm⟩ := k1; exact DataW.trod_lt m _ _ _ hm
  obtain ⟨z1, w1, s1⟩ : ∃ zs, Sp.Row W a1 len1 zs ∧ len1 ≤ cap1 ∧ cap1 ≤ 140737488351232 ∧ (a1 = none → len1 = 0 ∧ cap1 = 0) := by
    obtain ⟨fuel, hf⟩ := h1
    refine Sp.row_of hf fun elems spare hd => ?_
    simp only at hd
    subst hd
    have sz := sized_slice hsz (j := 1) (t := 54) (elems := elems) (spare := spare) rfl rfl Tryd.underlying54
    rw [show Tryd.prog.bytesOf 60 = 2 by kernel_rfl] at sz
    unfold reachBytes at sz
    omega
  clear hA0 hsz0 hsz
  refine (walk a0 a1 len1 cap1 z1 W w0 w1 s1 (table hL)).mono fun e W' ⟨he, bel⟩ => ?_
  subst he
  exact ⟨_, rfl, _, _, _, [], _, [], hW', trodAll_mk1 (shut_bool Tryd.underlying4 _), (trodAll_cons_mk (shut_int Tryd.underlying22 w0) (trodAll_cons_mk (Below.trod laidOut (by kernel_rfl) (of_decide_eq_true (by kernel_rfl)) k1 bel lt1) trodAll_mk0)), rfl, bel.frame _, fun h => by cases h⟩

noncomputable def laidWorld (os : Os) : World :=
  { World.holding Tryd.prog os ⟨#[], #[], []⟩ with heap := (World.holding Tryd.prog os ⟨#[], #[], []⟩).heap.modify 0 fun
      | .cells _ t frozen => .cells #[.int .u8 0, .int .u8 1, .int .u8 56, .int .u8 2, .int .u8 57, .int .u8 49, .int .u8 28, .int .u8 3, .int .u8 61, .int .u8 58, .int .u8 42, .int .u8 50, .int .u8 38, .int .u8 29, .int .u8 17, .int .u8 4, .int .u8 62, .int .u8 47, .int .u8 59, .int .u8 36, .int .u8 45, .int .u8 43, .int .u8 51, .int .u8 22, .int .u8 53, .int .u8 39, .int .u8 33, .int .u8 30, .int .u8 24, .int .u8 18, .int .u8 12, .int .u8 5, .int .u8 63, .int .u8 55, .int .u8 48, .int .u8 27, .int .u8 60, .int .u8 41, .int .u8 37, .int .u8 16, .int .u8 46, .int .u8 35, .int .u8 44, .int .u8 21, .int .u8 52, .int .u8 32, .int .u8 23, .int .u8 11, .int .u8 54, .int .u8 26, .int .u8 40, .int .u8 15, .int .u8 34, .int .u8 20, .int .u8 31, .int .u8 10, .int .u8 25, .int .u8 14, .int .u8 19, .int .u8 9, .int .u8 13, .int .u8 8, .int .u8 7, .int .u8 6] t frozen
      | o => o }
theorem laid_met (os : Os) : laidMet Tryd.prog Rows.spansAllRow.laid ((laidWorld os).forCall (fun _ _ => 0) ⟨#[], #[.int .u32 0, .slice none 0 0], []⟩).memory :=
  laidMet_of_run' 8 (by kernel_rfl) (by kernel_rfl)
theorem reads (os : Os) {H : Type} (enc : TypeId × Value → H) : ∃ places, DataW.whole enc Tryd.prog ((laidWorld os).forCall (fun _ _ => 0) ⟨#[], #[.int .u32 0, .slice none 0 0], []⟩).memory Tryd.f7.params.toList Rows.spansAllSpec.vars false #[Value.int .u32 0, Value.slice none 0 0].toList 8 = some ([.lit (.int .u32 0), .nil], [], places) :=
  ⟨[], by kernel_rfl⟩

set_option maxRecDepth 100000 in
theorem lifted (os : Os) (started : os.Started) (H : Type) (enc : TypeId × Value → H) (F : Stop.Interp) :
    ReturnsInHanded {} Tryd.checked os 7 .any ((OpenSpec.ofChange Rows.spansAllSpec).preRow enc Tryd.prog Tryd.f7 Rows.spansAllRow.domain false Rows.spansAllRow.laid) (((OpenSpec.ofChange Rows.spansAllSpec).at F).post enc Tryd.prog Tryd.f7 false true false false) := by
  obtain ⟨places, hx⟩ := reads os enc
  refine returnsInHanded_of_row (C := Tryd.checked) (s := OpenSpec.ofChange Rows.spansAllSpec) own started (by kernel_rfl) Tryd.func7
    (witness_row_at (enc := enc) (C := Tryd.checked) false (laidWorld os) #[.int .u32 0, .slice none 0 0] rfl (by kernel_rfl) (by kernel_rfl) (by kernel_rfl)
      (OpenSpec.preRow_of_cond 8 hx (by kernel_rfl) (fun k hk => by cases hk) (by kernel_rfl) (laid_met os))) ?_
  intro W base args ds gs before hval hW _ hcond hsz hL _ _
  exact contract H enc W base args ds gs before hval hW hsz hL

theorem said : Rows.SpansAllSaid :=
  OpenClaim.holds_of_cond 7 Tryd.f7 rfl rfl rfl rfl rfl rfl rfl ⟨rfl, rfl, rfl, rfl, rfl⟩ rfl rfl rfl rfl rfl (by kernel_rfl) Tryd.func7 (by kernel_rfl)
    (of_decide_eq_true (by kernel_rfl)) (by unfold Func.isWrapper; first | (rw [if_pos (by decide +kernel)]; kernel_rfl) | (rw [if_neg (by decide +kernel)]; exact ⟨rfl, rfl⟩))
    (fun os started H enc _ F => by rw [OpenClaim.pre_eq_preRow]; exact lifted os started H enc F)

theorem plain (f : FuncId) (fn : Func) (hf : Tryd.pinned.checked.prog.funcNamed "ropewalk/ropewalklaw03.SpansAll" = some f) (hfn : Tryd.pinned.checked.prog.funcs[f]? = some fn) :
    false = Tryd.pinned.checked.prog.looks [] ∧ ∀ (j : Nat) t, fn.params[j]? = some t → Tryd.pinned.checked.prog.wantsStandIn t = false := by
  obtain rfl : f = 7 := Option.some.inj ((show Tryd.prog.funcNamed "ropewalk/ropewalklaw03.SpansAll" = some 7 by kernel_rfl).symm.trans hf) |>.symm
  obtain rfl : fn = Tryd.f7 := (Option.some.inj (Tryd.func7.symm.trans hfn)).symm
  refine ⟨by kernel_rfl, fun j t ht => ?_⟩
  rw [Tryd.params7] at ht
  have hm : t ∈ [22, 54] := by simpa using Array.mem_of_getElem? ht
  have hall : ∀ t ∈ [22, 54], Tryd.prog.wantsStandIn t = false := by
    intro t ht
    simp only [List.mem_cons, List.not_mem_nil, or_false] at ht
    rcases ht with rfl | rfl <;> kernel_rfl
  exact hall t hm

/-- THE CARD -/
theorem proved : Rows.SpansAllCardSaid :=
  Claim7.holds_tied_plain_at .later [] _ _ _ _ said (fun _ h => by cases h) (by kernel_rfl) (fun _ h => by cases h) spansAll_row_tie rfl ⟨rfl, rfl⟩ (by kernel_rfl) rfl plain (by kernel_rfl)
#print axioms proved
end Go.Proofs.YtllipbkpbopomaaDoor.spansAll
