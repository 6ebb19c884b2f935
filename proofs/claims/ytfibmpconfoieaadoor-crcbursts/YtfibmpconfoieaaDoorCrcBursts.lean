/-
  For every row of bytes, every place and every 32 bits the law CrcBursts returns true: a packet with its sum in which other bits stand within 32 side by side, none of them the sum's, is not taken (P2.4). Conditions: none; the table nibbleSteps starts as the program's text lays it (the card ties it).
-/
import Derived.Test.YtfibmpconfoieaaDoorCards
import Derived.Test.YtfibmpconfoieaaDoorTie
import Derived.WalkKit
import Derived.ProofKit
import Derived.OpenShut
import Derived.ShutString
import Derived.ChangeOld
import Derived.Below
import Derived.SizedLaws
import Derived.Deep.DeepHandedRow
import Derived.Lib.LaidTab
import Derived.Test.YtfibmpconfoieaaDoorBurst
namespace Go.Proofs.YtfibmpconfoieaaDoor.crcBursts
open Go.ChangeShapes Go.WideShapes Go.ChangeAt Go.RowKit
set_option linter.unusedVariables false

theorem own : ownKnob Tryd.prog.godebug = none := by kernel_rfl
theorem laidOut : laidOutB Tryd.prog = true := by kernel_rfl
theorem gTab : Tryd.prog.globalNamed "ropewalk/crc.nibbleSteps" = some 0 := by kernel_rfl
theorem gTabType : (Tryd.prog.globals[0]?).map (·.type) = some 45 := by kernel_rfl
theorem table {W : World} (h : laidMetH Tryd.prog Rows.crcBurstsRow.laid W) : Crc.Tab W := fun i hi =>
  (show Lib.TabIs Tryd.prog W "ropewalk/crc.nibbleSteps" .u32 Crc.tab from
    Lib.tabIs_of_head (rest := []) gTab gTabType Tryd.underlying45 Tryd.underlying23 (by kernel_rfl) (by kernel_rfl) h).cell gTab i hi

theorem bit_at (B k : Nat) (hB : B < 4294967296) : bits .and .u32 ((B : Int) / 2 ^ k) 1 = ((B / 2 ^ k % 2 : Nat) : Int) := by
  have e : (B : Int) / 2 ^ k = ((B / 2 ^ k : Nat) : Int) := by simp
  have hl : B / 2 ^ k < 4294967296 := Nat.lt_of_le_of_lt (Nat.div_le_self _ _) hB
  rw [e, show (1 : Int) = ((1 : Nat) : Int) from rfl, u32_and_nat _ 1 hl (by decide), nat_mask1]
theorem turned {w wr : World} {g c len B k : Nat} {zs ys : List Int} {a1 x : Int} (HI : Crc.Inv zs B a1.toNat k ys)
    (HS : ∀ u, (wr.setCell ⟨g, ((a1 + (k : Int)) / 8).toNat, none⟩ u).ownsRow w.heap.size 5 1 (.slice (some ⟨g, 0, none⟩) len c) len ((ys.map (Value.int .u8)).set ((a1 + (k : Int)) / 8).toNat u) ∧ wr.grownBy (wr.setCell ⟨g, ((a1 + (k : Int)) / 8).toNat, none⟩ u) (some g))
    {hJ : ((a1 + (k : Int)) / 8).toNat < ys.length} (HX : ys[((a1 + (k : Int)) / 8).toNat] = x) (HZ : B / 2 ^ k % 2 = 1) (h0 : 0 ≤ a1) (hx : 0 ≤ x ∧ x < 256) (h12 : 12 ≤ zs.length) (hk : k < 32)
    (hout : a1 + 32 ≤ 64 ∨ 96 ≤ a1) (hend : a1 + 32 ≤ 8 * (len : Int)) (hbel : Below w.heap.size w wr) (hgw : w.heap.size ≤ g) :
    ∃ (k' : Nat) (ys' : List Int), k' ≤ 32 ∧ Value.int .i64 ((k : Int) + 1) = .int .i64 (k' : Int) ∧ Crc.Inv zs B a1.toNat k' ys' ∧
      Below w.heap.size w (wr.setCell ⟨g, ((a1 + (k : Int)) / 8).toNat, none⟩ (.int .u8 (bits .xor .u8 x (2 ^ ((a1 + (k : Int)) % 8).toNat % 256)))) ∧
      (wr.setCell ⟨g, ((a1 + (k : Int)) / 8).toNat, none⟩ (.int .u8 (bits .xor .u8 x (2 ^ ((a1 + (k : Int)) % 8).toNat % 256)))).ownsRow w.heap.size 5 1 (.slice (some ⟨g, 0, none⟩) len c) len (ys'.map (Value.int .u8)) := by
  have e : ((a1 + (k : Int)) / 8).toNat = (a1.toNat + k) / 8 := by omega
  have hJ2 : (a1.toNat + k) / 8 < ys.length := by omega
  have hX2 : ys[(a1.toNat + k) / 8] = x := by
    have h1 : ys[((a1 + (k : Int)) / 8).toNat]? = some x := by rw [List.getElem?_eq_getElem hJ, HX]
    rw [e, List.getElem?_eq_getElem hJ2] at h1
    exact Option.some.inj h1
  have hone := Crc.inv_one HI h12 HZ hJ2 (by omega)
  rw [hX2] at hone
  refine ⟨k + 1, _, by omega, by go_num, hone, hbel.grown (HS _).2 hbel.size (fun q hq => by cases hq; exact hgw), ?_⟩
  rw [Crc.flip_walk a1 k x h0 hx, List.map_set, ← e]
  exact (HS _).1
set_option maxHeartbeats 400000 in
theorem low (B : Nat) (a1 : Int) (b off len0 cap0 : Nat) (z0 : List Int) (w : World) (w0 : Crc.Row w (some ⟨b, off, none⟩) len0 z0) (ht : Crc.Tab w) (hcap0 : len0 ≤ cap0) (hmax0 : cap0 ≤ 140737488351232) (hge : 12 ≤ len0)
    (hB : B < 4294967296) (hB0 : B ≠ 0) (h0 : 0 ≤ a1) (h1 : a1 ≤ 8 * (len0 : Int) - 32) (h2 : a1 + 32 ≤ 64) :
    Calls Tryd.prog 6 #[.slice (some ⟨b, off, none⟩) len0 cap0, .int .i64 a1, .int .u32 (B : Int)] w fun e w' => e = .returned (.bool true) ∧ Below w.heap.size w w' := by
  have hpb := Crc.put_bytes w0.2.1
  have hlen := w0.1
  have hB2 : ((B : Int) == 0) = false := by simpa using hB0
  go_enter Tryd.func6, Tryd.ntmps6
  go_wp2_with fail
  refine (Crc.put b off len0 cap0 z0 w ht w0 hge hcap0 (by omega)).mono ?_
  rintro e w1 ⟨v1, rfl, hown1, hb1⟩
  obtain ⟨g, c1, rfl, hgw⟩ : ∃ g c, v1 = .slice (some ⟨g, 0, none⟩) len0 c ∧ w.heap.size ≤ g := by
    rcases hown1.2 with ⟨_, h0⟩ | ⟨g, gc, cur, hv, hg, _⟩
    · omega
    · exact ⟨g, gc, hv, hg⟩
  have HW : Hid _ := hown1
  clear hown1
  go_wp2
  go_loopw [9, 10] (fun i _ wr => ∃ (k : Nat) (ys : List Int), k ≤ 32 ∧ i = .int .i64 k ∧ Crc.Inv z0 B a1.toNat k ys ∧ Below w.heap.size w wr ∧ wr.ownsRow w.heap.size 5 1 (.slice (some ⟨g, 0, none⟩) len0 c1) len0 (ys.map (Value.int .u8)))
    (fun i _ _ => 32 - (intOf i).toNat)
  case atStart => exact ⟨0, _, Nat.zero_le _, rfl, Crc.inv_start (by omega) w0.2.1 B a1.toNat, hb1, HW.out⟩
  case round =>
    obtain ⟨k, ys, hk, rfl, hinv, hbel, hown⟩ := hrel
    have hyl : ys.length = len0 := hinv.1.trans hlen
    have hyb := hinv.2.1
    rcases Nat.lt_or_ge k 32 with hlt | hge2
    · have hkI : (k : Int) < 32 := by omega
      have hJ : ((a1 + (k : Int)) / 8).toNat < len0 := by omega
      have hcell := hown.cellAt ((a1 + (k : Int)) / 8).toNat (by omega)
      rw [List.getElem?_map, List.getElem?_eq_getElem (by omega), Option.map_some] at hcell
      have hxb := hyb _ (List.getElem_mem (l := ys) (n := ((a1 + (k : Int)) / 8).toNat) (by omega))
      generalize hx : ys[((a1 + (k : Int)) / 8).toNat]'(by omega) = x at hcell hxb
      have HX : Hid _ := hx
      have hfr := hown.frozenAt ((a1 + (k : Int)) / 8).toNat
      have HS : Hid (∀ u, _) := fun u => hown.stored ((a1 + (k : Int)) / 8).toNat u
      have HO : Hid _ := hown
      have HI : Hid (Crc.Inv z0 B a1.toNat k ys) := hinv
      have hbit := bit_at B k hB
      clear hown hx hinv
      rcases Nat.mod_two_eq_zero_or_one (B / 2 ^ k) with hz | hz
      · rw [hz] at hbit
        have HZ : Hid (B / 2 ^ k % 2 = 0) := hz
        clear hz
        go_wp2
        go_roundw
        case rel => exact ⟨k + 1, ys, by omega, by go_num, Crc.inv_zero HI.out HZ.out, hbel, HO.out⟩
        case measure => simp [intOf]; omega
      · rw [hz] at hbit
        have HZ : Hid (B / 2 ^ k % 2 = 1) := hz
        clear hz
        go_wp2
        go_roundw
        case rel => exact turned HI.out HS.out HX.out HZ.out h0 hxb (by omega) hlt (by omega) (by omega) hbel hgw
        case measure => simp [intOf]; omega
    · have hk32 : k = 32 := by omega
      subst hk32
      have hcode := Crc.inv_end hinv (by omega) w0.2.1 hB hB0 (by omega)
      obtain ⟨_, _, he, hrow, hcc, _, _⟩ := Crc.row_own hown hyb (by omega)
      cases he
      have HC : Hid _ := hcode
      have hT := ht.later hbel ht.pos
      clear hown hinv hcode
      go_wp2_with fail
      refine (Crc.check g 0 len0 c1 ys wr hT hrow hge hcc (by omega)).mono ?_
      rintro e w2 ⟨rfl, hb2⟩
      rw [HC.out]
      have B2 : Below w.heap.size w w2 := hbel.trans (hb2.mono hbel.size)
      go_wp2_with fail
      refine (Crc.awake w2 (ht.later B2 ht.pos)).mono ?_
      rintro e w3 ⟨rfl, hb3⟩
      go_wp2
      go_ret
      exact ⟨rfl, B2.trans (hb3.mono B2.size)⟩
set_option maxHeartbeats 400000 in
theorem high (B : Nat) (a1 : Int) (b off len0 cap0 : Nat) (z0 : List Int) (w : World) (w0 : Crc.Row w (some ⟨b, off, none⟩) len0 z0) (ht : Crc.Tab w) (hcap0 : len0 ≤ cap0) (hmax0 : cap0 ≤ 140737488351232) (hge : 12 ≤ len0)
    (hB : B < 4294967296) (hB0 : B ≠ 0) (h0 : 0 ≤ a1) (h1 : a1 ≤ 8 * (len0 : Int) - 32) (h2 : 96 ≤ a1) :
    Calls Tryd.prog 6 #[.slice (some ⟨b, off, none⟩) len0 cap0, .int .i64 a1, .int .u32 (B : Int)] w fun e w' => e = .returned (.bool true) ∧ Below w.heap.size w w' := by
  have hpb := Crc.put_bytes w0.2.1
  have hlen := w0.1
  have hB2 : ((B : Int) == 0) = false := by simpa using hB0
  go_enter Tryd.func6, Tryd.ntmps6
  go_wp2_with fail
  refine (Crc.put b off len0 cap0 z0 w ht w0 hge hcap0 (by omega)).mono ?_
  rintro e w1 ⟨v1, rfl, hown1, hb1⟩
  obtain ⟨g, c1, rfl, hgw⟩ : ∃ g c, v1 = .slice (some ⟨g, 0, none⟩) len0 c ∧ w.heap.size ≤ g := by
    rcases hown1.2 with ⟨_, h0⟩ | ⟨g, gc, cur, hv, hg, _⟩
    · omega
    · exact ⟨g, gc, hv, hg⟩
  have HW : Hid _ := hown1
  clear hown1
  go_wp2
  go_loopw [9, 10] (fun i _ wr => ∃ (k : Nat) (ys : List Int), k ≤ 32 ∧ i = .int .i64 k ∧ Crc.Inv z0 B a1.toNat k ys ∧ Below w.heap.size w wr ∧ wr.ownsRow w.heap.size 5 1 (.slice (some ⟨g, 0, none⟩) len0 c1) len0 (ys.map (Value.int .u8)))
    (fun i _ _ => 32 - (intOf i).toNat)
  case atStart => exact ⟨0, _, Nat.zero_le _, rfl, Crc.inv_start (by omega) w0.2.1 B a1.toNat, hb1, HW.out⟩
  case round =>
    obtain ⟨k, ys, hk, rfl, hinv, hbel, hown⟩ := hrel
    have hyl : ys.length = len0 := hinv.1.trans hlen
    have hyb := hinv.2.1
    rcases Nat.lt_or_ge k 32 with hlt | hge2
    · have hkI : (k : Int) < 32 := by omega
      have hJ : ((a1 + (k : Int)) / 8).toNat < len0 := by omega
      have hcell := hown.cellAt ((a1 + (k : Int)) / 8).toNat (by omega)
      rw [List.getElem?_map, List.getElem?_eq_getElem (by omega), Option.map_some] at hcell
      have hxb := hyb _ (List.getElem_mem (l := ys) (n := ((a1 + (k : Int)) / 8).toNat) (by omega))
      generalize hx : ys[((a1 + (k : Int)) / 8).toNat]'(by omega) = x at hcell hxb
      have HX : Hid _ := hx
      have hfr := hown.frozenAt ((a1 + (k : Int)) / 8).toNat
      have HS : Hid (∀ u, _) := fun u => hown.stored ((a1 + (k : Int)) / 8).toNat u
      have HO : Hid _ := hown
      have HI : Hid (Crc.Inv z0 B a1.toNat k ys) := hinv
      have hbit := bit_at B k hB
      clear hown hx hinv
      rcases Nat.mod_two_eq_zero_or_one (B / 2 ^ k) with hz | hz
      · rw [hz] at hbit
        have HZ : Hid (B / 2 ^ k % 2 = 0) := hz
        clear hz
        go_wp2
        go_roundw
        case rel => exact ⟨k + 1, ys, by omega, by go_num, Crc.inv_zero HI.out HZ.out, hbel, HO.out⟩
        case measure => simp [intOf]; omega
      · rw [hz] at hbit
        have HZ : Hid (B / 2 ^ k % 2 = 1) := hz
        clear hz
        go_wp2
        go_roundw
        case rel => exact turned HI.out HS.out HX.out HZ.out h0 hxb (by omega) hlt (by omega) (by omega) hbel hgw
        case measure => simp [intOf]; omega
    · have hk32 : k = 32 := by omega
      subst hk32
      have hcode := Crc.inv_end hinv (by omega) w0.2.1 hB hB0 (by omega)
      obtain ⟨_, _, he, hrow, hcc, _, _⟩ := Crc.row_own hown hyb (by omega)
      cases he
      have HC : Hid _ := hcode
      have hT := ht.later hbel ht.pos
      clear hown hinv hcode
      go_wp2_with fail
      refine (Crc.check g 0 len0 c1 ys wr hT hrow hge hcc (by omega)).mono ?_
      rintro e w2 ⟨rfl, hb2⟩
      rw [HC.out]
      have B2 : Below w.heap.size w w2 := hbel.trans (hb2.mono hbel.size)
      go_wp2_with fail
      refine (Crc.awake w2 (ht.later B2 ht.pos)).mono ?_
      rintro e w3 ⟨rfl, hb3⟩
      go_wp2
      go_ret
      exact ⟨rfl, B2.trans (hb3.mono B2.size)⟩

theorem walk (a0 : Option Addr) (len0 cap0 : Nat) (z0 : List Int) (a1 : Int) (a2 : Int) (w : World) (w0 : Crc.Row w a0 len0 z0) (s0 : len0 ≤ cap0 ∧ cap0 ≤ 140737488351232 ∧ (a0 = none → len0 = 0 ∧ cap0 = 0)) (w1 : (Lit.int .i64 a1).wf = true) (w2 : (Lit.int .u32 a2).wf = true) (ht : Crc.Tab w) :
    Calls Tryd.prog 6 #[.slice a0 len0 cap0, .int .i64 a1, .int .u32 a2] w fun e w' => e = .returned (.bool true) ∧ Below w.heap.size w w' := by
  obtain ⟨hcap0, hmax0, hnn0⟩ := s0
  clear hnn0
  obtain ⟨B, rfl, hB⟩ := Crc.u32_nat w2
  have hwf : -9223372036854775808 ≤ a1 ∧ a1 ≤ 9223372036854775807 := by
    simp [Lit.wf, IntKind.min, IntKind.max, IntKind.signed, IntKind.bits] at w1
    exact w1
  clear w1 w2
  have hlen := w0.1
  rcases Nat.lt_or_ge len0 12 with hlt | hge
  · go_enter Tryd.func6, Tryd.ntmps6
    go_wp2_with fail
    refine (Crc.put_brief a0 len0 cap0 w hlt).mono ?_
    rintro e w' ⟨rfl, rfl⟩
    go_wp2_with fail
    refine (Crc.awake w ht).mono ?_
    rintro e w' ⟨rfl, hb⟩
    go_wp2
    go_ret
    exact ⟨rfl, hb⟩
  · obtain ⟨b, off, rfl, _⟩ := w0.2.2.2.resolve_left (by omega)
    have hpb := Crc.put_bytes w0.2.1
    have hB1 : B ≠ 0 → ((B : Int) == 0) = false := fun h => by simpa using h
    by_cases hgo : B = 0 ∨ a1 < 0 ∨ a1 > 8 * (len0 : Int) - 32 ∨ (a1 < 96 ∧ a1 > 32)
    · rcases Nat.eq_zero_or_pos B with rfl | hpos
      · clear hgo hB1
        go_enter Tryd.func6, Tryd.ntmps6
        go_wp2_with fail
        refine (Crc.put b off len0 cap0 z0 w ht w0 hge hcap0 (by omega)).mono ?_
        rintro e w1 ⟨v1, rfl, hown1, hb1⟩
        obtain ⟨p1, c1, rfl, _⟩ := Crc.row_own hown1 hpb (by omega)
        have hT := ht.later hb1 ht.pos
        clear hown1
        go_wp2_with fail
        all_goals (refine (Crc.awake w1 hT).mono ?_; rintro e w2 ⟨rfl, hb2⟩; go_wp2; go_ret; exact ⟨rfl, hb1.trans (hb2.mono hb1.size)⟩)
      · have hB2 := hB1 (by omega)
        clear hB1
        have hg2 : a1 < 0 ∨ (0 ≤ a1 ∧ 8 * (len0 : Int) - 32 < a1) ∨ (0 ≤ a1 ∧ a1 ≤ 8 * (len0 : Int) - 32 ∧ a1 < 96 ∧ 64 < a1 + 32) := by omega
        clear hgo
        rcases hg2 with h1 | ⟨h1, h2⟩ | ⟨h1, h2, h3, h4⟩
        all_goals (
          go_enter Tryd.func6, Tryd.ntmps6
          go_wp2_with fail
          refine (Crc.put b off len0 cap0 z0 w ht w0 hge hcap0 (by omega)).mono ?_
          rintro e w1 ⟨v1, rfl, hown1, hb1⟩
          obtain ⟨p1, c1, rfl, _⟩ := Crc.row_own hown1 hpb (by omega)
          have hT := ht.later hb1 ht.pos
          clear hown1
          go_wp2_with fail
          all_goals (refine (Crc.awake w1 hT).mono ?_; rintro e w2 ⟨rfl, hb2⟩; go_wp2; go_ret; exact ⟨rfl, hb1.trans (hb2.mono hb1.size)⟩))
    · obtain ⟨hB0, h0, h1, h2⟩ : B ≠ 0 ∧ 0 ≤ a1 ∧ a1 ≤ 8 * (len0 : Int) - 32 ∧ (a1 + 32 ≤ 64 ∨ 96 ≤ a1) := by omega
      clear hgo hB1
      rcases h2 with h2 | h2
      · exact low B a1 b off len0 cap0 z0 w w0 ht hcap0 hmax0 hge hB hB0 h0 h1 h2
      · exact high B a1 b off len0 cap0 z0 w w0 ht hcap0 hmax0 hge hB hB0 h0 h1 h2

theorem contract (H : Type) (enc : TypeId × Value → H) (W : World) (base : Nat) (args : Array Value) (ds gs : List (DataW H)) (before : List MemPlace)
    (hval : ∀ (j : Nat) t v, Tryd.f6.params[j]? = some t → args[j]? = some v → Value.okWide Tryd.prog W .any base t v)
    (hW : DataW.Whole enc Tryd.prog Tryd.f6.params.toList Rows.crcBurstsSpec.vars false W args.toList ds gs before)
    (hsz0 : (DataW.weightsEach Tryd.prog (Tryd.f6.params.toList ++ Rows.crcBurstsSpec.plain.varTypes Tryd.prog) (ds ++ gs)).all (· ≤ reachBytes) = true)
    (hL : laidMetH Tryd.prog Rows.crcBurstsRow.laid W) :
    Calls Tryd.prog 6 args W fun e W' => ∃ v, e = .returned v ∧ Rows.crcBurstsSpec.post enc Tryd.prog Tryd.f6 false true false false W args v W' := by
  have hW' := hW
  obtain ⟨p, q, hA0, hV, rfl, hfz, hnd⟩ := hW
  have hA : DataW.TrodAll enc Tryd.prog W 0 (fun _ => true) true Tryd.f6.params.toList args.toList ds p := hA0
  have hsz := hsz0
  rw [Tryd.params6] at hA hval hsz
  obtain ⟨v0, vs0, d0, ds0, p0, q0, hargs, rfl, rfl, h0, r0⟩ := trodAll_cons hA
  obtain ⟨v1, vs1, d1, ds1, p1, q1, rfl, rfl, rfl, h1, r1⟩ := trodAll_cons r0
  obtain ⟨v2, vs2, d2, ds2, p2, q2, rfl, rfl, rfl, h2, r2⟩ := trodAll_cons r1
  obtain ⟨rfl, rfl, rfl⟩ := trodAll_nil r2
  obtain rfl : args = #[v0, v1, v2] := by cases args; simp_all
  obtain ⟨rfl, rfl⟩ := trodVars_none hV
  obtain ⟨a0, len0, cap0, rfl⟩ := okWide_slice Tryd.underlying22 (hval 0 22 v0 rfl rfl)
  have k0 := h0
  have lt0 : ∀ x ∈ p0, x.block < W.heap.size := by obtain ⟨m, hm⟩ := k0; exact DataW.trod_lt m _ _ _ hm
  obtain ⟨z0, w0, s0⟩ : ∃ zs, Crc.Row W a0 len0 zs ∧ len0 ≤ cap0 ∧ cap0 ≤ 140737488351232 ∧ (a0 = none → len0 = 0 ∧ cap0 = 0) := by
    obtain ⟨fuel, hf⟩ := h0
    refine Crc.row_of hf fun elems spare hd => ?_
    simp only at hd
    subst hd
    have sz := sized_slice hsz (j := 0) (t := 22) (elems := elems) (spare := spare) rfl rfl Tryd.underlying22
    rw [show Tryd.prog.bytesOf 5 = 1 by kernel_rfl, Nat.mul_one] at sz
    exact sz
  obtain ⟨a1, rfl, rfl, rfl, w1⟩ := open_int Tryd.underlying3 (hval 1 3 v1 rfl rfl) h1
  obtain ⟨a2, rfl, rfl, rfl, w2⟩ := open_int Tryd.underlying23 (hval 2 23 v2 rfl rfl) h2
  clear hA0 hsz0 hsz
  refine (walk a0 len0 cap0 z0 a1 a2 W w0 s0 w1 w2 (table hL)).mono fun e W' ⟨he, bel⟩ => ?_
  subst he
  exact ⟨_, rfl, _, _, _, [], _, [], hW', trodAll_mk1 (shut_bool Tryd.underlying4 _), (trodAll_cons_mk (Below.trod laidOut (by kernel_rfl) (of_decide_eq_true (by kernel_rfl)) k0 bel lt0) (trodAll_cons_mk (shut_int Tryd.underlying3 w1) (trodAll_cons_mk (shut_int Tryd.underlying23 w2) trodAll_mk0))), rfl, bel.frame _, fun h => by cases h⟩

noncomputable def laidWorld (os : Os) : World :=
  { World.holding Tryd.prog os ⟨#[], #[], []⟩ with heap := (World.holding Tryd.prog os ⟨#[], #[], []⟩).heap.modify 0 fun
      | .cells _ t frozen => .cells #[.int .u32 0, .int .u32 274646895, .int .u32 549293790, .int .u32 820201905, .int .u32 1098587580, .int .u32 1361435347, .int .u32 1640403810, .int .u32 1905808397, .int .u32 2197175160, .int .u32 2460548119, .int .u32 2722870694, .int .u32 2987750089, .int .u32 3280807620, .int .u32 3553878443, .int .u32 3811616794, .int .u32 4084100981] t frozen
      | o => o }
theorem laid_met (os : Os) : laidMet Tryd.prog Rows.crcBurstsRow.laid ((laidWorld os).forCall (fun _ _ => 0) ⟨#[], #[.slice none 0 0, .int .i64 0, .int .u32 0], []⟩).memory :=
  laidMet_of_run' 8 (by kernel_rfl) (by kernel_rfl)
theorem reads (os : Os) {H : Type} (enc : TypeId × Value → H) : ∃ places, DataW.whole enc Tryd.prog ((laidWorld os).forCall (fun _ _ => 0) ⟨#[], #[.slice none 0 0, .int .i64 0, .int .u32 0], []⟩).memory Tryd.f6.params.toList Rows.crcBurstsSpec.vars false #[Value.slice none 0 0, Value.int .i64 0, Value.int .u32 0].toList 8 = some ([.nil, .lit (.int .i64 0), .lit (.int .u32 0)], [], places) :=
  ⟨[], by kernel_rfl⟩

set_option maxRecDepth 100000 in
theorem lifted (os : Os) (started : os.Started) (H : Type) (enc : TypeId × Value → H) (F : Stop.Interp) :
    ReturnsInHanded {} Tryd.checked os 6 .any ((OpenSpec.ofChange Rows.crcBurstsSpec).preRow enc Tryd.prog Tryd.f6 Rows.crcBurstsRow.domain false Rows.crcBurstsRow.laid) (((OpenSpec.ofChange Rows.crcBurstsSpec).at F).post enc Tryd.prog Tryd.f6 false true false false) := by
  obtain ⟨places, hx⟩ := reads os enc
  refine returnsInHanded_of_row (C := Tryd.checked) (s := OpenSpec.ofChange Rows.crcBurstsSpec) own started (by kernel_rfl) Tryd.func6
    (witness_row_at (enc := enc) (C := Tryd.checked) false (laidWorld os) #[.slice none 0 0, .int .i64 0, .int .u32 0] rfl (by kernel_rfl) (by kernel_rfl) (by kernel_rfl)
      (OpenSpec.preRow_of_cond 8 hx (by kernel_rfl) (fun k hk => by cases hk) (by kernel_rfl) (laid_met os))) ?_
  intro W base args ds gs before hval hW _ hcond hsz hL _ _
  exact contract H enc W base args ds gs before hval hW hsz hL

theorem said : Rows.CrcBurstsSaid :=
  OpenClaim.holds_of_cond 6 Tryd.f6 rfl rfl rfl rfl rfl rfl rfl ⟨rfl, rfl, rfl, rfl, rfl⟩ rfl rfl rfl rfl rfl (by kernel_rfl) Tryd.func6 (by kernel_rfl)
    (of_decide_eq_true (by kernel_rfl)) (by unfold Func.isWrapper; first | (rw [if_pos (by decide +kernel)]; kernel_rfl) | (rw [if_neg (by decide +kernel)]; exact ⟨rfl, rfl⟩))
    (fun os started H enc _ F => by rw [OpenClaim.pre_eq_preRow]; exact lifted os started H enc F)

theorem plain (f : FuncId) (fn : Func) (hf : Tryd.pinned.checked.prog.funcNamed "ropewalk/ropewalklaw02.CrcBursts" = some f) (hfn : Tryd.pinned.checked.prog.funcs[f]? = some fn) :
    false = Tryd.pinned.checked.prog.looks [] ∧ ∀ (j : Nat) t, fn.params[j]? = some t → Tryd.pinned.checked.prog.wantsStandIn t = false := by
  obtain rfl : f = 6 := Option.some.inj ((show Tryd.prog.funcNamed "ropewalk/ropewalklaw02.CrcBursts" = some 6 by kernel_rfl).symm.trans hf) |>.symm
  obtain rfl : fn = Tryd.f6 := (Option.some.inj (Tryd.func6.symm.trans hfn)).symm
  refine ⟨by kernel_rfl, fun j t ht => ?_⟩
  rw [Tryd.params6] at ht
  have hm : t ∈ [22, 3, 23] := by simpa using Array.mem_of_getElem? ht
  have hall : ∀ t ∈ [22, 3, 23], Tryd.prog.wantsStandIn t = false := by
    intro t ht
    simp only [List.mem_cons, List.not_mem_nil, or_false] at ht
    rcases ht with rfl | rfl | rfl <;> kernel_rfl
  exact hall t hm

/-- THE CARD -/
theorem proved : Rows.CrcBurstsCardSaid :=
  Claim7.holds_tied_plain_at .later [] _ _ _ _ said (fun _ h => by cases h) (by kernel_rfl) (fun _ h => by cases h) crcBursts_row_tie rfl ⟨rfl, rfl⟩ (by kernel_rfl) rfl plain (by kernel_rfl)
#print axioms proved
end Go.Proofs.YtfibmpconfoieaaDoor.crcBursts
