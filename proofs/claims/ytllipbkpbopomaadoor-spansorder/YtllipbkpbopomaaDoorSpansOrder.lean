/-
  For every cum and every row of short distances the law SpansOrder returns true: the same numbers, put in backwards, make the same set (P3.6). Conditions: none; the table of math/bits starts as the program's text lays it (the card ties it).
-/
import Derived.Test.YtllipbkpbopomaaDoorCards
import Derived.Test.YtllipbkpbopomaaDoorTie
import Derived.WalkKit
import Derived.ProofKit
import Derived.OpenShut
import Derived.ShutString
import Derived.ChangeOld
import Derived.Below
import Derived.SizedLaws
import Derived.Deep.DeepHandedRow
import Derived.Lib.LaidTab
import Derived.Test.YtllipbkpbopomaaDoorSpFill
namespace Go.Proofs.YtllipbkpbopomaaDoor.spansOrder
open Go.ChangeShapes Go.WideShapes Go.ChangeAt Go.RowKit
set_option linter.unusedVariables false

theorem own : ownKnob Tryd.prog.godebug = none := by kernel_rfl
theorem laidOut : laidOutB Tryd.prog = true := by kernel_rfl
theorem gTab : Tryd.prog.globalNamed "math/bits.deBruijn64tab" = some 0 := by kernel_rfl
theorem gTabType : (Tryd.prog.globals[0]?).map (·.type) = some 98 := by kernel_rfl
theorem table {W : World} (h : laidMetH Tryd.prog Rows.spansOrderRow.laid W) : Sp.Tab W := fun i hi =>
  (show Lib.TabIs Tryd.prog W "math/bits.deBruijn64tab" .u8 Sp.tab64 from
    Lib.tabIs_of_head (rest := []) gTab gTabType Tryd.underlying98 Tryd.underlying5 (by kernel_rfl) (by kernel_rfl) h).cell gTab i hi

theorem info60 : (Tryd.prog.info? 60).map (fun i => (i.zero, i.size, i.bytes)) = some (some (.int .u16 0), 1, 2) := by kernel_rfl
/-- the last q of a row, backwards -/
def tailB (zs : List Int) (q : Nat) : List Int := (zs.drop q).reverse
theorem tailB_step (zs : List Int) (q : Nat) (h : q < zs.length) : tailB zs q = tailB zs (q + 1) ++ [zs.getD q 0] := by
  unfold tailB
  rw [List.drop_eq_getElem_cons h, List.reverse_cons, List.getD_eq_getElem?_getD, List.getElem?_eq_getElem h]; rfl
theorem row_back {w : World} {base n : Nat} {v : Value} {zs : List Int} (h : w.ownsRow base 60 1 v n (zs.map (Value.int .u16))) (hn : zs.length = n) (hb : ∀ z ∈ zs, 0 ≤ z ∧ z < 65536) (h3 : n ≤ 300) : ∃ a cap, v = .slice a n cap ∧ Sp.Row w a n zs ∧ n ≤ cap := by
  rcases h.2 with ⟨rfl, rfl⟩ | ⟨g, cap, cur, rfl, hbb, hg, hnc, _⟩
  · exact ⟨none, 0, rfl, ⟨hn, hb, by omega, .inl rfl⟩, Nat.le_refl _⟩
  · refine ⟨_, cap, rfl, ⟨hn, hb, by omega, .inr ⟨g, 0, rfl, (Array.getElem?_eq_some_iff.1 hg).1, fun j hj => ?_⟩⟩, hnc⟩
    rw [Nat.zero_add, h.cellAt j (by omega), List.getElem?_map, List.getElem?_eq_getElem (by omega), List.getD_eq_getElem?_getD, List.getElem?_eq_getElem (by omega)]; rfl
theorem same_dists (zs : List Int) (h : zs.length ≤ 300) (d : Nat) : d ∈ Sp.dists zs ↔ d ∈ Sp.dists zs.reverse := by
  unfold Sp.dists
  rw [List.take_of_length_le h, List.take_of_length_le (by simpa using h)]
  simp
theorem row_cut {w : World} {a : Option Addr} {len : Nat} {zs : List Int} (h : Sp.Row w a len zs) (hl : 300 < len) : Sp.Row w a 300 (zs.take 300) := by
  obtain ⟨h1, h2, h3, h4⟩ := h
  refine ⟨by rw [List.length_take]; omega, fun z hz => h2 z (List.mem_of_mem_take hz), by omega, .inr ?_⟩
  obtain ⟨b, off, rfl, hb, hc⟩ := h4.resolve_left (by omega)
  refine ⟨b, off, rfl, hb, fun j hj => ?_⟩
  rw [hc j (by omega), List.getD_eq_getElem?_getD, List.getD_eq_getElem?_getD, List.getElem?_take, if_pos hj]

set_option maxRecDepth 20000 in
set_option maxHeartbeats 1000000 in
theorem walk (a0 : Int) (a1 : Option Addr) (len1 cap1 : Nat) (z1 : List Int) (w : World) (w0 : (Lit.int .u32 a0).wf = true) (w1 : Sp.Row w a1 len1 z1) (s1 : len1 ≤ cap1 ∧ cap1 ≤ 140737488351232 ∧ (a1 = none → len1 = 0 ∧ cap1 = 0)) (ht : Sp.Tab w) :
    Calls Tryd.prog 6 #[.int .u32 a0, .slice a1 len1 cap1] w fun e w' => e = .returned (.bool true) ∧ Below w.heap.size w w' := by
  obtain ⟨cum, rfl, hcum⟩ : ∃ c : Nat, a0 = (c : Int) ∧ c < 4294967296 := by have := Ser.b32 w0; exact ⟨a0.toNat, by omega, by omega⟩
  clear w0
  obtain ⟨i0, hi, hz0, hz1, hz2⟩ := info_parts info60
  obtain ⟨s1, s2, s3⟩ := s1
  have hpos := ht.pos
  by_cases hlen : 300 < len1
  · have hr := row_cut w1 hlen
    generalize z1.take 300 = zz at hr
    obtain ⟨e1, e2, e3, e4⟩ := hr
    go_enter Tryd.func6, Tryd.ntmps6
    go_wp2
    rw [show decide ((300 : Int) < (len1 : Int)) = true from decide_eq_true (by omega)]
    go_loopw [5, 6] (fun v i wr => ∃ q : Int, -1 ≤ q ∧ q < (300 : Int) ∧ i = .int .i64 q ∧ wr.ownsRow w.heap.size 60 1 v (tailB zz (q + 1).toNat).length ((tailB zz (q + 1).toNat).map (Value.int .u16)) ∧ Below w.heap.size w wr) (fun v i wr => (intOf i + 1).toNat)
    case atStart => exact ⟨(300 : Int) - 1, by omega, by omega, rfl, by rw [show tailB zz ((300 : Int) - 1 + 1).toNat = [] by unfold tailB; rw [List.drop_of_length_le (by omega)]; rfl]; exact World.ownsRow_nil _ _ _ _, Below.refl _ _⟩
    case round =>
      obtain ⟨q, hq0, hq, rfl, ho, hB⟩ := hrel
      have hsz := hB.size
      by_cases hge : 0 ≤ q
      · obtain ⟨rb, off, rfl, hrb, hc⟩ := e4.resolve_left (by omega)
        have hcell := (hB.cell (p := ⟨rb, off + q.toNat, none⟩) hrb).trans (hc q.toNat (by omega))
        have hst : Hid (tailB zz q.toNat = tailB zz (q + 1).toNat ++ [zz.getD q.toNat 0]) := by
          unfold Hid; rw [show (q + 1).toNat = q.toNat + 1 by omega]; exact tailB_step zz _ (by omega)
        have htl : (tailB zz (q + 1).toNat).length ≤ 300 := by unfold tailB; simp; omega
        have hzb := Sp.at_b16 zz e2 q.toNat
        generalize zz.getD q.toNat 0 = z at hcell hst hzb
        generalize tailB zz (q + 1).toNat = X at ho hst htl
        go_wp2_with (at_builtin; refine wpList_append_own _ rfl _ _ 54 rfl w.heap.size 60 i0 (.int .u16 0) 1 2 Tryd.underlying54 hi hz0 hz1 hz2 rfl (by decide) _ _ _ rfl (ho.alloc _) ⟨wr.heap.size, 0, none⟩ 1 1 [.int .u16 z] rfl rfl (cell_one_new _ _ _) (by simp [Value.oneCell']) ?d3 ?d4 (by simp; omega) ?_)
        case d3 => unfold maxLen; omega
        case d4 => omega
        intro v' w2 ho2 hg2 _
        have hB2 : Below w.heap.size w w2 := (hB.alloc hsz _).grown hg2 (by simp; omega) fun k hk => (ho.lt k hk).1
        have ho3 : Hid (w2.ownsRow w.heap.size 60 1 v' (tailB zz q.toNat).length ((tailB zz q.toNat).map (Value.int .u16))) := by
          unfold Hid; rw [hst.out, List.length_append, List.map_append]; exact ho2
        clear ho ho2 hg2 hc hcell
        go_wp2
        go_roundw
        case rel => exact ⟨q - 1, by omega, by omega, rfl, by rw [show q - 1 + 1 = q by omega]; exact ho3.out, hB2⟩
        case measure => simp only [intOf]; omega
      · obtain rfl : q = -1 := by omega
        have htz : Hid (tailB zz ((-1 : Int) + 1).toNat = zz.reverse) := rfl
        rw [htz.out, show zz.reverse.length = 300 by simp [e1]] at ho
        obtain ⟨va, vc, rfl, hrB, hcapB⟩ := row_back ho (by simp [e1]) (fun z hz => e2 z (by simpa using hz)) (by omega)
        have hrA : Sp.Row wr a1 300 zz := (show Sp.Row w a1 300 zz from ⟨e1, e2, e3, e4⟩).later hB
        have hTr : Sp.Tab wr := ht.below hB hpos
        clear ho e3 e4
        go_wp2_with fail
        refine (Sp.filled cum hcum a1 300 cap1 zz wr hrA (by omega) hTr).mono ?_
        rintro e x1 ⟨cA, LA, rfl, hSA, hCA, b1⟩
        have hT1 := hTr.below b1 hTr.pos
        have hrB1 := hrB.later b1
        go_wp2_with fail
        refine (Sp.filled cum hcum va _ vc _ x1 hrB1 hcapB hT1).mono ?_
        rintro e x2 ⟨cB, LB, rfl, hSB, hCB, b2⟩
        have hT2 := hT1.below b2 hT1.pos
        have hSA2 := hSA.below b2 hSA.lt
        obtain ⟨hcc, hLL⟩ := Sp.canon_same hCA hCB hSA.2.1 hSB.2.1 (same_dists zz (by omega))
        subst hcc
        subst hLL
        have hbA := hSA.lt
        go_wp2_with fail
        refine (Sp.cumS hSA2).mono ?_
        rintro e w' ⟨rfl, rfl⟩
        go_wp2_with fail
        refine (Sp.cumS hSB).mono ?_
        rintro e w' ⟨rfl, rfl⟩
        go_wp2_with fail
        refine (Sp.allS hSA2 hT2).mono ?_
        rintro e x3 ⟨v3, rfl, o3, b3⟩
        have hT3 := hT2.below b3 hT2.pos
        have hSB3 := hSB.below b3 hSB.lt
        have n3 := Sp.nums_own o3 rfl
        go_wp2_with fail
        refine (Sp.allS hSB3 hT3).mono ?_
        rintro e x4 ⟨v4, rfl, o4, b4⟩
        have hT4 := hT3.below b4 hT3.pos
        have n4 := Sp.nums_own o4 rfl
        have n3' := n3.later b4
        go_wp2_with fail
        refine (Sp.numbers x4 v3 v4 _ _ n3' n4).mono ?_
        rintro e x5 ⟨rfl, b5⟩
        have hT5 := hT4.below b5 hT4.pos
        go_wp2_with fail
        refine (Sp.alive x5 hT5).mono ?_
        rintro e x6 ⟨rfl, b6⟩
        have t1 := b1.size
        have t2 := b2.size
        have t3 := b3.size
        have t4 := b4.size
        have t5 := b5.size
        go_wp2
        go_ret
        exact ⟨rfl, (((((hB.trans (b1.mono (by omega))).trans (b2.mono (by omega))).trans (b3.mono (by omega))).trans (b4.mono (by omega))).trans (b5.mono (by omega))).trans (b6.mono (by omega))⟩
  · have hr := w1
    have hl3 : len1 ≤ 300 := by omega
    obtain ⟨e1, e2, e3, e4⟩ := hr
    go_enter Tryd.func6, Tryd.ntmps6
    go_wp2
    rw [show decide ((300 : Int) < (len1 : Int)) = false from decide_eq_false (by omega)]
    go_loopw [5, 6] (fun v i wr => ∃ q : Int, -1 ≤ q ∧ q < (len1 : Int) ∧ i = .int .i64 q ∧ wr.ownsRow w.heap.size 60 1 v (tailB z1 (q + 1).toNat).length ((tailB z1 (q + 1).toNat).map (Value.int .u16)) ∧ Below w.heap.size w wr) (fun v i wr => (intOf i + 1).toNat)
    case atStart => exact ⟨(len1 : Int) - 1, by omega, by omega, rfl, by rw [show tailB z1 ((len1 : Int) - 1 + 1).toNat = [] by unfold tailB; rw [List.drop_of_length_le (by omega)]; rfl]; exact World.ownsRow_nil _ _ _ _, Below.refl _ _⟩
    case round =>
      obtain ⟨q, hq0, hq, rfl, ho, hB⟩ := hrel
      have hsz := hB.size
      by_cases hge : 0 ≤ q
      · obtain ⟨rb, off, rfl, hrb, hc⟩ := e4.resolve_left (by omega)
        have hcell := (hB.cell (p := ⟨rb, off + q.toNat, none⟩) hrb).trans (hc q.toNat (by omega))
        have hst : Hid (tailB z1 q.toNat = tailB z1 (q + 1).toNat ++ [z1.getD q.toNat 0]) := by
          unfold Hid; rw [show (q + 1).toNat = q.toNat + 1 by omega]; exact tailB_step z1 _ (by omega)
        have htl : (tailB z1 (q + 1).toNat).length ≤ 300 := by unfold tailB; simp; omega
        have hzb := Sp.at_b16 z1 e2 q.toNat
        generalize z1.getD q.toNat 0 = z at hcell hst hzb
        generalize tailB z1 (q + 1).toNat = X at ho hst htl
        go_wp2_with (at_builtin; refine wpList_append_own _ rfl _ _ 54 rfl w.heap.size 60 i0 (.int .u16 0) 1 2 Tryd.underlying54 hi hz0 hz1 hz2 rfl (by decide) _ _ _ rfl (ho.alloc _) ⟨wr.heap.size, 0, none⟩ 1 1 [.int .u16 z] rfl rfl (cell_one_new _ _ _) (by simp [Value.oneCell']) ?d5 ?d6 (by simp; omega) ?_)
        case d5 => unfold maxLen; omega
        case d6 => omega
        intro v' w2 ho2 hg2 _
        have hB2 : Below w.heap.size w w2 := (hB.alloc hsz _).grown hg2 (by simp; omega) fun k hk => (ho.lt k hk).1
        have ho3 : Hid (w2.ownsRow w.heap.size 60 1 v' (tailB z1 q.toNat).length ((tailB z1 q.toNat).map (Value.int .u16))) := by
          unfold Hid; rw [hst.out, List.length_append, List.map_append]; exact ho2
        clear ho ho2 hg2 hc hcell
        go_wp2
        go_roundw
        case rel => exact ⟨q - 1, by omega, by omega, rfl, by rw [show q - 1 + 1 = q by omega]; exact ho3.out, hB2⟩
        case measure => simp only [intOf]; omega
      · obtain rfl : q = -1 := by omega
        have htz : Hid (tailB z1 ((-1 : Int) + 1).toNat = z1.reverse) := rfl
        rw [htz.out, show z1.reverse.length = len1 by simp [e1]] at ho
        obtain ⟨va, vc, rfl, hrB, hcapB⟩ := row_back ho (by simp [e1]) (fun z hz => e2 z (by simpa using hz)) (by omega)
        have hrA : Sp.Row wr a1 len1 z1 := (show Sp.Row w a1 len1 z1 from ⟨e1, e2, e3, e4⟩).later hB
        have hTr : Sp.Tab wr := ht.below hB hpos
        clear ho e3 e4
        go_wp2_with fail
        refine (Sp.filled cum hcum a1 len1 cap1 z1 wr hrA (by omega) hTr).mono ?_
        rintro e x1 ⟨cA, LA, rfl, hSA, hCA, b1⟩
        have hT1 := hTr.below b1 hTr.pos
        have hrB1 := hrB.later b1
        go_wp2_with fail
        refine (Sp.filled cum hcum va _ vc _ x1 hrB1 hcapB hT1).mono ?_
        rintro e x2 ⟨cB, LB, rfl, hSB, hCB, b2⟩
        have hT2 := hT1.below b2 hT1.pos
        have hSA2 := hSA.below b2 hSA.lt
        obtain ⟨hcc, hLL⟩ := Sp.canon_same hCA hCB hSA.2.1 hSB.2.1 (same_dists z1 (by omega))
        subst hcc
        subst hLL
        have hbA := hSA.lt
        go_wp2_with fail
        refine (Sp.cumS hSA2).mono ?_
        rintro e w' ⟨rfl, rfl⟩
        go_wp2_with fail
        refine (Sp.cumS hSB).mono ?_
        rintro e w' ⟨rfl, rfl⟩
        go_wp2_with fail
        refine (Sp.allS hSA2 hT2).mono ?_
        rintro e x3 ⟨v3, rfl, o3, b3⟩
        have hT3 := hT2.below b3 hT2.pos
        have hSB3 := hSB.below b3 hSB.lt
        have n3 := Sp.nums_own o3 rfl
        go_wp2_with fail
        refine (Sp.allS hSB3 hT3).mono ?_
        rintro e x4 ⟨v4, rfl, o4, b4⟩
        have hT4 := hT3.below b4 hT3.pos
        have n4 := Sp.nums_own o4 rfl
        have n3' := n3.later b4
        go_wp2_with fail
        refine (Sp.numbers x4 v3 v4 _ _ n3' n4).mono ?_
        rintro e x5 ⟨rfl, b5⟩
        have hT5 := hT4.below b5 hT4.pos
        go_wp2_with fail
        refine (Sp.alive x5 hT5).mono ?_
        rintro e x6 ⟨rfl, b6⟩
        have t1 := b1.size
        have t2 := b2.size
        have t3 := b3.size
        have t4 := b4.size
        have t5 := b5.size
        go_wp2
        go_ret
        exact ⟨rfl, (((((hB.trans (b1.mono (by omega))).trans (b2.mono (by omega))).trans (b3.mono (by omega))).trans (b4.mono (by omega))).trans (b5.mono (by omega))).trans (b6.mono (by omega))⟩

set_option maxRecDepth 100000 in
theorem contract (H : Type) (enc : TypeId × Value → H) (W : World) (base : Nat) (args : Array Value) (ds gs : List (DataW H)) (before : List MemPlace)
    (hval : ∀ (j : Nat) t v, Tryd.f6.params[j]? = some t → args[j]? = some v → Value.okWide Tryd.prog W .any base t v)
    (hW : DataW.Whole enc Tryd.prog Tryd.f6.params.toList Rows.spansOrderSpec.vars false W args.toList ds gs before)
    (hsz0 : (DataW.weightsEach Tryd.prog (Tryd.f6.params.toList ++ Rows.spansOrderSpec.plain.varTypes Tryd.prog) (ds ++ gs)).all (· ≤ reachBytes) = true)
    (hL : laidMetH Tryd.prog Rows.spansOrderRow.laid W) :
    Calls Tryd.prog 6 args W fun e W' => ∃ v, e = .returned v ∧ Rows.spansOrderSpec.post enc Tryd.prog Tryd.f6 false true false false W args v W' := by
  have hW' := hW
  obtain ⟨p, q, hA0, hV, rfl, hfz, hnd⟩ := hW
  have hA : DataW.TrodAll enc Tryd.prog W 0 (fun _ => true) true Tryd.f6.params.toList args.toList ds p := hA0
  have hsz := hsz0
  rw [Tryd.params6] at hA hval hsz
  obtain ⟨v0, vs0, d0, ds0, p0, q0, hargs, rfl, rfl, h0, r0⟩ := trodAll_cons hA
  obtain ⟨v1, vs1, d1, ds1, p1, q1, rfl, rfl, rfl, h1, r1⟩ := trodAll_cons r0
  obtain ⟨rfl, rfl, rfl⟩ := trodAll_nil r1
  obtain rfl : args = #[v0, v1] := by cases args; simp_all
  obtain ⟨rfl, rfl⟩ := trodVars_none hV
  obtain ⟨a0, rfl, rfl, rfl, w0⟩ := open_int Tryd.underlying22 (hval 0 22 v0 rfl rfl) h0
  obtain ⟨a1, len1, cap1, rfl⟩ := okWide_slice Tryd.underlying54 (hval 1 54 v1 rfl rfl)
  have k1 := h1
  have lt1 : ∀ x ∈ p1, x.block < W.heap.size := by obtain ⟨m, hm⟩ := k1; exact DataW.trod_lt m _ _ _ hm
  obtain ⟨z1, w1, s1⟩ : ∃ zs, Sp.Row W a1 len1 zs ∧ len1 ≤ cap1 ∧ cap1 ≤ 140737488351232 ∧ (a1 = none → len1 = 0 ∧ cap1 = 0) := by
    obtain ⟨fuel, hf⟩ := h1
    refine Sp.row_of hf fun elems spare hd => ?_
    simp only at hd
    subst hd
    have sz := sized_slice hsz (j := 1) (t := 54) (elems := elems) (spare := spare) rfl rfl Tryd.underlying54
    rw [show Tryd.prog.bytesOf 60 = 2 by kernel_rfl] at sz
    unfold reachBytes at sz
    omega
  clear hA0 hsz0 hsz
  refine (walk a0 a1 len1 cap1 z1 W w0 w1 s1 (table hL)).mono fun e W' ⟨he, bel⟩ => ?_
  subst he
  exact ⟨_, rfl, _, _, _, [], _, [], hW', trodAll_mk1 (shut_bool Tryd.underlying4 _), (trodAll_cons_mk (shut_int Tryd.underlying22 w0) (trodAll_cons_mk (Below.trod laidOut (by kernel_rfl) (of_decide_eq_true (by kernel_rfl)) k1 bel lt1) trodAll_mk0)), rfl, bel.frame _, fun h => by cases h⟩

noncomputable def laidWorld (os : Os) : World :=
  { World.holding Tryd.prog os ⟨#[], #[], []⟩ with heap := (World.holding Tryd.prog os ⟨#[], #[], []⟩).heap.modify 0 fun
      | .cells _ t frozen => .cells #[.int .u8 0, .int .u8 1, .int .u8 56, .int .u8 2, .int .u8 57, .int .u8 49, .int .u8 28, .int .u8 3, .int .u8 61, .int .u8 58, .int .u8 42, .int .u8 50, .int .u8 38, .int .u8 29, .int .u8 17, .int .u8 4, .int .u8 62, .int .u8 47, .int .u8 59, .int .u8 36, .int .u8 45, .int .u8 43, .int .u8 51, .int .u8 22, .int .u8 53, .int .u8 39, .int .u8 33, .int .u8 30, .int .u8 24, .int .u8 18, .int .u8 12, .int .u8 5, .int .u8 63, .int .u8 55, .int .u8 48, .int .u8 27, .int .u8 60, .int .u8 41, .int .u8 37, .int .u8 16, .int .u8 46, .int .u8 35, .int .u8 44, .int .u8 21, .int .u8 52, .int .u8 32, .int .u8 23, .int .u8 11, .int .u8 54, .int .u8 26, .int .u8 40, .int .u8 15, .int .u8 34, .int .u8 20, .int .u8 31, .int .u8 10, .int .u8 25, .int .u8 14, .int .u8 19, .int .u8 9, .int .u8 13, .int .u8 8, .int .u8 7, .int .u8 6] t frozen
      | o => o }
theorem laid_met (os : Os) : laidMet Tryd.prog Rows.spansOrderRow.laid ((laidWorld os).forCall (fun _ _ => 0) ⟨#[], #[.int .u32 0, .slice none 0 0], []⟩).memory :=
  laidMet_of_run' 8 (by kernel_rfl) (by kernel_rfl)
theorem reads (os : Os) {H : Type} (enc : TypeId × Value → H) : ∃ places, DataW.whole enc Tryd.prog ((laidWorld os).forCall (fun _ _ => 0) ⟨#[], #[.int .u32 0, .slice none 0 0], []⟩).memory Tryd.f6.params.toList Rows.spansOrderSpec.vars false #[Value.int .u32 0, Value.slice none 0 0].toList 8 = some ([.lit (.int .u32 0), .nil], [], places) :=
  ⟨[], by kernel_rfl⟩

set_option maxRecDepth 100000 in
theorem lifted (os : Os) (started : os.Started) (H : Type) (enc : TypeId × Value → H) (F : Stop.Interp) :
    ReturnsInHanded {} Tryd.checked os 6 .any ((OpenSpec.ofChange Rows.spansOrderSpec).preRow enc Tryd.prog Tryd.f6 Rows.spansOrderRow.domain false Rows.spansOrderRow.laid) (((OpenSpec.ofChange Rows.spansOrderSpec).at F).post enc Tryd.prog Tryd.f6 false true false false) := by
  obtain ⟨places, hx⟩ := reads os enc
  refine returnsInHanded_of_row (C := Tryd.checked) (s := OpenSpec.ofChange Rows.spansOrderSpec) own started (by kernel_rfl) Tryd.func6
    (witness_row_at (enc := enc) (C := Tryd.checked) false (laidWorld os) #[.int .u32 0, .slice none 0 0] rfl (by kernel_rfl) (by kernel_rfl) (by kernel_rfl)
      (OpenSpec.preRow_of_cond 8 hx (by kernel_rfl) (fun k hk => by cases hk) (by kernel_rfl) (laid_met os))) ?_
  intro W base args ds gs before hval hW _ hcond hsz hL _ _
  exact contract H enc W base args ds gs before hval hW hsz hL

theorem said : Rows.SpansOrderSaid :=
  OpenClaim.holds_of_cond 6 Tryd.f6 rfl rfl rfl rfl rfl rfl rfl ⟨rfl, rfl, rfl, rfl, rfl⟩ rfl rfl rfl rfl rfl (by kernel_rfl) Tryd.func6 (by kernel_rfl)
    (of_decide_eq_true (by kernel_rfl)) (by unfold Func.isWrapper; first | (rw [if_pos (by decide +kernel)]; kernel_rfl) | (rw [if_neg (by decide +kernel)]; exact ⟨rfl, rfl⟩))
    (fun os started H enc _ F => by rw [OpenClaim.pre_eq_preRow]; exact lifted os started H enc F)

theorem plain (f : FuncId) (fn : Func) (hf : Tryd.pinned.checked.prog.funcNamed "ropewalk/ropewalklaw03.SpansOrder" = some f) (hfn : Tryd.pinned.checked.prog.funcs[f]? = some fn) :
    false = Tryd.pinned.checked.prog.looks [] ∧ ∀ (j : Nat) t, fn.params[j]? = some t → Tryd.pinned.checked.prog.wantsStandIn t = false := by
  obtain rfl : f = 6 := Option.some.inj ((show Tryd.prog.funcNamed "ropewalk/ropewalklaw03.SpansOrder" = some 6 by kernel_rfl).symm.trans hf) |>.symm
  obtain rfl : fn = Tryd.f6 := (Option.some.inj (Tryd.func6.symm.trans hfn)).symm
  refine ⟨by kernel_rfl, fun j t ht => ?_⟩
  rw [Tryd.params6] at ht
  have hm : t ∈ [22, 54] := by simpa using Array.mem_of_getElem? ht
  have hall : ∀ t ∈ [22, 54], Tryd.prog.wantsStandIn t = false := by
    intro t ht
    simp only [List.mem_cons, List.not_mem_nil, or_false] at ht
    rcases ht with rfl | rfl <;> kernel_rfl
  exact hall t hm

/-- THE CARD -/
theorem proved : Rows.SpansOrderCardSaid :=
  Claim7.holds_tied_plain_at .later [] _ _ _ _ said (fun _ h => by cases h) (by kernel_rfl) (fun _ h => by cases h) spansOrder_row_tie rfl ⟨rfl, rfl⟩ (by kernel_rfl) rfl plain (by kernel_rfl)
#print axioms proved
end Go.Proofs.YtllipbkpbopomaaDoor.spansOrder
