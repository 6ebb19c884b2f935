/-
  Windows of several paths: which may be; their sums; a path's share.
  Conditions: as at each lemma.
-/
import Derived.Test.YtbcdoilfmfckiaaOw
import Derived.Test.YtbcdoilfmfckiaaAg
import Derived.Lib.MinMax
import Derived.Deep.Cut
import Derived.Deep.QuietTactic
import Derived.Deep.RegionHeld3
import Derived.BigQuiet
import Derived.BigRegion
import Derived.Laws.ResultCell
import Derived.Carry
import Derived.Shelf.Abstract
namespace Go.Proofs.Ytbcdoilfmfckiaa.Co
open Go.ChangeShapes Go.WideShapes Go.ChangeAt Go.RowKit
open Ba (hidden Has Only)
open Ow (Own)
set_option linter.unusedVariables false

/-- an operation that its guard holds back -/
theorem ex_not {P : Program} {ops : Array Oper} {Q : Exit → Act → World → Prop} {X : Type} {l : X → List (Option Nat × Value)} {L : Nat → Bool} {i : Nat} {o : Oper} {a : Act} {w : World} {R : X → World → Prop} (x : X) (ho : ops[i]? = some o) (hw : Region.wanted o (yielded ops a.tmps) = false)
    (hv : ((l x).getD i (none, undef)).2 = undef) (hR : R x w) : wpOp P ops Q i (fun a' w'' => ∃ x', a' = a.put o.dst ((l x').getD i (none, undef)).2 ∧ (∀ j, L j = true → (l x')[j]? = (l x)[j]?) ∧ R x' w'') a w := by
  unfold wpOp
  rw [ho]
  simp only [hw]
  exact ⟨x, by rw [hv], fun _ _ => rfl, hR⟩
/-- a window and its threshold -/
abbrev Fw := Int × Int
abbrev good (z : Fw) : Prop := (1 ≤ z.1 ∧ z.1 ≤ 1073741824) ∧ (1 ≤ z.2 ∧ z.2 ≤ 1073741824)
/-- rows of them in memory -/
abbrev Fl (w : World) (a : Option Addr) (n : Nat) (zs : List Fw) : Prop := Ag.Rows (fun q : Int × Int => [.int .i64 q.1, .int .i64 q.2]) (fun q => (Lit.int .i64 q.1).wf = true ∧ (Lit.int .i64 q.2).wf = true) 2 w a n zs
def okF (zs : List Fw) (m : Int) : Prop := (1 ≤ zs.length ∧ zs.length ≤ 8) ∧ (1 ≤ m ∧ m ≤ 65536) ∧ ∀ z ∈ zs, good z
def okB (zs : List Fw) (m : Int) : Bool := decide (1 ≤ zs.length ∧ zs.length ≤ 8) && decide (1 ≤ m ∧ m ≤ 65536) && zs.all fun z => decide (good z)
theorem okB_iff (zs : List Fw) (m : Int) : okB zs m = true ↔ okF zs m := by
  unfold okB okF
  simp [List.all_eq_true, and_assoc]
def chk (zs : List Fw) (m : Int) : Int := bif okB zs m then 0 else 130
theorem chk_ok {zs : List Fw} {m : Int} (h : okF zs m) : chk zs m = 0 := by unfold chk; rw [(okB_iff zs m).2 h]; rfl
theorem chk_no {zs : List Fw} {m : Int} (h : ¬ okF zs m) : chk zs m = 130 := by
  unfold chk
  cases hb : okB zs m with
  | true => exact absurd ((okB_iff zs m).1 hb) h
  | false => rfl
/-- a row that is not empty -/
theorem Fl.open {w : World} {a : Option Addr} {n : Nat} {zs : List Fw} (h : Fl w a n zs) (hn : 0 < n) : ∃ b off, a = some ⟨b, off, none⟩ ∧ b < w.heap.size := by
  rcases h.2.2.2 with h0 | ⟨b, off, e, hb, _⟩
  · omega
  · exact ⟨b, off, e, hb⟩
theorem Fl.len {w : World} {a : Option Addr} {n : Nat} {zs : List Fw} (h : Fl w a n zs) : zs.length = n := h.1
theorem Fl.get {w : World} {b off n : Nat} {zs : List Fw} (h : Fl w (some ⟨b, off, none⟩) n zs) {q : Nat} (hq : q < n) : ∃ c t, zs[q]? = some (c, t) ∧ w.cell? ⟨b, off + q * 2, none⟩ = some (.int .i64 c) ∧ w.cell? ⟨b, off + q * 2 + 1, none⟩ = some (.int .i64 t) := by
  obtain ⟨h1, _, _, h4⟩ := h
  have hz : zs[q]? = some zs[q] := List.getElem?_eq_getElem (by omega)
  rcases h4 with h4 | ⟨b', off', e, _, hc⟩
  · omega
  · cases e
    exact ⟨_, _, hz, hc q _ hz 0 _ rfl, hc q _ hz 1 _ rfl⟩
theorem Fl.drew {w : World} {a : Option Addr} {n : Nat} {zs : List Fw} (h : Fl w a n zs) : Fl w.drew a n zs := h.later ⟨rfl, rfl, rfl, Nat.le_refl _, fun _ _ => rfl⟩
theorem within (lo n hi : Int) (w : World) : Calls Try.prog 36 #[.int .i64 lo, .int .i64 n, .int .i64 hi] w fun e w' => e = .returned (.bool (decide (lo ≤ n ∧ n ≤ hi))) ∧ w = w' := by
  by_cases h1 : lo ≤ n
  · by_cases h2 : n ≤ hi
    · have hd : decide (lo ≤ n ∧ n ≤ hi) = true := decide_eq_true ⟨h1, h2⟩
      rw [hd]
      clear hd
      go_enter Try.func36, Try.ntmps36
      go_wp2
      go_ret
      exact ⟨rfl, rfl⟩
    · have hd : decide (lo ≤ n ∧ n ≤ hi) = false := decide_eq_false fun h => h2 h.2
      rw [hd]
      clear hd
      go_enter Try.func36, Try.ntmps36
      go_wp2
      go_ret
      exact ⟨rfl, rfl⟩
  · have hd : decide (lo ≤ n ∧ n ≤ hi) = false := decide_eq_false fun h => h1 h.1
    rw [hd]
    clear hd
    go_enter Try.func36, Try.ntmps36
    go_wp2
    go_ret
    exact ⟨rfl, rfl⟩
theorem within_t {lo n hi : Int} (h : lo ≤ n ∧ n ≤ hi) (w : World) : Calls Try.prog 36 #[.int .i64 lo, .int .i64 n, .int .i64 hi] w fun e w' => e = .returned (.bool true) ∧ w = w' := by
  have := within lo n hi w
  rwa [decide_eq_true h] at this
theorem within_f {lo n hi : Int} (h : ¬ (lo ≤ n ∧ n ≤ hi)) (w : World) : Calls Try.prog 36 #[.int .i64 lo, .int .i64 n, .int .i64 hi] w fun e w' => e = .returned (.bool false) ∧ w = w' := by
  have := within lo n hi w
  rwa [decide_eq_false h] at this
/-- as far as this -/
def Up (zs : List Fw) (q : Int) : Prop := ∀ j : Nat, (j : Int) < q → ∀ z, zs[j]? = some z → good z
theorem Up.next {zs : List Fw} {q : Int} {c t : Int} (h : Up zs q) (hq : 0 ≤ q) (hz : zs[q.toNat]? = some (c, t)) (hg : good (c, t)) : Up zs (q + 1) := by
  intro j hj z hz'
  by_cases e : (j : Int) = q
  · have : j = q.toNat := by omega
    subst this
    rw [hz] at hz'
    cases hz'
    exact hg
  · exact h j (by omega) z hz'
theorem Up.all {zs : List Fw} {n : Nat} (h : Up zs n) (hl : zs.length = n) : ∀ z ∈ zs, good z := by
  intro z hz
  obtain ⟨j, hj, rfl⟩ := List.getElem_of_mem hz
  exact h j (by omega) _ (List.getElem?_eq_getElem hj)
section
variable {w : World} {a : Option Addr} {n cap : Nat} {zs : List Fw}
set_option maxHeartbeats 1000000 in
theorem check (h : Fl w a n zs) (m : Int) : Calls Try.prog 27 #[.agg #[.slice a n cap, .int .i64 m]] w fun e w' => e = .returned (.int .i64 (chk zs m)) ∧ Below w.heap.size w w' := by
  have hl := h.len
  have hn : n ≤ 140737488355328 := h.2.2.1
  by_cases h1 : (1 : Int) ≤ n ∧ (n : Int) ≤ 8
  · have W1 := hidden (within_t h1)
    by_cases h2 : 1 ≤ m ∧ m ≤ 65536
    · have W2 := hidden (within_t h2)
      obtain ⟨b, off, rfl, hb⟩ := Fl.open h (by omega)
      have H := hidden h
      have HL := hidden hl
      have H1 := hidden h1
      have H2 := hidden h2
      have B0 := hidden ((Below.refl _ w).alloc (Nat.le_refl _) (.cells #[.slice (some ⟨b, off, none⟩) n cap, .int .i64 m] 47))
      clear h hl h1 h2
      go_enter Try.func27, Try.ntmps27
      go_wp2_with fail
      refine Calls.mono (W1.out _) ?_
      rintro e w1 ⟨rfl, rfl⟩
      go_wp2_with fail
      refine Calls.mono (W2.out _) ?_
      rintro e w1 ⟨rfl, rfl⟩
      go_wp2_with fail
      go_loopw [19] (fun i wr => ∃ q : Int, 0 ≤ q ∧ q ≤ (n : Int) ∧ i = .int .i64 q ∧ Hid (Up zs q) ∧ Hid (Below w.heap.size w wr)) (fun i _ => n - (intOf i).toNat)
      case atStart => exact ⟨0, by omega, by omega, rfl, fun j hj => by omega, B0.out⟩
      case round =>
        clear B0
        obtain ⟨q, j1, j2, rfl, HU, HB⟩ := hrel
        by_cases hq : q < (n : Int)
        · obtain ⟨c, t, hz, d0, d1⟩ := Fl.get (H.out.later HB.out) (q := q.toNat) (by omega)
          have hbl := Nat.lt_of_lt_of_le hb HB.out.size
          have HZ := hidden hz
          clear hz
          by_cases g1 : 1 ≤ c ∧ c ≤ 1073741824
          · have V1 := hidden (within_t g1)
            by_cases g2 : 1 ≤ t ∧ t ≤ 1073741824
            · have V2 := hidden (within_t g2)
              have HG : Hid (Up zs (q + 1)) := HU.out.next j1 HZ.out ⟨g1, g2⟩
              clear g1 g2
              go_wp2_with fail
              refine Calls.mono (V1.out _) ?_
              rintro e w1 ⟨rfl, rfl⟩
              go_wp2_with fail
              refine Calls.mono (V2.out _) ?_
              rintro e w1 ⟨rfl, rfl⟩
              go_wp2
              go_roundw
              case rel => exact ⟨q + 1, by omega, by omega, rfl, HG.out, HB.out.alloc HB.out.size _⟩
              case measure => simp [intOf]; omega
            · have V2 := hidden (within_f g2)
              have HG : Hid (chk zs m = 130) := chk_no fun h => g2 (h.2.2 (c, t) (List.mem_of_getElem? HZ.out)).2
              clear g1 g2
              go_wp2_with fail
              refine Calls.mono (V1.out _) ?_
              rintro e w1 ⟨rfl, rfl⟩
              go_wp2_with fail
              refine Calls.mono (V2.out _) ?_
              rintro e w1 ⟨rfl, rfl⟩
              go_wp2
              go_ret
              exact ⟨by rw [HG.out]; rfl, HB.out.alloc HB.out.size _⟩
          · have V1 := hidden (within_f g1)
            have HG : Hid (chk zs m = 130) := chk_no fun h => g1 (h.2.2 (c, t) (List.mem_of_getElem? HZ.out)).1
            clear g1
            go_wp2_with fail
            refine Calls.mono (V1.out _) ?_
            rintro e w1 ⟨rfl, rfl⟩
            go_wp2
            go_ret
            exact ⟨by rw [HG.out]; rfl, HB.out.alloc HB.out.size _⟩
        · obtain rfl : q = (n : Int) := by omega
          have HG : Hid (chk zs m = 0) := chk_ok ⟨by have := H1.out; have := HL.out; omega, H2.out, HU.out.all HL.out⟩
          go_wp2
          go_ret
          exact ⟨by rw [HG.out]; rfl, HB.out⟩
    · have W2 := hidden (within_f h2)
      have HG : Hid (chk zs m = 130) := chk_no fun h => h2 h.2.1
      have B0 := hidden ((Below.refl _ w).alloc (Nat.le_refl _) (.cells #[.slice a n cap, .int .i64 m] 47))
      clear h h1 h2 hl
      go_enter Try.func27, Try.ntmps27
      go_wp2_with fail
      refine Calls.mono (W1.out _) ?_
      rintro e w1 ⟨rfl, rfl⟩
      go_wp2_with fail
      refine Calls.mono (W2.out _) ?_
      rintro e w1 ⟨rfl, rfl⟩
      go_wp2
      go_ret
      exact ⟨by rw [HG.out]; rfl, B0.out⟩
  · have W1 := hidden (within_f h1)
    have HG : Hid (chk zs m = 130) := chk_no fun h => h1 (by have := h.1; omega)
    have B0 := hidden ((Below.refl _ w).alloc (Nat.le_refl _) (.cells #[.slice a n cap, .int .i64 m] 47))
    clear h h1 hl
    go_enter Try.func27, Try.ntmps27
    go_wp2_with fail
    refine Calls.mono (W1.out _) ?_
    rintro e w1 ⟨rfl, rfl⟩
    go_wp2
    go_ret
    exact ⟨by rw [HG.out]; rfl, B0.out⟩
end
theorem get_ {zs : List Fw} {q : Nat} (h : q < zs.length) : ∃ c t, zs[q]? = some (c, t) := ⟨_, _, List.getElem?_eq_getElem h⟩
/-- sums of the first ones -/
def sT (zs : List Fw) (q : Nat) : Int := ((zs.take q).map fun z => z.2).sum
def sC (zs : List Fw) (q : Nat) : Int := ((zs.take q).map fun z => z.1).sum
def sumT (zs : List Fw) : Int := sT zs zs.length
def sumC (zs : List Fw) : Int := sC zs zs.length
theorem sT_next {zs : List Fw} {q : Nat} {c t : Int} (h : zs[q]? = some (c, t)) : sT zs (q + 1) = sT zs q + t := by
  unfold sT
  rw [List.take_add_one, h]
  simp
theorem sC_next {zs : List Fw} {q : Nat} {c t : Int} (h : zs[q]? = some (c, t)) : sC zs (q + 1) = sC zs q + c := by
  unfold sC
  rw [List.take_add_one, h]
  simp
theorem sT_in {zs : List Fw} (hg : ∀ z ∈ zs, good z) : ∀ q : Nat, q ≤ zs.length → (q : Int) ≤ sT zs q ∧ sT zs q ≤ q * 1073741824
  | 0, _ => by simp [sT]
  | q + 1, h => by
    obtain ⟨h1, h2⟩ := sT_in hg q (by omega)
    obtain ⟨c', t', e⟩ := get_ (zs := zs) (q := q) (by omega)
    have g := hg _ (List.mem_of_getElem? e)
    simp only [good] at g
    rw [sT_next e]
    omega
theorem sC_in {zs : List Fw} (hg : ∀ z ∈ zs, good z) : ∀ q : Nat, q ≤ zs.length → (q : Int) ≤ sC zs q ∧ sC zs q ≤ q * 1073741824
  | 0, _ => by simp [sC]
  | q + 1, h => by
    obtain ⟨h1, h2⟩ := sC_in hg q (by omega)
    obtain ⟨c', t', e⟩ := get_ (zs := zs) (q := q) (by omega)
    have g := hg _ (List.mem_of_getElem? e)
    simp only [good] at g
    rw [sC_next e]
    omega
/-- one threshold is at most their sum -/
theorem sT_one {zs : List Fw} (hg : ∀ z ∈ zs, good z) {j : Nat} {c t : Int} (hj : zs[j]? = some (c, t)) : ∀ q : Nat, j < q → q ≤ zs.length → t ≤ sT zs q
  | 0, h, _ => by omega
  | q + 1, h, hl => by
    obtain ⟨c', t', e⟩ := get_ (zs := zs) (q := q) (by omega)
    have g := hg _ (List.mem_of_getElem? e)
    simp only [good] at g
    rw [sT_next e]
    have g1 := (sT_in hg q (by omega)).1
    by_cases hq : j = q
    · subst hq
      rw [e] at hj
      cases hj
      omega
    · have := sT_one hg hj q (by omega) (by omega)
      omega
/-- a path's share -/
def share (zs : List Fw) (j : Nat) (n : Int) : Int := n * (zs.getD j (0, 0)).2 / sumT zs
theorem share_at {zs : List Fw} {j : Nat} {c t : Int} (hj : zs[j]? = some (c, t)) (n : Int) : share zs j n = n * t / sumT zs := by
  unfold share
  rw [List.getD_eq_getElem?_getD, hj]
  rfl
theorem share_in {zs : List Fw} (hg : ∀ z ∈ zs, good z) {j : Nat} (hj : j < zs.length) {n : Int} (hn : 0 ≤ n) : 0 ≤ share zs j n ∧ share zs j n ≤ n := by
  obtain ⟨c, t, e⟩ := get_ hj
  have g := hg _ (List.mem_of_getElem? e)
  have h1 : t ≤ sumT zs := sT_one hg e zs.length hj (Nat.le_refl _)
  simp only [good] at g
  rw [share_at e]
  have hs : 0 < sumT zs := by omega
  refine ⟨Int.ediv_nonneg (Int.mul_nonneg hn (by omega)) (by omega), ?_⟩
  refine Int.le_trans (Int.ediv_le_ediv hs (Int.mul_le_mul_of_nonneg_left h1 hn)) ?_
  rw [Int.mul_ediv_cancel _ (by omega)]
  exact Int.le_refl _
section
variable {w : World} {a : Option Addr} {n cap : Nat} {zs : List Fw}
set_option maxHeartbeats 1000000 in
theorem thresholds (h : Fl w a n zs) (hg : ∀ z ∈ zs, good z) (h8 : n ≤ 8) (m : Int) : Calls Try.prog 40 #[.agg #[.slice a n cap, .int .i64 m]] w fun e w' => e = .returned (.int .i64 (sumT zs)) ∧ Below w.heap.size w w' := by
  have hl := h.len
  have B0 := hidden ((Below.refl _ w).alloc (Nat.le_refl _) (.cells #[.slice a n cap, .int .i64 m] 47))
  have H := hidden h
  have HL := hidden hl
  have HG := hidden hg
  clear h hl hg
  go_enter Try.func40, Try.ntmps40
  go_wp2_with fail
  go_loopw [3, 9] (fun s i wr => ∃ q x : Int, 0 ≤ q ∧ q ≤ (n : Int) ∧ i = .int .i64 q ∧ s = .int .i64 x ∧ Hid (x = sT zs q.toNat) ∧ Hid (Below w.heap.size w wr)) (fun _ i _ => n - (intOf i).toNat)
  case atStart => exact ⟨0, 0, by omega, by omega, rfl, rfl, rfl, B0.out⟩
  case round =>
    clear B0
    obtain ⟨q, x, j1, j2, rfl, rfl, HX, HB⟩ := hrel
    by_cases hq : q < (n : Int)
    · obtain ⟨b, off, rfl, hb⟩ := Fl.open H.out (by omega)
      obtain ⟨c, t, hz, d0, d1⟩ := Fl.get (H.out.later HB.out) (q := q.toNat) (by omega)
      have hbl := Nat.lt_of_lt_of_le hb HB.out.size
      have hs := sT_in HG.out q.toNat (by have := HL.out; omega)
      rw [← HX.out] at hs
      have hgt := HG.out _ (List.mem_of_getElem? hz)
      have hw : IntKind.i64.wrap (x + t) = x + t := by rw [IntKind.wrap_i64]; omega
      have HN : Hid (x + t = sT zs (q + 1).toNat) := by
        show x + t = sT zs (q + 1).toNat
        rw [show (q + 1).toNat = q.toNat + 1 by omega, sT_next hz, HX.out]
      clear hz hs hgt
      go_wp2
      go_roundw
      case rel => exact ⟨q + 1, x + t, by omega, by omega, rfl, by first | rfl | simp [hw], HN.out, HB.out.alloc HB.out.size _⟩
      case measure => simp [intOf]; omega
    · obtain rfl : q = (n : Int) := by omega
      go_wp2
      go_ret
      exact ⟨by rw [HX.out]; unfold sumT; rw [HL.out]; rfl, HB.out⟩
set_option maxHeartbeats 1000000 in
theorem windows (h : Fl w a n zs) (hg : ∀ z ∈ zs, good z) (h8 : n ≤ 8) (m : Int) : Calls Try.prog 38 #[.agg #[.slice a n cap, .int .i64 m]] w fun e w' => e = .returned (.int .i64 (sumC zs)) ∧ Below w.heap.size w w' := by
  have hl := h.len
  have B0 := hidden ((Below.refl _ w).alloc (Nat.le_refl _) (.cells #[.slice a n cap, .int .i64 m] 47))
  have H := hidden h
  have HL := hidden hl
  have HG := hidden hg
  clear h hl hg
  go_enter Try.func38, Try.ntmps38
  go_wp2_with fail
  go_loopw [3, 9] (fun s i wr => ∃ q x : Int, 0 ≤ q ∧ q ≤ (n : Int) ∧ i = .int .i64 q ∧ s = .int .i64 x ∧ Hid (x = sC zs q.toNat) ∧ Hid (Below w.heap.size w wr)) (fun _ i _ => n - (intOf i).toNat)
  case atStart => exact ⟨0, 0, by omega, by omega, rfl, rfl, rfl, B0.out⟩
  case round =>
    clear B0
    obtain ⟨q, x, j1, j2, rfl, rfl, HX, HB⟩ := hrel
    by_cases hq : q < (n : Int)
    · obtain ⟨b, off, rfl, hb⟩ := Fl.open H.out (by omega)
      obtain ⟨c, t, hz, d0, d1⟩ := Fl.get (H.out.later HB.out) (q := q.toNat) (by omega)
      have hbl := Nat.lt_of_lt_of_le hb HB.out.size
      have hs := sC_in HG.out q.toNat (by have := HL.out; omega)
      rw [← HX.out] at hs
      have hgt := HG.out _ (List.mem_of_getElem? hz)
      have hw : IntKind.i64.wrap (x + c) = x + c := by rw [IntKind.wrap_i64]; omega
      have HN : Hid (x + c = sC zs (q + 1).toNat) := by
        show x + c = sC zs (q + 1).toNat
        rw [show (q + 1).toNat = q.toNat + 1 by omega, sC_next hz, HX.out]
      clear hz hs hgt
      go_wp2
      go_roundw
      case rel => exact ⟨q + 1, x + c, by omega, by omega, rfl, by first | rfl | simp [hw], HN.out, HB.out.alloc HB.out.size _⟩
      case measure => simp [intOf]; omega
    · obtain rfl : q = (n : Int) := by omega
      go_wp2
      go_ret
      exact ⟨by rw [HX.out]; unfold sumC; rw [HL.out]; rfl, HB.out⟩
end
end Go.Proofs.Ytbcdoilfmfckiaa.Co
