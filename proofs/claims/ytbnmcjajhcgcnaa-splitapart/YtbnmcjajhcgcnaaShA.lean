/-
  Shares of a send buffer: which may be; numbers in memory; whether all may be outstanding.
  Conditions: as at each lemma.
-/
import Derived.Test.YtbnmcjajhcgcnaaOw
import Derived.Test.YtbnmcjajhcgcnaaAg
import Derived.Lib.MinMax
import Derived.Deep.Cut
import Derived.Deep.QuietTactic
import Derived.Deep.RegionHeld3
import Derived.BigQuiet
import Derived.BigRegion
import Derived.Laws.ResultCell
import Derived.Carry
import Derived.Shelf.Abstract
import Derived.Laws.OwnMore
import Derived.Lib.SliceRun
namespace Go.Proofs.Ytbnmcjajhcgcnaa.Sh
open Go.ChangeShapes Go.WideShapes Go.ChangeAt Go.RowKit
open Ba (hidden Has Only)
open Ow (Own)
set_option linter.unusedVariables false

/-- rows of numbers in memory -/
abbrev Nu (w : World) (a : Option Addr) (n : Nat) (ys : List Int) : Prop := Ag.Rows (fun n : Int => [.int .i64 n]) (fun n => (Lit.int .i64 n).wf = true) 1 w a n ys
theorem Nu.open {w : World} {a : Option Addr} {n : Nat} {ys : List Int} (h : Nu w a n ys) (hn : 0 < n) : ∃ b off, a = some ⟨b, off, none⟩ ∧ b < w.heap.size := by
  rcases h.2.2.2 with h0 | ⟨b, off, e, hb, _⟩
  · omega
  · exact ⟨b, off, e, hb⟩
theorem Nu.get {w : World} {b off n : Nat} {ys : List Int} (h : Nu w (some ⟨b, off, none⟩) n ys) {q : Nat} (hq : q < n) : ∃ y, ys[q]? = some y ∧ w.cell? ⟨b, off + q, none⟩ = some (.int .i64 y) := by
  obtain ⟨h1, _, _, h4⟩ := h
  have hz : ys[q]? = some ys[q] := List.getElem?_eq_getElem (by omega)
  rcases h4 with h4 | ⟨b', off', e, _, hc⟩
  · omega
  · cases e
    have := hc q _ hz 0 _ rfl
    rw [Nat.mul_one, Nat.add_zero] at this
    exact ⟨_, hz, this⟩
theorem Nu.len {w : World} {a : Option Addr} {n : Nat} {ys : List Int} (h : Nu w a n ys) : ys.length = n := h.1
theorem Nu.wf {w : World} {a : Option Addr} {n : Nat} {ys : List Int} (h : Nu w a n ys) {q : Nat} {y : Int} (hy : ys[q]? = some y) : -9223372036854775808 ≤ y ∧ y ≤ 9223372036854775807 := by
  have := h.2.1 y (List.mem_of_getElem? hy)
  simp [Lit.wf, IntKind.min, IntKind.max, IntKind.signed, IntKind.bits] at this
  omega
/-- the numbers as cells -/
def lc (xs : List Int) : List Value := xs.map fun x => .int .i64 x
theorem lc_len (xs : List Int) : (lc xs).length = xs.length := by simp [lc]
theorem lc_get (xs : List Int) (j : Nat) : (lc xs)[j]? = (xs[j]?).map fun x => .int .i64 x := by simp [lc]
theorem lc_app (xs ys : List Int) : lc (xs ++ ys) = lc xs ++ lc ys := by simp [lc]
theorem lc_set (xs : List Int) (j : Nat) (x : Int) : (lc xs).set j (.int .i64 x) = lc (xs.set j x) := by simp [lc]
theorem lc_one (xs : List Int) : ∀ u ∈ lc xs, u.oneCell' = true := by
  intro u hu
  obtain ⟨x, _, rfl⟩ := List.mem_map.1 hu
  rfl
theorem Nu.news {w : World} {b off n : Nat} {ys : List Int} (h : Nu w (some ⟨b, off, none⟩) n ys) : ∀ j u, (lc ys)[j]? = some u → w.cell? ((⟨b, off, none⟩ : Addr).add j) = some u := by
  intro j u hj
  have hjl := (List.getElem?_eq_some_iff.1 hj).1
  rw [lc_len, h.len] at hjl
  obtain ⟨y, hy, d⟩ := Nu.get h hjl
  rw [Go.WideShapes.add_plain, d]
  rw [lc_get, hy] at hj
  exact hj
/-- a row of one's own is a row -/
theorem Nu.own {w : World} {base n : Nat} {v : Value} {xs : List Int} (h : w.ownsRow base 3 1 v n (lc xs)) (hw : ∀ x ∈ xs, (Lit.int .i64 x).wf = true) (hn : n ≤ 140737488355328) : ∃ a cap, v = .slice a n cap ∧ Nu w a n xs := by
  have hl : xs.length = n := by have := h.1; rw [lc_len] at this; omega
  rcases h.2 with ⟨rfl, rfl⟩ | ⟨g, cap, cur, rfl, hb, hg, hc⟩
  · exact ⟨none, 0, rfl, hl, hw, hn, .inl rfl⟩
  · refine ⟨_, cap, rfl, hl, hw, hn, .inr ⟨g, 0, rfl, Ba.heap_lt hg, fun j z hz c u hu => ?_⟩⟩
    have hjl := (List.getElem?_eq_some_iff.1 hz).1
    match c, hu with
    | 0, hu =>
      simp at hu
      subst hu
      rw [Nat.mul_one, Nat.add_zero, Nat.zero_add, h.cellAt j (by omega), lc_get, hz]
      rfl
    | c + 1, hu => simp at hu
theorem wf_in {x : Int} (h : -9223372036854775808 ≤ x ∧ x ≤ 9223372036854775807) : (Lit.int .i64 x).wf = true := by
  simp [Lit.wf, IntKind.min, IntKind.max, IntKind.signed, IntKind.bits]
  omega
theorem below_drew {n : Nat} {w w1 : World} (h : Below n w w1) : Below n w w1.drew := h.trans ⟨rfl, rfl, rfl, Nat.le_refl _, fun _ _ => rfl⟩
theorem below_drewN {n : Nat} {w w1 : World} (h : Below n w w1) (k : Nat) : Below n w (w1.drewN k) := ⟨h.os, h.tape, h.output, h.size, h.block⟩
theorem keep_cell {w w1 : World} (h : Below w.heap.size w w1) {p : Addr} {v : Value} (hc : w.cell? p = some v) : w1.cell? p = some v := (h.cell (Ba.cell_lt hc)).trans hc
/-- an owned row grows: other blocks stay -/
theorem own_grown {w w1 w2 : World} {L : List Ow.Bk} {r : Option Nat} (h : Own w w1 L) (hg : w1.grownBy w2 r) (hr : ∀ k, r = some k → w.heap.size ≤ k ∧ ∀ x ∈ L, x.1 ≠ k) : Own w w2 L := by
  obtain ⟨h1, h2⟩ := h
  refine ⟨h1.trans ⟨hg.os, hg.tape, hg.output, hg.size, fun k hk => hg.block k (Nat.lt_of_lt_of_le hk h1.size) fun e => ?_⟩, fun x hx => ⟨(h2 x hx).1, ?_⟩⟩
  · have := (hr k e.symm).1
    omega
  · exact (hg.block x.1 (h2 x hx).2.lt fun e => (hr x.1 e.symm).2 x hx rfl).trans (h2 x hx).2
theorem row_below {B : Nat} {e : TypeId} {k : Nat} {v : Value} {n : Nat} {xs : List Value} {w w' : World} (h : w.ownsRow B e k v n xs) (hb : Below w.heap.size w w') : w'.ownsRow B e k v n xs := Ba.own_stay h (Only.of_below (F := []) hb) (fun _ _ => by simp)

/-- what may be -/
abbrev byt (y : Int) : Prop := 0 ≤ y ∧ y ≤ 1073741824
def okS (B P M : Int) : Prop := (1 ≤ B ∧ B ≤ 1073741824) ∧ (1 ≤ P ∧ P ≤ 8) ∧ (100 ≤ M ∧ M ≤ 1500)
def okb (B P M : Int) : Bool := decide ((1 ≤ B ∧ B ≤ 1073741824) ∧ (1 ≤ P ∧ P ≤ 8) ∧ (100 ≤ M ∧ M ≤ 1500))
theorem okb_t {B P M : Int} (h : okS B P M) : okb B P M = true := decide_eq_true h
theorem okb_f {B P M : Int} (h : ¬ okS B P M) : okb B P M = false := decide_eq_false h
def okY (ys : List Int) : Bool := ys.all fun y => decide (byt y)
theorem okY_iff (ys : List Int) : okY ys = true ↔ ∀ y ∈ ys, byt y := by
  unfold okY
  simp [List.all_eq_true]
theorem okY_f {ys : List Int} (h : ¬ ∀ y ∈ ys, byt y) : okY ys = false := by
  cases hb : okY ys with
  | true => exact absurd ((okY_iff ys).1 hb) h
  | false => rfl
theorem okY_next {ys : List Int} {q : Nat} {y : Int} (h : ys[q]? = some y) : okY (ys.take (q + 1)) = (okY (ys.take q) && decide (byt y)) := by
  unfold okY
  rw [List.take_add_one, h]
  simp
/-- a path's share -/
def part (n p : Int) : Int := (n + p - 1) / p
theorem eight {p : Int} (h : 1 ≤ p ∧ p ≤ 8) : p = 1 ∨ p = 2 ∨ p = 3 ∨ p = 4 ∨ p = 5 ∨ p = 6 ∨ p = 7 ∨ p = 8 := by omega
theorem part_in {n p : Int} (hn : byt n) (hp : 1 ≤ p ∧ p ≤ 8) : 0 ≤ part n p ∧ part n p ≤ n := by
  unfold part
  rcases eight hp with rfl | rfl | rfl | rfl | rfl | rfl | rfl | rfl <;> omega
theorem part_mul {n p : Int} (hn : byt n) (hp : 1 ≤ p ∧ p ≤ 8) : n ≤ part n p * p ∧ part n p * p < n + p := by
  unfold part
  rcases eight hp with rfl | rfl | rfl | rfl | rfl | rfl | rfl | rfl <;> omega
def chk (B P M : Int) (ys : List Int) : Int := bif okb B P M then (bif decide ((ys.length : Int) = P) && okY ys then 0 else 1) else 140
theorem chk_no {B P M : Int} (h : ¬ okS B P M) (ys : List Int) : chk B P M ys = 140 := by unfold chk; rw [okb_f h]; rfl
theorem chk_ok {B P M : Int} (h : okS B P M) {ys : List Int} (hl : (ys.length : Int) = P) (hy : okY ys = true) : chk B P M ys = 0 := by unfold chk; rw [okb_t h, hy, decide_eq_true hl]; rfl
theorem chk_len {B P M : Int} (h : okS B P M) {ys : List Int} (hl : ¬ (ys.length : Int) = P) : chk B P M ys = 1 := by unfold chk; rw [okb_t h, decide_eq_false hl]; rfl
theorem chk_arg {B P M : Int} (h : okS B P M) {ys : List Int} (hy : okY ys = false) : chk B P M ys = 1 := by unfold chk; rw [okb_t h, hy]; simp
theorem chk_0 {B P M : Int} {ys : List Int} (h : chk B P M ys = 0) : okS B P M ∧ (ys.length : Int) = P ∧ ∀ y ∈ ys, byt y := by
  by_cases hk : okS B P M
  · by_cases hl : (ys.length : Int) = P
    · cases hy : okY ys with
      | true => exact ⟨hk, hl, (okY_iff ys).1 hy⟩
      | false => rw [chk_arg hk hy] at h; cases h
    · rw [chk_len hk hl] at h; cases h
  · rw [chk_no hk] at h; cases h

theorem within (lo n hi : Int) (w : World) : Calls Try.prog 26 #[.int .i64 lo, .int .i64 n, .int .i64 hi] w fun e w' => e = .returned (.bool (decide (lo ≤ n ∧ n ≤ hi))) ∧ w = w' := by
  by_cases h1 : lo ≤ n
  · by_cases h2 : n ≤ hi
    · have hd : decide (lo ≤ n ∧ n ≤ hi) = true := decide_eq_true ⟨h1, h2⟩
      rw [hd]
      clear hd
      go_enter Try.func26, Try.ntmps26
      go_wp2
      go_ret
      exact ⟨rfl, rfl⟩
    · have hd : decide (lo ≤ n ∧ n ≤ hi) = false := decide_eq_false fun h => h2 h.2
      rw [hd]
      clear hd
      go_enter Try.func26, Try.ntmps26
      go_wp2
      go_ret
      exact ⟨rfl, rfl⟩
  · have hd : decide (lo ≤ n ∧ n ≤ hi) = false := decide_eq_false fun h => h1 h.1
    rw [hd]
    clear hd
    go_enter Try.func26, Try.ntmps26
    go_wp2
    go_ret
    exact ⟨rfl, rfl⟩
theorem within_t {lo n hi : Int} (h : lo ≤ n ∧ n ≤ hi) (w : World) : Calls Try.prog 26 #[.int .i64 lo, .int .i64 n, .int .i64 hi] w fun e w' => e = .returned (.bool true) ∧ w = w' := by
  have := within lo n hi w
  rwa [decide_eq_true h] at this
theorem within_f {lo n hi : Int} (h : ¬ (lo ≤ n ∧ n ≤ hi)) (w : World) : Calls Try.prog 26 #[.int .i64 lo, .int .i64 n, .int .i64 hi] w fun e w' => e = .returned (.bool false) ∧ w = w' := by
  have := within lo n hi w
  rwa [decide_eq_false h] at this
theorem shared (B P M : Int) (w : World) : Calls Try.prog 22 #[.agg #[.int .i64 B, .int .i64 P, .int .i64 M]] w fun e w' => e = .returned (.bool (okb B P M)) ∧ Below w.heap.size w w' := by
  have B0 := hidden ((Below.refl _ w).alloc (Nat.le_refl _) (.cells #[.int .i64 B, .int .i64 P, .int .i64 M] 23))
  by_cases h1 : 1 ≤ B ∧ B ≤ 1073741824
  · have W1 := hidden (within_t h1)
    by_cases h2 : 1 ≤ P ∧ P ≤ 8
    · have W2 := hidden (within_t h2)
      by_cases h3 : 100 ≤ M ∧ M ≤ 1500
      · have W3 := hidden (within_t h3)
        rw [okb_t ⟨h1, h2, h3⟩]
        clear h1 h2 h3
        go_enter Try.func22, Try.ntmps22
        go_wp2_with fail
        refine Calls.mono (W1.out _) ?_
        rintro e w1 ⟨rfl, rfl⟩
        go_wp2_with fail
        refine Calls.mono (W2.out _) ?_
        rintro e w1 ⟨rfl, rfl⟩
        go_wp2_with fail
        refine Calls.mono (W3.out _) ?_
        rintro e w1 ⟨rfl, rfl⟩
        go_wp2
        go_ret
        exact ⟨rfl, B0.out⟩
      · have W3 := hidden (within_f h3)
        rw [okb_f fun h => h3 h.2.2]
        clear h1 h2 h3
        go_enter Try.func22, Try.ntmps22
        go_wp2_with fail
        refine Calls.mono (W1.out _) ?_
        rintro e w1 ⟨rfl, rfl⟩
        go_wp2_with fail
        refine Calls.mono (W2.out _) ?_
        rintro e w1 ⟨rfl, rfl⟩
        go_wp2_with fail
        refine Calls.mono (W3.out _) ?_
        rintro e w1 ⟨rfl, rfl⟩
        go_wp2
        go_ret
        exact ⟨rfl, B0.out⟩
    · have W2 := hidden (within_f h2)
      rw [okb_f fun h => h2 h.2.1]
      clear h1 h2
      go_enter Try.func22, Try.ntmps22
      go_wp2_with fail
      refine Calls.mono (W1.out _) ?_
      rintro e w1 ⟨rfl, rfl⟩
      go_wp2_with fail
      refine Calls.mono (W2.out _) ?_
      rintro e w1 ⟨rfl, rfl⟩
      go_wp2
      go_ret
      exact ⟨rfl, B0.out⟩
  · have W1 := hidden (within_f h1)
    rw [okb_f fun h => h1 h.1]
    clear h1
    go_enter Try.func22, Try.ntmps22
    go_wp2_with fail
    refine Calls.mono (W1.out _) ?_
    rintro e w1 ⟨rfl, rfl⟩
    go_wp2
    go_ret
    exact ⟨rfl, B0.out⟩
theorem part_ {n p : Int} (hn : byt n) (hp : 1 ≤ p ∧ p ≤ 8) (w : World) : Calls Try.prog 23 #[.int .i64 n, .int .i64 p] w fun e w' => e = .returned (.int .i64 (part n p)) ∧ w = w' := by
  have h1 : IntKind.i64.wrap (n + p) = n + p := by rw [IntKind.wrap_i64]; omega
  have h2 : IntKind.i64.wrap (n + p - 1) = n + p - 1 := by rw [IntKind.wrap_i64]; omega
  have h3 : IntKind.i64.wrap ((n + p - 1).tdiv p) = part n p := by
    have := part_in hn hp
    rw [Int.tdiv_eq_ediv_of_nonneg (by omega)]
    show IntKind.i64.wrap (part n p) = part n p
    rw [IntKind.wrap_i64]
    omega
  have hp0 : ¬ p = 0 := by omega
  generalize part n p = V at *
  clear hn hp
  go_enter Try.func23, Try.ntmps23
  go_wp2
  go_ret
  exact ⟨rfl, rfl⟩
/-- one number more -/
theorem fine {w : World} {b : Nat} {f : Bool} (h : Has w b #[.bool f] 4) (n : Int) : Calls Try.prog 33 #[.int .i64 n, .pointer (some ⟨b, 0, none⟩)] w fun e w' => e = .returned (.tuple #[]) ∧ w.setCell ⟨b, 0, none⟩ (.bool (f && decide (byt n))) = w' := by
  have c0 := h.cell 0 rfl
  have f0 := h.frozen 0
  cases f with
  | true =>
    have W := hidden (within 0 n 1073741824)
    simp only [Bool.true_and]
    clear h
    generalize decide (byt n) = d at *
    go_enter Try.func33, Try.ntmps33
    go_wp2_with fail
    refine Calls.mono (W.out _) ?_
    rintro e w1 ⟨rfl, rfl⟩
    go_wp2
    go_end0
    exact ⟨rfl, rfl⟩
  | false =>
    simp only [Bool.false_and]
    clear h
    go_enter Try.func33, Try.ntmps33
    go_wp2
    go_end0
    exact ⟨rfl, rfl⟩
section
variable {w0 w : World} {a : Option Addr} {n cap b : Nat} {ys : List Int}
theorem each_fine (h : Nu w0 a n ys) (hO : Own w0 w [(b, #[.bool true], 4)]) : Calls Try.prog 27 #[.slice a n cap, .func (.func 33) #[] #[.pointer (some ⟨b, 0, none⟩)]] w fun e w' => e = .returned (.tuple #[]) ∧ Own w0 w' [(b, #[.bool (okY ys)], 4)] := by
  have hn : n ≤ 140737488355328 := h.2.2.1
  have H := hidden h
  have O := hidden hO
  clear h hO
  go_enter Try.func27, Try.ntmps27
  go_wp2_with fail
  go_loopw [8] (fun i wr => ∃ q : Int, 0 ≤ q ∧ q ≤ (n : Int) ∧ i = .int .i64 q ∧ Hid (Own w0 wr [(b, #[.bool (okY (ys.take q.toNat))], 4)])) (fun i _ => n - (intOf i).toNat)
  case atStart => exact ⟨0, by omega, by omega, rfl, O.out⟩
  case round =>
    clear O
    obtain ⟨q, j1, j2, rfl, O⟩ := hrel
    by_cases hq : q < (n : Int)
    · obtain ⟨r, off, rfl, hr⟩ := Nu.open H.out (by omega)
      obtain ⟨y, hy, d0⟩ := Nu.get (H.out.later O.out.below) (q := q.toNat) (by omega)
      have FI := hidden (fine (O.out.has (.head _)) y)
      have HN : Hid (okY (ys.take (q + 1).toNat) = (okY (ys.take q.toNat) && decide (byt y))) := by
        show okY (ys.take (q + 1).toNat) = _
        rw [show (q + 1).toNat = q.toNat + 1 by omega]
        exact okY_next hy
      clear hy
      go_wp2_with fail
      refine Calls.mono FI.out ?_
      rintro e w1 ⟨rfl, rfl⟩
      have O1 : Hid (Own w0 (wr.setCell ⟨b, 0, none⟩ (.bool (okY (ys.take q.toNat) && decide (byt y)))) [(b, #[.bool (okY (ys.take (q + 1).toNat))], 4)]) := by
        show Own w0 (wr.setCell ⟨b, 0, none⟩ (.bool (okY (ys.take q.toNat) && decide (byt y)))) [(b, #[.bool (okY (ys.take (q + 1).toNat))], 4)]
        rw [HN.out]
        exact O.out.set 0 _ (by simp)
      generalize wr.setCell ⟨b, 0, none⟩ (.bool (okY (ys.take q.toNat) && decide (byt y))) = w1 at *
      clear FI d0
      go_wp2
      go_roundw
      case rel => exact ⟨q + 1, by omega, by omega, rfl, O1.out⟩
      case measure => simp [intOf]; omega
    · obtain rfl : q = (n : Int) := by omega
      have HE : Hid (ys.take (n : Int).toNat = ys) := by
        show ys.take (n : Int).toNat = ys
        rw [List.take_of_length_le (by rw [H.out.len]; omega)]
      rw [HE.out] at O
      go_wp2
      go_end0
      exact ⟨rfl, O.out⟩
end
end Go.Proofs.Ytbnmcjajhcgcnaa.Sh
