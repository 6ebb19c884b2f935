/-
  Views and numbers in memory; a view that may not be; whether views may be.
  Conditions: as at each lemma.
-/
import Derived.Test.YtcflcibncbipbaaOw
import Derived.Test.YtcflcibncbipbaaAg
import Derived.Test.YtcflcibncbipbaaScM
import Derived.Lib.MinMax
import Derived.Deep.Cut
import Derived.Deep.QuietTactic
import Derived.Deep.RegionHeld3
import Derived.BigQuiet
import Derived.BigRegion
import Derived.Laws.ResultCell
import Derived.Carry
import Derived.Shelf.Abstract
import Derived.Laws.OwnMore
import Derived.Lib.SliceRun
import Derived.Laws.AppendOwnNone
namespace Go.Proofs.Ytcflcibncbipbaa.Sc
open Go.ChangeShapes Go.WideShapes Go.ChangeAt Go.RowKit
open Ba (hidden Has Only)
open Ow (Own)
set_option linter.unusedVariables false

/-- rows of views in memory -/
abbrev Vs (w : World) (a : Option Addr) (n : Nat) (vs : List Vw) : Prop := Ag.Rows (fun q : Vw => [.int .i64 q.1, .int .i64 q.2.1, .int .i64 q.2.2.1, .bool q.2.2.2]) (fun q => (Lit.int .i64 q.1).wf = true ∧ (Lit.int .i64 q.2.1).wf = true ∧ (Lit.int .i64 q.2.2.1).wf = true) 4 w a n vs
theorem Vs.open {w : World} {a : Option Addr} {n : Nat} {vs : List Vw} (h : Vs w a n vs) (hn : 0 < n) : ∃ b off, a = some ⟨b, off, none⟩ ∧ b < w.heap.size := by
  rcases h.2.2.2 with h0 | ⟨b, off, e, hb, _⟩
  · omega
  · exact ⟨b, off, e, hb⟩
theorem Vs.len {w : World} {a : Option Addr} {n : Nat} {vs : List Vw} (h : Vs w a n vs) : vs.length = n := h.1
theorem Vs.get {w : World} {b off n : Nat} {vs : List Vw} (h : Vs w (some ⟨b, off, none⟩) n vs) {q : Nat} (hq : q < n) : w.cell? ⟨b, off + q * 4, none⟩ = some (.int .i64 (stt vs q)) ∧ w.cell? ⟨b, off + q * 4 + 1, none⟩ = some (.int .i64 (spc vs q)) ∧ w.cell? ⟨b, off + q * 4 + 2, none⟩ = some (.int .i64 (trp vs q)) ∧ w.cell? ⟨b, off + q * 4 + 3, none⟩ = some (.bool (shr vs q)) := by
  obtain ⟨h1, _, _, h4⟩ := h
  have hz : vs[q]? = some vs[q] := List.getElem?_eq_getElem (by omega)
  obtain ⟨e1, e2, e3, e4⟩ := parts hz
  rcases h4 with h4 | ⟨b', off', e, _, hc⟩
  · omega
  · cases e
    rw [e1, e2, e3, e4]
    exact ⟨hc q _ hz 0 _ rfl, hc q _ hz 1 _ rfl, hc q _ hz 2 _ rfl, hc q _ hz 3 _ rfl⟩
theorem Vs.block {w : World} {b off n : Nat} {vs : List Vw} (h : Vs w (some ⟨b, off, none⟩) n vs) (hn : 0 < n) : b < w.heap.size := by
  obtain ⟨_, _, e, hb⟩ := h.open hn
  cases e
  exact hb
def okq (vs : List Vw) (q : Nat) : Bool := okB (vs.getD q d0)
theorem okq_eq (vs : List Vw) (q : Nat) : okq vs q = decide ((1 ≤ stt vs q ∧ stt vs q ≤ 3) ∧ (0 ≤ spc vs q ∧ spc vs q ≤ 1073741824) ∧ (0 ≤ trp vs q ∧ trp vs q ≤ 1048576)) := rfl
theorem okq_at {vs : List Vw} {q : Nat} {v : Vw} (h : vs[q]? = some v) : okq vs q = okB v := by unfold okq; rw [List.getD_eq_getElem?_getD, h]; rfl
theorem all_next {vs : List Vw} {q : Nat} (h : q < vs.length) : (vs.take (q + 1)).all okB = ((vs.take q).all okB && okq vs q) := by
  have hz : vs[q]? = some vs[q] := List.getElem?_eq_getElem h
  rw [okq_at hz, List.take_add_one, hz, List.all_append]
  simp only [Option.toList_some, List.all_cons, List.all_nil, Bool.and_true]
theorem all_f {vs : List Vw} {q : Nat} (h : q < vs.length) (hq : okq vs q = false) : vs.all okB = false := by
  have hz : vs[q]? = some vs[q] := List.getElem?_eq_getElem h
  rw [okq_at hz] at hq
  cases ha : vs.all okB with
  | false => rfl
  | true =>
    rw [List.all_eq_true.1 ha _ (List.mem_of_getElem? hz)] at hq
    cases hq
/-- rows of numbers in memory -/
abbrev Nu (w : World) (a : Option Addr) (n : Nat) (ys : List Int) : Prop := Ag.Rows (fun n : Int => [.int .i64 n]) (fun n => (Lit.int .i64 n).wf = true) 1 w a n ys
theorem Nu.open {w : World} {a : Option Addr} {n : Nat} {ys : List Int} (h : Nu w a n ys) (hn : 0 < n) : ∃ b off, a = some ⟨b, off, none⟩ ∧ b < w.heap.size := by
  rcases h.2.2.2 with h0 | ⟨b, off, e, hb, _⟩
  · omega
  · exact ⟨b, off, e, hb⟩
theorem Nu.get {w : World} {b off n : Nat} {ys : List Int} (h : Nu w (some ⟨b, off, none⟩) n ys) {q : Nat} (hq : q < n) : ∃ y, ys[q]? = some y ∧ w.cell? ⟨b, off + q, none⟩ = some (.int .i64 y) := by
  obtain ⟨h1, _, _, h4⟩ := h
  have hz : ys[q]? = some ys[q] := List.getElem?_eq_getElem (by omega)
  rcases h4 with h4 | ⟨b', off', e, _, hc⟩
  · omega
  · cases e
    have := hc q _ hz 0 _ rfl
    rw [Nat.mul_one, Nat.add_zero] at this
    exact ⟨_, hz, this⟩
theorem Nu.len {w : World} {a : Option Addr} {n : Nat} {ys : List Int} (h : Nu w a n ys) : ys.length = n := h.1
theorem Nu.wf {w : World} {a : Option Addr} {n : Nat} {ys : List Int} (h : Nu w a n ys) {q : Nat} {y : Int} (hy : ys[q]? = some y) : -9223372036854775808 ≤ y ∧ y ≤ 9223372036854775807 := by
  have := h.2.1 y (List.mem_of_getElem? hy)
  simp [Lit.wf, IntKind.min, IntKind.max, IntKind.signed, IntKind.bits] at this
  omega
/-- the numbers as cells -/
def lc (xs : List Int) : List Value := xs.map fun x => .int .i64 x
theorem lc_len (xs : List Int) : (lc xs).length = xs.length := by simp [lc]
theorem lc_get (xs : List Int) (j : Nat) : (lc xs)[j]? = (xs[j]?).map fun x => .int .i64 x := by simp [lc]
theorem lc_app (xs ys : List Int) : lc (xs ++ ys) = lc xs ++ lc ys := by simp [lc]
theorem lc_set (xs : List Int) (j : Nat) (x : Int) : (lc xs).set j (.int .i64 x) = lc (xs.set j x) := by simp [lc]
theorem lc_one (xs : List Int) : ∀ u ∈ lc xs, u.oneCell' = true := by
  intro u hu
  obtain ⟨x, _, rfl⟩ := List.mem_map.1 hu
  rfl
theorem Nu.news {w : World} {b off n : Nat} {ys : List Int} (h : Nu w (some ⟨b, off, none⟩) n ys) : ∀ j u, (lc ys)[j]? = some u → w.cell? ((⟨b, off, none⟩ : Addr).add j) = some u := by
  intro j u hj
  have hjl := (List.getElem?_eq_some_iff.1 hj).1
  rw [lc_len, h.len] at hjl
  obtain ⟨y, hy, d⟩ := Nu.get h hjl
  rw [Go.WideShapes.add_plain, d]
  rw [lc_get, hy] at hj
  exact hj
/-- a row of one's own is a row -/
theorem Nu.own {w : World} {base n : Nat} {v : Value} {xs : List Int} (h : w.ownsRow base 3 1 v n (lc xs)) (hw : ∀ x ∈ xs, (Lit.int .i64 x).wf = true) (hn : n ≤ 140737488355328) : ∃ a cap, v = .slice a n cap ∧ Nu w a n xs := by
  have hl : xs.length = n := by have := h.1; rw [lc_len] at this; omega
  rcases h.2 with ⟨rfl, rfl⟩ | ⟨g, cap, cur, rfl, hb, hg, hc⟩
  · exact ⟨none, 0, rfl, hl, hw, hn, .inl rfl⟩
  · refine ⟨_, cap, rfl, hl, hw, hn, .inr ⟨g, 0, rfl, Ba.heap_lt hg, fun j z hz c u hu => ?_⟩⟩
    have hjl := (List.getElem?_eq_some_iff.1 hz).1
    match c, hu with
    | 0, hu =>
      simp at hu
      subst hu
      rw [Nat.mul_one, Nat.add_zero, Nat.zero_add, h.cellAt j (by omega), lc_get, hz]
      rfl
    | c + 1, hu => simp at hu
theorem wf_in {x : Int} (h : -9223372036854775808 ≤ x ∧ x ≤ 9223372036854775807) : (Lit.int .i64 x).wf = true := by
  simp [Lit.wf, IntKind.min, IntKind.max, IntKind.signed, IntKind.bits]
  omega
theorem below_drew {n : Nat} {w w1 : World} (h : Below n w w1) : Below n w w1.drew := h.trans ⟨rfl, rfl, rfl, Nat.le_refl _, fun _ _ => rfl⟩
theorem below_drewN {n : Nat} {w w1 : World} (h : Below n w w1) (k : Nat) : Below n w (w1.drewN k) := ⟨h.os, h.tape, h.output, h.size, h.block⟩
theorem keep_cell {w w1 : World} (h : Below w.heap.size w w1) {p : Addr} {v : Value} (hc : w.cell? p = some v) : w1.cell? p = some v := (h.cell (Ba.cell_lt hc)).trans hc
/-- an owned row grows: other blocks stay -/
theorem own_grown {w w1 w2 : World} {L : List Ow.Bk} {r : Option Nat} (h : Own w w1 L) (hg : w1.grownBy w2 r) (hr : ∀ k, r = some k → w.heap.size ≤ k ∧ ∀ x ∈ L, x.1 ≠ k) : Own w w2 L := by
  obtain ⟨h1, h2⟩ := h
  refine ⟨h1.trans ⟨hg.os, hg.tape, hg.output, hg.size, fun k hk => hg.block k (Nat.lt_of_lt_of_le hk h1.size) fun e => ?_⟩, fun x hx => ⟨(h2 x hx).1, ?_⟩⟩
  · have := (hr k e.symm).1
    omega
  · exact (hg.block x.1 (h2 x hx).2.lt fun e => (hr x.1 e.symm).2 x hx rfl).trans (h2 x hx).2
theorem row_below {B : Nat} {e : TypeId} {k : Nat} {v : Value} {n : Nat} {xs : List Value} {w w' : World} (h : w.ownsRow B e k v n xs) (hb : Below w.heap.size w w') : w'.ownsRow B e k v n xs := Ba.own_stay h (Only.of_below (F := []) hb) (fun _ _ => by simp)

theorem within (lo n hi : Int) (w : World) : Calls Try.prog 19 #[.int .i64 lo, .int .i64 n, .int .i64 hi] w fun e w' => e = .returned (.bool (decide (lo ≤ n ∧ n ≤ hi))) ∧ w = w' := by
  by_cases h1 : lo ≤ n
  · by_cases h2 : n ≤ hi
    · have hd : decide (lo ≤ n ∧ n ≤ hi) = true := decide_eq_true ⟨h1, h2⟩
      rw [hd]
      clear hd
      go_enter Try.func19, Try.ntmps19
      go_wp2
      go_ret
      exact ⟨rfl, rfl⟩
    · have hd : decide (lo ≤ n ∧ n ≤ hi) = false := decide_eq_false fun h => h2 h.2
      rw [hd]
      clear hd
      go_enter Try.func19, Try.ntmps19
      go_wp2
      go_ret
      exact ⟨rfl, rfl⟩
  · have hd : decide (lo ≤ n ∧ n ≤ hi) = false := decide_eq_false fun h => h1 h.1
    rw [hd]
    clear hd
    go_enter Try.func19, Try.ntmps19
    go_wp2
    go_ret
    exact ⟨rfl, rfl⟩
theorem within_t {lo n hi : Int} (h : lo ≤ n ∧ n ≤ hi) (w : World) : Calls Try.prog 19 #[.int .i64 lo, .int .i64 n, .int .i64 hi] w fun e w' => e = .returned (.bool true) ∧ w = w' := by
  have := within lo n hi w
  rwa [decide_eq_true h] at this
theorem within_f {lo n hi : Int} (h : ¬ (lo ≤ n ∧ n ≤ hi)) (w : World) : Calls Try.prog 19 #[.int .i64 lo, .int .i64 n, .int .i64 hi] w fun e w' => e = .returned (.bool false) ∧ w = w' := by
  have := within lo n hi w
  rwa [decide_eq_false h] at this
theorem withinS (lo n hi : Int) (w : World) : Calls Try.prog 42 #[.int .i64 lo, .int .i64 n, .int .i64 hi] w fun e w' => e = .returned (.bool (decide (lo ≤ n ∧ n ≤ hi))) ∧ w = w' := by
  by_cases h1 : lo ≤ n
  · by_cases h2 : n ≤ hi
    · have hd : decide (lo ≤ n ∧ n ≤ hi) = true := decide_eq_true ⟨h1, h2⟩
      rw [hd]
      clear hd
      go_enter Try.func42, Try.ntmps42
      go_wp2
      go_ret
      exact ⟨rfl, rfl⟩
    · have hd : decide (lo ≤ n ∧ n ≤ hi) = false := decide_eq_false fun h => h2 h.2
      rw [hd]
      clear hd
      go_enter Try.func42, Try.ntmps42
      go_wp2
      go_ret
      exact ⟨rfl, rfl⟩
  · have hd : decide (lo ≤ n ∧ n ≤ hi) = false := decide_eq_false fun h => h1 h.1
    rw [hd]
    clear hd
    go_enter Try.func42, Try.ntmps42
    go_wp2
    go_ret
    exact ⟨rfl, rfl⟩
theorem withinS_t {lo n hi : Int} (h : lo ≤ n ∧ n ≤ hi) (w : World) : Calls Try.prog 42 #[.int .i64 lo, .int .i64 n, .int .i64 hi] w fun e w' => e = .returned (.bool true) ∧ w = w' := by
  have := withinS lo n hi w
  rwa [decide_eq_true h] at this
theorem withinS_f {lo n hi : Int} (h : ¬ (lo ≤ n ∧ n ≤ hi)) (w : World) : Calls Try.prog 42 #[.int .i64 lo, .int .i64 n, .int .i64 hi] w fun e w' => e = .returned (.bool false) ∧ w = w' := by
  have := withinS lo n hi w
  rwa [decide_eq_false h] at this
theorem wrong (s p t : Int) (b : Bool) (w : World) : Calls Try.prog 28 #[.agg #[.int .i64 s, .int .i64 p, .int .i64 t, .bool b]] w fun e w' => e = .returned (.bool (!okB (s, p, t, b))) ∧ Below w.heap.size w w' := by
  have B0 := hidden ((Below.refl _ w).alloc (Nat.le_refl _) (.cells #[.int .i64 s, .int .i64 p, .int .i64 t, .bool b] 42))
  by_cases h1 : 1 ≤ s ∧ s ≤ 3
  · have W1 := hidden (withinS_t h1)
    by_cases h2 : 0 ≤ p ∧ p ≤ 1073741824
    · have W2 := hidden (within_t h2)
      by_cases h3 : 0 ≤ t ∧ t ≤ 1048576
      · have W3 := hidden (within_t h3)
        rw [show okB (s, p, t, b) = true from okB_t ⟨h1, h2, h3⟩]
        clear h1 h2 h3
        go_enter Try.func28, Try.ntmps28
        go_wp2_with fail
        refine Calls.mono (W1.out _) ?_
        rintro e w1 ⟨rfl, rfl⟩
        go_wp2_with fail
        refine Calls.mono (W2.out _) ?_
        rintro e w1 ⟨rfl, rfl⟩
        go_wp2_with fail
        refine Calls.mono (W3.out _) ?_
        rintro e w1 ⟨rfl, rfl⟩
        go_wp2
        go_ret
        exact ⟨rfl, B0.out⟩
      · have W3 := hidden (within_f h3)
        rw [show okB (s, p, t, b) = false from okB_f fun h => h3 h.2.2]
        clear h1 h2 h3
        go_enter Try.func28, Try.ntmps28
        go_wp2_with fail
        refine Calls.mono (W1.out _) ?_
        rintro e w1 ⟨rfl, rfl⟩
        go_wp2_with fail
        refine Calls.mono (W2.out _) ?_
        rintro e w1 ⟨rfl, rfl⟩
        go_wp2_with fail
        refine Calls.mono (W3.out _) ?_
        rintro e w1 ⟨rfl, rfl⟩
        go_wp2
        go_ret
        exact ⟨rfl, B0.out⟩
    · have W2 := hidden (within_f h2)
      rw [show okB (s, p, t, b) = false from okB_f fun h => h2 h.2.1]
      clear h1 h2
      go_enter Try.func28, Try.ntmps28
      go_wp2_with fail
      refine Calls.mono (W1.out _) ?_
      rintro e w1 ⟨rfl, rfl⟩
      go_wp2_with fail
      refine Calls.mono (W2.out _) ?_
      rintro e w1 ⟨rfl, rfl⟩
      go_wp2
      go_ret
      exact ⟨rfl, B0.out⟩
  · have W1 := hidden (withinS_f h1)
    rw [show okB (s, p, t, b) = false from okB_f fun h => h1 h.1]
    clear h1
    go_enter Try.func28, Try.ntmps28
    go_wp2_with fail
    refine Calls.mono (W1.out _) ?_
    rintro e w1 ⟨rfl, rfl⟩
    go_wp2
    go_ret
    exact ⟨rfl, B0.out⟩
section
variable {w : World} {a : Option Addr} {n cap : Nat} {vs : List Vw}
theorem index (h : Vs w a n vs) : Calls Try.prog 41 #[.slice a n cap, .func (.func 28) #[] #[]] w fun e w' => ∃ i : Int, e = .returned (.int .i64 i) ∧ decide (0 ≤ i) = !vs.all okB ∧ Below w.heap.size w w' := by
  have hn : n ≤ 140737488355328 := h.2.2.1
  have H := hidden h
  have HL := hidden h.len
  have B0 := hidden (Below.refl w.heap.size w)
  clear h
  go_enter Try.func41, Try.ntmps41
  go_wp2_with fail
  go_loopw [8] (fun i wr => ∃ q : Int, 0 ≤ q ∧ q ≤ (n : Int) ∧ i = .int .i64 q ∧ Hid ((vs.take q.toNat).all okB = true) ∧ Hid (Below w.heap.size w wr)) (fun i _ => n - (intOf i).toNat)
  case atStart => exact ⟨0, by omega, by omega, rfl, rfl, B0.out⟩
  case round =>
    clear B0
    obtain ⟨q, j1, j2, rfl, HA, HB⟩ := hrel
    by_cases hq : q < (n : Int)
    · obtain ⟨r, off, rfl, hr⟩ := Vs.open H.out (by omega)
      obtain ⟨c0, c1, c2, c3⟩ := Vs.get (H.out.later HB.out) (q := q.toNat) (by omega)
      have WR := hidden (wrong (stt vs q.toNat) (spc vs q.toNat) (trp vs q.toNat) (shr vs q.toNat))
      have HN : Hid ((vs.take (q + 1).toNat).all okB = ((vs.take q.toNat).all okB && okq vs q.toNat)) := by
        show (vs.take (q + 1).toNat).all okB = _
        rw [show (q + 1).toNat = q.toNat + 1 by omega]
        exact all_next (by have := HL.out; omega)
      have HQ : Hid (okB (stt vs q.toNat, spc vs q.toNat, trp vs q.toNat, shr vs q.toNat) = okq vs q.toNat) := rfl
      have HF : Hid (okq vs q.toNat = false → vs.all okB = false) := fun e => all_f (by have := HL.out; omega) e
      cases hk : okq vs q.toNat with
      | true =>
        have HK := hidden hk
        clear hk
        go_wp2_with fail
        refine Calls.mono (WR.out _) ?_
        rintro e w1 ⟨rfl, hB1⟩
        have HB1 := hidden hB1
        clear hB1
        rw [HQ.out, HK.out]
        go_wp2
        go_roundw
        case rel => exact ⟨q + 1, by omega, by omega, rfl, by show (vs.take (q + 1).toNat).all okB = true; rw [HN.out, HA.out, HK.out]; rfl, HB.out.trans (HB1.out.mono HB.out.size)⟩
        case measure => simp [intOf]; omega
      | false =>
        have HK := hidden hk
        clear hk
        go_wp2_with fail
        refine Calls.mono (WR.out _) ?_
        rintro e w1 ⟨rfl, hB1⟩
        have HB1 := hidden hB1
        clear hB1
        rw [HQ.out, HK.out]
        go_wp2
        go_ret
        exact ⟨q, rfl, by rw [HF.out HK.out]; exact decide_eq_true j1, HB.out.trans (HB1.out.mono HB.out.size)⟩
    · obtain rfl : q = (n : Int) := by omega
      go_wp2
      go_ret
      refine ⟨-1, rfl, ?_, HB.out⟩
      have e := HA.out
      rw [show ((n : Int)).toNat = vs.length by have := HL.out; omega, List.take_length] at e
      rw [e]
      rfl
theorem contains (h : Vs w a n vs) : Calls Try.prog 27 #[.slice a n cap, .func (.func 28) #[] #[]] w fun e w' => e = .returned (.bool (!vs.all okB)) ∧ Below w.heap.size w w' := by
  have I := hidden (index (cap := cap) h)
  clear h
  go_enter Try.func27, Try.ntmps27
  go_wp2_with fail
  refine Calls.mono I.out ?_
  rintro e w1 ⟨i, rfl, hi, hB⟩
  have HI := hidden hi
  have HB := hidden hB
  clear hi hB
  go_wp2
  go_ret
  exact ⟨by rw [← HI.out]; rfl, HB.out⟩
theorem check (h : Vs w a n vs) : Calls Try.prog 13 #[.slice a n cap] w fun e w' => e = .returned (.int .i64 (chk vs)) ∧ Below w.heap.size w w' := by
  have hn : n ≤ 140737488355328 := h.2.2.1
  have hl := h.len
  have B0 := hidden (Below.refl w.heap.size w)
  by_cases h1 : (1 : Int) ≤ n ∧ (n : Int) ≤ 8
  · have W1 := hidden (within_t h1)
    have C := hidden (contains (cap := cap) h)
    cases ha : vs.all okB with
    | true =>
      have HE := hidden (chk_ok (by omega) ha)
      have HA := hidden ha
      clear h h1 hl ha
      go_enter Try.func13, Try.ntmps13
      go_wp2_with fail
      refine Calls.mono (W1.out _) ?_
      rintro e w1 ⟨rfl, rfl⟩
      go_wp2_with fail
      refine Calls.mono C.out ?_
      rintro e w1 ⟨rfl, hB⟩
      have HB := hidden hB
      clear hB
      rw [HA.out]
      go_wp2
      go_ret
      exact ⟨by rw [HE.out]; rfl, HB.out⟩
    | false =>
      have HE := hidden (chk_arg (by omega) ha)
      have HA := hidden ha
      clear h h1 hl ha
      go_enter Try.func13, Try.ntmps13
      go_wp2_with fail
      refine Calls.mono (W1.out _) ?_
      rintro e w1 ⟨rfl, rfl⟩
      go_wp2_with fail
      refine Calls.mono C.out ?_
      rintro e w1 ⟨rfl, hB⟩
      have HB := hidden hB
      clear hB
      rw [HA.out]
      go_wp2
      go_ret
      exact ⟨by rw [HE.out]; rfl, HB.out⟩
  · have W1 := hidden (within_f h1)
    have HE := hidden (chk_many (vs := vs) (by omega))
    clear h h1 hl
    go_enter Try.func13, Try.ntmps13
    go_wp2_with fail
    refine Calls.mono (W1.out _) ?_
    rintro e w1 ⟨rfl, rfl⟩
    go_wp2
    go_ret
    exact ⟨by rw [HE.out]; rfl, B0.out⟩
end
end Go.Proofs.Ytcflcibncbipbaa.Sc
