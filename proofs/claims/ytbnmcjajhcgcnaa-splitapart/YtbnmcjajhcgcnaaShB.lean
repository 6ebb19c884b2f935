/-
  Shares of a send buffer: what package split says of them, of what is outstanding, and of all of it.
  Conditions: as at each lemma.
-/
import Derived.Test.YtbnmcjajhcgcnaaShA
namespace Go.Proofs.Ytbnmcjajhcgcnaa.Sh
open Go.ChangeShapes Go.WideShapes Go.ChangeAt Go.RowKit
open Ba (hidden Has Only)
open Ow (Own)
set_option linter.unusedVariables false

theorem cells3 {w w1 : World} {L : List Ow.Bk} (h : Own w w1 L) {b : Nat} {x y z : Value} {t : TypeId} (hx : (b, #[x, y, z], t) ∈ L) : w1.cell? ⟨b, 0, none⟩ = some x ∧ w1.cell? ⟨b, 1, none⟩ = some y ∧ w1.cell? ⟨b, 2, none⟩ = some z :=
  ⟨h.cell hx 0 rfl, h.cell hx 1 rfl, h.cell hx 2 rfl⟩
/-- a share, and whether there is one -/
def shE (B P M : Int) : Int := bif okb B P M then 0 else 140
def shV (B P M : Int) : Int := bif okb B P M then part B P else 0
theorem sh_ok {B P M : Int} (h : okS B P M) : shE B P M = 0 ∧ shV B P M = part B P := by unfold shE shV; rw [okb_t h]; exact ⟨rfl, rfl⟩
theorem sh_no {B P M : Int} (h : ¬ okS B P M) : shE B P M = 140 ∧ shV B P M = 0 := by unfold shE shV; rw [okb_f h]; exact ⟨rfl, rfl⟩
/-- sums of the first ones -/
def sm (ys : List Int) (q : Nat) : Int := (ys.take q).sum
theorem sm_next {ys : List Int} {q : Nat} {y : Int} (h : ys[q]? = some y) : sm ys (q + 1) = sm ys q + y := by
  unfold sm
  rw [List.take_add_one, h]
  simp
theorem sm_in {ys : List Int} (hg : ∀ y ∈ ys, byt y) : ∀ q : Nat, q ≤ ys.length → 0 ≤ sm ys q ∧ sm ys q ≤ q * 1073741824
  | 0, _ => by simp [sm]
  | q + 1, h => by
    obtain ⟨h1, h2⟩ := sm_in hg q (by omega)
    have e : ys[q]? = some ys[q] := List.getElem?_eq_getElem (by omega)
    have g := hg _ (List.mem_of_getElem? e)
    rw [sm_next e]
    omega
def toE (ys : List Int) : Int := bif decide (ys.length ≤ 8) && okY ys then 0 else 1
def toV (ys : List Int) : Int := bif decide (ys.length ≤ 8) && okY ys then sm ys ys.length else 0
theorem to_ok {ys : List Int} (h : ys.length ≤ 8) (hy : okY ys = true) : toE ys = 0 ∧ toV ys = sm ys ys.length := by unfold toE toV; rw [decide_eq_true h, hy]; exact ⟨rfl, rfl⟩
theorem to_many {ys : List Int} (h : ¬ ys.length ≤ 8) : toE ys = 1 ∧ toV ys = 0 := by unfold toE toV; rw [decide_eq_false h]; exact ⟨rfl, rfl⟩
theorem to_arg {ys : List Int} (hy : okY ys = false) : toE ys = 1 ∧ toV ys = 0 := by unfold toE toV; rw [hy]; simp
section
variable {w : World} {a : Option Addr} {n cap : Nat} {ys : List Int}
theorem bounded (h : Nu w a n ys) : Calls Try.prog 29 #[.slice a n cap] w fun e w' => e = .returned (.bool (okY ys)) ∧ Below w.heap.size w w' := by
  have EA := hidden (each_fine (cap := cap) h ((Own.refl w).alloc #[.bool true] 4))
  clear h
  generalize okY ys = f at *
  go_enter Try.func29, Try.ntmps29
  go_wp2_with fail
  refine Calls.mono EA.out ?_
  rintro e w1 ⟨rfl, hO⟩
  have O := hidden hO
  have c0 := hO.cell (.head _) 0 rfl
  clear hO EA
  go_wp2
  go_ret
  exact ⟨rfl, O.out.below⟩
set_option maxHeartbeats 1000000 in
theorem check (h : Nu w a n ys) (B P M : Int) : Calls Try.prog 15 #[.agg #[.int .i64 B, .int .i64 P, .int .i64 M], .slice a n cap] w fun e w' => e = .returned (.int .i64 (chk B P M ys)) ∧ Below w.heap.size w w' := by
  have hl := h.len
  have hn : n ≤ 140737488355328 := h.2.2.1
  have O := hidden ((Own.refl w).alloc #[.int .i64 B, .int .i64 P, .int .i64 M] 23)
  have SH := hidden (shared B P M)
  have BO : Hid (∀ X, Below w.heap.size w X → Calls Try.prog 29 #[.slice a n cap] X fun e w' => e = .returned (.bool (okY ys)) ∧ Below X.heap.size X w') := fun X hX => bounded (h.later hX)
  by_cases hk : okS B P M
  · rw [okb_t hk] at SH
    by_cases hp : (n : Int) = P
    · have HC := hidden (fun hy => chk_ok hk (ys := ys) (by omega) hy)
      have HD := hidden (fun hy => chk_arg hk (ys := ys) hy)
      clear h hk
      cases hy : okY ys with
      | true =>
        have E := hidden (HC.out hy)
        rw [hy] at BO
        generalize chk B P M ys = C at *
        clear HC HD hy
        go_enter Try.func15, Try.ntmps15
        go_wp2_with fail
        refine Calls.mono (SH.out _) ?_
        rintro e w1 ⟨rfl, hB⟩
        have O1 := hidden (O.out.later hB)
        obtain ⟨c0, c1, c2⟩ := cells3 O1.out (.head _)
        clear hB O SH
        go_wp2_with fail
        refine Calls.mono (BO.out _ O1.out.below) ?_
        rintro e w2 ⟨rfl, hB⟩
        have O2 := hidden (O1.out.later hB)
        clear hB O1 BO
        go_wp2
        go_ret
        exact ⟨by rw [E.out]; rfl, O2.out.below⟩
      | false =>
        have E := hidden (HD.out hy)
        rw [hy] at BO
        generalize chk B P M ys = C at *
        clear HC HD hy
        go_enter Try.func15, Try.ntmps15
        go_wp2_with fail
        refine Calls.mono (SH.out _) ?_
        rintro e w1 ⟨rfl, hB⟩
        have O1 := hidden (O.out.later hB)
        obtain ⟨c0, c1, c2⟩ := cells3 O1.out (.head _)
        clear hB O SH
        go_wp2_with fail
        refine Calls.mono (BO.out _ O1.out.below) ?_
        rintro e w2 ⟨rfl, hB⟩
        have O2 := hidden (O1.out.later hB)
        clear hB O1 BO
        go_wp2
        go_ret
        exact ⟨by rw [E.out]; rfl, O2.out.below⟩
    · have E := hidden (chk_len hk (ys := ys) (by omega))
      generalize chk B P M ys = C at *
      clear h hk hl BO
      go_enter Try.func15, Try.ntmps15
      go_wp2_with fail
      refine Calls.mono (SH.out _) ?_
      rintro e w1 ⟨rfl, hB⟩
      have O1 := hidden (O.out.later hB)
      obtain ⟨c0, c1, c2⟩ := cells3 O1.out (.head _)
      clear hB O SH
      go_wp2
      go_ret
      exact ⟨by rw [E.out]; rfl, O1.out.below⟩
  · rw [okb_f hk] at SH
    have E := hidden (chk_no hk ys)
    generalize chk B P M ys = C at *
    clear h hk hl BO
    go_enter Try.func15, Try.ntmps15
    go_wp2_with fail
    refine Calls.mono (SH.out _) ?_
    rintro e w1 ⟨rfl, hB⟩
    have O1 := hidden (O.out.later hB)
    clear hB O SH
    go_wp2
    go_ret
    exact ⟨by rw [E.out]; rfl, O1.out.below⟩
end
theorem share (B P M : Int) (w : World) : Calls Try.prog 8 #[.agg #[.int .i64 B, .int .i64 P, .int .i64 M]] w fun e w' => e = .returned (.tuple #[.int .i64 (shV B P M), .int .i64 (shE B P M)]) ∧ Below w.heap.size w w' := by
  have O := hidden ((Own.refl w).alloc #[.int .i64 B, .int .i64 P, .int .i64 M] 23)
  have SH := hidden (shared B P M)
  by_cases hk : okS B P M
  · rw [okb_t hk] at SH
    rw [(sh_ok hk).1, (sh_ok hk).2]
    have PA := hidden (part_ (n := B) (p := P) ⟨by have := hk.1; omega, hk.1.2⟩ hk.2.1)
    generalize part B P = V at *
    clear hk
    go_enter Try.func8, Try.ntmps8
    go_wp2_with fail
    refine Calls.mono (SH.out _) ?_
    rintro e w1 ⟨rfl, hB⟩
    have O1 := hidden (O.out.later hB)
    obtain ⟨c0, c1, c2⟩ := cells3 O1.out (.head _)
    clear hB O SH
    go_wp2_with fail
    refine Calls.mono (PA.out _) ?_
    rintro e w2 ⟨rfl, rfl⟩
    go_wp2
    go_ret2
    exact ⟨rfl, O1.out.below⟩
  · rw [okb_f hk] at SH
    rw [(sh_no hk).1, (sh_no hk).2]
    clear hk
    go_enter Try.func8, Try.ntmps8
    go_wp2_with fail
    refine Calls.mono (SH.out _) ?_
    rintro e w1 ⟨rfl, hB⟩
    have O1 := hidden (O.out.later hB)
    clear hB O SH
    go_wp2
    go_ret2
    exact ⟨rfl, O1.out.below⟩
/-- one number more -/
theorem plus {w : World} {b : Nat} {s y : Int} (h : Has w b #[.int .i64 s] 3) (hs : -9223372036854775808 ≤ s + y ∧ s + y ≤ 9223372036854775807) : Calls Try.prog 30 #[.int .i64 y, .pointer (some ⟨b, 0, none⟩)] w fun e w' => e = .returned (.tuple #[]) ∧ w.setCell ⟨b, 0, none⟩ (.int .i64 (s + y)) = w' := by
  have c0 := h.cell 0 rfl
  have f0 := h.frozen 0
  have hw : IntKind.i64.wrap (s + y) = s + y := by rw [IntKind.wrap_i64]; omega
  clear h hs
  go_enter Try.func30, Try.ntmps30
  go_wp2
  go_end0
  exact ⟨rfl, rfl⟩
section
variable {w0 w : World} {a : Option Addr} {n cap b : Nat} {ys : List Int}
theorem each_plus (h : Nu w0 a n ys) (h8 : n ≤ 8) (hy : ∀ y ∈ ys, byt y) (hO : Own w0 w [(b, #[.int .i64 0], 3)]) : Calls Try.prog 27 #[.slice a n cap, .func (.func 30) #[] #[.pointer (some ⟨b, 0, none⟩)]] w fun e w' => e = .returned (.tuple #[]) ∧ Own w0 w' [(b, #[.int .i64 (sm ys ys.length)], 3)] := by
  have H := hidden h
  have O := hidden hO
  have HY := hidden hy
  clear h hO hy
  go_enter Try.func27, Try.ntmps27
  go_wp2_with fail
  go_loopw [8] (fun i wr => ∃ q : Int, 0 ≤ q ∧ q ≤ (n : Int) ∧ i = .int .i64 q ∧ Hid (Own w0 wr [(b, #[.int .i64 (sm ys q.toNat)], 3)])) (fun i _ => n - (intOf i).toNat)
  case atStart => exact ⟨0, by omega, by omega, rfl, O.out⟩
  case round =>
    clear O
    obtain ⟨q, j1, j2, rfl, O⟩ := hrel
    by_cases hq : q < (n : Int)
    · obtain ⟨r, off, rfl, hr⟩ := Nu.open H.out (by omega)
      obtain ⟨y, hy, d0⟩ := Nu.get (H.out.later O.out.below) (q := q.toNat) (by omega)
      have hg := HY.out _ (List.mem_of_getElem? hy)
      have hi := sm_in HY.out q.toNat (by rw [H.out.len]; omega)
      have FI := hidden (plus (O.out.has (.head _)) (y := y) (by omega))
      have O1 : Hid (Own w0 (wr.setCell ⟨b, 0, none⟩ (.int .i64 (sm ys q.toNat + y))) [(b, #[.int .i64 (sm ys (q + 1).toNat)], 3)]) := by
        show Own w0 (wr.setCell ⟨b, 0, none⟩ (.int .i64 (sm ys q.toNat + y))) [(b, #[.int .i64 (sm ys (q + 1).toNat)], 3)]
        rw [show (q + 1).toNat = q.toNat + 1 by omega, sm_next hy]
        exact O.out.set 0 _ (by simp)
      generalize wr.setCell ⟨b, 0, none⟩ (.int .i64 (sm ys q.toNat + y)) = w1 at *
      clear hy hg hi
      go_wp2_with fail
      refine Calls.mono FI.out ?_
      rintro e w2 ⟨rfl, rfl⟩
      clear FI d0
      go_wp2
      go_roundw
      case rel => exact ⟨q + 1, by omega, by omega, rfl, O1.out⟩
      case measure => simp [intOf]; omega
    · obtain rfl : q = (n : Int) := by omega
      have HE : Hid ((n : Int).toNat = ys.length) := by
        show (n : Int).toNat = ys.length
        rw [H.out.len]
        omega
      rw [HE.out] at O
      go_wp2
      go_end0
      exact ⟨rfl, O.out⟩
end
section
variable {w : World} {a : Option Addr} {n cap : Nat} {ys : List Int}
theorem total (h : Nu w a n ys) : Calls Try.prog 12 #[.slice a n cap] w fun e w' => e = .returned (.tuple #[.int .i64 (toV ys), .int .i64 (toE ys)]) ∧ Below w.heap.size w w' := by
  have hl := h.len
  have hn : n ≤ 140737488355328 := h.2.2.1
  by_cases h8 : n ≤ 8
  · have BO := hidden (bounded (cap := cap) h)
    cases hy : okY ys with
    | true =>
      rw [(to_ok (by omega) hy).1, (to_ok (by omega) hy).2]
      rw [hy] at BO
      have EA : Hid (∀ X, Below w.heap.size w X → Calls Try.prog 27 #[.slice a n cap, .func (.func 30) #[] #[.pointer (some ⟨X.heap.size, 0, none⟩)]] (X.alloc (.cells #[.int .i64 0] 3)) fun e w' => e = .returned (.tuple #[]) ∧ Own X w' [(X.heap.size, #[.int .i64 (sm ys ys.length)], 3)]) := fun X hX => each_plus (h.later hX) h8 ((okY_iff ys).1 hy) ((Own.refl X).alloc _ _)
      generalize sm ys ys.length = V at *
      clear h hl hy
      go_enter Try.func12, Try.ntmps12
      go_wp2_with fail
      refine Calls.mono BO.out ?_
      rintro e w1 ⟨rfl, hB⟩
      have HB := hidden hB
      clear hB BO
      go_wp2_with fail
      refine Calls.mono (EA.out w1 HB.out) ?_
      rintro e w2 ⟨rfl, hO⟩
      have c0 := hO.cell (.head _) 0 rfl
      have HB2 := hidden (HB.out.trans (hO.below.mono HB.out.size))
      clear hO EA
      go_wp2
      go_ret2
      exact ⟨rfl, HB2.out⟩
    | false =>
      rw [(to_arg hy).1, (to_arg hy).2]
      rw [hy] at BO
      clear h hl hy
      go_enter Try.func12, Try.ntmps12
      go_wp2_with fail
      refine Calls.mono BO.out ?_
      rintro e w1 ⟨rfl, hB⟩
      have HB := hidden hB
      clear hB BO
      go_wp2
      go_ret2
      exact ⟨rfl, HB.out⟩
  · rw [(to_many (by omega)).1, (to_many (by omega)).2]
    clear h hl
    go_enter Try.func12, Try.ntmps12
    go_wp2
    go_ret2
    exact ⟨rfl, Below.refl _ _⟩
end
end Go.Proofs.Ytbnmcjajhcgcnaa.Sh
