/-
  Timeouts: what is handed in, as one struct, and Check's number; what its methods make of it.
  Conditions: as at each lemma.
-/
import Derived.Test.YthfhcepfomghoaaRtA
import Derived.Deep.Cut
import Derived.Deep.QuietTactic
import Derived.BigQuiet
import Derived.BigRegion
import Derived.Laws.ResultCell
import Derived.Carry
import Derived.Shelf.Abstract
namespace Go.Proofs.Ythfhcepfomghoaa.Rt
open Go.ChangeShapes Go.WideShapes Go.ChangeAt Go.RowKit
open Ba (hidden Has Only)
open Ow (Own)
set_option linter.unusedVariables false

abbrev takL (w : World) (i mi ma : Int) (k : Bool) (s v t : Int) : List Ow.Bk := [(w.heap.size + 3, #[.int .i64 i, .int .i64 mi, .int .i64 ma, .bool k, .int .i64 s, .int .i64 v, .int .i64 t], 39), (w.heap.size + 2, #[.int .i64 0, .int .i64 0, .int .i64 0, .bool false, .int .i64 0, .int .i64 0, .int .i64 0], 39), (w.heap.size + 1, #[.bool k, .int .i64 s, .int .i64 v, .int .i64 t], 25), (w.heap.size, #[.int .i64 i, .int .i64 mi, .int .i64 ma], 23)]
theorem takC {w w1 : World} {i mi ma : Int} {k : Bool} {s v t : Int} (h : Own w w1 (takL w i mi ma k s v t)) :
    w1.cell? ⟨w.heap.size + 3, 0, none⟩ = some (.int .i64 i) ∧ w1.cell? ⟨w.heap.size + 3, 1, none⟩ = some (.int .i64 mi) ∧ w1.cell? ⟨w.heap.size + 3, 2, none⟩ = some (.int .i64 ma) ∧ w1.cell? ⟨w.heap.size + 3, 3, none⟩ = some (.bool k) ∧ w1.cell? ⟨w.heap.size + 3, 4, none⟩ = some (.int .i64 s) ∧ w1.cell? ⟨w.heap.size + 3, 5, none⟩ = some (.int .i64 v) ∧ w1.cell? ⟨w.heap.size + 3, 6, none⟩ = some (.int .i64 t) :=
  ⟨h.cell (.head _) 0 rfl, h.cell (.head _) 1 rfl, h.cell (.head _) 2 rfl, h.cell (.head _) 3 rfl, h.cell (.head _) 4 rfl, h.cell (.head _) 5 rfl, h.cell (.head _) 6 rfl⟩
theorem takD {w w1 : World} {i mi ma : Int} {k : Bool} {s v t : Int} (h : Own w w1 (takL w i mi ma k s v t)) :
    w1.cell? ⟨w.heap.size + 1, 0, none⟩ = some (.bool k) ∧ w1.cell? ⟨w.heap.size + 1, 1, none⟩ = some (.int .i64 s) ∧ w1.cell? ⟨w.heap.size + 1, 2, none⟩ = some (.int .i64 v) ∧ w1.cell? ⟨w.heap.size + 1, 3, none⟩ = some (.int .i64 t) :=
  ⟨h.cell (.tail _ (.tail _ (.head _))) 0 rfl, h.cell (.tail _ (.tail _ (.head _))) 1 rfl, h.cell (.tail _ (.tail _ (.head _))) 2 rfl, h.cell (.tail _ (.tail _ (.head _))) 3 rfl⟩
theorem takS {w w1 : World} {i mi ma : Int} {k : Bool} {s v t : Int} (h : Own w w1 (takL w i mi ma k s v t)) : Own w (w1.setRow (w.heap.size + 2) #[.int .i64 i, .int .i64 mi, .int .i64 ma, .bool k, .int .i64 s, .int .i64 v, .int .i64 t]) [(w.heap.size + 2, #[.int .i64 i, .int .i64 mi, .int .i64 ma, .bool k, .int .i64 s, .int .i64 v, .int .i64 t], 39)] :=
  (h.sub (M := [(w.heap.size + 2, #[.int .i64 0, .int .i64 0, .int .i64 0, .bool false, .int .i64 0, .int .i64 0, .int .i64 0], 39)]) (by simp)).row _ (by simp)
theorem tak0 (w : World) (i mi ma : Int) (k : Bool) (s v t : Int) : Own w ((((w.alloc (.cells #[.int .i64 i, .int .i64 mi, .int .i64 ma] 23)).alloc (.cells #[.bool k, .int .i64 s, .int .i64 v, .int .i64 t] 25)).alloc (.cells #[.int .i64 0, .int .i64 0, .int .i64 0, .bool false, .int .i64 0, .int .i64 0, .int .i64 0] 39)).alloc (.cells #[.int .i64 i, .int .i64 mi, .int .i64 ma, .bool k, .int .i64 s, .int .i64 v, .int .i64 t] 39)) (takL w i mi ma k s v t) := by
  have h := ((own2 w i mi ma k s v t 23).alloc #[.int .i64 0, .int .i64 0, .int .i64 0, .bool false, .int .i64 0, .int .i64 0, .int .i64 0] 39).alloc #[.int .i64 i, .int .i64 mi, .int .i64 ma, .bool k, .int .i64 s, .int .i64 v, .int .i64 t] 39
  simpa using h
set_option maxHeartbeats 400000 in
theorem take (i mi ma : Int) (k0 : Bool) (s v t : Int) (w : World) : Calls Try.prog 18 #[.agg #[.int .i64 i, .int .i64 mi, .int .i64 ma], .agg #[.bool k0, .int .i64 s, .int .i64 v, .int .i64 t]] w fun e w' => e = .returned (.tuple #[.agg #[.int .i64 i, .int .i64 mi, .int .i64 ma, .bool k0, .int .i64 s, .int .i64 v, .int .i64 t], .int .i64 (chk i mi ma k0 s v t)]) ∧ Below w.heap.size w w' := by
  have C := hidden (check i mi ma k0 s v t)
  have EC : Hid (∀ (args : Array Value) (w : World), (callFunc 23 args).run Try.prog w = .ok (.enter 23 args) w) := enters_of Try.func23 (by kernel_rfl) rfl
  have T0 := hidden (tak0 w i mi ma k0 s v t)
  generalize chk i mi ma k0 s v t = c at C ⊢
  go_enter Try.func18, Try.ntmps18
  go_upto_region 2 with fail
  refine Ord.wp_region_ex0 (X := Unit) (by kernel_rfl) 16 (fun x => [(some 11, .agg #[.int .i64 i, .int .i64 mi, .int .i64 ma, .bool k0, .int .i64 s, .int .i64 v, .int .i64 t]), (some 12, .pointer (some ⟨w.heap.size + 3, 0, none⟩)), (some 13, .agg #[.int .i64 i, .int .i64 mi, .int .i64 ma]), (some 14, .agg #[.bool k0, .int .i64 s, .int .i64 v, .int .i64 t]), (some 15, .int .i64 c), (none, undef), (some 5, .int .i64 c)]) [some 11, some 12, some 13, some 14, some 15, none, some 5] rfl (fun listed hsz hr => Ord.all_listedC (rank := [0, 1, 2, 3, 4, 5, 6]) (by kernel_rfl) hsz hr) (by rfl) (fun _ => rfl) (by kernel_rfl) (Rg.StM [4, 5] (fun k _ w' => (k ≤ 1 → Own w w' (takL w i mi ma k0 s v t)) ∧ (2 ≤ k → Own w w' [(w.heap.size + 2, #[.int .i64 i, .int .i64 mi, .int .i64 ma, .bool k0, .int .i64 s, .int .i64 v, .int .i64 t], 39)]))) (fun _ _ _ _ hL h => h.ext (n := 7) (by decide) hL) ?_ ?_ () ?_
  case refine_1 =>
    intro x Lq iq oq ac w' ho hi hcl hdep hF hW
    have f1 : ac.tmps.size = 16 := hF.1
    match iq, ho, hi, hdep with
    | 0, ho, hi, hdep =>
      cases ho
      have da0 : ac.eval (.tmp 6) = .pointer (some ⟨w.heap.size + 3, 0, none⟩) := hF.old 6 rfl
      obtain ⟨kq, hlo, hhi, hA⟩ := hW.range 0 1 (.inl rfl) (.inr ⟨5, rfl, (Rg.no_of (fun h => hcl 5 _ rfl (h) ⟨0, .data⟩ (by simp) rfl) hi)⟩)
      obtain ⟨c0, c1, c2, c3, c4, c5, c6⟩ := takC (hA.1 (by omega))
      exact Ord.ex_value x rfl rfl (Rg.load da0 rfl (by simp [go_sem, c0, c1, c2, c3, c4, c5, c6])) rfl (hW.keep (by decide))
    | 1, ho, hi, hdep =>
      cases ho
      have da0 : ac.eval (.tmp 6) = .pointer (some ⟨w.heap.size + 3, 0, none⟩) := hF.old 6 rfl
      exact Ord.ex_value x rfl rfl (Rg.fa da0 rfl (by simp [go_sem])) rfl (hW.keep (by decide))
    | 2, ho, hi, hdep =>
      cases ho
      have da0 : ac.eval (.tmp 12) = .pointer (some ⟨w.heap.size + 3, 0, none⟩) := hF.2.2.2 1 12 _ rfl (hdep ⟨1, .data⟩ (by simp) rfl)
      obtain ⟨kq, hlo, hhi, hA⟩ := hW.range 0 0 (.inl rfl) (.inr ⟨4, rfl, (Rg.no_of (fun h => hcl 4 _ rfl (h) ⟨2, .data⟩ (by simp) rfl) hi)⟩)
      obtain ⟨c0, c1, c2, c3, c4, c5, c6⟩ := takC (hA.1 (by omega))
      exact Ord.ex_value x rfl rfl (Rg.load da0 rfl (by simp [go_sem, c0, c1, c2])) rfl (hW.keep (by decide))
    | 3, ho, hi, hdep =>
      cases ho
      have da0 : ac.eval (.tmp 3) = .pointer (some ⟨w.heap.size + 1, 0, none⟩) := hF.old 3 rfl
      obtain ⟨kq, hlo, hhi, hA⟩ := hW.range 0 0 (.inl rfl) (.inr ⟨4, rfl, (Rg.no_of (fun h => hcl 4 _ rfl (h) ⟨3, .data⟩ (by simp) rfl) hi)⟩)
      obtain ⟨d0, d1, d2, d3⟩ := takD (hA.1 (by omega))
      exact Ord.ex_value x rfl rfl (Rg.load da0 rfl (by simp [go_sem, d0, d1, d2, d3])) rfl (hW.keep (by decide))
    | 4, ho, hi, hdep =>
      cases ho
      have da0 : ac.eval (.tmp 13) = .agg #[.int .i64 i, .int .i64 mi, .int .i64 ma] := hF.2.2.2 2 13 _ rfl (hdep ⟨2, .data⟩ (by simp) rfl)
      have da1 : ac.eval (.tmp 14) = .agg #[.bool k0, .int .i64 s, .int .i64 v, .int .i64 t] := hF.2.2.2 3 14 _ rfl (hdep ⟨3, .data⟩ (by simp) rfl)
      have hA := hW.at (k := 0) rfl hi (.inl rfl)
      refine Rg.ex_call x rfl rfl (Rg.enter (args := #[.agg #[.int .i64 i, .int .i64 mi, .int .i64 ma], .agg #[.bool k0, .int .i64 s, .int .i64 v, .int .i64 t]]) rfl rfl (by simp [da0, da1]) EC.out) (Calls.mono (C.out _) ?_)
      rintro e w2 ⟨rfl, hB⟩
      exact ⟨rfl, hW.next (k := 0) rfl (by decide) hi (.inl rfl) ⟨fun _ => (hA.1 (by omega)).later hB, fun h => absurd h (by decide)⟩⟩
    | 5, ho, hi, hdep =>
      cases ho
      have da0 : ac.eval (.tmp 4) = .pointer (some ⟨w.heap.size + 2, 0, none⟩) := hF.old 4 rfl
      have da1 : ac.eval (.tmp 11) = .agg #[.int .i64 i, .int .i64 mi, .int .i64 ma, .bool k0, .int .i64 s, .int .i64 v, .int .i64 t] := hF.2.2.2 0 11 _ rfl (hdep ⟨0, .data⟩ (by simp) rfl)
      have hA := hW.at (k := 1) rfl hi (.inr ⟨4, rfl, (hdep ⟨4, .chain⟩ (by simp) rfl)⟩)
      have hO := hA.1 (by omega)
      exact Rg.ex_skip x rfl rfl (Rg.sto da0 da1 rfl (Ow.store_row (hO.has (.tail _ (.head _))) (by kernel_rfl) rfl (by simp [Value.oneCell']))) rfl (hW.next (k := 1) rfl (by decide) hi (.inr ⟨4, rfl, (hdep ⟨4, .chain⟩ (by simp) rfl)⟩) ⟨fun h => absurd h (by decide), fun _ => takS hO⟩)
    | 6, ho, hi, hdep =>
      cases ho
      have da0 : ac.eval (.tmp 15) = .int .i64 c := hF.2.2.2 4 15 _ rfl (hdep ⟨4, .data⟩ (by simp) rfl)
      exact Ord.ex_value x rfl rfl (Rg.asg da0 rfl) rfl (hW.keep (by decide))
  case refine_2 =>
    intro x w' hW
    have hO := hW.last.2 (by decide)
    have HO := hidden hO
    have c0 := hO.cell (.head _) 0 rfl
    have c1 := hO.cell (.head _) 1 rfl
    have c2 := hO.cell (.head _) 2 rfl
    have c3 := hO.cell (.head _) 3 rfl
    have c4 := hO.cell (.head _) 4 rfl
    have c5 := hO.cell (.head _) 5 rfl
    have c6 := hO.cell (.head _) 6 rfl
    clear hO hW
    simp only [Ord.puts, Ord.prs]
    go_simp
    go_wp2
    refine bodyPost_ret (v := .tuple #[.agg #[.int .i64 i, .int .i64 mi, .int .i64 ma, .bool k0, .int .i64 s, .int .i64 v, .int .i64 t], .int .i64 c]) (by rw [results_cell_tmp rfl]; go_simp) rfl ⟨rfl, HO.out.below⟩
  case refine_3 => exact Rg.StM.first ⟨fun _ => T0.out.drew, fun h => absurd h (by decide)⟩
/-- how far off -/
def absI (x : Int) : Int := max x (-x)
theorem adjust {w : World} {b : Nat} {i mi ma : Int} {k : Bool} {s v t off : Int} (h : Has w b #[.int .i64 i, .int .i64 mi, .int .i64 ma, .bool k, .int .i64 s, .int .i64 v, .int .i64 t] 39) (hs : 0 ≤ s ∧ s ≤ 8388608) (hv : 0 ≤ v ∧ v ≤ 8388608) (ho : -1048576 ≤ off ∧ off ≤ 1048576) :
    Calls Try.prog 25 #[.pointer (some ⟨b, 0, none⟩), .int .i64 off] w fun e w' => e = .returned (.tuple #[]) ∧ Has w' b #[.int .i64 i, .int .i64 mi, .int .i64 ma, .bool k, .int .i64 (s + off), .int .i64 (v + (absI off - v / 4)), .int .i64 t] 39 ∧ Only [b] w w' := by
  have c4 := h.cell 4 rfl
  have c5 := h.cell 5 rfl
  have f4 := h.frozen 4
  have f5 := h.frozen 5
  have hb := h.lt
  have H := hidden h
  have ea : max off (-off) = absI off := rfl
  have hA : 0 ≤ absI off ∧ absI off ≤ 1048576 := by unfold absI; omega
  generalize absI off = A at ea hA ⊢
  clear h
  go_enter Try.func25, Try.ntmps25
  go_upto_region 0 with fail
  go_region
  go_wp2
  go_end0
  refine ⟨rfl, ?_, ?_⟩
  · rw [← ea]
    exact (H.out.set 5 (.int .i64 (v + (max off (-off) - v / 4)))).set 4 (.int .i64 (s + off))
  · exact (((Only.setCell (F := [b]) w (p := ⟨b, 5, none⟩) (by simp) _)).then (Only.setCell (F := [b]) _ (p := ⟨b, 4, none⟩) (by simp) _)).drew
theorem begin_ {w : World} {b : Nat} {i mi ma : Int} {k : Bool} {s v t n : Int} (h : Has w b #[.int .i64 i, .int .i64 mi, .int .i64 ma, .bool k, .int .i64 s, .int .i64 v, .int .i64 t] 39) (hn : 0 ≤ n ∧ n ≤ 1048576) :
    Calls Try.prog 26 #[.pointer (some ⟨b, 0, none⟩), .int .i64 n] w fun e w' => e = .returned (.tuple #[]) ∧ Has w' b #[.int .i64 i, .int .i64 mi, .int .i64 ma, .bool true, .int .i64 (8 * n), .int .i64 (2 * n), .int .i64 t] 39 ∧ Only [b] w w' := by
  have c3 := h.cell 3 rfl
  have c4 := h.cell 4 rfl
  have c5 := h.cell 5 rfl
  have f3 := h.frozen 3
  have f4 := h.frozen 4
  have f5 := h.frozen 5
  have hb := h.lt
  have H := hidden h
  have e2 : 4 * n / 2 = 2 * n := by omega
  clear h
  go_enter Try.func26, Try.ntmps26
  go_wp2
  go_end0
  refine ⟨rfl, ?_, ?_⟩
  · exact ((H.out.set 3 (.bool true)).set 4 (.int .i64 (8 * n))).set 5 (.int .i64 (2 * n))
  · exact ((Only.setCell (F := [b]) w (p := ⟨b, 3, none⟩) (by simp) _).then (Only.setCell (F := [b]) _ (p := ⟨b, 4, none⟩) (by simp) _)).then (Only.setCell (F := [b]) _ (p := ⟨b, 5, none⟩) (by simp) _)
/-- the smoothed round trip time -/
def I64 (n : Int) : Prop := -9223372036854775808 ≤ n ∧ n ≤ 9223372036854775807
theorem of_wf64 {n : Int} (h : (Lit.int .i64 n).wf = true) : I64 n := by
  simp [Lit.wf, IntKind.min, IntKind.max, IntKind.signed, IntKind.bits] at h
  exact h
def tripI (s : Int) : Int := max s 0 / 8
theorem tdiv8 (s : Int) : s.tdiv 8 = if 0 ≤ s then s / 8 else -(-s / 8) := by
  split
  · rw [Int.tdiv_eq_ediv_of_nonneg (by assumption)]
  · rw [show s.tdiv 8 = -((-s).tdiv 8) by rw [Int.neg_tdiv, Int.neg_neg], Int.tdiv_eq_ediv_of_nonneg (by omega)]
theorem trip (k : Bool) {s : Int} (hs : I64 s) (v t : Int) (w : World) : Calls Try.prog 15 #[.agg #[.bool k, .int .i64 s, .int .i64 v, .int .i64 t]] w fun e w' => e = .returned (.int .i64 (tripI s)) ∧ Below w.heap.size w w' := by
  unfold I64 at hs
  go_enter Try.func15, Try.ntmps15
  go_wp2
  all_goals go_ret
  all_goals (refine ⟨congrArg Ending.returned (congrArg (Value.int .i64) ?_), (Below.refl _ w).alloc (Nat.le_refl _) _⟩; unfold tripI)
  all_goals (rw [tdiv8]; split <;> omega)
theorem rTrip (k : Bool) {s : Int} (hs : I64 s) (v t : Int) (w : World) : Calls Try.prog 16 #[.agg #[.bool k, .int .i64 s, .int .i64 v, .int .i64 t]] w fun e w' => e = .returned (.int .i64 (tripI s)) ∧ Below w.heap.size w w' := by
  unfold I64 at hs
  go_enter Try.func16, Try.ntmps16
  go_wp2
  all_goals go_ret
  all_goals (refine ⟨congrArg Ending.returned (congrArg (Value.int .i64) ?_), (Below.refl _ w).alloc (Nat.le_refl _) _⟩; unfold tripI)
  all_goals rfl
theorem wait {w : World} {b : Nat} {i mi ma : Int} {k : Bool} {s v t n : Int} (h : Has w b #[.int .i64 i, .int .i64 mi, .int .i64 ma, .bool k, .int .i64 s, .int .i64 v, .int .i64 t] 39) :
    Calls Try.prog 21 #[.pointer (some ⟨b, 0, none⟩), .int .i64 n] w fun e w' => e = .returned (.tuple #[]) ∧ Has w' b #[.int .i64 i, .int .i64 mi, .int .i64 ma, .bool k, .int .i64 s, .int .i64 v, .int .i64 (keepI n mi ma)] 39 ∧ Only [b] w w' := by
  have c1 := h.cell 1 rfl
  have c2 := h.cell 2 rfl
  have c6 := h.cell 6 rfl
  have f6 := h.frozen 6
  have H := hidden h
  have K := hidden (keep n mi ma)
  have EC : Hid (∀ (args : Array Value) (w : World), (callFunc 24 args).run Try.prog w = .ok (.enter 24 args) w) := enters_of Try.func24 (by kernel_rfl) rfl
  clear h
  go_enter Try.func21, Try.ntmps21
  go_upto_region 0 with fail
  refine Ord.wp_region_ex0 (X := Unit) (by kernel_rfl) 22 (fun x => [(some 4, .pointer (some ⟨b, 0, none⟩)), (some 5, .int .i64 n), (some 6, .pointer (some ⟨b, 0, none⟩)), (some 7, .pointer (some ⟨b, 0, none⟩)), (some 8, .pointer (some ⟨b, 0, none⟩)), (some 9, .pointer (some ⟨b, 0, none⟩)), (some 10, .pointer (some ⟨b, 1, none⟩)), (some 11, .int .i64 mi), (some 12, .pointer (some ⟨b, 0, none⟩)), (some 13, .pointer (some ⟨b, 0, none⟩)), (some 14, .pointer (some ⟨b, 0, none⟩)), (some 15, .pointer (some ⟨b, 0, none⟩)), (some 16, .pointer (some ⟨b, 2, none⟩)), (some 17, .int .i64 ma), (some 18, .int .i64 (keepI n mi ma)), (some 19, .pointer (some ⟨b, 0, none⟩)), (some 20, .pointer (some ⟨b, 3, none⟩)), (some 21, .pointer (some ⟨b, 6, none⟩)), (none, undef)]) [some 4, some 5, some 6, some 7, some 8, some 9, some 10, some 11, some 12, some 13, some 14, some 15, some 16, some 17, some 18, some 19, some 20, some 21, none] rfl (fun listed hsz hr => Ord.all_listedC (rank := [0, 1, 2, 3, 4, 5, 6, 7, 8, 9, 10, 11, 12, 13, 14, 15, 16, 17, 18]) (by kernel_rfl) hsz hr) (by rfl) (fun _ => rfl) (by kernel_rfl) (Rg.StM [18] (fun k _ w' => (k = 0 → w' = w.drew) ∧ (1 ≤ k → w' = w.drew.setCell ⟨b, 6, none⟩ (.int .i64 (keepI n mi ma))))) (fun _ _ _ _ hL h => h.ext (n := 19) (by decide) hL) ?_ ?_ () ?_
  case refine_1 =>
    intro x Lq iq oq ac w' ho hi hcl hdep hF hW
    have f1 : ac.tmps.size = 22 := hF.1
    match iq, ho, hi, hdep with
    | 0, ho, hi, hdep =>
      cases ho
      have da0 : ac.eval (.tmp 0) = .pointer (some ⟨b, 0, none⟩) := hF.old 0 rfl
      exact Ord.ex_value x rfl rfl (Rg.mv da0 rfl) rfl (hW.keep (by decide))
    | 1, ho, hi, hdep =>
      cases ho
      have da0 : ac.eval (.tmp 1) = .int .i64 n := hF.old 1 rfl
      exact Ord.ex_value x rfl rfl (Rg.mv da0 rfl) rfl (hW.keep (by decide))
    | 2, ho, hi, hdep =>
      cases ho
      have da0 : ac.eval (.tmp 0) = .pointer (some ⟨b, 0, none⟩) := hF.old 0 rfl
      exact Ord.ex_value x rfl rfl (Rg.mv da0 rfl) rfl (hW.keep (by decide))
    | 3, ho, hi, hdep =>
      cases ho
      have da0 : ac.eval (.tmp 6) = .pointer (some ⟨b, 0, none⟩) := hF.2.2.2 2 6 _ rfl (hdep ⟨2, .data⟩ (by simp) rfl)
      exact Ord.ex_value x rfl rfl (Rg.nilc da0 rfl) rfl (hW.keep (by decide))
    | 4, ho, hi, hdep =>
      cases ho
      have da0 : ac.eval (.tmp 7) = .pointer (some ⟨b, 0, none⟩) := hF.2.2.2 3 7 _ rfl (hdep ⟨3, .data⟩ (by simp) rfl)
      exact Ord.ex_value x rfl rfl (Rg.fa da0 rfl (by simp [go_sem])) rfl (hW.keep (by decide))
    | 5, ho, hi, hdep =>
      cases ho
      have da0 : ac.eval (.tmp 8) = .pointer (some ⟨b, 0, none⟩) := hF.2.2.2 4 8 _ rfl (hdep ⟨4, .data⟩ (by simp) rfl)
      exact Ord.ex_value x rfl rfl (Rg.fa da0 rfl (by simp [go_sem])) rfl (hW.keep (by decide))
    | 6, ho, hi, hdep =>
      cases ho
      have da0 : ac.eval (.tmp 9) = .pointer (some ⟨b, 0, none⟩) := hF.2.2.2 5 9 _ rfl (hdep ⟨5, .data⟩ (by simp) rfl)
      exact Ord.ex_value x rfl rfl (Rg.fa da0 rfl (by simp [go_sem])) rfl (hW.keep (by decide))
    | 7, ho, hi, hdep =>
      cases ho
      have da0 : ac.eval (.tmp 10) = .pointer (some ⟨b, 1, none⟩) := hF.2.2.2 6 10 _ rfl (hdep ⟨6, .data⟩ (by simp) rfl)
      obtain ⟨kq, hlo, hhi, hA⟩ := hW.range 0 0 (.inl rfl) (.inr ⟨18, rfl, (Rg.no_of (fun h => hcl 18 _ rfl (h) ⟨7, .phase⟩ (by simp) rfl) hi)⟩)
      exact Ord.ex_value x rfl rfl (Rg.load da0 rfl (by rw [hA.1 (by omega)]; simp [go_sem, c1])) rfl (hW.keep (by decide))
    | 8, ho, hi, hdep =>
      cases ho
      have da0 : ac.eval (.tmp 0) = .pointer (some ⟨b, 0, none⟩) := hF.old 0 rfl
      exact Ord.ex_value x rfl rfl (Rg.mv da0 rfl) rfl (hW.keep (by decide))
    | 9, ho, hi, hdep =>
      cases ho
      have da0 : ac.eval (.tmp 12) = .pointer (some ⟨b, 0, none⟩) := hF.2.2.2 8 12 _ rfl (hdep ⟨8, .data⟩ (by simp) rfl)
      exact Ord.ex_value x rfl rfl (Rg.nilc da0 rfl) rfl (hW.keep (by decide))
    | 10, ho, hi, hdep =>
      cases ho
      have da0 : ac.eval (.tmp 13) = .pointer (some ⟨b, 0, none⟩) := hF.2.2.2 9 13 _ rfl (hdep ⟨9, .data⟩ (by simp) rfl)
      exact Ord.ex_value x rfl rfl (Rg.fa da0 rfl (by simp [go_sem])) rfl (hW.keep (by decide))
    | 11, ho, hi, hdep =>
      cases ho
      have da0 : ac.eval (.tmp 14) = .pointer (some ⟨b, 0, none⟩) := hF.2.2.2 10 14 _ rfl (hdep ⟨10, .data⟩ (by simp) rfl)
      exact Ord.ex_value x rfl rfl (Rg.fa da0 rfl (by simp [go_sem])) rfl (hW.keep (by decide))
    | 12, ho, hi, hdep =>
      cases ho
      have da0 : ac.eval (.tmp 15) = .pointer (some ⟨b, 0, none⟩) := hF.2.2.2 11 15 _ rfl (hdep ⟨11, .data⟩ (by simp) rfl)
      exact Ord.ex_value x rfl rfl (Rg.fa da0 rfl (by simp [go_sem])) rfl (hW.keep (by decide))
    | 13, ho, hi, hdep =>
      cases ho
      have da0 : ac.eval (.tmp 16) = .pointer (some ⟨b, 2, none⟩) := hF.2.2.2 12 16 _ rfl (hdep ⟨12, .data⟩ (by simp) rfl)
      obtain ⟨kq, hlo, hhi, hA⟩ := hW.range 0 0 (.inl rfl) (.inr ⟨18, rfl, (Rg.no_of (fun h => hcl 18 _ rfl (h) ⟨13, .phase⟩ (by simp) rfl) hi)⟩)
      exact Ord.ex_value x rfl rfl (Rg.load da0 rfl (by rw [hA.1 (by omega)]; simp [go_sem, c2])) rfl (hW.keep (by decide))
    | 14, ho, hi, hdep =>
      cases ho
      have da0 : ac.eval (.tmp 5) = .int .i64 n := hF.2.2.2 1 5 _ rfl (hdep ⟨1, .data⟩ (by simp) rfl)
      have da1 : ac.eval (.tmp 11) = .int .i64 mi := hF.2.2.2 7 11 _ rfl (hdep ⟨7, .data⟩ (by simp) rfl)
      have da2 : ac.eval (.tmp 17) = .int .i64 ma := hF.2.2.2 13 17 _ rfl (hdep ⟨13, .data⟩ (by simp) rfl)
      obtain ⟨kq, hlo, hhi, hA⟩ := hW.range 0 0 (.inl rfl) (.inr ⟨18, rfl, (Rg.no_of (fun h => hcl 18 _ rfl (h) ⟨14, .data⟩ (by simp) rfl) hi)⟩)
      exact Rg.ex_call x rfl rfl (Rg.enter (args := #[.int .i64 n, .int .i64 mi, .int .i64 ma]) rfl rfl (by simp [da0, da1, da2]) EC.out) (Calls.mono (K.out _) (by rintro e w2 ⟨rfl, rfl⟩; exact ⟨rfl, (hW.keep (by decide))⟩))
    | 15, ho, hi, hdep =>
      cases ho
      have da0 : ac.eval (.tmp 4) = .pointer (some ⟨b, 0, none⟩) := hF.2.2.2 0 4 _ rfl (hdep ⟨0, .data⟩ (by simp) rfl)
      exact Ord.ex_value x rfl rfl (Rg.nilc da0 rfl) rfl (hW.keep (by decide))
    | 16, ho, hi, hdep =>
      cases ho
      have da0 : ac.eval (.tmp 19) = .pointer (some ⟨b, 0, none⟩) := hF.2.2.2 15 19 _ rfl (hdep ⟨15, .data⟩ (by simp) rfl)
      exact Ord.ex_value x rfl rfl (Rg.fa da0 rfl (by simp [go_sem])) rfl (hW.keep (by decide))
    | 17, ho, hi, hdep =>
      cases ho
      have da0 : ac.eval (.tmp 20) = .pointer (some ⟨b, 3, none⟩) := hF.2.2.2 16 20 _ rfl (hdep ⟨16, .data⟩ (by simp) rfl)
      exact Ord.ex_value x rfl rfl (Rg.fa da0 rfl (by simp [go_sem])) rfl (hW.keep (by decide))
    | 18, ho, hi, hdep =>
      cases ho
      have da0 : ac.eval (.tmp 21) = .pointer (some ⟨b, 6, none⟩) := hF.2.2.2 17 21 _ rfl (hdep ⟨17, .data⟩ (by simp) rfl)
      have da1 : ac.eval (.tmp 18) = .int .i64 (keepI n mi ma) := hF.2.2.2 14 18 _ rfl (hdep ⟨14, .data⟩ (by simp) rfl)
      have hA := hW.at (k := 0) rfl hi (.inl rfl)
      have hw := hA.1 (by omega)
      subst hw
      exact Rg.ex_skip x rfl rfl (Rg.sto da0 da1 rfl (by simp [go_sem, c6, f6])) rfl (hW.next (k := 0) rfl (by decide) hi (.inl rfl) ⟨fun h => absurd h (by decide), fun _ => rfl⟩)
  case refine_2 =>
    intro x w' hW
    have hw := hW.last.2 (by decide)
    subst hw
    clear hW c1 c2 c6 f6
    simp only [Ord.puts, Ord.prs]
    go_simp
    go_wp2
    go_end0
    refine ⟨rfl, ?_, ?_⟩
    · exact H.out.set 6 (.int .i64 (keepI n mi ma))
    · exact (Only.setCell (F := [b]) w (p := ⟨b, 6, none⟩) (by simp) _).drew
  case refine_3 => exact Rg.StM.first ⟨fun _ => rfl, fun h => absurd h (by decide)⟩
end Go.Proofs.Ythfhcepfomghoaa.Rt
