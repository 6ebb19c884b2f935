/-
  The small functions of a network: its lanes and rows, what they hold.
  Conditions: the network lies in memory.
-/
import Derived.Test.YtmogacccffkkbaaNtA
import Derived.Lib.SliceRun
namespace Go.Proofs.Ytmogacccffkkbaa.Nt
open Go.ChangeShapes Go.WideShapes Go.ChangeAt Go.RowKit
open Ba (hidden Only In Has own_ne own_stay own_len own_some own_mono cell_lt heap_lt)
set_option linter.unusedVariables false
section
variable {base : Nat} {w w' w1 : World} {t b : Nat} {vs : Nat → Nat → Value} {S : St} {i e : Nat}
theorem unmade (h : No base w t b vs S) : Calls Try.prog 46 #[.pointer (some ⟨t, 0, none⟩)] w fun e w' => e = .returned (.bool false) ∧ w = w' := by
  have c0 := h.net.cell 0 rfl
  have hN := fun w => Lib.run_eql_slice_nil (P := Try.prog) w 55 101 (some ⟨b, 0, none⟩) S.p S.p 0 0 Try.underlying55
  clear h
  go_enter Try.func46, Try.ntmps46
  go_wp2
  go_ret
  exact ⟨rfl, rfl⟩
theorem lane_ok (h : No base w t b vs S) {path : Int} (hp : okP S path = true) (hS : S.p ≤ 8) : Calls Try.prog 44 #[.pointer (some ⟨t, 0, none⟩), .int .i64 path] w fun e w' => e = .returned (.tuple #[.pointer (some ⟨b, path.toNat * 11, none⟩), .int .i64 0]) ∧ w = w' := by
  have U := hidden (unmade h)
  have c0 := h.net.cell 0 rfl
  obtain ⟨h1, h2⟩ : 0 ≤ path ∧ path < (S.p : Int) := of_decide_eq_true hp
  clear h hp
  go_enter Try.func44, Try.ntmps44
  go_wp2_with fail
  refine Calls.mono U.out ?_
  rintro e w' ⟨rfl, rfl⟩
  go_wp2
  go_ret2
  simp
theorem lane_no (h : No base w t b vs S) {path : Int} (hp : okP S path = false) (hS : S.p ≤ 8) : Calls Try.prog 44 #[.pointer (some ⟨t, 0, none⟩), .int .i64 path] w fun e w' => e = .returned (.tuple #[.pointer none, .int .i64 90]) ∧ w = w' := by
  have U := hidden (unmade h)
  have c0 := h.net.cell 0 rfl
  have h1 : ¬ (0 ≤ path ∧ path < (S.p : Int)) := of_decide_eq_false hp
  clear h hp
  go_enter Try.func44, Try.ntmps44
  go_wp2_with fail
  refine Calls.mono U.out ?_
  rintro e w' ⟨rfl, rfl⟩
  by_cases h0 : path < 0
  · go_wp2
    go_ret2
    exact ⟨rfl, rfl⟩
  · have h2 : (S.p : Int) ≤ path := by omega
    go_wp2
    go_ret2
    exact ⟨rfl, rfl⟩
theorem row_ok (h : No base w t b vs S) {en path : Int} (hp : ok S en path = true) (hS : S.p ≤ 8) : Calls Try.prog 35 #[.pointer (some ⟨t, 0, none⟩), .int .i64 en, .int .i64 path] w fun e w' => e = .returned (.tuple #[.pointer (some ⟨b, path.toNat * 11 + en.toNat * 5, none⟩), .int .i64 0]) ∧ w = w' := by
  have hq : okP S path = true := by unfold ok at hp; simp at hp; exact hp.2
  have LA := hidden (lane_ok h hq hS)
  obtain ⟨⟨h1, h2⟩, h3, h4⟩ := ok_iff.1 hp
  clear h hp hq
  go_enter Try.func35, Try.ntmps35
  go_wp2_with fail
  refine Calls.mono LA.out ?_
  rintro e w' ⟨rfl, rfl⟩
  go_wp2
  go_ret2
  simp
theorem row_no (h : No base w t b vs S) {en path : Int} (hp : ok S en path = false) (hS : S.p ≤ 8) : Calls Try.prog 35 #[.pointer (some ⟨t, 0, none⟩), .int .i64 en, .int .i64 path] w fun e w' => e = .returned (.tuple #[.pointer none, .int .i64 90]) ∧ w = w' := by
  cases hq : okP S path with
  | false =>
    have LA := hidden (lane_no h hq hS)
    clear h hp hq
    go_enter Try.func35, Try.ntmps35
    go_wp2_with fail
    refine Calls.mono LA.out ?_
    rintro e w' ⟨rfl, rfl⟩
    go_wp2
    go_ret2
    exact ⟨rfl, rfl⟩
  | true =>
    have LA := hidden (lane_ok h hq hS)
    have h1 : ¬ (0 ≤ en ∧ en < 2) := by unfold ok okE at hp; rw [hq] at hp; simpa using hp
    clear h hp hq
    by_cases h0 : en < 0
    · go_enter Try.func35, Try.ntmps35
      go_wp2_with fail
      refine Calls.mono LA.out ?_
      rintro e w' ⟨rfl, rfl⟩
      go_wp2
      go_ret2
      exact ⟨rfl, rfl⟩
    · have h2 : 2 ≤ en := by omega
      go_enter Try.func35, Try.ntmps35
      go_wp2_with fail
      refine Calls.mono LA.out ?_
      rintro e w' ⟨rfl, rfl⟩
      go_wp2
      go_ret2
      exact ⟨rfl, rfl⟩
/-- a row's place in the lanes -/
structure At (S : St) (i e o : Nat) : Prop where
  li : i < S.p
  le : e < 2
  lo : o = i * 11 + e * 5
theorem full (h : No base w t b vs S) {o : Nat} (ha : At S i e o) (hl : (S.R i e).L.length ≤ 1000) : Calls Try.prog 51 #[.pointer (some ⟨b, o, none⟩)] w fun e w' => e = .returned (.bool false) ∧ w = w' := by
  have c4 := h.ln.cell ha.li ha.le 4 rfl
  obtain ⟨a, cap, hv⟩ := own_len (h.own i e)
  rw [hv, ← ha.lo] at c4
  generalize (S.R i e).L.length = n at c4 hl
  clear h ha hv
  go_enter Try.func51, Try.ntmps51
  go_wp2
  go_ret
  refine ⟨?_, rfl⟩
  simp
  omega
theorem has_ (h : No base w t b vs S) {o : Nat} (ha : At S i e o) (hl : (S.R i e).L.length ≤ 1000) (j : Int) : Calls Try.prog 53 #[.pointer (some ⟨b, o, none⟩), .int .i64 j] w fun e' w' => e' = .returned (.bool (decide (0 ≤ j ∧ j < ((S.R i e).L.length : Int)))) ∧ w = w' := by
  have c4 := h.ln.cell ha.li ha.le 4 rfl
  obtain ⟨a, cap, hv⟩ := own_len (h.own i e)
  rw [hv, ← ha.lo] at c4
  generalize (S.R i e).L.length = n at c4 hl
  clear h ha hv
  by_cases h0 : 0 ≤ j
  · by_cases h1 : j < (n : Int)
    · rw [decide_eq_true ⟨h0, h1⟩]
      go_enter Try.func53, Try.ntmps53
      go_wp2
      go_ret
      exact ⟨rfl, rfl⟩
    · rw [decide_eq_false (fun hh => h1 hh.2)]
      go_enter Try.func53, Try.ntmps53
      go_wp2
      go_ret
      exact ⟨rfl, rfl⟩
  · rw [decide_eq_false (fun hh => h0 hh.1)]
    go_enter Try.func53, Try.ntmps53
    go_wp2
    go_ret
    exact ⟨rfl, rfl⟩
theorem count (h : No base w t b vs S) {o : Nat} (ha : At S i e o) (hr : Rok S.next (S.R i e)) (hn : S.next ≤ 1000) (f : Bool) : Calls Try.prog 52 #[.pointer (some ⟨b, o, none⟩), .bool f] w fun e' w' => e' = .returned (.tuple #[]) ∧ No base w' t b vs (cnt S i e f) ∧ Kept TYc base w w' := by
  have := hr.s; have := hr.d; have := hr.l; have := hr.f; have := hr.sum; have := hr.few
  have c0 := h.ln.cell ha.li ha.le 0 rfl
  have c3 := h.ln.cell ha.li ha.le 3 rfl
  have f0 := h.ln.frozen (i * 11 + e * 5 + 0)
  have f3 := h.ln.frozen (i * 11 + e * 5 + 3)
  obtain ⟨cs, hcs⟩ := h.ln.has
  rw [← ha.lo] at c0 c3 f0 f3
  rw [Nat.add_zero] at c0 f0
  have F0 : Hid (∀ x, No base (w.setCell ⟨b, o, none⟩ (.int .i64 x)) t b vs (S.row i e ⟨{ (S.R i e).T with s := x }, (S.R i e).L⟩) ∧ Kept TYc base w (w.setCell ⟨b, o, none⟩ (.int .i64 x))) := fun x => by
    have := h.setT ha.li ha.le (k := 0) (by decide) (u := .int .i64 x) (T' := { (S.R i e).T with s := x }) rfl
    rw [← ha.lo, Nat.add_zero] at this
    exact ⟨this, (Kept.refl _ _ _).set (p := ⟨b, o, none⟩) hcs rfl h.bb _⟩
  have F3 : Hid (∀ x, No base (w.setCell ⟨b, o + 3, none⟩ (.int .i64 x)) t b vs (S.row i e ⟨{ (S.R i e).T with f := x }, (S.R i e).L⟩) ∧ Kept TYc base w (w.setCell ⟨b, o + 3, none⟩ (.int .i64 x))) := fun x => by
    have := h.setT ha.li ha.le (k := 3) (by decide) (u := .int .i64 x) (T' := { (S.R i e).T with f := x }) rfl
    rw [← ha.lo] at this
    exact ⟨this, (Kept.refl _ _ _).set (p := ⟨b, o + 3, none⟩) hcs rfl h.bb _⟩
  unfold cnt bump
  clear h ha hr hcs
  cases f with
  | true =>
    go_enter Try.func52, Try.ntmps52
    go_wp2
    go_end0
    exact ⟨rfl, F3.out _⟩
  | false =>
    go_enter Try.func52, Try.ntmps52
    go_wp2
    go_end0
    exact ⟨rfl, F0.out _⟩
theorem paths (h : No base w t b vs S) : Calls Try.prog 23 #[.pointer (some ⟨t, 0, none⟩)] w fun e w' => e = .returned (.int .i64 S.p) ∧ w = w' := by
  have U := hidden (unmade h)
  have c0 := h.net.cell 0 rfl
  clear h
  go_enter Try.func23, Try.ntmps23
  go_wp2_with fail
  refine Calls.mono U.out ?_
  rintro e w' ⟨rfl, rfl⟩
  go_wp2
  go_ret
  exact ⟨rfl, rfl⟩
theorem works (h : No base w t b vs S) (path : Int) (hS : S.p ≤ 8) : Calls Try.prog 22 #[.pointer (some ⟨t, 0, none⟩), .int .i64 path] w fun e w' => e = .returned (.bool (okP S path && !(S.off path.toNat))) ∧ w = w' := by
  cases hp : okP S path with
  | false =>
    have LA := hidden (lane_no h hp hS)
    clear h hp
    go_enter Try.func22, Try.ntmps22
    go_wp2_with fail
    refine Calls.mono LA.out ?_
    rintro e w' ⟨rfl, rfl⟩
    go_wp2
    go_ret
    exact ⟨rfl, rfl⟩
  | true =>
    have LA := hidden (lane_ok h hp hS)
    have c := h.ln.down (i := path.toNat) (by have := of_decide_eq_true hp; omega)
    clear h hp
    generalize S.off path.toNat = ob at c
    go_enter Try.func22, Try.ntmps22
    go_wp2_with fail
    refine Calls.mono LA.out ?_
    rintro e w' ⟨rfl, rfl⟩
    go_wp2
    go_ret
    simp
theorem up_ (h : No base w t b vs S) (path : Int) (hS : S.p ≤ 8) : Calls Try.prog 21 #[.pointer (some ⟨t, 0, none⟩), .int .i64 path] w fun e w' => e = .returned (.int .i64 (pE S path)) ∧ No base w' t b vs (upS S path) ∧ Kept TYc base w w' := by
  unfold pE upS
  cases hp : okP S path with
  | false =>
    have LA := hidden (lane_no h hp hS)
    have H := hidden h
    clear h hp
    go_enter Try.func21, Try.ntmps21
    go_wp2_with fail
    refine Calls.mono LA.out ?_
    rintro e w' ⟨rfl, rfl⟩
    go_wp2
    go_ret
    exact ⟨rfl, H.out, Kept.refl _ _ _⟩
  | true =>
    have LA := hidden (lane_ok h hp hS)
    have hi : path.toNat < S.p := by have := of_decide_eq_true hp; omega
    have c := h.ln.down hi
    have f := h.ln.frozen (path.toNat * 11 + 10)
    obtain ⟨cs, hcs⟩ := h.ln.has
    have H : Hid (No base (w.setCell ⟨b, path.toNat * 11 + 10, none⟩ (.bool false)) t b vs (offS S path.toNat false) ∧ Kept TYc base w (w.setCell ⟨b, path.toNat * 11 + 10, none⟩ (.bool false))) := ⟨h.setOff hi false, (Kept.refl _ _ _).set (p := ⟨b, path.toNat * 11 + 10, none⟩) hcs rfl h.bb _⟩
    clear h hp hcs
    go_enter Try.func21, Try.ntmps21
    go_wp2_with fail
    refine Calls.mono LA.out ?_
    rintro e w' ⟨rfl, rfl⟩
    go_wp2
    go_ret
    exact ⟨rfl, H.out⟩
/-- a Traffic -/
def tv (T : Tr) : Value := .agg #[.int .i64 T.s, .int .i64 T.d, .int .i64 T.l, .int .i64 T.f]
def zT : Tr := ⟨0, 0, 0, 0⟩
end
end Go.Proofs.Ytmogacccffkkbaa.Nt
