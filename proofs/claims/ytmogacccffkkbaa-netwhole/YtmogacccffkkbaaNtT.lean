/-
  One act on a network and on the document's, side by side.
  Conditions: both lie in memory.
-/
import Derived.Test.YtmogacccffkkbaaNtZ
import Derived.Shelf.Abstract
namespace Go.Proofs.Ytmogacccffkkbaa.Nt
open Go.ChangeShapes Go.WideShapes Go.ChangeAt Go.RowKit
open Ba (hidden Only In Has own_ne own_stay own_len own_some own_mono cell_lt heap_lt)
set_option linter.unusedVariables false
/-- both networks -/
structure Pn (base : Nat) (w0 w : World) (t r : Nat) (S S' : St) : Prop where
  c : ∃ b vs, No base w t b vs S
  r : ∃ rv ov rb vs X, Ro base w r rv ov rb vs X S'
  b : Below base w0 w
  s : base ≤ w0.heap.size
section
variable {base : Nat} {w0 w w' : World} {t r : Nat} {S S' S2 : St}
theorem Pn.bs (h : Pn base w0 w t r S S') : base ≤ w.heap.size := Nat.le_trans h.s h.b.size
theorem Pn.later (h : Pn base w0 w t r S S') (hB : Below w.heap.size w w') : Pn base w0 w' t r S S' := by
  obtain ⟨b, vs, hN⟩ := h.c
  obtain ⟨rv, ov, rb, vs', X, hR⟩ := h.r
  exact ⟨⟨b, vs, hN.later hB⟩, ⟨rv, ov, rb, vs', X, hR.later hB⟩, h.b.trans (hB.mono h.bs), h.s⟩
theorem Pn.code (h : Pn base w0 w t r S S') {b : Nat} (hN : ∃ vs', No base w' t b vs' S2) (hK : Kept TYc base w w') : Pn base w0 w' t r S2 S' := by
  obtain ⟨vs, hN⟩ := hN
  obtain ⟨rv, ov, rb, vs', X, hR⟩ := h.r
  exact ⟨⟨b, vs, hN⟩, ⟨rv, ov, rb, vs', X, hR.stay hK rfl rfl rfl rfl rfl rfl⟩, h.b.trans (hK.below h.bs), h.s⟩
theorem Pn.ref (h : Pn base w0 w t r S S') (hR : Ros base w r S2 w') : Pn base w0 w' t r S S2 := by
  obtain ⟨b, vs, hN⟩ := h.c
  obtain ⟨hR, hK⟩ := hR
  exact ⟨⟨b, vs, hN.stay hK rfl rfl rfl⟩, hR, h.b.trans (hK.below h.bs), h.s⟩
end
/-- what an act leaves -/
def ActO (base : Nat) (w0 : World) (t r : Nat) (S S' S2 S2' : St) (e : Ending) (w' : World) : Prop := ∃ β, e = .returned (.bool β) ∧ (S = S' → β = true) ∧ Pn base w0 w' t r S2 S2'
section
variable {base : Nat} {w0 w w' : World} {t r : Nat} {S S' : St}
set_option maxHeartbeats 4000000 in
set_option maxRecDepth 20000 in
theorem act1 (h : Pn base w0 w t r S S') (hI : Inv S) (hn : S.next ≤ 1000) (hI' : Inv S') (hn' : S'.next ≤ 1000) (en path j at_ now bits : Int) {a : Option Addr} {n cap : Nat} {bs : List Int} (hby : By base w a n bs) (hnil : a = none → cap = 0) (hbi : 0 ≤ bits ∧ bits < 256) :
    Calls Try.prog 10 #[.pointer (some ⟨t, 0, none⟩), .pointer (some ⟨r, 0, none⟩), .agg #[.int .i64 1, .int .i64 en, .int .i64 path, .int .i64 j, .int .i64 at_, .int .i64 now, .int .u8 bits, .slice a n cap]] w fun e' w' => ActO base w0 t r S S' (laS S en path now bs false) (laS S' en path now bs false) e' w' := by
  obtain ⟨W1, hW1⟩ : ∃ W1, W1 = w.alloc (.cells #[.int .i64 1, .int .i64 en, .int .i64 path, .int .i64 j, .int .i64 at_, .int .i64 now, .int .u8 bits, .slice a n cap] 34) := ⟨_, rfl⟩
  have hB : Below w.heap.size w W1 := by rw [hW1]; exact (Below.refl _ w).alloc (Nat.le_refl _) _
  have hbox : Has W1 w.heap.size #[.int .i64 1, .int .i64 en, .int .i64 path, .int .i64 j, .int .i64 at_, .int .i64 now, .int .u8 bits, .slice a n cap] 34 := by rw [hW1]; exact Has.new w _ _
  have hP := h.later hB
  obtain ⟨b, vs, hN⟩ := hP.c
  have hby1 := hby.later hB
  obtain ⟨i1, hi1⟩ : ∃ i1, i1 = laI S en path now n := ⟨_, rfl⟩
  obtain ⟨c1, hc1⟩ : ∃ c1, c1 = laE S en path now n := ⟨_, rfl⟩
  obtain ⟨i2, hi2⟩ : ∃ i2, i2 = laI S' en path now n := ⟨_, rfl⟩
  obtain ⟨c2, hc2⟩ : ∃ c2, c2 = laE S' en path now n := ⟨_, rfl⟩
  have SE : Hid (Calls Try.prog 14 #[.pointer (some ⟨t, 0, none⟩), .int .i64 en, .int .i64 path, .slice a n cap, .int .i64 now] W1 fun e' w' => e' = .returned (.tuple #[.int .i64 i1, .int .i64 c1]) ∧ Pn base w0 w' t r (laS S en path now bs false) S' ∧ Has w' w.heap.size #[.int .i64 1, .int .i64 en, .int .i64 path, .int .i64 j, .int .i64 at_, .int .i64 now, .int .u8 bits, .slice a n cap] 34 ∧ By base w' a n bs) := Calls.mono (send hN hI hn hP.bs en path now (cap := cap) hby1) (by
    rintro e' w' ⟨rfl, hN2, hK⟩
    exact ⟨by rw [hi1, hc1, hby.1], hP.code hN2 hK, hK.has hbox rfl, hby1.stay hK rfl⟩)
  have RS : Hid (∀ w2, Pn base w0 w2 t r (laS S en path now bs false) S' → By base w2 a n bs → Calls Try.prog 24 #[.pointer (some ⟨r, 0, none⟩), .int .i64 en, .int .i64 path, .slice a n cap, .int .i64 now] w2 fun e' w' => e' = .returned (.tuple #[.int .i64 i2, .int .i64 c2]) ∧ Pn base w0 w' t r (laS S en path now bs false) (laS S' en path now bs false)) := fun w2 hP2 hby2 => by
    obtain ⟨rv, ov, rb, vs', X, hR2⟩ := hP2.r
    refine Calls.mono (rSend hR2 hI' hn' hP2.bs en path now (cap := cap) hby2 hnil) ?_
    rintro e' w' ⟨rfl, hR3⟩
    exact ⟨by rw [hi2, hc2, hby.1], hP2.ref hR3⟩
  have HEQ : Hid (S = S' → i1 = i2 ∧ c1 = c2) := fun e => by subst e; exact ⟨hi1.trans hi2.symm, hc1.trans hc2.symm⟩
  rw [hW1] at SE
  clear h hI hI' hby hby1 hB hbox hP hN hi1 hc1 hi2 hc2 hW1 hnil
  go_enter Try.func10, Try.ntmps10
  go_wp2_with fail
  refine Calls.mono SE.out ?_
  rintro e w2 ⟨rfl, hP2, hbx, hby2⟩
  have RS' := hidden (RS.out w2 hP2 hby2)
  have x1 := hbx.cell 1 rfl
  have x2 := hbx.cell 2 rfl
  have x3 := hbx.cell 3 rfl
  have x5 := hbx.cell 5 rfl
  have x7 := hbx.cell 7 rfl
  clear hP2 hbx hby2 RS SE
  go_wp2_with fail
  refine Calls.mono RS'.out ?_
  rintro e w3 ⟨rfl, hP3⟩
  have HP := hidden hP3
  clear hP3 x1 x2 x3 x5 x7
  by_cases e1 : i1 = i2
  · subst e1
    by_cases e2 : c1 = c2
    · subst e2
      go_wp2
      go_ret
      exact ⟨true, by simp, fun _ => rfl, HP.out⟩
    · have e2' : (c1 == c2) = false := beq_eq_false_iff_ne.2 e2
      go_wp2
      go_ret
      exact ⟨false, by simp, fun e => absurd (HEQ.out e).2 e2, HP.out⟩
  · have e1' : (i1 == i2) = false := beq_eq_false_iff_ne.2 e1
    go_wp2
    go_ret
    exact ⟨false, by simp, fun e => absurd (HEQ.out e).1 e1, HP.out⟩
set_option maxHeartbeats 4000000 in
set_option maxRecDepth 20000 in
theorem act2 (h : Pn base w0 w t r S S') (hI : Inv S) (hn : S.next ≤ 1000) (hI' : Inv S') (hn' : S'.next ≤ 1000) (en path j at_ now bits : Int) {a : Option Addr} {n cap : Nat} {bs : List Int} (hby : By base w a n bs) (hnil : a = none → cap = 0) (hbi : 0 ≤ bits ∧ bits < 256) :
    Calls Try.prog 10 #[.pointer (some ⟨t, 0, none⟩), .pointer (some ⟨r, 0, none⟩), .agg #[.int .i64 2, .int .i64 en, .int .i64 path, .int .i64 j, .int .i64 at_, .int .i64 now, .int .u8 bits, .slice a n cap]] w fun e' w' => ActO base w0 t r S S' (laS S en path now bs true) (laS S' en path now bs true) e' w' := by
  obtain ⟨W1, hW1⟩ : ∃ W1, W1 = w.alloc (.cells #[.int .i64 2, .int .i64 en, .int .i64 path, .int .i64 j, .int .i64 at_, .int .i64 now, .int .u8 bits, .slice a n cap] 34) := ⟨_, rfl⟩
  have hB : Below w.heap.size w W1 := by rw [hW1]; exact (Below.refl _ w).alloc (Nat.le_refl _) _
  have hbox : Has W1 w.heap.size #[.int .i64 2, .int .i64 en, .int .i64 path, .int .i64 j, .int .i64 at_, .int .i64 now, .int .u8 bits, .slice a n cap] 34 := by rw [hW1]; exact Has.new w _ _
  have hP := h.later hB
  obtain ⟨b, vs, hN⟩ := hP.c
  have hby1 := hby.later hB
  obtain ⟨i1, hi1⟩ : ∃ i1, i1 = laI S en path now n := ⟨_, rfl⟩
  obtain ⟨c1, hc1⟩ : ∃ c1, c1 = laE S en path now n := ⟨_, rfl⟩
  obtain ⟨i2, hi2⟩ : ∃ i2, i2 = laI S' en path now n := ⟨_, rfl⟩
  obtain ⟨c2, hc2⟩ : ∃ c2, c2 = laE S' en path now n := ⟨_, rfl⟩
  have SE : Hid (Calls Try.prog 16 #[.pointer (some ⟨t, 0, none⟩), .int .i64 en, .int .i64 path, .slice a n cap, .int .i64 now] W1 fun e' w' => e' = .returned (.tuple #[.int .i64 i1, .int .i64 c1]) ∧ Pn base w0 w' t r (laS S en path now bs true) S' ∧ Has w' w.heap.size #[.int .i64 2, .int .i64 en, .int .i64 path, .int .i64 j, .int .i64 at_, .int .i64 now, .int .u8 bits, .slice a n cap] 34 ∧ By base w' a n bs) := Calls.mono (forge hN hI hn hP.bs en path now (cap := cap) hby1) (by
    rintro e' w' ⟨rfl, hN2, hK⟩
    exact ⟨by rw [hi1, hc1, hby.1], hP.code hN2 hK, hK.has hbox rfl, hby1.stay hK rfl⟩)
  have RS : Hid (∀ w2, Pn base w0 w2 t r (laS S en path now bs true) S' → By base w2 a n bs → Calls Try.prog 25 #[.pointer (some ⟨r, 0, none⟩), .int .i64 en, .int .i64 path, .slice a n cap, .int .i64 now] w2 fun e' w' => e' = .returned (.tuple #[.int .i64 i2, .int .i64 c2]) ∧ Pn base w0 w' t r (laS S en path now bs true) (laS S' en path now bs true)) := fun w2 hP2 hby2 => by
    obtain ⟨rv, ov, rb, vs', X, hR2⟩ := hP2.r
    refine Calls.mono (rForge hR2 hI' hn' hP2.bs en path now (cap := cap) hby2 hnil) ?_
    rintro e' w' ⟨rfl, hR3⟩
    exact ⟨by rw [hi2, hc2, hby.1], hP2.ref hR3⟩
  have HEQ : Hid (S = S' → i1 = i2 ∧ c1 = c2) := fun e => by subst e; exact ⟨hi1.trans hi2.symm, hc1.trans hc2.symm⟩
  rw [hW1] at SE
  clear h hI hI' hby hby1 hB hbox hP hN hi1 hc1 hi2 hc2 hW1 hnil
  go_enter Try.func10, Try.ntmps10
  go_wp2_with fail
  refine Calls.mono SE.out ?_
  rintro e w2 ⟨rfl, hP2, hbx, hby2⟩
  have RS' := hidden (RS.out w2 hP2 hby2)
  have x1 := hbx.cell 1 rfl
  have x2 := hbx.cell 2 rfl
  have x3 := hbx.cell 3 rfl
  have x5 := hbx.cell 5 rfl
  have x7 := hbx.cell 7 rfl
  clear hP2 hbx hby2 RS SE
  go_wp2_with fail
  refine Calls.mono RS'.out ?_
  rintro e w3 ⟨rfl, hP3⟩
  have HP := hidden hP3
  clear hP3 x1 x2 x3 x5 x7
  by_cases e1 : i1 = i2
  · subst e1
    by_cases e2 : c1 = c2
    · subst e2
      go_wp2
      go_ret
      exact ⟨true, by simp, fun _ => rfl, HP.out⟩
    · have e2' : (c1 == c2) = false := beq_eq_false_iff_ne.2 e2
      go_wp2
      go_ret
      exact ⟨false, by simp, fun e => absurd (HEQ.out e).2 e2, HP.out⟩
  · have e1' : (i1 == i2) = false := beq_eq_false_iff_ne.2 e1
    go_wp2
    go_ret
    exact ⟨false, by simp, fun e => absurd (HEQ.out e).1 e1, HP.out⟩
set_option maxHeartbeats 4000000 in
set_option maxRecDepth 20000 in
theorem act5 (h : Pn base w0 w t r S S') (hI : Inv S) (hn : S.next ≤ 1000) (hI' : Inv S') (hn' : S'.next ≤ 1000) (en path j at_ now bits : Int) {a : Option Addr} {n cap : Nat} {bs : List Int} (hby : By base w a n bs) (hnil : a = none → cap = 0) (hbi : 0 ≤ bits ∧ bits < 256) :
    Calls Try.prog 10 #[.pointer (some ⟨t, 0, none⟩), .pointer (some ⟨r, 0, none⟩), .agg #[.int .i64 5, .int .i64 en, .int .i64 path, .int .i64 j, .int .i64 at_, .int .i64 now, .int .u8 bits, .slice a n cap]] w fun e' w' => ActO base w0 t r S S' (twS S en path j) (twS S' en path j) e' w' := by
  obtain ⟨W1, hW1⟩ : ∃ W1, W1 = w.alloc (.cells #[.int .i64 5, .int .i64 en, .int .i64 path, .int .i64 j, .int .i64 at_, .int .i64 now, .int .u8 bits, .slice a n cap] 34) := ⟨_, rfl⟩
  have hB : Below w.heap.size w W1 := by rw [hW1]; exact (Below.refl _ w).alloc (Nat.le_refl _) _
  have hbox : Has W1 w.heap.size #[.int .i64 5, .int .i64 en, .int .i64 path, .int .i64 j, .int .i64 at_, .int .i64 now, .int .u8 bits, .slice a n cap] 34 := by rw [hW1]; exact Has.new w _ _
  have hP := h.later hB
  obtain ⟨b, vs, hN⟩ := hP.c
  have hby1 := hby.later hB
  obtain ⟨i1, hi1⟩ : ∃ i1, i1 = twI S en path j := ⟨_, rfl⟩
  obtain ⟨c1, hc1⟩ : ∃ c1, c1 = trE S en path j := ⟨_, rfl⟩
  obtain ⟨i2, hi2⟩ : ∃ i2, i2 = twI S' en path j := ⟨_, rfl⟩
  obtain ⟨c2, hc2⟩ : ∃ c2, c2 = trE S' en path j := ⟨_, rfl⟩
  have SE : Hid (Calls Try.prog 17 #[.pointer (some ⟨t, 0, none⟩), .int .i64 en, .int .i64 path, .int .i64 j] W1 fun e' w' => e' = .returned (.tuple #[.int .i64 i1, .int .i64 c1]) ∧ Pn base w0 w' t r (twS S en path j) S' ∧ Has w' w.heap.size #[.int .i64 5, .int .i64 en, .int .i64 path, .int .i64 j, .int .i64 at_, .int .i64 now, .int .u8 bits, .slice a n cap] 34 ∧ By base w' a n bs) := Calls.mono (twice_ hN hI hn hP.bs en path j) (by
    rintro e' w' ⟨rfl, hN2, hK⟩
    exact ⟨by rw [hi1, hc1], hP.code hN2 hK, hK.has hbox rfl, hby1.stay hK rfl⟩)
  have RS : Hid (∀ w2, Pn base w0 w2 t r (twS S en path j) S' → By base w2 a n bs → Calls Try.prog 28 #[.pointer (some ⟨r, 0, none⟩), .int .i64 en, .int .i64 path, .int .i64 j] w2 fun e' w' => e' = .returned (.tuple #[.int .i64 i2, .int .i64 c2]) ∧ Pn base w0 w' t r (twS S en path j) (twS S' en path j)) := fun w2 hP2 hby2 => by
    obtain ⟨rv, ov, rb, vs', X, hR2⟩ := hP2.r
    refine Calls.mono (rTwice hR2 hI' hn' hP2.bs en path j) ?_
    rintro e' w' ⟨rfl, hR3⟩
    exact ⟨by rw [hi2, hc2], hP2.ref hR3⟩
  have HEQ : Hid (S = S' → i1 = i2 ∧ c1 = c2) := fun e => by subst e; exact ⟨hi1.trans hi2.symm, hc1.trans hc2.symm⟩
  rw [hW1] at SE
  clear h hI hI' hby hby1 hB hbox hP hN hi1 hc1 hi2 hc2 hW1 hnil
  go_enter Try.func10, Try.ntmps10
  go_wp2_with fail
  refine Calls.mono SE.out ?_
  rintro e w2 ⟨rfl, hP2, hbx, hby2⟩
  have RS' := hidden (RS.out w2 hP2 hby2)
  have x1 := hbx.cell 1 rfl
  have x2 := hbx.cell 2 rfl
  have x3 := hbx.cell 3 rfl
  have x5 := hbx.cell 5 rfl
  have x7 := hbx.cell 7 rfl
  clear hP2 hbx hby2 RS SE
  go_wp2_with fail
  refine Calls.mono RS'.out ?_
  rintro e w3 ⟨rfl, hP3⟩
  have HP := hidden hP3
  clear hP3 x1 x2 x3 x5 x7
  by_cases e1 : i1 = i2
  · subst e1
    by_cases e2 : c1 = c2
    · subst e2
      go_wp2
      go_ret
      exact ⟨true, by simp, fun _ => rfl, HP.out⟩
    · have e2' : (c1 == c2) = false := beq_eq_false_iff_ne.2 e2
      go_wp2
      go_ret
      exact ⟨false, by simp, fun e => absurd (HEQ.out e).2 e2, HP.out⟩
  · have e1' : (i1 == i2) = false := beq_eq_false_iff_ne.2 e1
    go_wp2
    go_ret
    exact ⟨false, by simp, fun e => absurd (HEQ.out e).1 e1, HP.out⟩
set_option maxHeartbeats 4000000 in
set_option maxRecDepth 20000 in
theorem act3 (h : Pn base w0 w t r S S') (hI : Inv S) (hn : S.next ≤ 1000) (hI' : Inv S') (hn' : S'.next ≤ 1000) (en path j at_ now bits : Int) {a : Option Addr} {n cap : Nat} {bs : List Int} (hby : By base w a n bs) (hnil : a = none → cap = 0) (hbi : 0 ≤ bits ∧ bits < 256) :
    Calls Try.prog 10 #[.pointer (some ⟨t, 0, none⟩), .pointer (some ⟨r, 0, none⟩), .agg #[.int .i64 3, .int .i64 en, .int .i64 path, .int .i64 j, .int .i64 at_, .int .i64 now, .int .u8 bits, .slice a n cap]] w fun e' w' => ActO base w0 t r S S' (takeS S en path j dlT) (takeS S' en path j dlT) e' w' := by
  obtain ⟨W1, hW1⟩ : ∃ W1, W1 = w.alloc (.cells #[.int .i64 3, .int .i64 en, .int .i64 path, .int .i64 j, .int .i64 at_, .int .i64 now, .int .u8 bits, .slice a n cap] 34) := ⟨_, rfl⟩
  have hB : Below w.heap.size w W1 := by rw [hW1]; exact (Below.refl _ w).alloc (Nat.le_refl _) _
  have hbox : Has W1 w.heap.size #[.int .i64 3, .int .i64 en, .int .i64 path, .int .i64 j, .int .i64 at_, .int .i64 now, .int .u8 bits, .slice a n cap] 34 := by rw [hW1]; exact Has.new w _ _
  have hP := h.later hB
  obtain ⟨b, vs, hN⟩ := hP.c
  have hby1 := hby.later hB
  obtain ⟨c1, hc1⟩ : ∃ c1, c1 = trE S en path j := ⟨_, rfl⟩
  obtain ⟨c2, hc2⟩ : ∃ c2, c2 = trE S' en path j := ⟨_, rfl⟩
  obtain ⟨y1, hy1⟩ : ∃ y1, y1 = strOfNums (dlB S en path j) := ⟨_, rfl⟩
  obtain ⟨y2, hy2⟩ : ∃ y2, y2 = strOfNums (dlB S' en path j) := ⟨_, rfl⟩
  have SE : Hid (Calls Try.prog 15 #[.pointer (some ⟨t, 0, none⟩), .int .i64 en, .int .i64 path, .int .i64 j] W1 fun e' w' => ∃ a1 n1 k1, e' = .returned (.tuple #[.slice a1 n1 k1, .int .i64 c1]) ∧ By base w' a1 n1 (dlB S en path j) ∧ Pn base w0 w' t r (takeS S en path j dlT) S' ∧ Has w' w.heap.size #[.int .i64 3, .int .i64 en, .int .i64 path, .int .i64 j, .int .i64 at_, .int .i64 now, .int .u8 bits, .slice a n cap] 34) := Calls.mono (deliver_ hN hI hn en path j) (by
    rintro e' w' ⟨a1, k1, rfl, hb1, hN2, hK⟩
    exact ⟨a1, _, k1, by rw [hc1], hb1, hP.code hN2 hK, hK.has hbox rfl⟩)
  have RS : Hid (∀ w2 a1 n1, Pn base w0 w2 t r (takeS S en path j dlT) S' → By base w2 a1 n1 (dlB S en path j) → Calls Try.prog 26 #[.pointer (some ⟨r, 0, none⟩), .int .i64 en, .int .i64 path, .int .i64 j] w2 fun e' w' => ∃ a2 n2 k2, e' = .returned (.tuple #[.slice a2 n2 k2, .int .i64 c2]) ∧ By base w' a1 n1 (dlB S en path j) ∧ By base w' a2 n2 (dlB S' en path j) ∧ Pn base w0 w' t r (takeS S en path j dlT) (takeS S' en path j dlT)) := fun w2 a1 n1 hP2 hb1 => by
    obtain ⟨rv, ov, rb, vs', X, hR2⟩ := hP2.r
    refine Calls.mono (rDeliver hR2 hI' hn' hP2.bs en path j) ?_
    rintro e' w' ⟨a2, k2, rfl, hb2, hR3, hK3⟩
    exact ⟨a2, _, k2, by rw [hc2], hb1.stay hK3 rfl, hb2, hP2.ref hR3⟩
  have HEQ : Hid (S = S' → y1 = y2 ∧ c1 = c2) := fun e => by subst e; exact ⟨hy1.trans hy2.symm, hc1.trans hc2.symm⟩
  have CV1 : Hid (∀ w a n cap, By base w a n (dlB S en path j) → (convert 32 9 (.slice a n cap)).run Try.prog w = .ok (.string y1) w) := fun w a n cap hb => by rw [hy1]; exact hb.conv cap
  have CV2 : Hid (∀ w a n cap, By base w a n (dlB S' en path j) → (convert 32 9 (.slice a n cap)).run Try.prog w = .ok (.string y2) w) := fun w a n cap hb => by rw [hy2]; exact hb.conv cap
  rw [hW1] at SE
  clear h hI hI' hby hby1 hB hbox hP hN hc1 hc2 hy1 hy2 hW1 hnil
  go_enter Try.func10, Try.ntmps10
  go_wp2_with fail
  refine Calls.mono SE.out ?_
  rintro e w2 ⟨a1, n1, k1, rfl, hb1, hP2, hbx⟩
  have RS' := hidden (RS.out w2 a1 n1 hP2 hb1)
  have x1 := hbx.cell 1 rfl
  have x2 := hbx.cell 2 rfl
  have x3 := hbx.cell 3 rfl
  clear hP2 hbx hb1 RS SE
  go_wp2_with fail
  refine Calls.mono RS'.out ?_
  rintro e w3 ⟨a2, n2, k2, rfl, hb1, hb2, hP3⟩
  have HP := hidden hP3
  have v1 := CV1.out w3 a1 n1 k1 hb1
  have v2 := CV2.out w3 a2 n2 k2 hb2
  clear hP3 x1 x2 x3 hb1 hb2
  by_cases e1 : y1 = y2
  · subst e1
    by_cases e2 : c1 = c2
    · subst e2
      go_wp2
      go_ret
      exact ⟨true, by simp, fun _ => rfl, HP.out⟩
    · have e2' : (c1 == c2) = false := beq_eq_false_iff_ne.2 e2
      go_wp2
      go_ret
      exact ⟨false, by simp, fun e => absurd (HEQ.out e).2 e2, HP.out⟩
  · go_wp2
    all_goals (go_ret; exact ⟨_, rfl, fun e => absurd (HEQ.out e).1 e1, HP.out⟩)
set_option maxHeartbeats 4000000 in
set_option maxRecDepth 20000 in
theorem act4 (h : Pn base w0 w t r S S') (hI : Inv S) (hn : S.next ≤ 1000) (hI' : Inv S') (hn' : S'.next ≤ 1000) (en path j at_ now bits : Int) {a : Option Addr} {n cap : Nat} {bs : List Int} (hby : By base w a n bs) (hnil : a = none → cap = 0) (hbi : 0 ≤ bits ∧ bits < 256) :
    Calls Try.prog 10 #[.pointer (some ⟨t, 0, none⟩), .pointer (some ⟨r, 0, none⟩), .agg #[.int .i64 4, .int .i64 en, .int .i64 path, .int .i64 j, .int .i64 at_, .int .i64 now, .int .u8 bits, .slice a n cap]] w fun e' w' => ActO base w0 t r S S' (takeS S en path j drT) (takeS S' en path j drT) e' w' := by
  obtain ⟨W1, hW1⟩ : ∃ W1, W1 = w.alloc (.cells #[.int .i64 4, .int .i64 en, .int .i64 path, .int .i64 j, .int .i64 at_, .int .i64 now, .int .u8 bits, .slice a n cap] 34) := ⟨_, rfl⟩
  have hB : Below w.heap.size w W1 := by rw [hW1]; exact (Below.refl _ w).alloc (Nat.le_refl _) _
  have hbox : Has W1 w.heap.size #[.int .i64 4, .int .i64 en, .int .i64 path, .int .i64 j, .int .i64 at_, .int .i64 now, .int .u8 bits, .slice a n cap] 34 := by rw [hW1]; exact Has.new w _ _
  have hP := h.later hB
  obtain ⟨b, vs, hN⟩ := hP.c
  have hby1 := hby.later hB
  obtain ⟨c1, hc1⟩ : ∃ c1, c1 = trE S en path j := ⟨_, rfl⟩
  obtain ⟨c2, hc2⟩ : ∃ c2, c2 = trE S' en path j := ⟨_, rfl⟩
  have SE : Hid (∀ w2, Pn base w0 w2 t r S S' → Has w2 w.heap.size #[.int .i64 4, .int .i64 en, .int .i64 path, .int .i64 j, .int .i64 at_, .int .i64 now, .int .u8 bits, .slice a n cap] 34 → Calls Try.prog 18 #[.pointer (some ⟨t, 0, none⟩), .int .i64 en, .int .i64 path, .int .i64 j] w2 fun e' w' => e' = .returned (.int .i64 c1) ∧ Pn base w0 w' t r (takeS S en path j drT) S' ∧ Has w' w.heap.size #[.int .i64 4, .int .i64 en, .int .i64 path, .int .i64 j, .int .i64 at_, .int .i64 now, .int .u8 bits, .slice a n cap] 34) := fun w2 hP2 hbx => by
    obtain ⟨b, vs, hN2⟩ := hP2.c
    refine Calls.mono (drop_ hN2 hI hn en path j) ?_
    rintro e' w' ⟨rfl, hN3, hK⟩
    exact ⟨by rw [hc1], hP2.code hN3 hK, hK.has hbx rfl⟩
  have RS : Hid (∀ w2, Pn base w0 w2 t r (takeS S en path j drT) S' → Has w2 w.heap.size #[.int .i64 4, .int .i64 en, .int .i64 path, .int .i64 j, .int .i64 at_, .int .i64 now, .int .u8 bits, .slice a n cap] 34 → Calls Try.prog 27 #[.pointer (some ⟨r, 0, none⟩), .int .i64 en, .int .i64 path, .int .i64 j] w2 fun e' w' => e' = .returned (.int .i64 c2) ∧ Pn base w0 w' t r (takeS S en path j drT) (takeS S' en path j drT) ∧ Has w' w.heap.size #[.int .i64 4, .int .i64 en, .int .i64 path, .int .i64 j, .int .i64 at_, .int .i64 now, .int .u8 bits, .slice a n cap] 34) := fun w2 hP2 hbx => by
    obtain ⟨rv, ov, rb, vs', X, hR2⟩ := hP2.r
    refine Calls.mono (rDrop hR2 hI' hn' hP2.bs en path j) ?_
    rintro e' w' ⟨rfl, hR3⟩
    exact ⟨by rw [hc2], hP2.ref hR3, hR3.2.has hbx rfl⟩
  have HEQ : Hid (S = S' → c1 = c2) := fun e => by subst e; exact hc1.trans hc2.symm
  have E1 : Hid (∀ (args : Array Value) (w : World), (callFunc 18 args).run Try.prog w = .ok (.enter 18 args) w) := enters_of Try.func18 (by kernel_rfl) rfl
  have E2 : Hid (∀ (args : Array Value) (w : World), (callFunc 27 args).run Try.prog w = .ok (.enter 27 args) w) := enters_of Try.func27 (by kernel_rfl) rfl
  have HP0 : Hid (Pn base w0 W1.drew t r S S') := hP.later (Below.refl _ _).drew
  have HBX : Hid (Has W1.drew w.heap.size #[.int .i64 4, .int .i64 en, .int .i64 path, .int .i64 j, .int .i64 at_, .int .i64 now, .int .u8 bits, .slice a n cap] 34) := hbox
  have HW1 := hidden hW1
  clear h hI hI' hby hby1 hB hbox hP hN hc1 hc2 hW1 hnil
  go_enter Try.func10, Try.ntmps10
  go_upto_region 15 with fail
  rw [← HW1.out]
  refine Ord.wp_region_ex0 (X := Unit) (by kernel_rfl) 231 (fun x => [(some 133, .pointer (some ⟨t, 0, none⟩)), (some 134, .pointer (some ⟨w.heap.size, 1, none⟩)), (some 135, .int .i64 en), (some 136, .pointer (some ⟨w.heap.size, 2, none⟩)), (some 137, .int .i64 path), (some 138, .pointer (some ⟨w.heap.size, 3, none⟩)), (some 139, .int .i64 j), (some 140, .int .i64 c1), (some 141, .pointer (some ⟨r, 0, none⟩)), (some 142, .pointer (some ⟨w.heap.size, 1, none⟩)), (some 143, .int .i64 en), (some 144, .pointer (some ⟨w.heap.size, 2, none⟩)), (some 145, .int .i64 path), (some 146, .pointer (some ⟨w.heap.size, 3, none⟩)), (some 147, .int .i64 j), (some 148, .int .i64 c2), (some 149, .bool (c1 == c2)), (some 6, .bool (c1 == c2))]) [some 133, some 134, some 135, some 136, some 137, some 138, some 139, some 140, some 141, some 142, some 143, some 144, some 145, some 146, some 147, some 148, some 149, some 6] rfl (fun listed hsz hr => Ord.all_listedC (rank := [0, 1, 2, 3, 4, 5, 6, 7, 8, 9, 10, 11, 12, 13, 14, 15, 16, 17]) (by kernel_rfl) hsz hr) (by rfl) (fun _ => rfl) (by kernel_rfl) (Rg.StM [7, 15] (fun k _ w' => Has w' w.heap.size #[.int .i64 4, .int .i64 en, .int .i64 path, .int .i64 j, .int .i64 at_, .int .i64 now, .int .u8 bits, .slice a n cap] 34 ∧ (k = 0 → Pn base w0 w' t r S S') ∧ (k = 1 → Pn base w0 w' t r (takeS S en path j drT) S') ∧ (k = 2 → Pn base w0 w' t r (takeS S en path j drT) (takeS S' en path j drT)))) (fun _ _ _ _ hL h => h.ext (n := 18) (by decide) hL) ?_ ?_ () ?_
  case refine_1 =>
    intro x Lq iq oq ac w' ho hi hcl hdep hF hW
    have f1 : ac.tmps.size = 231 := hF.1
    match iq, ho, hi, hdep with
    | 0, ho, hi, hdep =>
      cases ho
      have da0 : ac.eval (.tmp 0) = .pointer (some ⟨t, 0, none⟩) := hF.old 0 rfl
      exact Ord.ex_value x rfl rfl (Rg.mv da0 rfl) rfl (hW.keep (by decide))
    | 1, ho, hi, hdep =>
      cases ho
      have da0 : ac.eval (.tmp 5) = .pointer (some ⟨w.heap.size, 0, none⟩) := hF.old 5 rfl
      exact Ord.ex_value x rfl rfl (Rg.fa da0 rfl (by simp [go_sem])) rfl (hW.keep (by decide))
    | 2, ho, hi, hdep =>
      cases ho
      have da0 : ac.eval (.tmp 134) = .pointer (some ⟨w.heap.size, 1, none⟩) := hF.2.2.2 1 134 _ rfl (hdep ⟨1, .data⟩ (by simp) rfl)
      obtain ⟨kq, hlo, hhi, hA⟩ := hW.range 0 0 (.inl rfl) (.inr ⟨7, rfl, (Rg.no_of (fun h => hcl 7 _ rfl (h) ⟨2, .data⟩ (by simp) rfl) hi)⟩)
      exact Ord.ex_value x rfl rfl (Rg.load da0 rfl (by simp [go_sem, hA.1.cell 1 rfl])) rfl (hW.keep (by decide))
    | 3, ho, hi, hdep =>
      cases ho
      have da0 : ac.eval (.tmp 5) = .pointer (some ⟨w.heap.size, 0, none⟩) := hF.old 5 rfl
      exact Ord.ex_value x rfl rfl (Rg.fa da0 rfl (by simp [go_sem])) rfl (hW.keep (by decide))
    | 4, ho, hi, hdep =>
      cases ho
      have da0 : ac.eval (.tmp 136) = .pointer (some ⟨w.heap.size, 2, none⟩) := hF.2.2.2 3 136 _ rfl (hdep ⟨3, .data⟩ (by simp) rfl)
      obtain ⟨kq, hlo, hhi, hA⟩ := hW.range 0 0 (.inl rfl) (.inr ⟨7, rfl, (Rg.no_of (fun h => hcl 7 _ rfl (h) ⟨4, .data⟩ (by simp) rfl) hi)⟩)
      exact Ord.ex_value x rfl rfl (Rg.load da0 rfl (by simp [go_sem, hA.1.cell 2 rfl])) rfl (hW.keep (by decide))
    | 5, ho, hi, hdep =>
      cases ho
      have da0 : ac.eval (.tmp 5) = .pointer (some ⟨w.heap.size, 0, none⟩) := hF.old 5 rfl
      exact Ord.ex_value x rfl rfl (Rg.fa da0 rfl (by simp [go_sem])) rfl (hW.keep (by decide))
    | 6, ho, hi, hdep =>
      cases ho
      have da0 : ac.eval (.tmp 138) = .pointer (some ⟨w.heap.size, 3, none⟩) := hF.2.2.2 5 138 _ rfl (hdep ⟨5, .data⟩ (by simp) rfl)
      obtain ⟨kq, hlo, hhi, hA⟩ := hW.range 0 0 (.inl rfl) (.inr ⟨7, rfl, (Rg.no_of (fun h => hcl 7 _ rfl (h) ⟨6, .data⟩ (by simp) rfl) hi)⟩)
      exact Ord.ex_value x rfl rfl (Rg.load da0 rfl (by simp [go_sem, hA.1.cell 3 rfl])) rfl (hW.keep (by decide))
    | 7, ho, hi, hdep =>
      cases ho
      have da0 : ac.eval (.tmp 133) = .pointer (some ⟨t, 0, none⟩) := hF.2.2.2 0 133 _ rfl (hdep ⟨0, .data⟩ (by simp) rfl)
      have da1 : ac.eval (.tmp 135) = .int .i64 en := hF.2.2.2 2 135 _ rfl (hdep ⟨2, .data⟩ (by simp) rfl)
      have da2 : ac.eval (.tmp 137) = .int .i64 path := hF.2.2.2 4 137 _ rfl (hdep ⟨4, .data⟩ (by simp) rfl)
      have da3 : ac.eval (.tmp 139) = .int .i64 j := hF.2.2.2 6 139 _ rfl (hdep ⟨6, .data⟩ (by simp) rfl)
      have hA := hW.at (k := 0) rfl hi (.inl rfl)
      exact Rg.ex_call x rfl rfl (Rg.enter (args := #[.pointer (some ⟨t, 0, none⟩), .int .i64 en, .int .i64 path, .int .i64 j]) rfl rfl (by simp [da0, da1, da2, da3]) E1.out) (Calls.mono (SE.out _ (hA.2.1 rfl) hA.1) (by rintro e w2 ⟨rfl, hP, hbx⟩; exact ⟨rfl, hW.next (k := 0) rfl (by decide) hi (.inl rfl) ⟨hbx, fun e => absurd e (by decide), fun _ => hP, fun e => absurd e (by decide)⟩⟩))
    | 8, ho, hi, hdep =>
      cases ho
      have da0 : ac.eval (.tmp 1) = .pointer (some ⟨r, 0, none⟩) := hF.old 1 rfl
      exact Ord.ex_value x rfl rfl (Rg.mv da0 rfl) rfl (hW.keep (by decide))
    | 9, ho, hi, hdep =>
      cases ho
      have da0 : ac.eval (.tmp 5) = .pointer (some ⟨w.heap.size, 0, none⟩) := hF.old 5 rfl
      exact Ord.ex_value x rfl rfl (Rg.fa da0 rfl (by simp [go_sem])) rfl (hW.keep (by decide))
    | 10, ho, hi, hdep =>
      cases ho
      have da0 : ac.eval (.tmp 142) = .pointer (some ⟨w.heap.size, 1, none⟩) := hF.2.2.2 9 142 _ rfl (hdep ⟨9, .data⟩ (by simp) rfl)
      obtain ⟨kq, hlo, hhi, hA⟩ := hW.range 0 1 (.inl rfl) (.inr ⟨15, rfl, (Rg.no_of (fun h => hcl 15 _ rfl (h) ⟨10, .data⟩ (by simp) rfl) hi)⟩)
      exact Ord.ex_value x rfl rfl (Rg.load da0 rfl (by simp [go_sem, hA.1.cell 1 rfl])) rfl (hW.keep (by decide))
    | 11, ho, hi, hdep =>
      cases ho
      have da0 : ac.eval (.tmp 5) = .pointer (some ⟨w.heap.size, 0, none⟩) := hF.old 5 rfl
      exact Ord.ex_value x rfl rfl (Rg.fa da0 rfl (by simp [go_sem])) rfl (hW.keep (by decide))
    | 12, ho, hi, hdep =>
      cases ho
      have da0 : ac.eval (.tmp 144) = .pointer (some ⟨w.heap.size, 2, none⟩) := hF.2.2.2 11 144 _ rfl (hdep ⟨11, .data⟩ (by simp) rfl)
      obtain ⟨kq, hlo, hhi, hA⟩ := hW.range 0 1 (.inl rfl) (.inr ⟨15, rfl, (Rg.no_of (fun h => hcl 15 _ rfl (h) ⟨12, .data⟩ (by simp) rfl) hi)⟩)
      exact Ord.ex_value x rfl rfl (Rg.load da0 rfl (by simp [go_sem, hA.1.cell 2 rfl])) rfl (hW.keep (by decide))
    | 13, ho, hi, hdep =>
      cases ho
      have da0 : ac.eval (.tmp 5) = .pointer (some ⟨w.heap.size, 0, none⟩) := hF.old 5 rfl
      exact Ord.ex_value x rfl rfl (Rg.fa da0 rfl (by simp [go_sem])) rfl (hW.keep (by decide))
    | 14, ho, hi, hdep =>
      cases ho
      have da0 : ac.eval (.tmp 146) = .pointer (some ⟨w.heap.size, 3, none⟩) := hF.2.2.2 13 146 _ rfl (hdep ⟨13, .data⟩ (by simp) rfl)
      obtain ⟨kq, hlo, hhi, hA⟩ := hW.range 0 1 (.inl rfl) (.inr ⟨15, rfl, (Rg.no_of (fun h => hcl 15 _ rfl (h) ⟨14, .data⟩ (by simp) rfl) hi)⟩)
      exact Ord.ex_value x rfl rfl (Rg.load da0 rfl (by simp [go_sem, hA.1.cell 3 rfl])) rfl (hW.keep (by decide))
    | 15, ho, hi, hdep =>
      cases ho
      have da0 : ac.eval (.tmp 141) = .pointer (some ⟨r, 0, none⟩) := hF.2.2.2 8 141 _ rfl (hdep ⟨8, .data⟩ (by simp) rfl)
      have da1 : ac.eval (.tmp 143) = .int .i64 en := hF.2.2.2 10 143 _ rfl (hdep ⟨10, .data⟩ (by simp) rfl)
      have da2 : ac.eval (.tmp 145) = .int .i64 path := hF.2.2.2 12 145 _ rfl (hdep ⟨12, .data⟩ (by simp) rfl)
      have da3 : ac.eval (.tmp 147) = .int .i64 j := hF.2.2.2 14 147 _ rfl (hdep ⟨14, .data⟩ (by simp) rfl)
      have hA := hW.at (k := 1) rfl hi (.inr ⟨7, rfl, (hdep ⟨7, .chain⟩ (by simp) rfl)⟩)
      exact Rg.ex_call x rfl rfl (Rg.enter (args := #[.pointer (some ⟨r, 0, none⟩), .int .i64 en, .int .i64 path, .int .i64 j]) rfl rfl (by simp [da0, da1, da2, da3]) E2.out) (Calls.mono (RS.out _ (hA.2.2.1 rfl) hA.1) (by rintro e w2 ⟨rfl, hP, hbx⟩; exact ⟨rfl, hW.next (k := 1) rfl (by decide) hi (.inr ⟨7, rfl, (hdep ⟨7, .chain⟩ (by simp) rfl)⟩) ⟨hbx, fun e => absurd e (by decide), fun e => absurd e (by decide), fun _ => hP⟩⟩))
    | 16, ho, hi, hdep =>
      cases ho
      have da0 : ac.eval (.tmp 140) = .int .i64 c1 := hF.2.2.2 7 140 _ rfl (hdep ⟨7, .data⟩ (by simp) rfl)
      have da1 : ac.eval (.tmp 148) = .int .i64 c2 := hF.2.2.2 15 148 _ rfl (hdep ⟨15, .data⟩ (by simp) rfl)
      exact Ord.ex_value x rfl rfl (Rg.bin da0 da1 rfl (by simp [go_sem])) rfl (hW.keep (by decide))
    | 17, ho, hi, hdep =>
      cases ho
      have da0 : ac.eval (.tmp 149) = .bool (c1 == c2) := hF.2.2.2 16 149 _ rfl (hdep ⟨16, .data⟩ (by simp) rfl)
      exact Ord.ex_value x rfl rfl (Rg.asg da0 rfl) rfl (hW.keep (by decide))
  case refine_3 => exact Rg.StM.first ⟨HBX.out, fun _ => HP0.out, fun e => absurd e (by decide), fun e => absurd e (by decide)⟩
  case refine_2 =>
    intro x w2 hW
    have HP := hidden (hW.last.2.2.2 rfl)
    clear hW
    simp only [Ord.puts, Ord.prs]
    go_simp
    go_wp2
    go_ret
    exact ⟨c1 == c2, rfl, fun e => beq_iff_eq.2 (HEQ.out e), HP.out⟩
set_option maxHeartbeats 4000000 in
set_option maxRecDepth 20000 in
theorem act6 (h : Pn base w0 w t r S S') (hI : Inv S) (hn : S.next ≤ 1000) (hI' : Inv S') (hn' : S'.next ≤ 1000) (en path j at_ now bits : Int) {a : Option Addr} {n cap : Nat} {bs : List Int} (hby : By base w a n bs) (hnil : a = none → cap = 0) (hbi : 0 ≤ bits ∧ bits < 256) :
    Calls Try.prog 10 #[.pointer (some ⟨t, 0, none⟩), .pointer (some ⟨r, 0, none⟩), .agg #[.int .i64 6, .int .i64 en, .int .i64 path, .int .i64 j, .int .i64 at_, .int .i64 now, .int .u8 bits, .slice a n cap]] w fun e' w' => ActO base w0 t r S S' (spS S en path j at_ bits) (spS S' en path j at_ bits) e' w' := by
  obtain ⟨W1, hW1⟩ : ∃ W1, W1 = w.alloc (.cells #[.int .i64 6, .int .i64 en, .int .i64 path, .int .i64 j, .int .i64 at_, .int .i64 now, .int .u8 bits, .slice a n cap] 34) := ⟨_, rfl⟩
  have hB : Below w.heap.size w W1 := by rw [hW1]; exact (Below.refl _ w).alloc (Nat.le_refl _) _
  have hbox : Has W1 w.heap.size #[.int .i64 6, .int .i64 en, .int .i64 path, .int .i64 j, .int .i64 at_, .int .i64 now, .int .u8 bits, .slice a n cap] 34 := by rw [hW1]; exact Has.new w _ _
  have hP := h.later hB
  obtain ⟨b, vs, hN⟩ := hP.c
  have hby1 := hby.later hB
  obtain ⟨c1, hc1⟩ : ∃ c1, c1 = spE S en path j at_ := ⟨_, rfl⟩
  obtain ⟨c2, hc2⟩ : ∃ c2, c2 = spE S' en path j at_ := ⟨_, rfl⟩
  have SE : Hid (∀ w2, Pn base w0 w2 t r S S' → Has w2 w.heap.size #[.int .i64 6, .int .i64 en, .int .i64 path, .int .i64 j, .int .i64 at_, .int .i64 now, .int .u8 bits, .slice a n cap] 34 → Calls Try.prog 19 #[.pointer (some ⟨t, 0, none⟩), .int .i64 en, .int .i64 path, .int .i64 j, .int .i64 at_, .int .u8 bits] w2 fun e' w' => e' = .returned (.int .i64 c1) ∧ Pn base w0 w' t r (spS S en path j at_ bits) S' ∧ Has w' w.heap.size #[.int .i64 6, .int .i64 en, .int .i64 path, .int .i64 j, .int .i64 at_, .int .i64 now, .int .u8 bits, .slice a n cap] 34) := fun w2 hP2 hbx => by
    obtain ⟨b, vs, hN2⟩ := hP2.c
    refine Calls.mono (spoil_ hN2 hI hn en path j at_ hbi) ?_
    rintro e' w' ⟨rfl, hN3, hK⟩
    exact ⟨by rw [hc1], hP2.code hN3 hK, hK.has hbx rfl⟩
  have RS : Hid (∀ w2, Pn base w0 w2 t r (spS S en path j at_ bits) S' → Has w2 w.heap.size #[.int .i64 6, .int .i64 en, .int .i64 path, .int .i64 j, .int .i64 at_, .int .i64 now, .int .u8 bits, .slice a n cap] 34 → Calls Try.prog 29 #[.pointer (some ⟨r, 0, none⟩), .int .i64 en, .int .i64 path, .int .i64 j, .int .i64 at_, .int .u8 bits] w2 fun e' w' => e' = .returned (.int .i64 c2) ∧ Pn base w0 w' t r (spS S en path j at_ bits) (spS S' en path j at_ bits) ∧ Has w' w.heap.size #[.int .i64 6, .int .i64 en, .int .i64 path, .int .i64 j, .int .i64 at_, .int .i64 now, .int .u8 bits, .slice a n cap] 34) := fun w2 hP2 hbx => by
    obtain ⟨rv, ov, rb, vs', X, hR2⟩ := hP2.r
    refine Calls.mono (rSpoil hR2 hI' hn' en path j at_ hbi) ?_
    rintro e' w' ⟨rfl, hR3⟩
    exact ⟨by rw [hc2], hP2.ref hR3, hR3.2.has hbx rfl⟩
  have HEQ : Hid (S = S' → c1 = c2) := fun e => by subst e; exact hc1.trans hc2.symm
  have E1 : Hid (∀ (args : Array Value) (w : World), (callFunc 19 args).run Try.prog w = .ok (.enter 19 args) w) := enters_of Try.func19 (by kernel_rfl) rfl
  have E2 : Hid (∀ (args : Array Value) (w : World), (callFunc 29 args).run Try.prog w = .ok (.enter 29 args) w) := enters_of Try.func29 (by kernel_rfl) rfl
  have HP0 : Hid (Pn base w0 W1.drew t r S S') := hP.later (Below.refl _ _).drew
  have HBX : Hid (Has W1.drew w.heap.size #[.int .i64 6, .int .i64 en, .int .i64 path, .int .i64 j, .int .i64 at_, .int .i64 now, .int .u8 bits, .slice a n cap] 34) := hbox
  have HW1 := hidden hW1
  clear h hI hI' hby hby1 hB hbox hP hN hc1 hc2 hW1 hnil
  go_enter Try.func10, Try.ntmps10
  go_upto_region 21 with fail
  rw [← HW1.out]
  refine Ord.wp_region_ex0 (X := Unit) (by kernel_rfl) 231 (fun x => [(some 184, .pointer (some ⟨t, 0, none⟩)), (some 185, .pointer (some ⟨w.heap.size, 1, none⟩)), (some 186, .int .i64 en), (some 187, .pointer (some ⟨w.heap.size, 2, none⟩)), (some 188, .int .i64 path), (some 189, .pointer (some ⟨w.heap.size, 3, none⟩)), (some 190, .int .i64 j), (some 191, .pointer (some ⟨w.heap.size, 4, none⟩)), (some 192, .int .i64 at_), (some 193, .pointer (some ⟨w.heap.size, 6, none⟩)), (some 194, .int .u8 bits), (some 195, .int .i64 c1), (some 196, .pointer (some ⟨r, 0, none⟩)), (some 197, .pointer (some ⟨w.heap.size, 1, none⟩)), (some 198, .int .i64 en), (some 199, .pointer (some ⟨w.heap.size, 2, none⟩)), (some 200, .int .i64 path), (some 201, .pointer (some ⟨w.heap.size, 3, none⟩)), (some 202, .int .i64 j), (some 203, .pointer (some ⟨w.heap.size, 4, none⟩)), (some 204, .int .i64 at_), (some 205, .pointer (some ⟨w.heap.size, 6, none⟩)), (some 206, .int .u8 bits), (some 207, .int .i64 c2), (some 208, .bool (c1 == c2)), (some 6, .bool (c1 == c2))]) [some 184, some 185, some 186, some 187, some 188, some 189, some 190, some 191, some 192, some 193, some 194, some 195, some 196, some 197, some 198, some 199, some 200, some 201, some 202, some 203, some 204, some 205, some 206, some 207, some 208, some 6] rfl (fun listed hsz hr => Ord.all_listedC (rank := [0, 1, 2, 3, 4, 5, 6, 7, 8, 9, 10, 11, 12, 13, 14, 15, 16, 17, 18, 19, 20, 21, 22, 23, 24, 25]) (by kernel_rfl) hsz hr) (by rfl) (fun _ => rfl) (by kernel_rfl) (Rg.StM [11, 23] (fun k _ w' => Has w' w.heap.size #[.int .i64 6, .int .i64 en, .int .i64 path, .int .i64 j, .int .i64 at_, .int .i64 now, .int .u8 bits, .slice a n cap] 34 ∧ (k = 0 → Pn base w0 w' t r S S') ∧ (k = 1 → Pn base w0 w' t r (spS S en path j at_ bits) S') ∧ (k = 2 → Pn base w0 w' t r (spS S en path j at_ bits) (spS S' en path j at_ bits)))) (fun _ _ _ _ hL h => h.ext (n := 26) (by decide) hL) ?_ ?_ () ?_
  case refine_1 =>
    intro x Lq iq oq ac w' ho hi hcl hdep hF hW
    have f1 : ac.tmps.size = 231 := hF.1
    match iq, ho, hi, hdep with
    | 0, ho, hi, hdep =>
      cases ho
      have da0 : ac.eval (.tmp 0) = .pointer (some ⟨t, 0, none⟩) := hF.old 0 rfl
      exact Ord.ex_value x rfl rfl (Rg.mv da0 rfl) rfl (hW.keep (by decide))
    | 1, ho, hi, hdep =>
      cases ho
      have da0 : ac.eval (.tmp 5) = .pointer (some ⟨w.heap.size, 0, none⟩) := hF.old 5 rfl
      exact Ord.ex_value x rfl rfl (Rg.fa da0 rfl (by simp [go_sem])) rfl (hW.keep (by decide))
    | 2, ho, hi, hdep =>
      cases ho
      have da0 : ac.eval (.tmp 185) = .pointer (some ⟨w.heap.size, 1, none⟩) := hF.2.2.2 1 185 _ rfl (hdep ⟨1, .data⟩ (by simp) rfl)
      obtain ⟨kq, hlo, hhi, hA⟩ := hW.range 0 0 (.inl rfl) (.inr ⟨11, rfl, (Rg.no_of (fun h => hcl 11 _ rfl (h) ⟨2, .data⟩ (by simp) rfl) hi)⟩)
      exact Ord.ex_value x rfl rfl (Rg.load da0 rfl (by simp [go_sem, hA.1.cell 1 rfl])) rfl (hW.keep (by decide))
    | 3, ho, hi, hdep =>
      cases ho
      have da0 : ac.eval (.tmp 5) = .pointer (some ⟨w.heap.size, 0, none⟩) := hF.old 5 rfl
      exact Ord.ex_value x rfl rfl (Rg.fa da0 rfl (by simp [go_sem])) rfl (hW.keep (by decide))
    | 4, ho, hi, hdep =>
      cases ho
      have da0 : ac.eval (.tmp 187) = .pointer (some ⟨w.heap.size, 2, none⟩) := hF.2.2.2 3 187 _ rfl (hdep ⟨3, .data⟩ (by simp) rfl)
      obtain ⟨kq, hlo, hhi, hA⟩ := hW.range 0 0 (.inl rfl) (.inr ⟨11, rfl, (Rg.no_of (fun h => hcl 11 _ rfl (h) ⟨4, .data⟩ (by simp) rfl) hi)⟩)
      exact Ord.ex_value x rfl rfl (Rg.load da0 rfl (by simp [go_sem, hA.1.cell 2 rfl])) rfl (hW.keep (by decide))
    | 5, ho, hi, hdep =>
      cases ho
      have da0 : ac.eval (.tmp 5) = .pointer (some ⟨w.heap.size, 0, none⟩) := hF.old 5 rfl
      exact Ord.ex_value x rfl rfl (Rg.fa da0 rfl (by simp [go_sem])) rfl (hW.keep (by decide))
    | 6, ho, hi, hdep =>
      cases ho
      have da0 : ac.eval (.tmp 189) = .pointer (some ⟨w.heap.size, 3, none⟩) := hF.2.2.2 5 189 _ rfl (hdep ⟨5, .data⟩ (by simp) rfl)
      obtain ⟨kq, hlo, hhi, hA⟩ := hW.range 0 0 (.inl rfl) (.inr ⟨11, rfl, (Rg.no_of (fun h => hcl 11 _ rfl (h) ⟨6, .data⟩ (by simp) rfl) hi)⟩)
      exact Ord.ex_value x rfl rfl (Rg.load da0 rfl (by simp [go_sem, hA.1.cell 3 rfl])) rfl (hW.keep (by decide))
    | 7, ho, hi, hdep =>
      cases ho
      have da0 : ac.eval (.tmp 5) = .pointer (some ⟨w.heap.size, 0, none⟩) := hF.old 5 rfl
      exact Ord.ex_value x rfl rfl (Rg.fa da0 rfl (by simp [go_sem])) rfl (hW.keep (by decide))
    | 8, ho, hi, hdep =>
      cases ho
      have da0 : ac.eval (.tmp 191) = .pointer (some ⟨w.heap.size, 4, none⟩) := hF.2.2.2 7 191 _ rfl (hdep ⟨7, .data⟩ (by simp) rfl)
      obtain ⟨kq, hlo, hhi, hA⟩ := hW.range 0 0 (.inl rfl) (.inr ⟨11, rfl, (Rg.no_of (fun h => hcl 11 _ rfl (h) ⟨8, .data⟩ (by simp) rfl) hi)⟩)
      exact Ord.ex_value x rfl rfl (Rg.load da0 rfl (by simp [go_sem, hA.1.cell 4 rfl])) rfl (hW.keep (by decide))
    | 9, ho, hi, hdep =>
      cases ho
      have da0 : ac.eval (.tmp 5) = .pointer (some ⟨w.heap.size, 0, none⟩) := hF.old 5 rfl
      exact Ord.ex_value x rfl rfl (Rg.fa da0 rfl (by simp [go_sem])) rfl (hW.keep (by decide))
    | 10, ho, hi, hdep =>
      cases ho
      have da0 : ac.eval (.tmp 193) = .pointer (some ⟨w.heap.size, 6, none⟩) := hF.2.2.2 9 193 _ rfl (hdep ⟨9, .data⟩ (by simp) rfl)
      obtain ⟨kq, hlo, hhi, hA⟩ := hW.range 0 0 (.inl rfl) (.inr ⟨11, rfl, (Rg.no_of (fun h => hcl 11 _ rfl (h) ⟨10, .data⟩ (by simp) rfl) hi)⟩)
      exact Ord.ex_value x rfl rfl (Rg.load da0 rfl (by simp [go_sem, hA.1.cell 6 rfl])) rfl (hW.keep (by decide))
    | 11, ho, hi, hdep =>
      cases ho
      have da0 : ac.eval (.tmp 184) = .pointer (some ⟨t, 0, none⟩) := hF.2.2.2 0 184 _ rfl (hdep ⟨0, .data⟩ (by simp) rfl)
      have da1 : ac.eval (.tmp 186) = .int .i64 en := hF.2.2.2 2 186 _ rfl (hdep ⟨2, .data⟩ (by simp) rfl)
      have da2 : ac.eval (.tmp 188) = .int .i64 path := hF.2.2.2 4 188 _ rfl (hdep ⟨4, .data⟩ (by simp) rfl)
      have da3 : ac.eval (.tmp 190) = .int .i64 j := hF.2.2.2 6 190 _ rfl (hdep ⟨6, .data⟩ (by simp) rfl)
      have da4 : ac.eval (.tmp 192) = .int .i64 at_ := hF.2.2.2 8 192 _ rfl (hdep ⟨8, .data⟩ (by simp) rfl)
      have da5 : ac.eval (.tmp 194) = .int .u8 bits := hF.2.2.2 10 194 _ rfl (hdep ⟨10, .data⟩ (by simp) rfl)
      have hA := hW.at (k := 0) rfl hi (.inl rfl)
      exact Rg.ex_call x rfl rfl (Rg.enter (args := #[.pointer (some ⟨t, 0, none⟩), .int .i64 en, .int .i64 path, .int .i64 j, .int .i64 at_, .int .u8 bits]) rfl rfl (by simp [da0, da1, da2, da3, da4, da5]) E1.out) (Calls.mono (SE.out _ (hA.2.1 rfl) hA.1) (by rintro e w2 ⟨rfl, hP, hbx⟩; exact ⟨rfl, hW.next (k := 0) rfl (by decide) hi (.inl rfl) ⟨hbx, fun e => absurd e (by decide), fun _ => hP, fun e => absurd e (by decide)⟩⟩))
    | 12, ho, hi, hdep =>
      cases ho
      have da0 : ac.eval (.tmp 1) = .pointer (some ⟨r, 0, none⟩) := hF.old 1 rfl
      exact Ord.ex_value x rfl rfl (Rg.mv da0 rfl) rfl (hW.keep (by decide))
    | 13, ho, hi, hdep =>
      cases ho
      have da0 : ac.eval (.tmp 5) = .pointer (some ⟨w.heap.size, 0, none⟩) := hF.old 5 rfl
      exact Ord.ex_value x rfl rfl (Rg.fa da0 rfl (by simp [go_sem])) rfl (hW.keep (by decide))
    | 14, ho, hi, hdep =>
      cases ho
      have da0 : ac.eval (.tmp 197) = .pointer (some ⟨w.heap.size, 1, none⟩) := hF.2.2.2 13 197 _ rfl (hdep ⟨13, .data⟩ (by simp) rfl)
      obtain ⟨kq, hlo, hhi, hA⟩ := hW.range 0 1 (.inl rfl) (.inr ⟨23, rfl, (Rg.no_of (fun h => hcl 23 _ rfl (h) ⟨14, .data⟩ (by simp) rfl) hi)⟩)
      exact Ord.ex_value x rfl rfl (Rg.load da0 rfl (by simp [go_sem, hA.1.cell 1 rfl])) rfl (hW.keep (by decide))
    | 15, ho, hi, hdep =>
      cases ho
      have da0 : ac.eval (.tmp 5) = .pointer (some ⟨w.heap.size, 0, none⟩) := hF.old 5 rfl
      exact Ord.ex_value x rfl rfl (Rg.fa da0 rfl (by simp [go_sem])) rfl (hW.keep (by decide))
    | 16, ho, hi, hdep =>
      cases ho
      have da0 : ac.eval (.tmp 199) = .pointer (some ⟨w.heap.size, 2, none⟩) := hF.2.2.2 15 199 _ rfl (hdep ⟨15, .data⟩ (by simp) rfl)
      obtain ⟨kq, hlo, hhi, hA⟩ := hW.range 0 1 (.inl rfl) (.inr ⟨23, rfl, (Rg.no_of (fun h => hcl 23 _ rfl (h) ⟨16, .data⟩ (by simp) rfl) hi)⟩)
      exact Ord.ex_value x rfl rfl (Rg.load da0 rfl (by simp [go_sem, hA.1.cell 2 rfl])) rfl (hW.keep (by decide))
    | 17, ho, hi, hdep =>
      cases ho
      have da0 : ac.eval (.tmp 5) = .pointer (some ⟨w.heap.size, 0, none⟩) := hF.old 5 rfl
      exact Ord.ex_value x rfl rfl (Rg.fa da0 rfl (by simp [go_sem])) rfl (hW.keep (by decide))
    | 18, ho, hi, hdep =>
      cases ho
      have da0 : ac.eval (.tmp 201) = .pointer (some ⟨w.heap.size, 3, none⟩) := hF.2.2.2 17 201 _ rfl (hdep ⟨17, .data⟩ (by simp) rfl)
      obtain ⟨kq, hlo, hhi, hA⟩ := hW.range 0 1 (.inl rfl) (.inr ⟨23, rfl, (Rg.no_of (fun h => hcl 23 _ rfl (h) ⟨18, .data⟩ (by simp) rfl) hi)⟩)
      exact Ord.ex_value x rfl rfl (Rg.load da0 rfl (by simp [go_sem, hA.1.cell 3 rfl])) rfl (hW.keep (by decide))
    | 19, ho, hi, hdep =>
      cases ho
      have da0 : ac.eval (.tmp 5) = .pointer (some ⟨w.heap.size, 0, none⟩) := hF.old 5 rfl
      exact Ord.ex_value x rfl rfl (Rg.fa da0 rfl (by simp [go_sem])) rfl (hW.keep (by decide))
    | 20, ho, hi, hdep =>
      cases ho
      have da0 : ac.eval (.tmp 203) = .pointer (some ⟨w.heap.size, 4, none⟩) := hF.2.2.2 19 203 _ rfl (hdep ⟨19, .data⟩ (by simp) rfl)
      obtain ⟨kq, hlo, hhi, hA⟩ := hW.range 0 1 (.inl rfl) (.inr ⟨23, rfl, (Rg.no_of (fun h => hcl 23 _ rfl (h) ⟨20, .data⟩ (by simp) rfl) hi)⟩)
      exact Ord.ex_value x rfl rfl (Rg.load da0 rfl (by simp [go_sem, hA.1.cell 4 rfl])) rfl (hW.keep (by decide))
    | 21, ho, hi, hdep =>
      cases ho
      have da0 : ac.eval (.tmp 5) = .pointer (some ⟨w.heap.size, 0, none⟩) := hF.old 5 rfl
      exact Ord.ex_value x rfl rfl (Rg.fa da0 rfl (by simp [go_sem])) rfl (hW.keep (by decide))
    | 22, ho, hi, hdep =>
      cases ho
      have da0 : ac.eval (.tmp 205) = .pointer (some ⟨w.heap.size, 6, none⟩) := hF.2.2.2 21 205 _ rfl (hdep ⟨21, .data⟩ (by simp) rfl)
      obtain ⟨kq, hlo, hhi, hA⟩ := hW.range 0 1 (.inl rfl) (.inr ⟨23, rfl, (Rg.no_of (fun h => hcl 23 _ rfl (h) ⟨22, .data⟩ (by simp) rfl) hi)⟩)
      exact Ord.ex_value x rfl rfl (Rg.load da0 rfl (by simp [go_sem, hA.1.cell 6 rfl])) rfl (hW.keep (by decide))
    | 23, ho, hi, hdep =>
      cases ho
      have da0 : ac.eval (.tmp 196) = .pointer (some ⟨r, 0, none⟩) := hF.2.2.2 12 196 _ rfl (hdep ⟨12, .data⟩ (by simp) rfl)
      have da1 : ac.eval (.tmp 198) = .int .i64 en := hF.2.2.2 14 198 _ rfl (hdep ⟨14, .data⟩ (by simp) rfl)
      have da2 : ac.eval (.tmp 200) = .int .i64 path := hF.2.2.2 16 200 _ rfl (hdep ⟨16, .data⟩ (by simp) rfl)
      have da3 : ac.eval (.tmp 202) = .int .i64 j := hF.2.2.2 18 202 _ rfl (hdep ⟨18, .data⟩ (by simp) rfl)
      have da4 : ac.eval (.tmp 204) = .int .i64 at_ := hF.2.2.2 20 204 _ rfl (hdep ⟨20, .data⟩ (by simp) rfl)
      have da5 : ac.eval (.tmp 206) = .int .u8 bits := hF.2.2.2 22 206 _ rfl (hdep ⟨22, .data⟩ (by simp) rfl)
      have hA := hW.at (k := 1) rfl hi (.inr ⟨11, rfl, (hdep ⟨11, .chain⟩ (by simp) rfl)⟩)
      exact Rg.ex_call x rfl rfl (Rg.enter (args := #[.pointer (some ⟨r, 0, none⟩), .int .i64 en, .int .i64 path, .int .i64 j, .int .i64 at_, .int .u8 bits]) rfl rfl (by simp [da0, da1, da2, da3, da4, da5]) E2.out) (Calls.mono (RS.out _ (hA.2.2.1 rfl) hA.1) (by rintro e w2 ⟨rfl, hP, hbx⟩; exact ⟨rfl, hW.next (k := 1) rfl (by decide) hi (.inr ⟨11, rfl, (hdep ⟨11, .chain⟩ (by simp) rfl)⟩) ⟨hbx, fun e => absurd e (by decide), fun e => absurd e (by decide), fun _ => hP⟩⟩))
    | 24, ho, hi, hdep =>
      cases ho
      have da0 : ac.eval (.tmp 195) = .int .i64 c1 := hF.2.2.2 11 195 _ rfl (hdep ⟨11, .data⟩ (by simp) rfl)
      have da1 : ac.eval (.tmp 207) = .int .i64 c2 := hF.2.2.2 23 207 _ rfl (hdep ⟨23, .data⟩ (by simp) rfl)
      exact Ord.ex_value x rfl rfl (Rg.bin da0 da1 rfl (by simp [go_sem])) rfl (hW.keep (by decide))
    | 25, ho, hi, hdep =>
      cases ho
      have da0 : ac.eval (.tmp 208) = .bool (c1 == c2) := hF.2.2.2 24 208 _ rfl (hdep ⟨24, .data⟩ (by simp) rfl)
      exact Ord.ex_value x rfl rfl (Rg.asg da0 rfl) rfl (hW.keep (by decide))
  case refine_3 => exact Rg.StM.first ⟨HBX.out, fun _ => HP0.out, fun e => absurd e (by decide), fun e => absurd e (by decide)⟩
  case refine_2 =>
    intro x w2 hW
    have HP := hidden (hW.last.2.2.2 rfl)
    clear hW
    simp only [Ord.puts, Ord.prs]
    go_simp
    go_wp2
    go_ret
    exact ⟨c1 == c2, rfl, fun e => beq_iff_eq.2 (HEQ.out e), HP.out⟩
set_option maxHeartbeats 4000000 in
set_option maxRecDepth 20000 in
theorem act7 (h : Pn base w0 w t r S S') (hI : Inv S) (hn : S.next ≤ 1000) (hI' : Inv S') (hn' : S'.next ≤ 1000) (en path j at_ now bits : Int) {a : Option Addr} {n cap : Nat} {bs : List Int} (hby : By base w a n bs) (hnil : a = none → cap = 0) (hbi : 0 ≤ bits ∧ bits < 256) :
    Calls Try.prog 10 #[.pointer (some ⟨t, 0, none⟩), .pointer (some ⟨r, 0, none⟩), .agg #[.int .i64 7, .int .i64 en, .int .i64 path, .int .i64 j, .int .i64 at_, .int .i64 now, .int .u8 bits, .slice a n cap]] w fun e' w' => ActO base w0 t r S S' (dnS S path) (dnS S' path) e' w' := by
  obtain ⟨W1, hW1⟩ : ∃ W1, W1 = w.alloc (.cells #[.int .i64 7, .int .i64 en, .int .i64 path, .int .i64 j, .int .i64 at_, .int .i64 now, .int .u8 bits, .slice a n cap] 34) := ⟨_, rfl⟩
  have hB : Below w.heap.size w W1 := by rw [hW1]; exact (Below.refl _ w).alloc (Nat.le_refl _) _
  have hbox : Has W1 w.heap.size #[.int .i64 7, .int .i64 en, .int .i64 path, .int .i64 j, .int .i64 at_, .int .i64 now, .int .u8 bits, .slice a n cap] 34 := by rw [hW1]; exact Has.new w _ _
  have hP := h.later hB
  obtain ⟨b, vs, hN⟩ := hP.c
  have hby1 := hby.later hB
  obtain ⟨c1, hc1⟩ : ∃ c1, c1 = pE S path := ⟨_, rfl⟩
  obtain ⟨c2, hc2⟩ : ∃ c2, c2 = pE S' path := ⟨_, rfl⟩
  have SE : Hid (∀ w2, Pn base w0 w2 t r S S' → Has w2 w.heap.size #[.int .i64 7, .int .i64 en, .int .i64 path, .int .i64 j, .int .i64 at_, .int .i64 now, .int .u8 bits, .slice a n cap] 34 → Calls Try.prog 20 #[.pointer (some ⟨t, 0, none⟩), .int .i64 path] w2 fun e' w' => e' = .returned (.int .i64 c1) ∧ Pn base w0 w' t r (dnS S path) S' ∧ Has w' w.heap.size #[.int .i64 7, .int .i64 en, .int .i64 path, .int .i64 j, .int .i64 at_, .int .i64 now, .int .u8 bits, .slice a n cap] 34) := fun w2 hP2 hbx => by
    obtain ⟨b, vs, hN2⟩ := hP2.c
    refine Calls.mono (down_ hN2 hI hn path) ?_
    rintro e' w' ⟨rfl, hN3, hK⟩
    exact ⟨by rw [hc1], hP2.code hN3 hK, hK.has hbx rfl⟩
  have RS : Hid (∀ w2, Pn base w0 w2 t r (dnS S path) S' → Has w2 w.heap.size #[.int .i64 7, .int .i64 en, .int .i64 path, .int .i64 j, .int .i64 at_, .int .i64 now, .int .u8 bits, .slice a n cap] 34 → Calls Try.prog 30 #[.pointer (some ⟨r, 0, none⟩), .int .i64 path] w2 fun e' w' => e' = .returned (.int .i64 c2) ∧ Pn base w0 w' t r (dnS S path) (dnS S' path) ∧ Has w' w.heap.size #[.int .i64 7, .int .i64 en, .int .i64 path, .int .i64 j, .int .i64 at_, .int .i64 now, .int .u8 bits, .slice a n cap] 34) := fun w2 hP2 hbx => by
    obtain ⟨rv, ov, rb, vs', X, hR2⟩ := hP2.r
    refine Calls.mono (rDown hR2 hI' hn' path) ?_
    rintro e' w' ⟨rfl, hR3⟩
    exact ⟨by rw [hc2], hP2.ref hR3, hR3.2.has hbx rfl⟩
  have HEQ : Hid (S = S' → c1 = c2) := fun e => by subst e; exact hc1.trans hc2.symm
  have E1 : Hid (∀ (args : Array Value) (w : World), (callFunc 20 args).run Try.prog w = .ok (.enter 20 args) w) := enters_of Try.func20 (by kernel_rfl) rfl
  have E2 : Hid (∀ (args : Array Value) (w : World), (callFunc 30 args).run Try.prog w = .ok (.enter 30 args) w) := enters_of Try.func30 (by kernel_rfl) rfl
  have HP0 : Hid (Pn base w0 W1.drew t r S S') := hP.later (Below.refl _ _).drew
  have HBX : Hid (Has W1.drew w.heap.size #[.int .i64 7, .int .i64 en, .int .i64 path, .int .i64 j, .int .i64 at_, .int .i64 now, .int .u8 bits, .slice a n cap] 34) := hbox
  have HW1 := hidden hW1
  clear h hI hI' hby hby1 hB hbox hP hN hc1 hc2 hW1 hnil
  go_enter Try.func10, Try.ntmps10
  go_upto_region 23 with fail
  rw [← HW1.out]
  refine Ord.wp_region_ex0 (X := Unit) (by kernel_rfl) 231 (fun x => [(some 211, .pointer (some ⟨t, 0, none⟩)), (some 212, .pointer (some ⟨w.heap.size, 2, none⟩)), (some 213, .int .i64 path), (some 214, .int .i64 c1), (some 215, .pointer (some ⟨r, 0, none⟩)), (some 216, .pointer (some ⟨w.heap.size, 2, none⟩)), (some 217, .int .i64 path), (some 218, .int .i64 c2), (some 219, .bool (c1 == c2)), (some 6, .bool (c1 == c2))]) [some 211, some 212, some 213, some 214, some 215, some 216, some 217, some 218, some 219, some 6] rfl (fun listed hsz hr => Ord.all_listedC (rank := [0, 1, 2, 3, 4, 5, 6, 7, 8, 9]) (by kernel_rfl) hsz hr) (by rfl) (fun _ => rfl) (by kernel_rfl) (Rg.StM [3, 7] (fun k _ w' => Has w' w.heap.size #[.int .i64 7, .int .i64 en, .int .i64 path, .int .i64 j, .int .i64 at_, .int .i64 now, .int .u8 bits, .slice a n cap] 34 ∧ (k = 0 → Pn base w0 w' t r S S') ∧ (k = 1 → Pn base w0 w' t r (dnS S path) S') ∧ (k = 2 → Pn base w0 w' t r (dnS S path) (dnS S' path)))) (fun _ _ _ _ hL h => h.ext (n := 10) (by decide) hL) ?_ ?_ () ?_
  case refine_1 =>
    intro x Lq iq oq ac w' ho hi hcl hdep hF hW
    have f1 : ac.tmps.size = 231 := hF.1
    match iq, ho, hi, hdep with
    | 0, ho, hi, hdep =>
      cases ho
      have da0 : ac.eval (.tmp 0) = .pointer (some ⟨t, 0, none⟩) := hF.old 0 rfl
      exact Ord.ex_value x rfl rfl (Rg.mv da0 rfl) rfl (hW.keep (by decide))
    | 1, ho, hi, hdep =>
      cases ho
      have da0 : ac.eval (.tmp 5) = .pointer (some ⟨w.heap.size, 0, none⟩) := hF.old 5 rfl
      exact Ord.ex_value x rfl rfl (Rg.fa da0 rfl (by simp [go_sem])) rfl (hW.keep (by decide))
    | 2, ho, hi, hdep =>
      cases ho
      have da0 : ac.eval (.tmp 212) = .pointer (some ⟨w.heap.size, 2, none⟩) := hF.2.2.2 1 212 _ rfl (hdep ⟨1, .data⟩ (by simp) rfl)
      obtain ⟨kq, hlo, hhi, hA⟩ := hW.range 0 0 (.inl rfl) (.inr ⟨3, rfl, (Rg.no_of (fun h => hcl 3 _ rfl (h) ⟨2, .data⟩ (by simp) rfl) hi)⟩)
      exact Ord.ex_value x rfl rfl (Rg.load da0 rfl (by simp [go_sem, hA.1.cell 2 rfl])) rfl (hW.keep (by decide))
    | 3, ho, hi, hdep =>
      cases ho
      have da0 : ac.eval (.tmp 211) = .pointer (some ⟨t, 0, none⟩) := hF.2.2.2 0 211 _ rfl (hdep ⟨0, .data⟩ (by simp) rfl)
      have da1 : ac.eval (.tmp 213) = .int .i64 path := hF.2.2.2 2 213 _ rfl (hdep ⟨2, .data⟩ (by simp) rfl)
      have hA := hW.at (k := 0) rfl hi (.inl rfl)
      exact Rg.ex_call x rfl rfl (Rg.enter (args := #[.pointer (some ⟨t, 0, none⟩), .int .i64 path]) rfl rfl (by simp [da0, da1]) E1.out) (Calls.mono (SE.out _ (hA.2.1 rfl) hA.1) (by rintro e w2 ⟨rfl, hP, hbx⟩; exact ⟨rfl, hW.next (k := 0) rfl (by decide) hi (.inl rfl) ⟨hbx, fun e => absurd e (by decide), fun _ => hP, fun e => absurd e (by decide)⟩⟩))
    | 4, ho, hi, hdep =>
      cases ho
      have da0 : ac.eval (.tmp 1) = .pointer (some ⟨r, 0, none⟩) := hF.old 1 rfl
      exact Ord.ex_value x rfl rfl (Rg.mv da0 rfl) rfl (hW.keep (by decide))
    | 5, ho, hi, hdep =>
      cases ho
      have da0 : ac.eval (.tmp 5) = .pointer (some ⟨w.heap.size, 0, none⟩) := hF.old 5 rfl
      exact Ord.ex_value x rfl rfl (Rg.fa da0 rfl (by simp [go_sem])) rfl (hW.keep (by decide))
    | 6, ho, hi, hdep =>
      cases ho
      have da0 : ac.eval (.tmp 216) = .pointer (some ⟨w.heap.size, 2, none⟩) := hF.2.2.2 5 216 _ rfl (hdep ⟨5, .data⟩ (by simp) rfl)
      obtain ⟨kq, hlo, hhi, hA⟩ := hW.range 0 1 (.inl rfl) (.inr ⟨7, rfl, (Rg.no_of (fun h => hcl 7 _ rfl (h) ⟨6, .data⟩ (by simp) rfl) hi)⟩)
      exact Ord.ex_value x rfl rfl (Rg.load da0 rfl (by simp [go_sem, hA.1.cell 2 rfl])) rfl (hW.keep (by decide))
    | 7, ho, hi, hdep =>
      cases ho
      have da0 : ac.eval (.tmp 215) = .pointer (some ⟨r, 0, none⟩) := hF.2.2.2 4 215 _ rfl (hdep ⟨4, .data⟩ (by simp) rfl)
      have da1 : ac.eval (.tmp 217) = .int .i64 path := hF.2.2.2 6 217 _ rfl (hdep ⟨6, .data⟩ (by simp) rfl)
      have hA := hW.at (k := 1) rfl hi (.inr ⟨3, rfl, (hdep ⟨3, .chain⟩ (by simp) rfl)⟩)
      exact Rg.ex_call x rfl rfl (Rg.enter (args := #[.pointer (some ⟨r, 0, none⟩), .int .i64 path]) rfl rfl (by simp [da0, da1]) E2.out) (Calls.mono (RS.out _ (hA.2.2.1 rfl) hA.1) (by rintro e w2 ⟨rfl, hP, hbx⟩; exact ⟨rfl, hW.next (k := 1) rfl (by decide) hi (.inr ⟨3, rfl, (hdep ⟨3, .chain⟩ (by simp) rfl)⟩) ⟨hbx, fun e => absurd e (by decide), fun e => absurd e (by decide), fun _ => hP⟩⟩))
    | 8, ho, hi, hdep =>
      cases ho
      have da0 : ac.eval (.tmp 214) = .int .i64 c1 := hF.2.2.2 3 214 _ rfl (hdep ⟨3, .data⟩ (by simp) rfl)
      have da1 : ac.eval (.tmp 218) = .int .i64 c2 := hF.2.2.2 7 218 _ rfl (hdep ⟨7, .data⟩ (by simp) rfl)
      exact Ord.ex_value x rfl rfl (Rg.bin da0 da1 rfl (by simp [go_sem])) rfl (hW.keep (by decide))
    | 9, ho, hi, hdep =>
      cases ho
      have da0 : ac.eval (.tmp 219) = .bool (c1 == c2) := hF.2.2.2 8 219 _ rfl (hdep ⟨8, .data⟩ (by simp) rfl)
      exact Ord.ex_value x rfl rfl (Rg.asg da0 rfl) rfl (hW.keep (by decide))
  case refine_3 => exact Rg.StM.first ⟨HBX.out, fun _ => HP0.out, fun e => absurd e (by decide), fun e => absurd e (by decide)⟩
  case refine_2 =>
    intro x w2 hW
    have HP := hidden (hW.last.2.2.2 rfl)
    clear hW
    simp only [Ord.puts, Ord.prs]
    go_simp
    go_wp2
    go_ret
    exact ⟨c1 == c2, rfl, fun e => beq_iff_eq.2 (HEQ.out e), HP.out⟩
set_option maxHeartbeats 4000000 in
set_option maxRecDepth 20000 in
theorem act8 (h : Pn base w0 w t r S S') (hI : Inv S) (hn : S.next ≤ 1000) (hI' : Inv S') (hn' : S'.next ≤ 1000) (en path j at_ now bits : Int) {a : Option Addr} {n cap : Nat} {bs : List Int} (hby : By base w a n bs) (hnil : a = none → cap = 0) (hbi : 0 ≤ bits ∧ bits < 256) :
    Calls Try.prog 10 #[.pointer (some ⟨t, 0, none⟩), .pointer (some ⟨r, 0, none⟩), .agg #[.int .i64 8, .int .i64 en, .int .i64 path, .int .i64 j, .int .i64 at_, .int .i64 now, .int .u8 bits, .slice a n cap]] w fun e' w' => ActO base w0 t r S S' (upS S path) (upS S' path) e' w' := by
  obtain ⟨W1, hW1⟩ : ∃ W1, W1 = w.alloc (.cells #[.int .i64 8, .int .i64 en, .int .i64 path, .int .i64 j, .int .i64 at_, .int .i64 now, .int .u8 bits, .slice a n cap] 34) := ⟨_, rfl⟩
  have hB : Below w.heap.size w W1 := by rw [hW1]; exact (Below.refl _ w).alloc (Nat.le_refl _) _
  have hbox : Has W1 w.heap.size #[.int .i64 8, .int .i64 en, .int .i64 path, .int .i64 j, .int .i64 at_, .int .i64 now, .int .u8 bits, .slice a n cap] 34 := by rw [hW1]; exact Has.new w _ _
  have hP := h.later hB
  obtain ⟨b, vs, hN⟩ := hP.c
  have hby1 := hby.later hB
  obtain ⟨c1, hc1⟩ : ∃ c1, c1 = pE S path := ⟨_, rfl⟩
  obtain ⟨c2, hc2⟩ : ∃ c2, c2 = pE S' path := ⟨_, rfl⟩
  have SE : Hid (∀ w2, Pn base w0 w2 t r S S' → Has w2 w.heap.size #[.int .i64 8, .int .i64 en, .int .i64 path, .int .i64 j, .int .i64 at_, .int .i64 now, .int .u8 bits, .slice a n cap] 34 → Calls Try.prog 21 #[.pointer (some ⟨t, 0, none⟩), .int .i64 path] w2 fun e' w' => e' = .returned (.int .i64 c1) ∧ Pn base w0 w' t r (upS S path) S' ∧ Has w' w.heap.size #[.int .i64 8, .int .i64 en, .int .i64 path, .int .i64 j, .int .i64 at_, .int .i64 now, .int .u8 bits, .slice a n cap] 34) := fun w2 hP2 hbx => by
    obtain ⟨b, vs, hN2⟩ := hP2.c
    refine Calls.mono (up_ hN2 path hI.p) ?_
    rintro e' w' ⟨rfl, hN3, hK⟩
    exact ⟨by rw [hc1], hP2.code ⟨vs, hN3⟩ hK, hK.has hbx rfl⟩
  have RS : Hid (∀ w2, Pn base w0 w2 t r (upS S path) S' → Has w2 w.heap.size #[.int .i64 8, .int .i64 en, .int .i64 path, .int .i64 j, .int .i64 at_, .int .i64 now, .int .u8 bits, .slice a n cap] 34 → Calls Try.prog 31 #[.pointer (some ⟨r, 0, none⟩), .int .i64 path] w2 fun e' w' => e' = .returned (.int .i64 c2) ∧ Pn base w0 w' t r (upS S path) (upS S' path) ∧ Has w' w.heap.size #[.int .i64 8, .int .i64 en, .int .i64 path, .int .i64 j, .int .i64 at_, .int .i64 now, .int .u8 bits, .slice a n cap] 34) := fun w2 hP2 hbx => by
    obtain ⟨rv, ov, rb, vs', X, hR2⟩ := hP2.r
    refine Calls.mono (rUp hR2 path hI'.p) ?_
    rintro e' w' ⟨rfl, hR3, hK3⟩
    exact ⟨by rw [hc2], hP2.ref (show Ros base w2 r (upS S' path) w' from ⟨⟨rv, ov, rb, vs', X, hR3⟩, hK3⟩), (show Ros base w2 r (upS S' path) w' from ⟨⟨rv, ov, rb, vs', X, hR3⟩, hK3⟩).2.has hbx rfl⟩
  have HEQ : Hid (S = S' → c1 = c2) := fun e => by subst e; exact hc1.trans hc2.symm
  have E1 : Hid (∀ (args : Array Value) (w : World), (callFunc 21 args).run Try.prog w = .ok (.enter 21 args) w) := enters_of Try.func21 (by kernel_rfl) rfl
  have E2 : Hid (∀ (args : Array Value) (w : World), (callFunc 31 args).run Try.prog w = .ok (.enter 31 args) w) := enters_of Try.func31 (by kernel_rfl) rfl
  have HP0 : Hid (Pn base w0 W1.drew t r S S') := hP.later (Below.refl _ _).drew
  have HBX : Hid (Has W1.drew w.heap.size #[.int .i64 8, .int .i64 en, .int .i64 path, .int .i64 j, .int .i64 at_, .int .i64 now, .int .u8 bits, .slice a n cap] 34) := hbox
  have HW1 := hidden hW1
  clear h hI hI' hby hby1 hB hbox hP hN hc1 hc2 hW1 hnil
  go_enter Try.func10, Try.ntmps10
  go_upto_region 25 with fail
  rw [← HW1.out]
  refine Ord.wp_region_ex0 (X := Unit) (by kernel_rfl) 231 (fun x => [(some 222, .pointer (some ⟨t, 0, none⟩)), (some 223, .pointer (some ⟨w.heap.size, 2, none⟩)), (some 224, .int .i64 path), (some 225, .int .i64 c1), (some 226, .pointer (some ⟨r, 0, none⟩)), (some 227, .pointer (some ⟨w.heap.size, 2, none⟩)), (some 228, .int .i64 path), (some 229, .int .i64 c2), (some 230, .bool (c1 == c2)), (some 6, .bool (c1 == c2))]) [some 222, some 223, some 224, some 225, some 226, some 227, some 228, some 229, some 230, some 6] rfl (fun listed hsz hr => Ord.all_listedC (rank := [0, 1, 2, 3, 4, 5, 6, 7, 8, 9]) (by kernel_rfl) hsz hr) (by rfl) (fun _ => rfl) (by kernel_rfl) (Rg.StM [3, 7] (fun k _ w' => Has w' w.heap.size #[.int .i64 8, .int .i64 en, .int .i64 path, .int .i64 j, .int .i64 at_, .int .i64 now, .int .u8 bits, .slice a n cap] 34 ∧ (k = 0 → Pn base w0 w' t r S S') ∧ (k = 1 → Pn base w0 w' t r (upS S path) S') ∧ (k = 2 → Pn base w0 w' t r (upS S path) (upS S' path)))) (fun _ _ _ _ hL h => h.ext (n := 10) (by decide) hL) ?_ ?_ () ?_
  case refine_1 =>
    intro x Lq iq oq ac w' ho hi hcl hdep hF hW
    have f1 : ac.tmps.size = 231 := hF.1
    match iq, ho, hi, hdep with
    | 0, ho, hi, hdep =>
      cases ho
      have da0 : ac.eval (.tmp 0) = .pointer (some ⟨t, 0, none⟩) := hF.old 0 rfl
      exact Ord.ex_value x rfl rfl (Rg.mv da0 rfl) rfl (hW.keep (by decide))
    | 1, ho, hi, hdep =>
      cases ho
      have da0 : ac.eval (.tmp 5) = .pointer (some ⟨w.heap.size, 0, none⟩) := hF.old 5 rfl
      exact Ord.ex_value x rfl rfl (Rg.fa da0 rfl (by simp [go_sem])) rfl (hW.keep (by decide))
    | 2, ho, hi, hdep =>
      cases ho
      have da0 : ac.eval (.tmp 223) = .pointer (some ⟨w.heap.size, 2, none⟩) := hF.2.2.2 1 223 _ rfl (hdep ⟨1, .data⟩ (by simp) rfl)
      obtain ⟨kq, hlo, hhi, hA⟩ := hW.range 0 0 (.inl rfl) (.inr ⟨3, rfl, (Rg.no_of (fun h => hcl 3 _ rfl (h) ⟨2, .data⟩ (by simp) rfl) hi)⟩)
      exact Ord.ex_value x rfl rfl (Rg.load da0 rfl (by simp [go_sem, hA.1.cell 2 rfl])) rfl (hW.keep (by decide))
    | 3, ho, hi, hdep =>
      cases ho
      have da0 : ac.eval (.tmp 222) = .pointer (some ⟨t, 0, none⟩) := hF.2.2.2 0 222 _ rfl (hdep ⟨0, .data⟩ (by simp) rfl)
      have da1 : ac.eval (.tmp 224) = .int .i64 path := hF.2.2.2 2 224 _ rfl (hdep ⟨2, .data⟩ (by simp) rfl)
      have hA := hW.at (k := 0) rfl hi (.inl rfl)
      exact Rg.ex_call x rfl rfl (Rg.enter (args := #[.pointer (some ⟨t, 0, none⟩), .int .i64 path]) rfl rfl (by simp [da0, da1]) E1.out) (Calls.mono (SE.out _ (hA.2.1 rfl) hA.1) (by rintro e w2 ⟨rfl, hP, hbx⟩; exact ⟨rfl, hW.next (k := 0) rfl (by decide) hi (.inl rfl) ⟨hbx, fun e => absurd e (by decide), fun _ => hP, fun e => absurd e (by decide)⟩⟩))
    | 4, ho, hi, hdep =>
      cases ho
      have da0 : ac.eval (.tmp 1) = .pointer (some ⟨r, 0, none⟩) := hF.old 1 rfl
      exact Ord.ex_value x rfl rfl (Rg.mv da0 rfl) rfl (hW.keep (by decide))
    | 5, ho, hi, hdep =>
      cases ho
      have da0 : ac.eval (.tmp 5) = .pointer (some ⟨w.heap.size, 0, none⟩) := hF.old 5 rfl
      exact Ord.ex_value x rfl rfl (Rg.fa da0 rfl (by simp [go_sem])) rfl (hW.keep (by decide))
    | 6, ho, hi, hdep =>
      cases ho
      have da0 : ac.eval (.tmp 227) = .pointer (some ⟨w.heap.size, 2, none⟩) := hF.2.2.2 5 227 _ rfl (hdep ⟨5, .data⟩ (by simp) rfl)
      obtain ⟨kq, hlo, hhi, hA⟩ := hW.range 0 1 (.inl rfl) (.inr ⟨7, rfl, (Rg.no_of (fun h => hcl 7 _ rfl (h) ⟨6, .data⟩ (by simp) rfl) hi)⟩)
      exact Ord.ex_value x rfl rfl (Rg.load da0 rfl (by simp [go_sem, hA.1.cell 2 rfl])) rfl (hW.keep (by decide))
    | 7, ho, hi, hdep =>
      cases ho
      have da0 : ac.eval (.tmp 226) = .pointer (some ⟨r, 0, none⟩) := hF.2.2.2 4 226 _ rfl (hdep ⟨4, .data⟩ (by simp) rfl)
      have da1 : ac.eval (.tmp 228) = .int .i64 path := hF.2.2.2 6 228 _ rfl (hdep ⟨6, .data⟩ (by simp) rfl)
      have hA := hW.at (k := 1) rfl hi (.inr ⟨3, rfl, (hdep ⟨3, .chain⟩ (by simp) rfl)⟩)
      exact Rg.ex_call x rfl rfl (Rg.enter (args := #[.pointer (some ⟨r, 0, none⟩), .int .i64 path]) rfl rfl (by simp [da0, da1]) E2.out) (Calls.mono (RS.out _ (hA.2.2.1 rfl) hA.1) (by rintro e w2 ⟨rfl, hP, hbx⟩; exact ⟨rfl, hW.next (k := 1) rfl (by decide) hi (.inr ⟨3, rfl, (hdep ⟨3, .chain⟩ (by simp) rfl)⟩) ⟨hbx, fun e => absurd e (by decide), fun e => absurd e (by decide), fun _ => hP⟩⟩))
    | 8, ho, hi, hdep =>
      cases ho
      have da0 : ac.eval (.tmp 225) = .int .i64 c1 := hF.2.2.2 3 225 _ rfl (hdep ⟨3, .data⟩ (by simp) rfl)
      have da1 : ac.eval (.tmp 229) = .int .i64 c2 := hF.2.2.2 7 229 _ rfl (hdep ⟨7, .data⟩ (by simp) rfl)
      exact Ord.ex_value x rfl rfl (Rg.bin da0 da1 rfl (by simp [go_sem])) rfl (hW.keep (by decide))
    | 9, ho, hi, hdep =>
      cases ho
      have da0 : ac.eval (.tmp 230) = .bool (c1 == c2) := hF.2.2.2 8 230 _ rfl (hdep ⟨8, .data⟩ (by simp) rfl)
      exact Ord.ex_value x rfl rfl (Rg.asg da0 rfl) rfl (hW.keep (by decide))
  case refine_3 => exact Rg.StM.first ⟨HBX.out, fun _ => HP0.out, fun e => absurd e (by decide), fun e => absurd e (by decide)⟩
  case refine_2 =>
    intro x w2 hW
    have HP := hidden (hW.last.2.2.2 rfl)
    clear hW
    simp only [Ord.puts, Ord.prs]
    go_simp
    go_wp2
    go_ret
    exact ⟨c1 == c2, rfl, fun e => beq_iff_eq.2 (HEQ.out e), HP.out⟩
end
end Go.Proofs.Ytmogacccffkkbaa.Nt
