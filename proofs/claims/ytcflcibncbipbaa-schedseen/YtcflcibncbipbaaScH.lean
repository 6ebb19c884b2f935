/-
  The next path, and the path of a chunk that is sent anew.
  Conditions: as at each lemma.
-/
import Derived.Test.YtcflcibncbipbaaScG
namespace Go.Proofs.Ytcflcibncbipbaa.Sc
open Go.ChangeShapes Go.WideShapes Go.ChangeAt Go.RowKit Go.Sort Go.Lib
open Ba (hidden Has Only)
open Ow (Own)
set_option linter.unusedVariables false

def nV (kind last : Int) (vs : List Vw) : Int := (oL kind last vs).headD 0
def nB (kind last : Int) (vs : List Vw) : Bool := !(oL kind last vs).isEmpty
theorem n_nil {kind last : Int} {vs : List Vw} (h : oL kind last vs = []) : nV kind last vs = 0 ∧ nB kind last vs = false := by unfold nV nB; rw [h]; exact ⟨rfl, rfl⟩
theorem n_cons {kind last : Int} {vs : List Vw} {x : Int} {r : List Int} (h : oL kind last vs = x :: r) : nV kind last vs = x ∧ nB kind last vs = true ∧ oE kind vs = 0 := by
  refine ⟨by unfold nV; rw [h]; rfl, by unfold nB; rw [h]; rfl, ?_⟩
  by_cases hc : chk vs = 0
  · by_cases hk : 0 ≤ kind ∧ kind ≤ 2
    · exact (o_ok hc hk last).1
    · rw [(o_out hc hk last).2] at h
      cases h
  · rw [(o_no hc kind last).2] at h
    cases h
def other_ (m : Int) (k : Nat) : Bool := decide ((k : Int) ≠ m)
def agL (m : Int) (vs : List Vw) : List Int := cls (stt vs m.toNat) (other_ m) vs
def agV (m : Int) (vs : List Vw) : Int := bif decide (chk vs = 0) && decide (0 ≤ m ∧ m ≤ (vs.length : Int) - 1) then (srt (lx (cst 2 m vs)) (agL m vs)).headD m else 0
def agE (m : Int) (vs : List Vw) : Int := bif decide (chk vs = 0) then (bif decide (0 ≤ m ∧ m ≤ (vs.length : Int) - 1) then 0 else 5) else chk vs
theorem ag_no {vs : List Vw} (h : ¬ chk vs = 0) (m : Int) : agE m vs = chk vs ∧ agV m vs = 0 := by unfold agE agV; rw [decide_eq_false h]; exact ⟨rfl, rfl⟩
theorem ag_out {vs : List Vw} (h : chk vs = 0) {m : Int} (hm : ¬ (0 ≤ m ∧ m ≤ (vs.length : Int) - 1)) : agE m vs = 5 ∧ agV m vs = 0 := by unfold agE agV; rw [decide_eq_true h, decide_eq_false hm]; exact ⟨rfl, rfl⟩
theorem ag_ok {vs : List Vw} (h : chk vs = 0) {m : Int} (hm : 0 ≤ m ∧ m ≤ (vs.length : Int) - 1) : agE m vs = 0 ∧ agV m vs = (srt (lx (cst 2 m vs)) (agL m vs)).headD m := by unfold agE agV; rw [decide_eq_true h, decide_eq_true hm]; exact ⟨rfl, rfl⟩
section
variable {w : World} {a : Option Addr} {n cap : Nat} {vs : List Vw}
/-- the first of a row of one's own -/
theorem own_first {w : World} {B k cap : Nat} {a : Option Addr} {x : Int} {r : List Int} (h : w.ownsRow B 3 1 (.slice a k cap) k (lc (x :: r))) : ∃ g, a = some ⟨g, 0, none⟩ ∧ 0 < k ∧ w.cell? ⟨g, 0, none⟩ = some (.int .i64 x) := by
  have hk : 0 < k := by have := h.1; rw [lc_len] at this; simp at this; omega
  obtain ⟨g, c, e, _⟩ := Ba.own_some h hk
  cases e
  refine ⟨g, rfl, hk, ?_⟩
  have := h.cellAt 0 (by omega)
  rw [this]
  rfl
set_option maxHeartbeats 1000000 in
theorem next (h : Vs w a n vs) (kind last : Int) : Calls Try.prog 10 #[.int .i64 kind, .int .i64 last, .slice a n cap] w fun e w' => e = .returned (.tuple #[.int .i64 (nV kind last vs), .bool (nB kind last vs), .int .i64 (oE kind vs)]) ∧ Below w.heap.size w w' := by
  have OR := hidden (order (cap := cap) h kind last)
  cases hL : oL kind last vs with
  | nil =>
    rw [(n_nil hL).1, (n_nil hL).2]
    rw [hL] at OR
    generalize oE kind vs = E at *
    clear h hL
    go_enter Try.func10, Try.ntmps10
    go_wp2_with fail
    refine Calls.mono OR.out ?_
    rintro e w1 ⟨a1, k, c1, rfl, hown, hB⟩
    obtain rfl : k = 0 := by have := hown.1; simp [lc] at this; omega
    have BE := hidden hB
    clear hB hown OR
    go_wp2
    go_ret3
    exact ⟨rfl, BE.out⟩
  | cons x r =>
    rw [(n_cons hL).1, (n_cons hL).2.1, (n_cons hL).2.2]
    rw [hL, (n_cons hL).2.2] at OR
    clear h hL
    go_enter Try.func10, Try.ntmps10
    go_wp2_with fail
    refine Calls.mono OR.out ?_
    rintro e w1 ⟨a1, k, c1, rfl, hown, hB⟩
    obtain ⟨g, rfl, hk, c0⟩ := own_first hown
    have hkm : (k : Int) ≤ 9223372036854775807 := by
      have := (Ba.own_some hown hk)
      obtain ⟨_, _, e, _, _, h1, h2⟩ := this
      cases e
      simp only [maxLen] at h2
      omega
    have hk0 : ¬ ((k : Int) = 0) := by omega
    have BE := hidden hB
    clear hB hown OR
    go_wp2
    go_ret3
    exact ⟨rfl, BE.out⟩
theorem again_no (h : Vs w a n vs) (hc : ¬ chk vs = 0) (m : Int) : Calls Try.prog 16 #[.int .i64 m, .slice a n cap] w fun e w' => e = .returned (.tuple #[.int .i64 (agV m vs), .int .i64 (agE m vs)]) ∧ Below w.heap.size w w' := by
  rw [(ag_no hc m).1, (ag_no hc m).2]
  have O := hidden ((Own.refl w).alloc #[.int .i64 m] 3)
  have CK := hidden (check (cap := cap) (h.later O.out.below))
  generalize chk vs = C at *
  clear h
  go_enter Try.func16, Try.ntmps16
  go_wp2_with fail
  refine Calls.mono CK.out ?_
  rintro e w1 ⟨rfl, hB⟩
  have BE := hidden (O.out.later hB).below
  clear hB O CK
  go_wp2
  go_ret2
  exact ⟨rfl, BE.out⟩
theorem again_out (h : Vs w a n vs) (hc : chk vs = 0) {m : Int} (hm : ¬ (0 ≤ m ∧ m ≤ (vs.length : Int) - 1)) : Calls Try.prog 16 #[.int .i64 m, .slice a n cap] w fun e w' => e = .returned (.tuple #[.int .i64 (agV m vs), .int .i64 (agE m vs)]) ∧ Below w.heap.size w w' := by
  rw [(ag_out hc hm).1, (ag_out hc hm).2]
  have hl := h.len
  have hn := h.2.2.1
  have O := hidden ((Own.refl w).alloc #[.int .i64 m] 3)
  have CK := hidden (check (cap := cap) (h.later O.out.below))
  rw [hl] at hm
  have WI := hidden (within_f hm)
  have hw : IntKind.i64.wrap ((n : Int) - 1) = (n : Int) - 1 := by rw [IntKind.wrap_i64]; omega
  rw [hc] at CK
  clear h hm hl
  go_enter Try.func16, Try.ntmps16
  go_wp2_with fail
  refine Calls.mono CK.out ?_
  rintro e w1 ⟨rfl, hB⟩
  have O1 := hidden (O.out.later hB)
  have mc := O1.out.cell (.head _) 0 rfl
  clear hB O CK
  go_wp2_with fail
  refine Calls.mono (WI.out _) ?_
  rintro e w1 ⟨rfl, rfl⟩
  go_wp2
  go_ret2
  exact ⟨rfl, O1.out.below⟩
set_option maxHeartbeats 1000000 in
theorem again_ok (h : Vs w a n vs) (hc : chk vs = 0) {m : Int} (hm : 0 ≤ m ∧ m ≤ (vs.length : Int) - 1) : Calls Try.prog 16 #[.int .i64 m, .slice a n cap] w fun e w' => e = .returned (.tuple #[.int .i64 (agV m vs), .int .i64 (agE m vs)]) ∧ Below w.heap.size w w' := by
  rw [(ag_ok hc hm).1, (ag_ok hc hm).2]
  obtain ⟨h8, hv⟩ := chk_0 hc
  have hl := h.len
  have hn := h.2.2.1
  have O := hidden ((Own.refl w).alloc #[.int .i64 m] 3)
  have CK := hidden (check (cap := cap) (h.later O.out.below))
  have hst := (ok_at hv (k := m.toNat) (by omega)).1
  rw [hl] at hm
  have WI := hidden (within_t hm)
  have hw : IntKind.i64.wrap ((n : Int) - 1) = (n : Int) - 1 := by rw [IntKind.wrap_i64]; omega
  rw [hc] at CK
  obtain ⟨b, off, rfl, hb⟩ := Vs.open h (by omega)
  have H := hidden h
  have H8 := hidden h8
  have HV := hidden hv
  have HL := hidden hl
  have HM := hidden hm
  have HS := hidden hst
  clear h h8 hv hl hst hc
  go_enter Try.func16, Try.ntmps16
  go_wp2_with fail
  refine Calls.mono CK.out ?_
  rintro e w1 ⟨rfl, hB⟩
  have O1 := hidden (O.out.later hB)
  have mc := O1.out.cell (.head _) 0 rfl
  clear hB O CK
  go_wp2_with fail
  refine Calls.mono (WI.out _) ?_
  rintro e w1 ⟨rfl, rfl⟩
  obtain ⟨c0, c1, c2, c3⟩ := Vs.get (H.out.later O1.out.below) (q := m.toNat) (by omega)
  have hbl := Nat.lt_of_lt_of_le hb O1.out.below.size
  clear WI c1 c2 c3
  go_wp2_with fail
  refine Calls.mono (class_ (qf := 30) (cb := #[.pointer (some ⟨w.heap.size, 0, none⟩)]) (q := other_ m) (H.out.later O1.out.below) (by have := H8.out; have := HL.out; omega) (fun W hW x x0 _ => by
    have := other (((O1.out.has (.head _)).later hW).cell 0 rfl) x
    refine this.mono fun e w' he => ⟨?_, he.2⟩
    rw [he.1]
    show _ = Ending.returned (Value.bool (other_ m x.toNat))
    unfold other_
    rw [Int.toNat_of_nonneg x0]) entersO HS.out) ?_
  rintro e w2 ⟨v, k, rfl, hown, hB⟩
  have hown : w2.ownsRow w1.heap.size 3 1 v k (lc (agL m vs)) := hown
  obtain ⟨c1, c2, c3⟩ := cls_wf (w := stt vs m.toNat) (q := other_ m) (vs := vs)
  have c1 : (agL m vs).Pairwise (· < ·) := c1
  have c2 : ∀ x ∈ agL m vs, 0 ≤ x ∧ x < vs.length := c2
  have c3 : (agL m vs).length ≤ vs.length := c3
  have O2 := hidden (O1.out.later hB)
  clear hB c0 mc
  have mc := O2.out.cell (.head _) 0 rfl
  obtain ⟨av, cv, rfl⟩ := Ba.own_len hown
  have hlk : (agL m vs).length = k := by have := hown.1; rw [lc_len] at this; omega
  cases hL : agL m vs with
  | nil =>
    obtain rfl : k = 0 := by rw [hL] at hlk; exact hlk.symm
    have HE : Hid ((srt (lx (cst 2 m vs)) (agL m vs)).headD m = m) := by
      show _ = _
      rw [hL]
      rfl
    clear hown hlk c1 c2 c3
    go_wp2
    go_ret2
    exact ⟨by rw [HE.out]; rfl, O2.out.below⟩
  | cons x0 r0 =>
    have hk : 0 < k := by rw [hL] at hlk; simp at hlk; omega
    have hk0 : ¬ ((k : Int) = 0) := by omega
    have HX : Hid (agL m vs = x0 :: r0) := hL
    clear hL
    have FN : Hid (∀ g ∈ (Value.slice av k cv).ownBlock.toList, w1.heap.size ≤ g ∧ g < w2.heap.size) := fun g hg => own_base hown g (by simpa using hg)
    have NW : Hid (New w (Value.slice av k cv).ownBlock.toList) := fun g hg => Nat.le_trans O1.out.below.size (FN.out g hg).1
    have R2 := hidden hown
    have CW := hidden (And.intro c1 (And.intro c2 hlk))
    clear hown c1 c2 c3 hlk
    go_wp2_with fail
    refine Calls.mono (cost_ (F := (Value.slice av k cv).ownBlock.toList) H.out O2.out.below NW.out (fun g hg => (FN.out g hg).2) (by have := H8.out; have := HL.out; omega) HV.out 2 m) ?_
    rintro e w4 ⟨f, cb, rfl, eg, G4, hB4⟩
    have RK := hidden (ranked (co := cst 2 m vs) (row_below R2.out hB4) (by have := CW.out.2.2; have h3 := (cls_wf (w := stt vs m.toNat) (q := other_ m) (vs := vs)).2.2; have h4 : (agL m vs).length ≤ vs.length := h3; have := H8.out; omega) (by have := H8.out; have := HL.out; omega) (fun x hx => by have := CW.out.2.1 x hx; have := HL.out; omega) CW.out.1 G4 eg)
    have B4 := hidden hB4
    clear G4 eg hB4 mc
    go_wp2_with fail
    refine Calls.mono RK.out ?_
    rintro e w5 ⟨rfl, hown5, ho5⟩
    have B5 := hidden ((O2.out.below.trans (B4.out.mono O2.out.below.size)).trans (ho5.below (Nat.le_trans O2.out.below.size B4.out.size) NW.out))
    cases hS : srt (lx (cst 2 m vs)) (agL m vs) with
    | nil =>
      rw [srt_empty, HX.out] at hS
      cases hS
    | cons y ys =>
      rw [hS] at hown5
      have HE : Hid ((srt (lx (cst 2 m vs)) (agL m vs)).headD m = y) := by
        show _ = _
        rw [hS]
        rfl
      obtain ⟨g, rfl, _, c0⟩ := own_first hown5
      have hkm : (k : Int) ≤ 9223372036854775807 := by
        obtain ⟨_, _, e, _, _, h1, h2⟩ := Ba.own_some hown5 hk
        cases e
        simp only [maxLen] at h2
        omega
      clear hown5 ho5 RK hS R2 FN NW CW HX
      go_wp2
      go_ret2
      exact ⟨by rw [HE.out]; rfl, B5.out⟩
theorem again (h : Vs w a n vs) (m : Int) : Calls Try.prog 16 #[.int .i64 m, .slice a n cap] w fun e w' => e = .returned (.tuple #[.int .i64 (agV m vs), .int .i64 (agE m vs)]) ∧ Below w.heap.size w w' := by
  by_cases hc : chk vs = 0
  · by_cases hm : 0 ≤ m ∧ m ≤ (vs.length : Int) - 1
    · exact again_ok h hc hm
    · exact again_out h hc hm
  · exact again_no h hc m
end
end Go.Proofs.Ytcflcibncbipbaa.Sc
