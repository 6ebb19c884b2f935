/-
  Take and Next of a queue, whatever it holds.
  Conditions: the queue lies in memory, or is nil, or was made by no call.
-/
import Derived.Test.YtfgoamfoddkafaaSqI
namespace Go.Proofs.Ytfgoamfoddkafaa.Sq
open Go.ChangeShapes Go.WideShapes Go.ChangeAt Go.RowKit
open Ba (hidden Has Only cell_lt heap_lt)
set_option linter.unusedVariables false

/-- the next stream and how many bytes are left -/
def nextV (S : St) : Value := match nxt S with
  | none => .tuple #[.int .u16 0, .int .i64 0, .bool false]
  | some i => match S.R i with
    | [] => .tuple #[.int .u16 0, .int .i64 0, .bool false]
    | r :: _ => .tuple #[.int .u16 r.st, .int .i64 (r.d.length : Int), .bool true]
theorem Next_none0 {w : World} {p : Option Addr} {q : Int} (hx : Calls Try.prog 32 #[.pointer p] w fun e w' => e = .returned (.tuple #[.int .i64 q, .bool false]) ∧ Below w.heap.size w w') :
    Calls Try.prog 17 #[.pointer p] w fun e w' => e = .returned (.tuple #[.int .u16 0, .int .i64 0, .bool false]) ∧ Below w.heap.size w w' := by
  have NX := hidden hx
  clear hx
  go_enter Try.func17, Try.ntmps17
  go_wp2_with fail
  refine Calls.mono NX.out ?_
  rintro e W1 ⟨rfl, hB1⟩
  have HB := hidden hB1
  clear hB1
  go_wp2
  refine bodyPost_ret (results_tmp3 rfl _ _ _) rfl ⟨rfl, HB.out⟩
theorem Next_no {w : World} {p : Option Addr} (h : Un w p) : Calls Try.prog 17 #[.pointer p] w fun e w' => e = .returned (.tuple #[.int .u16 0, .int .i64 0, .bool false]) ∧ Below w.heap.size w w' := Next_none0 (next_no h)
theorem NextX {D F : Nat → Prop} {w : World} {t : Nat} {S : St} (h : Cd D w t S F) : Calls Try.prog 17 #[.pointer (some ⟨t, 0, none⟩)] w fun e w' => e = .returned (nextV S) ∧ Below w.heap.size w w' := by
  obtain ⟨hg, b, vs, P, hN, hF⟩ := h
  have nx0 := next hN hg
  cases hx : nxt S with
  | none =>
    have hk : nextV S = .tuple #[.int .u16 0, .int .i64 0, .bool false] := by unfold nextV; rw [hx]
    rw [hk]
    exact Next_none0 (q := 0) (nx0.mono (by
      rintro e w' ⟨rfl, h2⟩
      refine ⟨?_, h2⟩
      unfold nxV
      rw [hx]
      rfl))
  | some i =>
    obtain ⟨hi, hne⟩ := nxt_some hg.n1 hx
    cases hR : S.R i with
    | nil => exact absurd hR hne
    | cons r rs =>
      have hk : nextV S = .tuple #[.int .u16 r.st, .int .i64 (r.d.length : Int), .bool true] := by unfold nextV; rw [hx]; simp only [hR]
      rw [hk]
      clear hk
      have hnv : nxV S = .tuple #[.int .i64 (i : Int), .bool true] := by unfold nxV; rw [hx]; rfl
      rw [hnv] at nx0
      have NX := hidden nx0
      have HN := hidden hN
      have HR := hidden hR
      clear nx0 hN hR hne hx hF hg hnv
      go_enter Try.func17, Try.ntmps17
      go_wp2_with fail
      refine Calls.mono NX.out ?_
      rintro e W1 ⟨rfl, hB1⟩
      have hN1 := HN.out.later hB1
      obtain ⟨cs, hc, hcs⟩ := hN1.ln
      have hpr := hN1.pr i hi
      rw [HR.out] at hpr
      obtain ⟨p, ps, hP, hpr1⟩ : ∃ p ps, P i = p :: ps ∧ p.r = r := by
        cases hPi : P i with
        | nil => rw [hPi] at hpr; cases hpr
        | cons p ps => rw [hPi] at hpr; simp only [List.map_cons, List.cons.injEq] at hpr; exact ⟨p, ps, rfl, hpr.1⟩
      have hrw := hN1.rw_ i hi
      rw [hP] at hrw
      rcases hrw with ⟨_, h0⟩ | ⟨g, off, cap, cur, hv, h1, hh, h2, h3, h4, hcell⟩
      · cases h0
      obtain ⟨r0, hr0⟩ : ∃ r0, r0 = off * 7 := ⟨_, rfl⟩
      have hrow : ∀ j, j < 7 → cur[r0 + j]? = (pc p)[j]? := fun j hj => by
        rw [hr0, List.getElem?_eq_getElem (by rw [pc_len]; exact hj)]
        refine hcell j _ ?_
        show (pc p ++ pcs ps)[j]? = _
        rw [List.getElem?_append_left (by rw [pc_len]; exact hj), List.getElem?_eq_getElem]
      obtain ⟨dg, doff, dcap, hdv, _⟩ := (hN1.by_ i p hi (by rw [hP]; exact List.mem_cons_self ..)).row
      obtain ⟨⟨st, sn, pr, un, d, bg⟩, dv⟩ := p
      simp only at hpr1 hdv
      subst hpr1
      subst hdv
      have a0 : W1.cell? ⟨g, r0, none⟩ = some (.int .u16 st) := hh.cell _ (hrow 0 (by decide))
      have a1 : W1.cell? ⟨g, r0 + 1, none⟩ = some (.int .u16 sn) := hh.cell _ (hrow 1 (by decide))
      have a2 : W1.cell? ⟨g, r0 + 2, none⟩ = some (.int .u32 pr) := hh.cell _ (hrow 2 (by decide))
      have a3 : W1.cell? ⟨g, r0 + 3, none⟩ = some (.bool un) := hh.cell _ (hrow 3 (by decide))
      have a4 : W1.cell? ⟨g, r0 + 4, none⟩ = some (.slice (some ⟨dg, doff, none⟩) d.length dcap) := hh.cell _ (hrow 4 (by decide))
      have a5 : W1.cell? ⟨g, r0 + 5, none⟩ = some (.bool bg) := hh.cell _ (hrow 5 (by decide))
      have a6 : W1.cell? ⟨g, r0 + 6, none⟩ = some (.bool true) := hh.cell _ (hrow 6 (by decide))
      have c0 := hN1.q.cell 0 rfl
      have cv := hc.cell (i * 2) (hcs i hi).1
      rw [hv, ← hr0] at cv
      simp only [List.length_cons] at cv
      obtain ⟨dl, hdl⟩ : ∃ dl, dl = d.length := ⟨_, rfl⟩
      rw [← hdl] at a4
      have HDL := hidden hdl
      clear hdl
      generalize ps.length = m at *
      have HB := hidden hB1
      clear hN1 hc hcs hpr hP hrow hcell hr0 hv h1 h2 h3 h4 hh hB1
      go_upto_region 5 with fail
      go_region
      go_wp2
      refine bodyPost_ret (results_tmp3 rfl _ _ _) rfl ⟨(by have := HDL.out; subst this; rfl), ?_⟩
      exact ((HB.out).alloc HB.out.size _).drew
/-- Take, whatever is asked for -/
def TakX (D F : Nat → Prop) (w : World) (t : Nat) (S : St) (n : Int) (e : Ending) (w' : World) : Prop :=
  (tak S n = none ∧ e = .returned (.tuple #[zPv, .bool false]) ∧ Below w.heap.size w w') ∨
  ∃ i r rs, 1 ≤ n ∧ nxt S = some i ∧ S.R i = r :: rs ∧ tak S n = some (cut r (S.sn i) n, takeS S i r rs n) ∧ TakO D F w t S i r rs n e w'
theorem takX {D F : Nat → Prop} {w : World} {t : Nat} {S : St} (h : Cd D w t S F) (n : Int) : Calls Try.prog 14 #[.pointer (some ⟨t, 0, none⟩), .int .i64 n] w fun e w' => TakX D F w t S n e w' := by
  obtain ⟨hg, b, vs, P, hN, hF⟩ := h
  rcases tak_cases S n with ⟨h1, h2⟩ | ⟨i, r, rs, h1, h2, h3, h4⟩ | ⟨i, h1, h2⟩
  · cases hx : nxt S with
    | none => exact (take_none hN hg hx n).mono fun e w' h => .inl ⟨h1, h.1, h.2⟩
    | some i => exact (take_low hN hg hx (h2.resolve_right (by rw [hx]; simp))).mono fun e w' h => .inl ⟨h1, h.1, h.2⟩
  · exact (take_some hN hg hF h2 h3 h1).mono fun e w' h => .inr ⟨i, r, rs, h1, h2, h3, h4, h⟩
  · exact absurd h2 (nxt_some hg.n1 h1).2
end Go.Proofs.Ytfgoamfoddkafaa.Sq
