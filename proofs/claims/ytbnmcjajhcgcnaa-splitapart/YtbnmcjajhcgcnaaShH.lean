/-
  Shares of a send buffer: rows that begin with zeros; numbers below a share and one packet; one path's number in two rows.
  Conditions: as at each lemma.
-/
import Derived.Test.YtbnmcjajhcgcnaaShG
namespace Go.Proofs.Ytbnmcjajhcgcnaa.Sh
open Go.ChangeShapes Go.WideShapes Go.ChangeAt Go.RowKit
open Ba (hidden Has Only)
open Ow (Own)
set_option linter.unusedVariables false

theorem make_full (n : Nat) (hn : n ≤ 8) (w : World) : ∃ w', (Instr.makeSlice 24 (.int .i64 (n : Int)) (.int .i64 (n : Int))).run Try.prog w = .ok (.slice (some ⟨w.heap.size, 0, none⟩) n n) w' ∧ Nu w' (some ⟨w.heap.size, 0, none⟩) n (List.replicate n 0) ∧ Below w.heap.size w w' := by
  obtain ⟨i, hi, hz, hs, hb⟩ := info_parts infoI
  obtain ⟨w', hr, hown, hg⟩ := run_makeSlice_full (P := Try.prog) w w.heap.size 24 3 i _ 1 Try.underlying24 hi hz hs .i64 .i64 n (by omega) (by rw [hb]; omega) (by unfold maxLen; omega) (Nat.le_refl _)
  have e : (madeCells (Value.int .i64 0).cells (n * 1)).toList = lc (List.replicate n 0) := by
    rw [Nat.mul_one]
    show (madeCells #[.int .i64 0] n).toList = _
    rw [toList_madeCells_one]
    simp [lc]
  rw [e] at hown
  obtain ⟨a, c, ev, hnu⟩ := Nu.own hown (fun x hx => by rw [List.eq_of_mem_replicate hx]; rfl) (by omega)
  cases ev
  exact ⟨w', hr, hnu, ⟨hg.os, hg.tape, hg.output, hg.size, fun k hk => hg.block k hk (by simp)⟩⟩
/-- rows of turns -/
abbrev Tu (w : World) (a : Option Addr) (n : Nat) (zs : List (Int × Int)) : Prop := Ag.Rows (fun q : Int × Int => [.int .i64 q.1, .int .i64 q.2]) (fun q => (Lit.int .i64 q.1).wf = true ∧ (Lit.int .i64 q.2).wf = true) 2 w a n zs
theorem Tu.open {w : World} {a : Option Addr} {n : Nat} {zs : List (Int × Int)} (h : Tu w a n zs) (hn : 0 < n) : ∃ b off, a = some ⟨b, off, none⟩ ∧ b < w.heap.size := by
  rcases h.2.2.2 with h0 | ⟨b, off, e, hb, _⟩
  · omega
  · exact ⟨b, off, e, hb⟩
theorem of_wf {x : Int} (h : (Lit.int .i64 x).wf = true) : -9223372036854775808 ≤ x ∧ x ≤ 9223372036854775807 := by
  simp [Lit.wf, IntKind.min, IntKind.max, IntKind.signed, IntKind.bits] at h
  omega
theorem Tu.get {w : World} {b off n : Nat} {zs : List (Int × Int)} (h : Tu w (some ⟨b, off, none⟩) n zs) {q : Nat} (hq : q < n) : ∃ p z : Int, (-9223372036854775808 ≤ p ∧ p ≤ 9223372036854775807) ∧ w.cell? ⟨b, off + q * 2, none⟩ = some (.int .i64 p) ∧ w.cell? ⟨b, off + q * 2 + 1, none⟩ = some (.int .i64 z) := by
  obtain ⟨h1, h2, _, h4⟩ := h
  have hz : zs[q]? = some zs[q] := List.getElem?_eq_getElem (by omega)
  rcases h4 with h4 | ⟨b', off', e, _, hc⟩
  · omega
  · cases e
    exact ⟨_, _, of_wf (h2 _ (List.mem_of_getElem? hz)).1, hc q _ hz 0 _ rfl, hc q _ hz 1 _ rfl⟩
/-- what is put stays below the share and one packet -/
theorem put_low {B P M p z : Int} {ys : List Int} (h : pE B P M ys p z = 0) (hlo : ∀ y ∈ ys, 0 ≤ y ∧ y < part B P + M) : (pV B P M ys p z).length = ys.length ∧ ∀ y ∈ pV B P M ys p z, 0 ≤ y ∧ y < part B P + M := by
  by_cases hm : mE B P M ys p = 0
  · by_cases hz : 1 ≤ z ∧ z ≤ M
    · cases hv : mV B P M ys p with
      | true =>
        obtain ⟨h1, h2, h3, h4, h5⟩ := m_0 hm
        rw [h5] at hv
        have hlt := of_decide_eq_true hv
        have e : ys[p.toNat]? = some ys[p.toNat] := List.getElem?_eq_getElem (by omega)
        have hg : ys.getD p.toNat 0 = ys[p.toNat] := by rw [List.getD_eq_getElem?_getD, e]; rfl
        have hy := h3 _ (List.mem_of_getElem? e)
        rw [hg] at hlt
        rw [h5.symm] at hv
        rw [(p_ok hm hz hv).2, hg]
        refine ⟨List.length_set, fun y hy' => ?_⟩
        rcases List.mem_or_eq_of_mem_set hy' with hy' | rfl
        · exact hlo y hy'
        · omega
      | false =>
        rw [(p_full hm hz hv).1] at h
        cases h
    · rw [(p_out hm hz).1] at h
      cases h
  · rw [(p_no hm z).1] at h
    exact absurd h hm
/-- one path's number in two rows -/
theorem lv_at {ys : List Int} {p : Nat} (h : p < ys.length) (B P W : Int) : (lv B P W ys)[p]? = some (max 0 (min (part B P) (part W P) - ys.getD p 0)) := by
  have e : ys[p]? = some ys[p] := List.getElem?_eq_getElem h
  rw [lv_get e, List.getD_eq_getElem?_getD, e]
  rfl
theorem getD_set_ne {ys : List Int} {j p : Nat} (h : j ≠ p) (x : Int) : (ys.set j x).getD p 0 = ys.getD p 0 := by
  rw [List.getD_eq_getElem?_getD, List.getD_eq_getElem?_getD, List.getElem?_set_ne h]
theorem set_byt {ys : List Int} (hy : ∀ y ∈ ys, byt y) {j : Nat} {x : Int} (hx : byt x) : ∀ y ∈ ys.set j x, byt y := by
  intro y h
  rcases List.mem_or_eq_of_mem_set h with h | rfl
  · exact hy y h
  · exact hx
end Go.Proofs.Ytbnmcjajhcgcnaa.Sh
