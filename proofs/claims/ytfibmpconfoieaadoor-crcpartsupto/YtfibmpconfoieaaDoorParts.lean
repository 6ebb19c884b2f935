/-
  A slice of slices of bytes that came in, as parts that can be read; a row of the call's own, as a row that can be read.
  Conditions: as at each lemma.
-/
import Derived.Test.YtfibmpconfoieaaDoorCalls
import Derived.Deep.Matrix
import Derived.Laws.AppendOwnNone
namespace Go.Proofs.YtfibmpconfoieaaDoor.Crc
open Go.ChangeShapes Go.WideShapes Go.ChangeAt Go.RowKit
set_option linter.unusedVariables false

theorem u8_bounds {n : Int} (h : (Lit.int .u8 n).wf = true) : 0 ≤ n ∧ n < 256 := by
  simp [Lit.wf, IntKind.min, IntKind.max, IntKind.signed, IntKind.bits] at h
  omega

theorem bulk_one {H : Type} (d : DataW H) : 1 ≤ Rows.uptoBulk d := by
  cases d with
  | lit l => cases l <;> simp [Rows.uptoBulk]
  | _ => simp [Rows.uptoBulk]

theorem bulk_len {H : Type} (l : List (DataW H)) : l.length ≤ Rows.uptoBulkAll l := by
  induction l with
  | nil => simp [Rows.uptoBulkAll]
  | cons x r ih => have := bulk_one x; simp only [Rows.uptoBulkAll, List.length_cons]; omega

theorem bulk_row {H : Type} (A : Option Addr) (L : Nat) (zs : List Int) (hA : A = none → L = 0) (hl : L ≤ zs.length) : L ≤ Rows.uptoBulk (Deep.intRow (H := H) .u8 A L zs) := by
  cases A with
  | none => rw [hA rfl]; exact Nat.zero_le _
  | some a =>
    have h := bulk_len (H := H) (lits .u8 (zs.take L))
    simp only [lits, List.length_map, List.length_take] at h
    simp only [Deep.intRow, Rows.uptoBulk, lits]
    omega

/-- the part at a place -/
def part (A : Nat → Option Addr) (L C : Nat → Nat) (Z : Nat → List Int) (r : Nat) : Option Addr × Nat × Nat × List Int := (A r, L r, C r, (Z r).take (L r))

theorem bulk_parts {H : Type} (A : Nat → Option Addr) (L C : Nat → Nat) (Z : Nat → List Int) (l : List Nat) (h : ∀ r ∈ l, (A r = none → L r = 0) ∧ L r ≤ (Z r).length) :
    (all (l.map (part A L C Z))).length ≤ Rows.uptoBulkAll (l.map fun r => Deep.intRow (H := H) .u8 (A r) (L r) (Z r)) := by
  induction l with
  | nil => simp [all]
  | cons r l ih =>
    have h1 := ih (fun x hx => h x (by simp [hx]))
    obtain ⟨h2, h3⟩ := h r (by simp)
    have h4 := bulk_row (H := H) (A r) (L r) (Z r) h2 h3
    simp only [all, List.map_cons, List.flatten_cons, List.length_append, part, List.length_take, Rows.uptoBulkAll] at h1 ⊢
    omega

theorem bulk_each {H : Type} (l : List Nat) (f : Nat → DataW H) (r : Nat) (h : r ∈ l) : Rows.uptoBulk (f r) ≤ Rows.uptoBulkAll (l.map f) := by
  induction l with
  | nil => cases h
  | cons x l ih =>
    simp only [List.map_cons, Rows.uptoBulkAll]
    cases List.mem_cons.1 h with
    | inl e => subst e; omega
    | inr e => have := ih e; omega

theorem parts_of {H : Type} {enc : TypeId × Value → H} {W : World} {base : Nat} {held : Bool} {fuel : Nat} {a : Option Addr} {n cap : Nat} {x : DataW H × List MemPlace}
    (h : DataW.trod enc Tryd.prog W base (fun _ => true) held fuel 30 (Value.slice a n cap).cells.toList = some x) (hs : Rows.uptoBulk x.1 ≤ 1048576) :
    ∃ ps, Parts W a n ps ∧ (∀ p ∈ ps, p.1 = none → p.2.1 = 0 ∧ p.2.2.1 = 0) ∧ (all ps).length ≤ 1048576 := by
  rcases Deep.open_int_rows Tryd.underlying30 Tryd.underlying22 Tryd.underlying5 (by kernel_rfl) (by kernel_rfl) h with ⟨hcs, _⟩ | ⟨y, l, c, A, L, C, Z, hcs, _, hl, hm, rfl, hcell⟩
  · simp [Value.cells] at hcs
    obtain ⟨rfl, rfl, rfl⟩ := hcs
    exact ⟨[], none_of _ _, (fun p hp => by cases hp), by simp [all]⟩
  · simp [Value.cells] at hcs
    obtain ⟨rfl, rfl, rfl⟩ := hcs
    simp only [Rows.uptoBulk] at hs
    have hA : ∀ r, r < n → (A r = none → L r = 0) ∧ L r ≤ (Z r).length := fun r hr => by
      obtain ⟨_, h1, _, h3, _, h5, _⟩ := hcell r (by omega)
      exact ⟨fun hn => by have := h5 hn; omega, by omega⟩
    have hb := bulk_parts (H := H) A L C Z (List.range n) (fun r hr => hA r (List.mem_range.1 hr))
    have hn := bulk_len ((List.range n).map fun r => Deep.intRow (H := H) .u8 (A r) (L r) (Z r))
    simp only [List.length_map, List.length_range] at hn
    refine ⟨(List.range n).map (part A L C Z), ⟨by simp, by omega, ?_, ?_⟩, ?_, by omega⟩
    · intro p hp
      obtain ⟨r, hr, rfl⟩ := List.mem_map.1 hp
      have hr := List.mem_range.1 hr
      obtain ⟨h0, h1, h2, h3, h4, h5, h6⟩ := hcell r (by omega)
      have hlen : L r ≤ Rows.uptoBulkAll ((List.range n).map fun r => Deep.intRow (H := H) .u8 (A r) (L r) (Z r)) :=
        Nat.le_trans (bulk_row (H := H) (A r) (L r) (Z r) (hA r hr).1 (hA r hr).2) (bulk_each (List.range n) (fun r => Deep.intRow (H := H) .u8 (A r) (L r) (Z r)) r (by simp [hr]))
      refine ⟨by simp [part]; omega, fun m hm => u8_bounds (h4 m (List.mem_of_mem_take hm)), by simp only [part]; omega, ?_⟩
      simp only [part]
      rcases Nat.eq_zero_or_pos (L r) with hz | hpos
      · exact .inl hz
      · right
        cases ha : A r with
        | none => have := (hA r hr).1 ha; omega
        | some x =>
          obtain ⟨_, hc⟩ := h6 x ha
          obtain ⟨b, off, rfl, hc'⟩ := ints_at (a := x) (zs := Z r) (k := .u8) (fun i hi => hc i (by omega)) (by omega)
          refine ⟨b, off, rfl, fun j hj => ?_⟩
          rw [hc' j (by omega), List.getD_eq_getElem?_getD, List.getD_eq_getElem?_getD, List.getElem?_take, if_pos hj]
    · rcases Nat.eq_zero_or_pos n with hz | hpos
      · exact .inl hz
      · right
        obtain ⟨b, off, spot⟩ := y
        have hspot : spot = none := by simpa [Addr.add] using World.cell?_spot (hcell 0 (by omega)).1
        subst hspot
        refine ⟨b, off, rfl, fun j p hj => ?_⟩
        have hjn : j < n := by
          rcases Nat.lt_or_ge j n with h | h
          · exact h
          · rw [List.getElem?_eq_none (by simpa using h)] at hj; cases hj
        have hcl := (hcell j (by omega)).1
        rw [List.getElem?_map, List.getElem?_range hjn] at hj
        simp only [Option.map_some, Option.some.injEq] at hj
        subst hj
        have hplain : (⟨b, off, none⟩ : Addr).add j = ⟨b, off + j, none⟩ := by unfold Addr.add; split <;> simp_all
        rw [hplain] at hcl
        exact hcl
    · intro p hp hn
      obtain ⟨r, hr, rfl⟩ := List.mem_map.1 hp
      have hr := List.mem_range.1 hr
      have h5 := (hcell r (by omega)).2.2.2.2.2.1 hn
      exact ⟨(hA r hr).1 hn, h5⟩

/-- a row of the call's own can be read -/
theorem row_own {w : World} {base n : Nat} {v : Value} {zs : List Int} (h : w.ownsRow base 5 1 v n (zs.map (Value.int .u8))) (hb : Bytes zs) (hn : n ≤ 281474976710656) :
    ∃ a cap, v = .slice a n cap ∧ Row w a n zs ∧ n ≤ cap ∧ (a = none → n = 0 ∧ cap = 0) ∧ ∀ g off, a = some ⟨g, off, none⟩ → base ≤ g := by
  obtain ⟨hl, h⟩ := h
  simp only [List.length_map, Nat.mul_one] at hl
  rcases h with ⟨rfl, rfl⟩ | ⟨g, cap, cur, rfl, hg, hh, hcap, _, hsz, htake⟩
  · exact ⟨none, 0, rfl, ⟨hl, hb, hn, .inl rfl⟩, Nat.le_refl _, (fun _ => ⟨rfl, rfl⟩), (fun _ _ h => by cases h)⟩
  · refine ⟨_, cap, rfl, ⟨hl, hb, hn, .inr ⟨g, 0, rfl, fun j hj => ?_⟩⟩, hcap, (fun h => by cases h), (fun g' off h => by cases h; exact hg)⟩
    simp only [Nat.mul_one] at htake
    have e := congrArg (fun t => t[j]?) htake
    simp only [List.getElem?_take, if_pos hj, List.getElem?_map, List.getElem?_eq_getElem (show j < zs.length by omega)] at e
    simp only [World.cell?, hh, Nat.zero_add]
    rw [List.getD_eq_getElem?_getD, List.getElem?_eq_getElem (show j < zs.length by omega)]
    simpa using e

theorem info5 : (Tryd.prog.info? 5).map (fun i => (i.zero, i.size, i.bytes)) = some (some (.int .u8 0), 1, 1) := by kernel_rfl

theorem all_len (ps : List (Option Addr × Nat × Nat × List Int)) (k : Nat) : (all (ps.take k)).length ≤ (all ps).length := by
  have e : all (ps.take k ++ ps.drop k) = all (ps.take k) ++ all (ps.drop k) := by unfold all; rw [List.map_append, List.flatten_append]
  rw [List.take_append_drop] at e
  rw [e, List.length_append]
  omega
theorem news {w : World} {b off len : Nat} {zs : List Int} (hl : zs.length = len) (hc : ∀ j, j < len → w.cell? ⟨b, off + j, none⟩ = some (.int .u8 (zs.getD j 0))) :
    ∀ j u, (zs.map (Value.int .u8))[j]? = some u → w.cell? ((⟨b, off, none⟩ : Addr).add j) = some u := by
  intro j u hj
  have hplain : (⟨b, off, none⟩ : Addr).add j = ⟨b, off + j, none⟩ := by unfold Addr.add; split <;> simp_all
  have hjl : j < zs.length := by
    rcases Nat.lt_or_ge j zs.length with h | h
    · exact h
    · rw [List.getElem?_eq_none (by simpa using h)] at hj; cases hj
  rw [hplain, hc j (by omega), List.getD_eq_getElem?_getD, List.getElem?_eq_getElem hjl]
  simp [List.getElem?_eq_getElem hjl] at hj
  subst hj
  rfl
theorem one_cell (zs : List Int) : ∀ u ∈ zs.map (Value.int .u8), u.oneCell' = true := by
  intro u hu
  obtain ⟨z, _, rfl⟩ := List.mem_map.1 hu
  rfl

end Go.Proofs.YtfibmpconfoieaaDoor.Crc
