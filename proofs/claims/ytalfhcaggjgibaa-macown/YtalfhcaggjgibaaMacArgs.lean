/-
  What came in: a key, a row of bytes, parts.
  Conditions: as at each lemma.
-/
import Derived.Test.YtalfhcaggjgibaaMacH
import Derived.Deep.Matrix
import Derived.Laws.AppendOwnNone
namespace Go.Proofs.Ytalfhcaggjgibaa.Mac
open Go.ChangeShapes Go.WideShapes Go.ChangeAt Go.RowKit
set_option linter.unusedVariables false

/-- parts that can be read: of each its address, its length, its capacity, its bytes -/
def Parts (w : World) (pa : Option Addr) (n : Nat) (ps : List (Option Addr × Nat × Nat × List Int)) : Prop :=
  ps.length = n ∧ n ≤ 281474976710656 ∧ (∀ p ∈ ps, Row w p.1 p.2.1 p.2.2.2) ∧
    (n = 0 ∨ ∃ b off, pa = some ⟨b, off, none⟩ ∧ ∀ j p, ps[j]? = some p → w.cell? ⟨b, off + j, none⟩ = some (.slice p.1 p.2.1 p.2.2.1))
/-- all their bytes -/
def all (ps : List (Option Addr × Nat × Nat × List Int)) : List Int := (ps.map fun p => p.2.2.2).flatten

theorem all_snoc (ps : List (Option Addr × Nat × Nat × List Int)) (k : Nat) (p : Option Addr × Nat × Nat × List Int) (h : ps[k]? = some p) : all (ps.take (k + 1)) = all (ps.take k) ++ p.2.2.2 := by
  rw [List.take_add_one, h]
  unfold all
  simp

theorem Parts.later {w w' : World} {pa : Option Addr} {n : Nat} {ps : List (Option Addr × Nat × Nat × List Int)} (h : Parts w pa n ps) (hb : Below w.heap.size w w') : Parts w' pa n ps := by
  obtain ⟨h1, h2, h3, h4⟩ := h
  refine ⟨h1, h2, fun p hp => (h3 p hp).later hb, h4.imp id ?_⟩
  rintro ⟨b, off, rfl, hc⟩
  exact ⟨b, off, rfl, fun j p hj => (hb.cell (cell_lt (hc j p hj))).trans (hc j p hj)⟩

theorem none_of (w : World) (pa : Option Addr) : Parts w pa 0 [] := ⟨rfl, by decide, (fun p hp => by cases hp), .inl rfl⟩
/-- a slice of bytes that came in -/
theorem row_of {H : Type} {enc : TypeId × Value → H} {W : World} {base : Nat} {held : Bool} {fuel : Nat} {a : Option Addr} {len cap : Nat} {x : DataW H × List MemPlace}
    (h : DataW.trod enc Try.prog W base (fun _ => true) held fuel 24 (Value.slice a len cap).cells.toList = some x)
    (hsz : ∀ elems spare, x.1 = .slice elems spare → elems.length + spare.length ≤ 140737488351232) : ∃ zs, Row W a len zs ∧ len ≤ cap ∧ cap ≤ 140737488351232 ∧ (a = none → len = 0 ∧ cap = 0) := by
  rcases open_ints Try.underlying24 Try.underlying5 (by kernel_rfl) h with ⟨hcs, _⟩ | ⟨y, l, c, zs, hcs, _, hl, hm, hz, rfl, hcell, hwz⟩
  · simp [Value.cells] at hcs
    obtain ⟨rfl, rfl, rfl⟩ := hcs
    exact ⟨[], ⟨rfl, (fun n hn => by cases hn), by decide, .inl rfl⟩, by decide, by decide, fun _ => ⟨rfl, rfl⟩⟩
  · simp [Value.cells] at hcs
    obtain ⟨rfl, rfl, rfl⟩ := hcs
    simp only [if_pos] at hz
    have hc : cap ≤ 140737488351232 := by
      have := hsz _ _ rfl
      simp only [lits, List.length_map, List.length_take, List.length_drop] at this
      omega
    have hb : Bytes (zs.take len) := fun n hn => by
      have := hwz n (List.mem_of_mem_take hn)
      simp [Lit.wf, IntKind.min, IntKind.max, IntKind.signed, IntKind.bits] at this
      omega
    refine ⟨zs.take len, ⟨by rw [List.length_take]; omega, hb, by omega, ?_⟩, hl, hc, (fun h => by cases h)⟩
    rcases Nat.eq_zero_or_pos len with h0 | hpos
    · exact .inl h0
    · obtain ⟨b, off, rfl, hc'⟩ := ints_at hcell (by omega)
      refine .inr ⟨b, off, rfl, fun j hj => ?_⟩
      rw [hc' j (by omega), List.getD_eq_getElem?_getD, List.getD_eq_getElem?_getD, List.getElem?_take, if_pos hj]

theorem u8_bounds {n : Int} (h : (Lit.int .u8 n).wf = true) : 0 ≤ n ∧ n < 256 := by
  simp [Lit.wf, IntKind.min, IntKind.max, IntKind.signed, IntKind.bits] at h
  omega

theorem bulk_one {H : Type} (d : DataW H) : 1 ≤ Rows.uptoBulk d := by
  cases d with
  | lit l => cases l <;> simp [Rows.uptoBulk]
  | _ => simp [Rows.uptoBulk]

theorem bulk_len {H : Type} (l : List (DataW H)) : l.length ≤ Rows.uptoBulkAll l := by
  induction l with
  | nil => simp [Rows.uptoBulkAll]
  | cons x r ih => have := bulk_one x; simp only [Rows.uptoBulkAll, List.length_cons]; omega

theorem bulk_row {H : Type} (A : Option Addr) (L : Nat) (zs : List Int) (hA : A = none → L = 0) (hl : L ≤ zs.length) : L ≤ Rows.uptoBulk (Deep.intRow (H := H) .u8 A L zs) := by
  cases A with
  | none => rw [hA rfl]; exact Nat.zero_le _
  | some a =>
    have h := bulk_len (H := H) (lits .u8 (zs.take L))
    simp only [lits, List.length_map, List.length_take] at h
    simp only [Deep.intRow, Rows.uptoBulk, lits]
    omega

/-- the part at a place -/
def part (A : Nat → Option Addr) (L C : Nat → Nat) (Z : Nat → List Int) (r : Nat) : Option Addr × Nat × Nat × List Int := (A r, L r, C r, (Z r).take (L r))

theorem bulk_parts {H : Type} (A : Nat → Option Addr) (L C : Nat → Nat) (Z : Nat → List Int) (l : List Nat) (h : ∀ r ∈ l, (A r = none → L r = 0) ∧ L r ≤ (Z r).length) :
    (all (l.map (part A L C Z))).length ≤ Rows.uptoBulkAll (l.map fun r => Deep.intRow (H := H) .u8 (A r) (L r) (Z r)) := by
  induction l with
  | nil => simp [all]
  | cons r l ih =>
    have h1 := ih (fun x hx => h x (by simp [hx]))
    obtain ⟨h2, h3⟩ := h r (by simp)
    have h4 := bulk_row (H := H) (A r) (L r) (Z r) h2 h3
    simp only [all, List.map_cons, List.flatten_cons, List.length_append, part, List.length_take, Rows.uptoBulkAll] at h1 ⊢
    omega

theorem bulk_each {H : Type} (l : List Nat) (f : Nat → DataW H) (r : Nat) (h : r ∈ l) : Rows.uptoBulk (f r) ≤ Rows.uptoBulkAll (l.map f) := by
  induction l with
  | nil => cases h
  | cons x l ih =>
    simp only [List.map_cons, Rows.uptoBulkAll]
    cases List.mem_cons.1 h with
    | inl e => subst e; omega
    | inr e => have := ih e; omega

theorem parts_of {H : Type} {enc : TypeId × Value → H} {W : World} {base : Nat} {held : Bool} {fuel : Nat} {a : Option Addr} {n cap : Nat} {x : DataW H × List MemPlace}
    (h : DataW.trod enc Try.prog W base (fun _ => true) held fuel 29 (Value.slice a n cap).cells.toList = some x) (hs : Rows.uptoBulk x.1 ≤ 1048576) :
    ∃ ps, Parts W a n ps ∧ (∀ p ∈ ps, p.1 = none → p.2.1 = 0 ∧ p.2.2.1 = 0) ∧ (all ps).length ≤ 1048576 := by
  rcases Deep.open_int_rows Try.underlying29 Try.underlying24 Try.underlying5 (by kernel_rfl) (by kernel_rfl) h with ⟨hcs, _⟩ | ⟨y, l, c, A, L, C, Z, hcs, _, hl, hm, rfl, hcell⟩
  · simp [Value.cells] at hcs
    obtain ⟨rfl, rfl, rfl⟩ := hcs
    exact ⟨[], none_of _ _, (fun p hp => by cases hp), by simp [all]⟩
  · simp [Value.cells] at hcs
    obtain ⟨rfl, rfl, rfl⟩ := hcs
    simp only [Rows.uptoBulk] at hs
    have hA : ∀ r, r < n → (A r = none → L r = 0) ∧ L r ≤ (Z r).length := fun r hr => by
      obtain ⟨_, h1, _, h3, _, h5, _⟩ := hcell r (by omega)
      exact ⟨fun hn => by have := h5 hn; omega, by omega⟩
    have hb := bulk_parts (H := H) A L C Z (List.range n) (fun r hr => hA r (List.mem_range.1 hr))
    have hn := bulk_len ((List.range n).map fun r => Deep.intRow (H := H) .u8 (A r) (L r) (Z r))
    simp only [List.length_map, List.length_range] at hn
    refine ⟨(List.range n).map (part A L C Z), ⟨by simp, by omega, ?_, ?_⟩, ?_, by omega⟩
    · intro p hp
      obtain ⟨r, hr, rfl⟩ := List.mem_map.1 hp
      have hr := List.mem_range.1 hr
      obtain ⟨h0, h1, h2, h3, h4, h5, h6⟩ := hcell r (by omega)
      have hlen : L r ≤ Rows.uptoBulkAll ((List.range n).map fun r => Deep.intRow (H := H) .u8 (A r) (L r) (Z r)) :=
        Nat.le_trans (bulk_row (H := H) (A r) (L r) (Z r) (hA r hr).1 (hA r hr).2) (bulk_each (List.range n) (fun r => Deep.intRow (H := H) .u8 (A r) (L r) (Z r)) r (by simp [hr]))
      refine ⟨by simp [part]; omega, fun m hm => u8_bounds (h4 m (List.mem_of_mem_take hm)), by simp only [part]; omega, ?_⟩
      simp only [part]
      rcases Nat.eq_zero_or_pos (L r) with hz | hpos
      · exact .inl hz
      · right
        cases ha : A r with
        | none => have := (hA r hr).1 ha; omega
        | some x =>
          obtain ⟨_, hc⟩ := h6 x ha
          obtain ⟨b, off, rfl, hc'⟩ := ints_at (a := x) (zs := Z r) (k := .u8) (fun i hi => hc i (by omega)) (by omega)
          refine ⟨b, off, rfl, fun j hj => ?_⟩
          rw [hc' j (by omega), List.getD_eq_getElem?_getD, List.getD_eq_getElem?_getD, List.getElem?_take, if_pos hj]
    · rcases Nat.eq_zero_or_pos n with hz | hpos
      · exact .inl hz
      · right
        obtain ⟨b, off, spot⟩ := y
        have hspot : spot = none := by simpa [Addr.add] using World.cell?_spot (hcell 0 (by omega)).1
        subst hspot
        refine ⟨b, off, rfl, fun j p hj => ?_⟩
        have hjn : j < n := by
          rcases Nat.lt_or_ge j n with h | h
          · exact h
          · rw [List.getElem?_eq_none (by simpa using h)] at hj; cases hj
        have hcl := (hcell j (by omega)).1
        rw [List.getElem?_map, List.getElem?_range hjn] at hj
        simp only [Option.map_some, Option.some.injEq] at hj
        subst hj
        have hplain : (⟨b, off, none⟩ : Addr).add j = ⟨b, off + j, none⟩ := by unfold Addr.add; split <;> simp_all
        rw [hplain] at hcl
        exact hcl
    · intro p hp hn
      obtain ⟨r, hr, rfl⟩ := List.mem_map.1 hp
      have hr := List.mem_range.1 hr
      have h5 := (hcell r (by omega)).2.2.2.2.2.1 hn
      exact ⟨(hA r hr).1 hn, h5⟩

/-- a row of the call's own can be read -/
theorem row_own {w : World} {base n : Nat} {v : Value} {zs : List Int} (h : w.ownsRow base 5 1 v n (zs.map (Value.int .u8))) (hb : Bytes zs) (hn : n ≤ 281474976710656) :
    ∃ a cap, v = .slice a n cap ∧ Row w a n zs ∧ n ≤ cap ∧ (a = none → n = 0 ∧ cap = 0) ∧ ∀ g off, a = some ⟨g, off, none⟩ → base ≤ g := by
  obtain ⟨hl, h⟩ := h
  simp only [List.length_map, Nat.mul_one] at hl
  rcases h with ⟨rfl, rfl⟩ | ⟨g, cap, cur, rfl, hg, hh, hcap, _, hsz, htake⟩
  · exact ⟨none, 0, rfl, ⟨hl, hb, hn, .inl rfl⟩, Nat.le_refl _, (fun _ => ⟨rfl, rfl⟩), (fun _ _ h => by cases h)⟩
  · refine ⟨_, cap, rfl, ⟨hl, hb, hn, .inr ⟨g, 0, rfl, fun j hj => ?_⟩⟩, hcap, (fun h => by cases h), (fun g' off h => by cases h; exact hg)⟩
    simp only [Nat.mul_one] at htake
    have e := congrArg (fun t => t[j]?) htake
    simp only [List.getElem?_take, if_pos hj, List.getElem?_map, List.getElem?_eq_getElem (show j < zs.length by omega)] at e
    simp only [World.cell?, hh, Nat.zero_add]
    rw [List.getD_eq_getElem?_getD, List.getElem?_eq_getElem (show j < zs.length by omega)]
    simpa using e

theorem all_len (ps : List (Option Addr × Nat × Nat × List Int)) (k : Nat) : (all (ps.take k)).length ≤ (all ps).length := by
  have e : all (ps.take k ++ ps.drop k) = all (ps.take k) ++ all (ps.drop k) := by unfold all; rw [List.map_append, List.flatten_append]
  rw [List.take_append_drop] at e
  rw [e, List.length_append]
  omega
theorem news {w : World} {b off len : Nat} {zs : List Int} (hl : zs.length = len) (hc : ∀ j, j < len → w.cell? ⟨b, off + j, none⟩ = some (.int .u8 (zs.getD j 0))) :
    ∀ j u, (zs.map (Value.int .u8))[j]? = some u → w.cell? ((⟨b, off, none⟩ : Addr).add j) = some u := by
  intro j u hj
  have hplain : (⟨b, off, none⟩ : Addr).add j = ⟨b, off + j, none⟩ := by unfold Addr.add; split <;> simp_all
  have hjl : j < zs.length := by
    rcases Nat.lt_or_ge j zs.length with h | h
    · exact h
    · rw [List.getElem?_eq_none (by simpa using h)] at hj; cases hj
  rw [hplain, hc j (by omega), List.getD_eq_getElem?_getD, List.getElem?_eq_getElem hjl]
  simp [List.getElem?_eq_getElem hjl] at hj
  subst hj
  rfl
theorem one_cell (zs : List Int) : ∀ u ∈ zs.map (Value.int .u8), u.oneCell' = true := by
  intro u hu
  obtain ⟨z, _, rfl⟩ := List.mem_map.1 hu
  rfl

theorem mapM_each {α β : Type} (f : α → Option β) : ∀ (l : List α) (ys : List β), l.mapM f = some ys → ∀ i ∈ l, ∃ y, f i = some y
  | [], _, _ => fun i hi => by cases hi
  | x :: l, ys, h => by
    rw [List.mapM_cons] at h
    simp only [bind, Option.bind_eq_some_iff, pure, Option.some.injEq] at h
    obtain ⟨y, hy, zs, hz, _⟩ := h
    intro i hi
    cases List.mem_cons.1 hi with
    | inl e => subst e; exact ⟨y, hy⟩
    | inr e => exact mapM_each f l zs hz i e
def numOf : Value → Int
  | .int _ n => n
  | _ => 0
/-- a key that came in -/
theorem key_of {H : Type} {enc : TypeId × Value → H} {W : World} {base b0 : Nat} {r : Reach} {sp : Nat → Bool} {held : Bool} {v : Value} {d : DataW H} {ps : List MemPlace}
    (hval : Value.okWide Try.prog W r b0 23 v) (hd : DataW.Trod enc Try.prog W base sp held 23 v d ps) : ∃ kz, v = keyv kz ∧ Key kz := by
  obtain ⟨cs, rfl, hsz, _⟩ : ∃ cs, v = .agg cs ∧ cs.size = Try.prog.cellsOf 23 ∧ Row.okWide Try.prog W r b0 23 cs := by
    simpa [Value.okWide, Try.underlying23] using hval
  have h23 : Try.prog.cellsOf 23 = 16 := by kernel_rfl
  have h5 : Try.prog.cellsOf 5 = 1 := by kernel_rfl
  rw [h23] at hsz
  obtain ⟨fuel, hf⟩ := hd
  cases fuel with
  | zero => simp [DataW.trod] at hf
  | succ m =>
    rw [DataW.trod_step] at hf
    unfold DataW.trodStep at hf
    simp only [Try.underlying23, Value.cells] at hf
    rw [if_pos (by rw [h23]; simpa using hsz)] at hf
    simp only [Option.map_eq_some_iff] at hf
    obtain ⟨ys, hy, _⟩ := hf
    have hall : ∀ i, i < 16 → ∃ n, cs.toList[i]? = some (.int .u8 n) ∧ (Lit.int .u8 n).wf = true := by
      intro i hi
      obtain ⟨y, hyi⟩ := mapM_each _ _ _ hy i (List.mem_range.2 hi)
      obtain ⟨n, e, _, wn⟩ := DataW.trod_int Try.underlying5 hyi
      refine ⟨n, ?_, wn⟩
      rw [h5, Nat.mul_one] at e
      have e2 := congrArg (fun l => l[0]?) e
      simp only [List.getElem?_take, List.getElem?_drop] at e2
      simpa using e2
    have hlen : cs.toList.length = 16 := by simpa using hsz
    refine ⟨cs.toList.map numOf, ?_, ⟨by simpa using hsz, ?_⟩⟩
    · unfold keyv
      congr 1
      apply Array.ext'
      show cs.toList = (cs.toList.map numOf).map (.int .u8)
      apply List.ext_getElem?
      intro i
      rcases Nat.lt_or_ge i 16 with hi | hi
      · obtain ⟨n, e, _⟩ := hall i hi
        rw [List.getElem?_map, List.getElem?_map, e]
        rfl
      · rw [List.getElem?_eq_none (by omega), List.getElem?_eq_none (by simp; omega)]
    · intro n hn
      obtain ⟨u, hu, rfl⟩ := List.mem_map.1 hn
      obtain ⟨i, hi, e⟩ := List.mem_iff_getElem.1 hu
      obtain ⟨n, e2, wn⟩ := hall i (by omega)
      rw [List.getElem?_eq_getElem hi, e] at e2
      cases e2
      exact u8_bounds wn

end Go.Proofs.Ytalfhcaggjgibaa.Mac
