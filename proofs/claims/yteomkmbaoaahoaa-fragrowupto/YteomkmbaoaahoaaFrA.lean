/-
  Bytes, pieces and texts in memory.
  Conditions: as at each lemma.
-/
import Derived.Test.YteomkmbaoaahoaaOw
import Derived.Lib.MinMax
import Derived.Lib.SliceRun
import Derived.Lib.ConvBytes
import Derived.Laws.BytesArg
import Derived.Laws.AppendOwnNone
import Derived.Laws.MakeOwn
import Derived.Laws.OwnMore
import Derived.Deep.OwnRows
import Derived.Deep.Cut
import Derived.Deep.QuietTactic
import Derived.Deep.RegionHeld3
import Derived.BigQuiet
import Derived.BigRegion
import Derived.Laws.ResultCell
import Derived.Carry
namespace Go.Proofs.Yteomkmbaoaahoaa.Fr
open Go.ChangeShapes Go.WideShapes Go.ChangeAt Go.RowKit
open Ba (hidden Has Only cell_lt heap_lt)
open Ow (Own)
set_option linter.unusedVariables false

def Bytes (zs : List Int) : Prop := ∀ n ∈ zs, 0 ≤ n ∧ n < 256
theorem Bytes.nil : Bytes [] := fun n h => by cases h
theorem Bytes.append {xs ys : List Int} (h : Bytes xs) (k : Bytes ys) : Bytes (xs ++ ys) := fun n hn => (List.mem_append.1 hn).elim (h n) (k n)
/-- bytes that can be read -/
def Row (w : World) (a : Option Addr) (len : Nat) (zs : List Int) : Prop :=
  zs.length = len ∧ Bytes zs ∧ len ≤ 140737488355328 ∧ (len = 0 ∨ ∃ b off, a = some ⟨b, off, none⟩ ∧ ∀ j, j < len → w.cell? ⟨b, off + j, none⟩ = some (.int .u8 (zs.getD j 0)))
theorem Row.later {w w' : World} {a : Option Addr} {len : Nat} {zs : List Int} (h : Row w a len zs) (hb : Below w.heap.size w w') : Row w' a len zs := by
  obtain ⟨h1, h2, h3, h4⟩ := h
  refine ⟨h1, h2, h3, h4.imp id ?_⟩
  rintro ⟨b, off, rfl, hc⟩
  exact ⟨b, off, rfl, fun j hj => (hb.cell (cell_lt (hc j hj))).trans (hc j hj)⟩
theorem Row.drewN {w : World} {a : Option Addr} {len : Nat} {zs : List Int} (h : Row w a len zs) (n : Nat) : Row (w.drewN n) a len zs := h
theorem Row.nil (w : World) (a : Option Addr) : Row w a 0 [] := ⟨rfl, Bytes.nil, by decide, .inl rfl⟩
theorem add_at (b off k : Nat) : (⟨b, off, none⟩ : Addr).add k = ⟨b, off + k, none⟩ := by unfold Addr.add; split <;> simp_all
theorem Row.open {w : World} {a : Option Addr} {len : Nat} {zs : List Int} (h : Row w a len zs) (hn : 0 < len) : ∃ b off, a = some ⟨b, off, none⟩ := by
  obtain ⟨b, off, e, _⟩ := h.2.2.2.resolve_left (by omega)
  exact ⟨b, off, e⟩
/-- bytes as cells -/
def cs (zs : List Int) : List Value := zs.map (.int .u8)
theorem cs_append (xs ys : List Int) : cs (xs ++ ys) = cs xs ++ cs ys := List.map_append
theorem cs_len (xs : List Int) : (cs xs).length = xs.length := List.length_map _
theorem cs_one (zs : List Int) : ∀ u ∈ cs zs, u.oneCell' = true := by
  intro u hu
  obtain ⟨z, _, rfl⟩ := List.mem_map.1 hu
  rfl
theorem Row.news {w : World} {ad : Addr} {len : Nat} {zs : List Int} (h : Row w (some ad) len zs) : ∀ j u, (cs zs)[j]? = some u → w.cell? (ad.add j) = some u := by
  intro j u hj
  rcases h.2.2.2 with h0 | ⟨b, off, he, hc⟩
  · rw [List.eq_nil_of_length_eq_zero (h.1.trans h0)] at hj; cases hj
  · cases he
    have hjl : j < zs.length := by
      rcases Nat.lt_or_ge j zs.length with h' | h'
      · exact h'
      · rw [List.getElem?_eq_none (by rw [cs_len]; exact h')] at hj; cases hj
    rw [add_at, hc j (by rw [← h.1]; exact hjl), List.getD_eq_getElem?_getD, List.getElem?_eq_getElem hjl]
    simp [cs, List.getElem?_eq_getElem hjl] at hj
    subst hj
    rfl
/-- part of a row -/
theorem Row.part {w : World} {b off len : Nat} {zs : List Int} (h : Row w (some ⟨b, off, none⟩) len zs) (k m : Nat) (hk : k + m ≤ len) : Row w (some ⟨b, off + k, none⟩) m ((zs.drop k).take m) := by
  obtain ⟨h1, h2, h3, h4⟩ := h
  refine ⟨by rw [List.length_take, List.length_drop]; omega, fun n hn => h2 n (List.mem_of_mem_drop (List.mem_of_mem_take hn)), by omega, ?_⟩
  rcases Nat.eq_zero_or_pos m with h0 | h0
  · exact .inl h0
  · obtain ⟨b', off', e, hc⟩ := h4.resolve_left (by omega)
    cases e
    refine .inr ⟨b, off + k, rfl, fun j hj => ?_⟩
    rw [Nat.add_assoc, hc (k + j) (by omega), List.getD_eq_getElem?_getD, List.getD_eq_getElem?_getD, List.getElem?_take, if_pos hj, List.getElem?_drop]
/-- bytes as a text -/
theorem Row.conv {w : World} {a : Option Addr} {n : Nat} {bs : List Int} (h : Row w a n bs) (cap : Nat) : (convert 22 9 (.slice a n cap)).run Try.prog w = .ok (.string (strOfNums bs)) w := by
  rcases Nat.eq_zero_or_pos n with rfl | hp
  · obtain rfl := List.eq_nil_of_length_eq_zero h.1
    cases a with
    | none => exact run_convert_bytes_nil w 22 5 Try.underlying22 Try.underlying5 0 cap 9 Try.underlying9
    | some x =>
      rw [run_convert_bytes_string w 22 9 5 _ 0 cap Try.underlying22 Try.underlying5 Try.underlying9]
      exact run_bytesToString w x 0 cap [] (run_loadCells_list w x [] (fun j v hj => by cases hj))
  · obtain ⟨b, off, rfl, hc⟩ := h.2.2.2.resolve_left (by omega)
    exact run_convert_bytes_arg w 22 5 Try.underlying22 Try.underlying5 b off n cap bs h.1 hc 9 Try.underlying9
theorem info5 : (Try.prog.info? 5).map (fun i => (i.zero, i.size, i.bytes)) = some (some (.int .u8 0), 1, 1) := by kernel_rfl
theorem infoB : (Try.prog.info? 22).map (fun i => (i.zero, i.size, i.bytes)) = some (some (.slice none 0 0), 1, 24) := by kernel_rfl
theorem infoP : (Try.prog.info? 48).map (fun i => (i.zero, i.size, i.bytes)) = some (some (.agg #[.bool false, .bool false, .slice none 0 0]), 3, 32) := by kernel_rfl

/-- bytes of one's own -/
def Mine (base : Nat) (w : World) (v : Value) (zs : List Int) : Prop := w.ownsRow base 5 1 v zs.length (cs zs) ∧ Bytes zs ∧ zs.length ≤ 140737488355328
theorem ownLater {w w' : World} {base E s n : Nat} {v : Value} {xs : List Value} (h : w.ownsRow base E s v n xs) (hb : Below w.heap.size w w') : w'.ownsRow base E s v n xs :=
  h.kept (row := none) ⟨hb.os, hb.tape, hb.output, hb.size, fun k hk _ => hb.block k hk⟩ (Classical.em (v.ownBlock = none))
theorem Mine.later {base : Nat} {w w' : World} {v : Value} {zs : List Int} (h : Mine base w v zs) (hb : Below w.heap.size w w') : Mine base w' v zs := ⟨ownLater h.1 hb, h.2⟩
theorem Mine.row {base : Nat} {w : World} {v : Value} {zs : List Int} (h : Mine base w v zs) : ∃ a cap, v = .slice a zs.length cap ∧ Row w a zs.length zs ∧ zs.length ≤ cap ∧ (a = none → zs.length = 0 ∧ cap = 0) := by
  obtain ⟨⟨hl, h⟩, hb, hn⟩ := h
  rcases h with ⟨rfl, h0⟩ | ⟨g, cap, cur, rfl, hg, hh, hcap, hcm, hsz, htake⟩
  · exact ⟨none, 0, by rw [h0], ⟨rfl, hb, hn, .inl h0⟩, by omega, (fun _ => ⟨h0, rfl⟩)⟩
  · refine ⟨_, cap, rfl, ⟨rfl, hb, hn, .inr ⟨g, 0, rfl, fun j hj => ?_⟩⟩, hcap, (fun h => by cases h)⟩
    rw [Nat.mul_one] at htake
    have e := congrArg (fun t => t[j]?) htake
    simp only [List.getElem?_take, if_pos hj, cs, List.getElem?_map, List.getElem?_eq_getElem hj] at e
    simp only [World.cell?, hh, Nat.zero_add]
    rw [List.getD_eq_getElem?_getD, List.getElem?_eq_getElem hj]
    simpa using e
theorem own_obj {w : World} {base E s n : Nat} {v : Value} {xs : List Value} (h : w.ownsRow base E s v n xs) : v.ownBlock = none ∨ ∃ g cur, v.ownBlock = some g ∧ w.heap[g]? = some (.cells cur E (0, 0)) ∧ base ≤ g := by
  rcases h.2 with ⟨rfl, _⟩ | ⟨g, cap, cur, rfl, hb, hg, _⟩
  · exact .inl rfl
  · exact .inr ⟨g, cur, rfl, hg, hb⟩
theorem own_diff {w : World} {base base' E E' s s' n n' : Nat} {v v' : Value} {xs xs' : List Value} (h : w.ownsRow base E s v n xs) (h' : w.ownsRow base' E' s' v' n' xs') (hE : E ≠ E') : v.ownBlock = none ∨ v.ownBlock ≠ v'.ownBlock := by
  rcases own_obj h with h0 | ⟨g, cur, e, hg, _⟩
  · exact .inl h0
  · right
    rw [e]
    intro e'
    rcases own_obj h' with h0 | ⟨g', cur', e2, hg', _⟩
    · rw [h0] at e'; cases e'
    · rw [e2] at e'
      cases e'
      rw [hg] at hg'
      cases hg'
      exact hE rfl
theorem own_le {w : World} {base base' E s n : Nat} {v : Value} {xs : List Value} (h : w.ownsRow base E s v n xs) (hb : base' ≤ base) : w.ownsRow base' E s v n xs := by
  refine ⟨h.1, ?_⟩
  rcases h.2 with h0 | ⟨g, cap, cur, rfl, hg, r⟩
  · exact .inl h0
  · exact .inr ⟨g, cap, cur, rfl, Nat.le_trans hb hg, r⟩
theorem Mine.le {base base' : Nat} {w : World} {v : Value} {zs : List Int} (h : Mine base w v zs) (hb : base' ≤ base) : Mine base' w v zs := ⟨own_le h.1 hb, h.2⟩
/-- bytes of one's own stay where another kind of row grows -/
theorem Mine.grown {base base' E s n : Nat} {w w' : World} {v u : Value} {zs : List Int} {xs : List Value} (h : Mine base w v zs) (hu : w.ownsRow base' E s u n xs) (hg : w.grownBy w' u.ownBlock) (hE : E ≠ 5) : Mine base w' v zs :=
  ⟨h.1.kept hg (own_diff h.1 hu (fun e => hE e.symm)), h.2⟩

/-- a piece: Begin, End, its bytes -/
abbrev V := Bool × Bool × List Int
/-- pieces that can be read -/
def Pcs (w : World) (pa : Option Addr) (n : Nat) (vs : List V) : Prop :=
  vs.length = n ∧ n ≤ 4398046511104 ∧ (n = 0 ∨ ∃ b off, pa = some ⟨b, off, none⟩ ∧ ∀ j v, vs[j]? = some v → ∃ a cap, w.cell? ⟨b, off + j * 3, none⟩ = some (.bool v.1) ∧ w.cell? ⟨b, off + j * 3 + 1, none⟩ = some (.bool v.2.1) ∧
    w.cell? ⟨b, off + j * 3 + 2, none⟩ = some (.slice a v.2.2.length cap) ∧ Row w a v.2.2.length v.2.2)
theorem Pcs.later {w w' : World} {pa : Option Addr} {n : Nat} {vs : List V} (h : Pcs w pa n vs) (hb : Below w.heap.size w w') : Pcs w' pa n vs := by
  obtain ⟨h1, h2, h3⟩ := h
  refine ⟨h1, h2, h3.imp id ?_⟩
  rintro ⟨b, off, rfl, hc⟩
  refine ⟨b, off, rfl, fun j v hj => ?_⟩
  obtain ⟨a, cap, c0, c1, c2, hr⟩ := hc j v hj
  exact ⟨a, cap, (hb.cell (cell_lt c0)).trans c0, (hb.cell (cell_lt c1)).trans c1, (hb.cell (cell_lt c2)).trans c2, hr.later hb⟩
theorem Pcs.nil (w : World) (pa : Option Addr) : Pcs w pa 0 [] := ⟨rfl, by decide, .inl rfl⟩
theorem Pcs.get {w : World} {pa : Option Addr} {n k : Nat} {vs : List V} (h : Pcs w pa n vs) (hk : k < n) :
    ∃ b off bg en zs a cap, pa = some ⟨b, off, none⟩ ∧ vs[k]? = some (bg, en, zs) ∧ w.cell? ⟨b, off + k * 3, none⟩ = some (.bool bg) ∧ w.cell? ⟨b, off + k * 3 + 1, none⟩ = some (.bool en) ∧ w.cell? ⟨b, off + k * 3 + 2, none⟩ = some (.slice a zs.length cap) ∧ Row w a zs.length zs := by
  obtain ⟨h1, h2, h4⟩ := h
  obtain ⟨b, off, rfl, hc⟩ := h4.resolve_left (by omega)
  obtain ⟨⟨bg, en, zs⟩, hpk⟩ : ∃ p, vs[k]? = some p := ⟨_, List.getElem?_eq_getElem (by omega)⟩
  obtain ⟨a, cap, c0, c1, c2, hr⟩ := hc k _ hpk
  exact ⟨b, off, bg, en, zs, a, cap, rfl, hpk, c0, c1, c2, hr⟩
/-- part of a row of pieces -/
theorem Pcs.part {w : World} {b off n : Nat} {vs : List V} (h : Pcs w (some ⟨b, off, none⟩) n vs) (k m : Nat) (hk : k + m ≤ n) : Pcs w (some ⟨b, off + k * 3, none⟩) m ((vs.drop k).take m) := by
  obtain ⟨h1, h2, h4⟩ := h
  refine ⟨by rw [List.length_take, List.length_drop]; omega, by omega, ?_⟩
  rcases Nat.eq_zero_or_pos m with h0 | h0
  · exact .inl h0
  · obtain ⟨b', off', e, hc⟩ := h4.resolve_left (by omega)
    cases e
    refine .inr ⟨b, off + k * 3, rfl, fun j v hj => ?_⟩
    have hjm : j < m := by
      rcases Nat.lt_or_ge j m with h' | h'
      · exact h'
      · rw [List.getElem?_take, if_neg (by omega)] at hj; cases hj
    rw [List.getElem?_take, if_pos hjm, List.getElem?_drop] at hj
    have := hc (k + j) v hj
    rwa [show off + (k + j) * 3 = off + k * 3 + j * 3 by omega] at this
/-- a piece with the value of its slice -/
abbrev P := Bool × Bool × Value × List Int
def pval (p : P) : V := (p.1, p.2.1, p.2.2.2)
def pcs (ps : List P) : List Value := ps.flatMap fun p => [.bool p.1, .bool p.2.1, p.2.2.1]
theorem pcs_len : ∀ ps : List P, (pcs ps).length = ps.length * 3
  | [] => rfl
  | z :: l => by
    have := pcs_len l
    unfold pcs at *
    simp only [List.flatMap_cons, List.length_append, this, List.length_cons, List.length_nil]
    omega
theorem pcs_c : ∀ (ps : List P) (j : Nat) {p : P}, ps[j]? = some p → (pcs ps)[j * 3]? = some (.bool p.1) ∧ (pcs ps)[j * 3 + 1]? = some (.bool p.2.1) ∧ (pcs ps)[j * 3 + 2]? = some p.2.2.1
  | z :: l, 0, p, h => by
    simp at h
    subst h
    exact ⟨rfl, rfl, rfl⟩
  | z :: l, j + 1, p, h => by
    have := pcs_c l j (p := p) (by simpa using h)
    unfold pcs at *
    rw [show (j + 1) * 3 = j * 3 + 1 + 1 + 1 by omega]
    exact this
theorem pcs_append (xs ys : List P) : pcs (xs ++ ys) = pcs xs ++ pcs ys := List.flatMap_append
/-- pieces of one's own -/
def LP (base : Nat) (w : World) (v : Value) (ps : List P) : Prop := w.ownsRow base 48 3 v ps.length (pcs ps) ∧ ∀ p ∈ ps, Mine base w p.2.2.1 p.2.2.2
theorem LP.later {base : Nat} {w w' : World} {v : Value} {ps : List P} (h : LP base w v ps) (hb : Below w.heap.size w w') : LP base w' v ps := ⟨ownLater h.1 hb, fun p hp => (h.2 p hp).later hb⟩
theorem LP.le {base base' : Nat} {w : World} {v : Value} {ps : List P} (h : LP base w v ps) (hb : base' ≤ base) : LP base' w v ps := ⟨own_le h.1 hb, fun p hp => (h.2 p hp).le hb⟩
theorem LP.nil (base : Nat) (w : World) : LP base w (.slice none 0 0) [] := ⟨World.ownsRow_nil _ _ _ _, fun p hp => by cases hp⟩
theorem LP.one {base : Nat} {w : World} {v : Value} {ps : List P} (h : LP base w v ps) : ∀ u ∈ pcs ps, u.oneCell' = true := by
  intro u hu
  obtain ⟨p, hp, hz⟩ := List.mem_flatMap.1 hu
  obtain ⟨a, cap, e, _⟩ := (h.2 p hp).row
  simp only [List.mem_cons, List.not_mem_nil, or_false] at hz
  rcases hz with rfl | rfl | rfl
  · rfl
  · rfl
  · rw [e]; rfl
theorem LP.row {base : Nat} {w : World} {v : Value} {ps : List P} (h : LP base w v ps) (hn : ps.length ≤ 4398046511104) : ∃ a cap, v = .slice a ps.length cap ∧ Pcs w a ps.length (ps.map pval) ∧ ps.length ≤ cap := by
  obtain ⟨h1, h2⟩ := h
  have hcell : ∀ g cap, v = .slice (some ⟨g, 0, none⟩) ps.length cap → ∀ j u, (pcs ps)[j]? = some u → w.cell? ⟨g, 0 + j, none⟩ = some u := fun g cap e j u hj => by
    have := h1.cells (g := g) (by rw [e]; rfl) j u hj
    rwa [add_at] at this
  rcases h1.2 with ⟨rfl, h0⟩ | ⟨g, cap, cur, rfl, hg, hh, hcap, hcm, hsz, htake⟩
  · exact ⟨none, 0, by rw [h0], ⟨by simp, hn, .inl h0⟩, by omega⟩
  · refine ⟨_, cap, rfl, ⟨by simp, hn, .inr ⟨g, 0, rfl, fun j v hj => ?_⟩⟩, hcap⟩
    rw [List.getElem?_map] at hj
    cases hp : ps[j]? with
    | none => rw [hp] at hj; cases hj
    | some p =>
      rw [hp] at hj
      simp only [Option.map_some, Option.some.injEq] at hj
      subst hj
      obtain ⟨c0, c1, c2⟩ := pcs_c ps j hp
      obtain ⟨a, cap', e, hr, _⟩ := (h2 p (List.mem_of_getElem? hp)).row
      refine ⟨a, cap', hcell _ _ rfl _ _ c0, ?_, ?_, hr⟩
      · rw [Nat.add_assoc]; exact hcell _ _ rfl _ _ c1
      · rw [Nat.add_assoc]; exact (hcell _ _ rfl _ _ c2).trans (congrArg some e)

/-- texts that can be read -/
def Txs (w : World) (ta : Option Addr) (n : Nat) (ts : List (List Int)) : Prop :=
  ts.length = n ∧ n ≤ 4398046511104 ∧ (n = 0 ∨ ∃ b off, ta = some ⟨b, off, none⟩ ∧ ∀ j zs, ts[j]? = some zs → ∃ a cap, w.cell? ⟨b, off + j, none⟩ = some (.slice a zs.length cap) ∧ Row w a zs.length zs)
theorem Txs.later {w w' : World} {pa : Option Addr} {n : Nat} {vs : List (List Int)} (h : Txs w pa n vs) (hb : Below w.heap.size w w') : Txs w' pa n vs := by
  obtain ⟨h1, h2, h3⟩ := h
  refine ⟨h1, h2, h3.imp id ?_⟩
  rintro ⟨b, off, rfl, hc⟩
  refine ⟨b, off, rfl, fun j v hj => ?_⟩
  obtain ⟨a, cap, c0, hr⟩ := hc j v hj
  exact ⟨a, cap, (hb.cell (cell_lt c0)).trans c0, hr.later hb⟩
theorem Txs.nil (w : World) (pa : Option Addr) : Txs w pa 0 [] := ⟨rfl, by decide, .inl rfl⟩
theorem Txs.get {w : World} {pa : Option Addr} {n k : Nat} {vs : List (List Int)} (h : Txs w pa n vs) (hk : k < n) :
    ∃ b off zs a cap, pa = some ⟨b, off, none⟩ ∧ vs[k]? = some zs ∧ w.cell? ⟨b, off + k, none⟩ = some (.slice a zs.length cap) ∧ Row w a zs.length zs := by
  obtain ⟨h1, h2, h4⟩ := h
  obtain ⟨b, off, rfl, hc⟩ := h4.resolve_left (by omega)
  obtain ⟨zs, hpk⟩ : ∃ p, vs[k]? = some p := ⟨_, List.getElem?_eq_getElem (by omega)⟩
  obtain ⟨a, cap, c0, hr⟩ := hc k _ hpk
  exact ⟨b, off, zs, a, cap, rfl, hpk, c0, hr⟩
/-- a text with the value of its slice -/
abbrev T := Value × List Int
def tcs (ts : List T) : List Value := ts.map (·.1)
/-- texts of one's own -/
def LT (base : Nat) (w : World) (v : Value) (ts : List T) : Prop := w.ownsRow base 22 1 v ts.length (tcs ts) ∧ ∀ t ∈ ts, Mine base w t.1 t.2
theorem LT.later {base : Nat} {w w' : World} {v : Value} {ps : List T} (h : LT base w v ps) (hb : Below w.heap.size w w') : LT base w' v ps := ⟨ownLater h.1 hb, fun p hp => (h.2 p hp).later hb⟩
theorem LT.le {base base' : Nat} {w : World} {v : Value} {ps : List T} (h : LT base w v ps) (hb : base' ≤ base) : LT base' w v ps := ⟨own_le h.1 hb, fun p hp => (h.2 p hp).le hb⟩
theorem LT.nil (base : Nat) (w : World) : LT base w (.slice none 0 0) [] := ⟨World.ownsRow_nil _ _ _ _, fun p hp => by cases hp⟩
theorem LT.txs {base : Nat} {w : World} {v : Value} {ts : List T} (h : LT base w v ts) (hn : ts.length ≤ 4398046511104) : ∃ a cap, v = .slice a ts.length cap ∧ Txs w a ts.length (ts.map (·.2)) := by
  obtain ⟨h1, h2⟩ := h
  have hcell : ∀ g cap, v = .slice (some ⟨g, 0, none⟩) ts.length cap → ∀ j u, (tcs ts)[j]? = some u → w.cell? ⟨g, 0 + j, none⟩ = some u := fun g cap e j u hj => by
    have := h1.cells (g := g) (by rw [e]; rfl) j u hj
    rwa [add_at] at this
  rcases h1.2 with ⟨rfl, h0⟩ | ⟨g, cap, cur, rfl, hg, hh, hcap, hcm, hsz, htake⟩
  · exact ⟨none, 0, by rw [h0], ⟨by simp, hn, .inl h0⟩⟩
  · refine ⟨_, cap, rfl, ⟨by simp, hn, .inr ⟨g, 0, rfl, fun j v hj => ?_⟩⟩⟩
    rw [List.getElem?_map] at hj
    cases hp : ts[j]? with
    | none => rw [hp] at hj; cases hj
    | some p =>
      rw [hp] at hj
      simp only [Option.map_some, Option.some.injEq] at hj
      subst hj
      obtain ⟨a, cap', e, hr, _⟩ := (h2 p (List.mem_of_getElem? hp)).row
      refine ⟨a, cap', ?_, hr⟩
      rw [← e]
      exact hcell _ _ rfl _ _ (by unfold tcs; rw [List.getElem?_map, hp]; rfl)
theorem cells_new (w : World) (c : Array Value) (t : TypeId) : ∀ j u, c.toList[j]? = some u → (w.alloc (.cells c t)).cell? ((⟨w.heap.size, 0, none⟩ : Addr).add j) = some u := by
  intro j u hj
  have h : (w.alloc (.cells c t)).heap[w.heap.size]? = some (.cells c t) := heap_alloc_new w _
  rw [add_at, Nat.zero_add]
  simp only [World.cell?, h]
  simpa using hj
/-- an append to pieces of one's own -/
theorem LP.push {base : Nat} {w w1 : World} {v v1 : Value} {ps qs : List P} (h : LP base w v ps) (hq : ∀ p ∈ qs, Mine base w p.2.2.1 p.2.2.2) (ho : w1.ownsRow base 48 3 v1 (ps.length + qs.length) (pcs ps ++ pcs qs)) (hg : w.grownBy w1 v.ownBlock) : LP base w1 v1 (ps ++ qs) := by
  refine ⟨by rw [pcs_append, List.length_append]; exact ho, fun p hp => ?_⟩
  rcases List.mem_append.1 hp with hp | hp
  · exact (h.2 p hp).grown h.1 hg (by decide)
  · exact (hq p hp).grown h.1 hg (by decide)
/-- an append to texts of one's own -/
theorem LT.push {base : Nat} {w w1 : World} {v v1 : Value} {ps : List T} {q : T} (h : LT base w v ps) (hq : Mine base w q.1 q.2) (ho : w1.ownsRow base 22 1 v1 (ps.length + 1) (tcs ps ++ [q.1])) (hg : w.grownBy w1 v.ownBlock) : LT base w1 v1 (ps ++ [q]) := by
  refine ⟨by unfold tcs; rw [List.map_append, List.length_append]; exact ho, fun p hp => ?_⟩
  rcases List.mem_append.1 hp with hp | hp
  · exact (h.2 p hp).grown h.1 hg (by decide)
  · obtain rfl := List.mem_singleton.1 hp
    exact hq.grown h.1 hg (by decide)
/-- a new row without elements -/
theorem make_bytes (n : Nat) (hn : n ≤ 1048576) (w : World) : ∃ w', (Instr.makeSlice 22 (.int .i64 0) (.int .i64 (n : Int))).run Try.prog w = .ok (.slice (some ⟨w.heap.size, 0, none⟩) 0 n) w' ∧ (∀ base, base ≤ w.heap.size → Mine base w' (.slice (some ⟨w.heap.size, 0, none⟩) 0 n) []) ∧ Below w.heap.size w w' ∧ w'.heap.size = w.heap.size + 1 := by
  obtain ⟨i, hi, hz, hs, hb⟩ := info_parts info5
  have h2 : (i.bytes : Int) * (n : Int) ≤ 281474976710656 := by rw [hb]; omega
  have hr := run_make (P := Try.prog) w 22 5 i _ Try.underlying22 hi hz .i64 .i64 0 (n : Int) (Int.le_refl _) (by omega) h2 (by omega)
  simp only [Int.toNat_natCast, Int.toNat_zero] at hr
  rw [hs] at hr
  exact ⟨_, hr, fun base hb => ⟨World.ownsRow_made w _ n hb (by unfold maxLen; omega) (size_madeCells _ _), Bytes.nil, by simp⟩, (Below.refl _ w).alloc (Nat.le_refl _) _, by simp [World.alloc, -World.alloc_eq]⟩
theorem make_pieces (n : Nat) (hn : n ≤ 1048576) (w : World) : ∃ w', (Instr.makeSlice 23 (.int .i64 0) (.int .i64 (n : Int))).run Try.prog w = .ok (.slice (some ⟨w.heap.size, 0, none⟩) 0 n) w' ∧ (∀ base, base ≤ w.heap.size → LP base w' (.slice (some ⟨w.heap.size, 0, none⟩) 0 n) []) ∧ Below w.heap.size w w' ∧ w'.heap.size = w.heap.size + 1 := by
  obtain ⟨i, hi, hz, hs, hb⟩ := info_parts infoP
  have h2 : (i.bytes : Int) * (n : Int) ≤ 281474976710656 := by rw [hb]; omega
  have hr := run_make (P := Try.prog) w 23 48 i _ Try.underlying23 hi hz .i64 .i64 0 (n : Int) (Int.le_refl _) (by omega) h2 (by omega)
  simp only [Int.toNat_natCast, Int.toNat_zero] at hr
  rw [hs] at hr
  exact ⟨_, hr, fun base hb => ⟨World.ownsRow_made w _ n hb (by unfold maxLen; omega) (size_madeCells _ _), fun p hp => by cases hp⟩, (Below.refl _ w).alloc (Nat.le_refl _) _, by simp [World.alloc, -World.alloc_eq]⟩
/-- an append to bytes of one's own -/
theorem app_bytes {base : Nat} {w : World} {v : Value} {xs ys : List Int} {ad : Addr} {m c : Nat} (h : Mine base w v xs) (hr : Row w (some ad) m ys) (hm : 0 < m ∨ v.ownBlock ≠ none) (hl : xs.length + ys.length ≤ 140737488355328) (hb : base ≤ w.heap.size) :
    ∃ v' w', (Builtin.append_ #[22, 22] 22 #[v, .slice (some ad) m c]).run Try.prog w = .ok v' w' ∧ Mine base w' v' (xs ++ ys) ∧ w.grownBy w' v.ownBlock := by
  have hml : ys.length = m := hr.1
  obtain ⟨v', w', h1, h2, h3, _⟩ := Ba.append_at (P := Try.prog) (t := 22) (ty := 22) (c := c) Try.underlying22 info5 rfl (by decide) h.1 (m := m) (by rw [cs_len, hml, Nat.mul_one]) hr.news (cs_one ys) hm (by unfold maxLen; omega) (by omega) hb
  refine ⟨v', w', h1, ⟨?_, h.2.1.append hr.2.1, by rw [List.length_append]; omega⟩, h3⟩
  rw [cs_append, List.length_append, hml]
  exact h2
/-- of pieces -/
theorem app_pieces {base : Nat} {w : World} {v : Value} {ps qs : List P} {ad : Addr} {m c : Nat} (h : LP base w v ps) (hq : ∀ p ∈ qs, Mine base w p.2.2.1 p.2.2.2) (hm0 : qs.length = m) (hn : ∀ j u, (pcs qs)[j]? = some u → w.cell? (ad.add j) = some u) (hm : 0 < m ∨ v.ownBlock ≠ none) (hl : ps.length + qs.length ≤ 4194304) (hb : base ≤ w.heap.size) :
    ∃ v' w', (Builtin.append_ #[23, 23] 23 #[v, .slice (some ad) m c]).run Try.prog w = .ok v' w' ∧ LP base w' v' (ps ++ qs) ∧ w.grownBy w' v.ownBlock := by
  have hone : ∀ u ∈ pcs qs, u.oneCell' = true := by
    intro u hu
    obtain ⟨p, hp, hz⟩ := List.mem_flatMap.1 hu
    obtain ⟨a, cap, e, _⟩ := (hq p hp).row
    simp only [List.mem_cons, List.not_mem_nil, or_false] at hz
    rcases hz with rfl | rfl | rfl
    · rfl
    · rfl
    · rw [e]; rfl
  obtain ⟨v', w', h1, h2, h3, _⟩ := Ba.append_at (P := Try.prog) (t := 23) (ty := 23) (c := c) Try.underlying23 infoP rfl (by decide) h.1 (m := m) (by rw [pcs_len, hm0]) hn hone hm (by unfold maxLen; omega) (by omega) hb
  exact ⟨v', w', h1, h.push hq (by rw [hm0]; exact h2) h3, h3⟩
/-- of texts -/
theorem app_text {base : Nat} {w : World} {v : Value} {ps : List T} {q : T} {g o c : Nat} (h : LT base w v ps) (hq : Mine base w q.1 q.2) (hn : w.cell? ⟨g, o, none⟩ = some q.1) (hl : ps.length + 1 ≤ 5864062014805) (hb : base ≤ w.heap.size) :
    ∃ v' w', (Builtin.append_ #[41, 41] 41 #[v, .slice (some ⟨g, o, none⟩) 1 c]).run Try.prog w = .ok v' w' ∧ LT base w' v' (ps ++ [q]) ∧ w.grownBy w' v.ownBlock := by
  have hone : ∀ u ∈ [q.1], u.oneCell' = true := by
    intro u hu
    obtain rfl := List.mem_singleton.1 hu
    obtain ⟨a, cap, e, _⟩ := hq.row
    rw [e]; rfl
  obtain ⟨v', w', h1, h2, h3, _⟩ := Ba.append_at (P := Try.prog) (t := 41) (ty := 41) (c := c) (news := [q.1]) Try.underlying41 infoB rfl (by decide) h.1 (m := 1) rfl (ad := ⟨g, o, none⟩) (fun j u hj => by
    match j, hj with
    | 0, hj => cases hj; rw [add_at]; exact hn) hone (.inl (by decide)) (by unfold maxLen; omega) (by omega) hb
  exact ⟨v', w', h1, h.push hq h2 h3, h3⟩
end Go.Proofs.Yteomkmbaoaahoaa.Fr
